/- The table of what is left in common: impl.commonBehind. -/
import Derived.Test.YtdlpepmdjbmmmaaProg
import Derived.Test.YtdlpepmdjbmmmaaComLib
import Derived.WalkKit
import Derived.BigQuiet
import Derived.Deep.QuietTactic
import Derived.Deep.RegionWith
namespace Go.Proofs.Ytdlpepmdjbmmmaa
open Go.RowKit

theorem infoIn : (Try.prog.info? 3).map (fun i => (i.zero, i.size, i.bytes)) = some (some (.int .i64 0), 1, 8) := by kernel_rfl
theorem infoIs : (Try.prog.info? 62).map (fun i => (i.zero, i.size, i.bytes)) = some (some (.slice none 0 0), 1, 24) := by kernel_rfl
/-- Lines in memory. -/
def LnsAt (w : World) (v : Value) (ls : List ByteArray) : Prop :=
  ∃ (a : Option Addr) (c : Nat), v = .slice a ls.length c ∧ ls.length ≤ c ∧ (0 < ls.length → ∃ b off, a = some ⟨b, off, none⟩ ∧ b < w.heap.size ∧ ∀ k t, ls[k]? = some t → w.cell? ⟨b, off + k, none⟩ = some (.string t))

set_option maxHeartbeats 8000000 in
set_option maxRecDepth 100000 in
theorem iTab_any (va vb : Value) (xs ys : List ByteArray) (w : World) (hn : xs.length ≤ 200) (hm : ys.length ≤ 200) (hA : LnsAt w va xs) (hB : LnsAt w vb ys) :
    Calls Try.prog 44 #[va, vb] w fun e w' => TabAns xs ys 3 62 xs.length ys.length w e w' := by
  obtain ⟨aa, ca, rfl, hca, hxa⟩ := hA
  obtain ⟨ab, cb, rfl, hcb, hxb⟩ := hB
  obtain ⟨n, hnn⟩ : ∃ n, n = xs.length := ⟨_, rfl⟩
  obtain ⟨m, hmm⟩ : ∃ m, m = ys.length := ⟨_, rfl⟩
  rw [← hnn] at hn hca hxa ⊢
  rw [← hmm] at hm hcb hxb ⊢
  have HN := hidOf hnn
  have HM := hidOf hmm
  have HXA := hidOf hxa
  have HXB := hidOf hxb
  clear hnn hmm hxa hxb
  obtain ⟨i0, hi, hz0, hz1, hz2⟩ := info_parts infoIn
  obtain ⟨j0, hj, hy0, hy1, hy2⟩ := info_parts infoIs
  go_enter Try.func44, Try.ntmps44
  go_wp2_with (first | (at_make; refine wpList_make_full _ rfl _ _ 63 rfl w.heap.size 62 j0 (.slice none 0 0) 1 Try.underlying63 hj hy0 hy1 .i64 .i64 _ _ (n + 1) rfl rfl rfl rfl (by rw [hy2]; omega) (by unfold maxLen; omega) (Nat.le_refl _) ?_; intro w1 hown1 hgrow1; rw [made_nils] at hown1; have hb1 : Below w.heap.size w w1 := (Below.refl _ w).grown hgrow1 (Nat.le_refl _) (fun k e => by cases e); have hlt1 : w.heap.size < w1.heap.size := (hown1.lt w.heap.size rfl).2) | (at_make; refine wpList_make_full _ rfl _ _ 62 rfl w1.heap.size 3 i0 (.int .i64 0) 1 Try.underlying62 hi hz0 hz1 .i64 .i64 _ _ (m + 1) rfl rfl rfl rfl (by rw [hz2]; omega) (by unfold maxLen; omega) (Nat.le_refl _) ?_; intro w2 hown2 hgrow2; rw [made_nrow] at hown2; have hlt2 : w1.heap.size < w2.heap.size := (hown2.lt w1.heap.size rfl).2; have hown1k := World.ownsRow.kept hown1 hgrow2 (.inr (by simp [Value.ownBlock])); have cg : w2.cell? ⟨w.heap.size, n, none⟩ = some (.slice none 0 0) := (hown1k.cellAt n (by omega)).trans (by simp); have fg := hown1k.frozenAt n; have hA0 : (0 : Int) ≤ (n : Int) := (by omega); have hA1 : (n : Int) < (n : Int) + 1 := (by omega)))
  have hs2 := hown1k.stored n (slV w1.heap.size m)
  rw [← tabV_start (fun _ => w1.heap.size) n m, tabV_set _ n n m _ (Nat.le_refl _)] at hs2
  have T0 : Tb w (w2.setCell ⟨w.heap.size, n, none⟩ (slV w1.heap.size m)) 3 62 w.heap.size (n + 1) (updN (fun _ => w1.heap.size) n w1.heap.size) (fun _ _ => 0) n n m := by
    refine ⟨?_, hs2.1, fun j h1 h2 => ?_, fun j h1 h2 => ?_, fun i j h1 h2 h3 h4 h5 => by omega⟩
    · exact (hb1.grown hgrow2 hb1.size (fun k e => by cases e)).grown hs2.2 (Nat.le_trans hb1.size hgrow2.size) (fun k e => by cases e; exact Nat.le_refl _)
    · have : updN (fun _ => w1.heap.size) n w1.heap.size j = w1.heap.size := by unfold updN; split <;> rfl
      rw [this]
      exact World.ownsRow.kept (ownsRow_base hown2 (Nat.le_of_lt hlt1)) hs2.2 (.inr (fun e => by simp [Value.ownBlock] at e; omega))
    · have : updN (fun _ => w1.heap.size) n w1.heap.size j = w1.heap.size := by unfold updN; split <;> rfl
      rw [this]
      omega
  have R0 : Right xs ys (fun _ _ => 0) n m n 0 := ⟨fun j q h1 h2 h3 => by omega, fun q h1 h2 => (ct_endA (by rw [← HN.out]; exact Nat.le_refl _)).symm⟩
  have HR0 := hidOf R0
  obtain ⟨W2, hW2⟩ : ∃ W2, W2 = w2.setCell ⟨w.heap.size, n, none⟩ (slV w1.heap.size m) := ⟨_, rfl⟩
  rw [← hW2] at T0
  rw [← hW2]
  have HT0 := hidOf T0
  clear hs2 hown1 hown1k hown2 hgrow1 hgrow2 cg fg hlt1 hlt2 hb1 T0 R0 hW2
  obtain ⟨G, hG⟩ : ∃ G, G = w.heap.size := ⟨_, rfl⟩
  rw [← hG] at HT0
  rw [← hG]
  have HG := hidOf hG
  clear hG
  go_loopw [6] (fun i wr => ∃ (q : Nat) (gs : Nat → Nat) (F : Nat → Nat → Int), q ≤ n ∧ i = .int .i64 ((q : Int) - 1) ∧ Hid (Tb w wr 3 62 G (n + 1) gs F q n m) ∧ Hid (Right xs ys F n m q 0)) (fun i _ => (intOf i + 1).toNat)
  case atStart => exact ⟨n, _, _, Nat.le_refl _, by go_num, HT0, HR0⟩
  case round =>
    obtain ⟨q, gs, F, hq, rfl, HT, HR⟩ := hrel
    clear HT0 HR0
    by_cases hq0 : q = 0
    · subst hq0
      go_wp2
      go_ret
      exact ⟨G, n + 1, gs, F, rfl, HT.out, fun j k h1 h2 => by
        by_cases hj : j = 0
        · subst hj; exact HR.out.2 k (Nat.zero_le _) h2
        · exact HR.out.1 j k (by omega) h1 h2⟩
    · obtain ⟨i, rfl⟩ : ∃ i, q = i + 1 := ⟨q - 1, by omega⟩
      rw [show (((i + 1 : Nat) : Int) - 1) = (i : Int) by omega]
      have hin : i < n := by omega
      have hA0 : (0 : Int) ≤ (i : Int) := by omega
      have hA9 : (i : Int) < (n : Int) + 1 := by omega
      clear hq0
      obtain ⟨x, ex⟩ : ∃ x, xs[i]? = some x := ⟨_, List.getElem?_eq_getElem (by rw [← HN.out]; exact hin)⟩
      obtain ⟨ba, oa, rfl, hba, hcx⟩ := HXA.out (by omega)
      have cx := hcx i x ex
      have HX := hidOf ex
      clear ex hcx
      have hbl := HT.out.below
      have hsz := hbl.size
      go_wp2_with (at_make; refine wpList_make_full _ rfl _ _ 62 rfl wr.heap.size 3 i0 (.int .i64 0) 1 Try.underlying62 hi hz0 hz1 .i64 .i64 _ _ (m + 1) rfl rfl rfl rfl (by rw [hz2]; omega) (by unfold maxLen; omega) (Nat.le_refl _) ?_; intro w2 hown2 hgrow2; rw [made_nrow] at hown2; have hlt2 : wr.heap.size < w2.heap.size := (hown2.lt wr.heap.size rfl).2; have htop := HT.out.top; have htop2 := World.ownsRow.kept htop hgrow2 (.inr (by simp [Value.ownBlock])); have cg : w2.cell? ⟨G, i, none⟩ = some (.slice none 0 0) := (htop2.cellAt i (by omega)).trans (tabV_none (by omega) (by omega)); have fg := htop2.frozenAt i; have hGl := (htop.lt G rfl).2)
      have T1 := HT.out.addRow (by omega) hown2 hgrow2
      have R1 : Right xs ys (fun j => if j = i then (fun _ => 0) else F j) n m i m := by
        refine ⟨fun j q h1 h2 h3 => ?_, fun q h1 h2 => ?_⟩
        · show (if j = i then (fun _ => (0 : Int)) else F j) q = _
          rw [if_neg (by omega)]
          by_cases hj : j = i + 1
          · subst hj; exact HR.out.2 q (Nat.zero_le _) h3
          · exact HR.out.1 j q (by omega) h2 h3
        · show (if i = i then (fun _ => (0 : Int)) else F i) q = _
          rw [if_pos rfl]
          exact (ct_endB (by rw [← HM.out]; exact h1)).symm
      obtain ⟨F1, hF1⟩ : ∃ F1, F1 = (fun j => if j = i then (fun _ => (0 : Int)) else F j) := ⟨_, rfl⟩
      obtain ⟨gs1, hgs1⟩ : ∃ gs1, gs1 = updN gs i wr.heap.size := ⟨_, rfl⟩
      rw [← hF1] at T1 R1
      rw [← hgs1] at T1
      obtain ⟨W2, hW2⟩ : ∃ W2, W2 = w2.setCell ⟨G, i, none⟩ (slV wr.heap.size m) := ⟨_, rfl⟩
      rw [← hW2] at T1
      rw [← hW2]
      have HT1 := hidOf T1
      have HR1 := hidOf R1
      have hcx2 := fun W (hb : Below w.heap.size w W) => (hb.cell (p := ⟨ba, oa + i, none⟩) hba).trans cx
      have HCX := hidOf hcx2
      clear T1 R1 hF1 hgs1 hW2 hown2 hgrow2 htop htop2 cg fg hlt2 hGl HT HR hbl hsz cx hcx2
      go_loopw [7] (fun kk wr => ∃ (k : Nat) (F : Nat → Nat → Int), k ≤ m ∧ kk = .int .i64 ((k : Int) - 1) ∧ Hid (Tb w wr 3 62 G (n + 1) gs1 F i n m) ∧ Hid (Right xs ys F n m i k)) (fun kk _ => (intOf kk + 1).toNat)
      case atStart => exact ⟨m, F1, Nat.le_refl _, by go_num, HT1, HR1⟩
      case round =>
        obtain ⟨q, F, hq, rfl, HT, HR⟩ := hrel
        clear HT1 HR1
        by_cases hq0 : q = 0
        · subst hq0
          go_wp2
          go_roundw
          case rel => exact ⟨i, gs1, F, by omega, by go_num, HT, HR⟩
          case measure => first | (simp [intOf]; done) | (simp [intOf]; omega)
        · obtain ⟨k, rfl⟩ : ∃ k, q = k + 1 := ⟨q - 1, by omega⟩
          rw [show (((k + 1 : Nat) : Int) - 1) = (k : Int) by omega]
          have hkm : k < m := by omega
          have hB0 : (0 : Int) ≤ (k : Int) := by omega
          have hB9 : (k : Int) < (m : Int) + 1 := by omega
          have hB8 : (k : Int) < (m : Int) := by omega
          have hA8 : (i : Int) < (n : Int) := by omega
          clear hq0
          obtain ⟨y, ey⟩ : ∃ y, ys[k]? = some y := ⟨_, List.getElem?_eq_getElem (by rw [← HM.out]; exact hkm)⟩
          obtain ⟨bb, ob, rfl, hbb, hcy⟩ := HXB.out (by omega)
          have hbl := HT.out.below
          have cy := (hbl.cell (p := ⟨bb, ob + k, none⟩) hbb).trans (hcy k y ey)
          have cx := HCX.out _ hbl
          have HY := hidOf ey
          clear ey hcy
          have t0 := HT.out.topC (j := i) (Nat.le_refl _) (by omega)
          have t1 := HT.out.topC (j := i + 1) (by omega) (by omega)
          have r0 := HT.out.rowC (j := i) (k := k) (Nat.le_refl _) (by omega) (by omega)
          have f0 := HT.out.rowF (j := i) k (Nat.le_refl _) (by omega)
          have hB5 : ((i : Int) + 1).toNat = i + 1 := by omega
          have hB6 : ((k : Int) + 1).toNat = k + 1 := by omega
          have hB7 : (0 : Int) ≤ (k : Int) + 1 := by omega
          have hB4 : (k : Int) + 1 < (m : Int) + 1 := by omega
          have hA7 : (0 : Int) ≤ (i : Int) + 1 := by omega
          have hA4 : (i : Int) + 1 < (n : Int) + 1 := by omega
          by_cases hxy : x = y
          · have r1 := HT.out.rowC (j := i + 1) (k := k + 1) (by omega) (by omega) (by omega)
            rw [HR.out.1 (i + 1) (k + 1) (by omega) (by omega) (by omega)] at r1
            have hrg := ct_range xs ys (i + 1) (k + 1)
            rw [← HN.out] at hrg
            have hct := ct_same HX.out HY.out hxy
            obtain ⟨z, hz⟩ : ∃ z, z = ct xs ys (i + 1) (k + 1) := ⟨_, rfl⟩
            rw [← hz] at r1 hrg hct
            have he : (x.toList == y.toList) = true := str_same hxy
            have HCT := hidOf hct
            clear hct hz hxy
            go_wp2
            go_quiet (fail)
            go_wp2
            go_region
            all_goals
              go_wp2
              go_roundw
              case rel => exact ⟨k, upd2 F i k (z + 1), by omega, by go_num, hidOf ((HT.out.more (below_drewN _ nq)).drew.set (Nat.le_refl _) (by omega) (by omega) _), hidOf (HR.out.step HCT.out.symm)⟩
              case measure => first | (simp [intOf]; done) | (simp [intOf]; omega)
          · have r1 := HT.out.rowC (j := i + 1) (k := k) (by omega) (by omega) (by omega)
            have r2 := HT.out.rowC (j := i) (k := k + 1) (by omega) (by omega) (by omega)
            rw [HR.out.1 (i + 1) k (by omega) (by omega) (by omega)] at r1
            rw [HR.out.2 (k + 1) (by omega) (by omega)] at r2
            have hct := ct_other HX.out HY.out hxy
            obtain ⟨z1, hz1⟩ : ∃ z, z = ct xs ys (i + 1) k := ⟨_, rfl⟩
            obtain ⟨z2, hz2⟩ : ∃ z, z = ct xs ys i (k + 1) := ⟨_, rfl⟩
            rw [← hz1] at r1 hct
            rw [← hz2] at r2 hct
            have he : (x.toList == y.toList) = false := by rw [str_beq, decide_eq_false hxy]
            have HCT := hidOf hct
            clear hct hz1 hz2 hxy
            go_wp2
            go_quiet (fail)
            go_wp2
            go_region
            all_goals
              go_wp2
              go_roundw
              case rel => exact ⟨k, upd2 F i k (if z1 < z2 then z2 else z1), by omega, by go_num, hidOf ((HT.out.more (below_drewN _ nq)).drew.set (Nat.le_refl _) (by omega) (by omega) _), hidOf (HR.out.step (by rw [HCT.out]; split <;> omega))⟩
              case measure => first | (simp [intOf]; done) | (simp [intOf]; omega)
end Go.Proofs.Ytdlpepmdjbmmmaa
