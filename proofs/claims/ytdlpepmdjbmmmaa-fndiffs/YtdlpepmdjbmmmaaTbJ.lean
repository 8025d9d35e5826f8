/- The table of what is left in common: spec.l18Table. -/
import Derived.Test.YtdlpepmdjbmmmaaTbI
import Derived.Test.YtdlpepmdjbmmmaaAppPl
namespace Go.Proofs.Ytdlpepmdjbmmmaa
open Go.RowKit

theorem ne_none (a : Option Nat) : a = none ∨ a ≠ none := by cases a <;> simp
/-- The rows so far. -/
def rowsV (gs : Nat → Nat) (i m : Nat) : List Value := (List.range i).map fun j => slV (gs j) m
theorem rowsV_len (gs : Nat → Nat) (i m : Nat) : (rowsV gs i m).length = i := by simp [rowsV]
theorem rowsV_next (gs : Nat → Nat) (i m g : Nat) : rowsV (updN gs i g) (i + 1) m = rowsV gs i m ++ [slV g m] := by
  unfold rowsV
  rw [List.range_succ, List.map_append]
  congr 1
  · apply List.map_congr_left
    intro j hj
    have := List.mem_range.1 hj
    simp [updN, show ¬ j = i by omega]
  · simp [updN]
theorem rowsV_tab (gs : Nat → Nat) (n m : Nat) : rowsV gs (n + 1) m = tabV gs 0 n m := by
  unfold rowsV tabV
  apply List.map_congr_left
  intro j _
  simp

set_option maxHeartbeats 8000000 in
set_option maxRecDepth 100000 in
theorem sTab_any (va vb : Value) (xs ys : List ByteArray) (w : World) (hn : xs.length ≤ 200) (hm : ys.length ≤ 200) (hA : LnsAt w va xs) (hB : LnsAt w vb ys) :
    Calls Try.prog 49 #[va, vb] w fun e w' => TabAns xs ys 3 62 xs.length ys.length w e w' := by
  obtain ⟨aa, ca, rfl, hca, hxa⟩ := hA
  obtain ⟨ab, cb, rfl, hcb, hxb⟩ := hB
  obtain ⟨n, hnn⟩ : ∃ n, n = xs.length := ⟨_, rfl⟩
  obtain ⟨m, hmm⟩ : ∃ m, m = ys.length := ⟨_, rfl⟩
  rw [← hnn] at hn hca hxa ⊢
  rw [← hmm] at hm hcb hxb ⊢
  have HN := hidOf hnn
  have HM := hidOf hmm
  have HXA := hidOf hxa
  have HXB := hidOf hxb
  clear hnn hmm hxa hxb
  obtain ⟨i0, hi, hz0, hz1, hz2⟩ := info_parts infoIn
  obtain ⟨j0, hj, hy0, hy1, hy2⟩ := info_parts infoIs
  have hme := World.ownsRow_made (base := w.heap.size) (e := 62) (size := 1) w #[] 0 (Nat.le_refl _) (by decide) rfl
  have hb0 : Below w.heap.size w (w.alloc (.cells #[] 62)) := (Below.refl _ w).alloc (Nat.le_refl _) _
  go_enter Try.func49, Try.ntmps49
  go_wp2
  go_loopw [5, 6] (fun v i wr => ∃ (k : Nat) (gs : Nat → Nat), k ≤ n + 1 ∧ i = .int .i64 k ∧ wr.ownsRow w.heap.size 62 1 v k (rowsV gs k m) ∧ Hid (∀ j, j < k → wr.ownsRow w.heap.size 3 1 (slV (gs j) m) (m + 1) (nrow (fun _ => 0) (m + 1)) ∧ v.ownBlock ≠ some (gs j)) ∧ Hid (∀ i j, i < k → j < k → i ≠ j → gs i ≠ gs j) ∧ Below w.heap.size w wr) (fun _ i _ => n + 1 - (intOf i).toNat)
  case atStart => exact ⟨0, fun _ => 0, by omega, rfl, hme, hidOf (fun j h => by omega), hidOf (fun i j h => by omega), hb0⟩
  case round =>
    obtain ⟨k, gs, hk, rfl, ho, HR, HD, hb⟩ := hrel
    obtain ⟨a1, c1, rfl⟩ := owns_slice ho
    clear hme hb0
    have hsz := hb.size
    by_cases hlt : k < n + 1
    · have hA0 : (k : Int) ≤ (n : Int) := by omega
      go_wp2_with (first | (at_make; refine wpList_make_full _ rfl _ _ 62 rfl wr.heap.size 3 i0 (.int .i64 0) 1 Try.underlying62 hi hz0 hz1 .i64 .i64 _ _ (m + 1) rfl rfl rfl rfl (by rw [hz2]; omega) (by unfold maxLen; omega) (Nat.le_refl _) ?_; intro w2 hown2 hgrow2; rw [made_nrow] at hown2; have hlt2 : wr.heap.size < w2.heap.size := (hown2.lt wr.heap.size rfl).2; have ho2 := World.ownsRow.kept ho hgrow2 (ne_none _)) | (at_builtin; refine wpList_append_own2 rfl _ _ 63 rfl w.heap.size 62 j0 (.slice none 0 0) 1 24 Try.underlying63 hj hy0 hy1 hy2 rfl (by decide) _ _ _ rfl (ho2.alloc _) ⟨w2.heap.size, 0, none⟩ 1 1 [slV wr.heap.size m] rfl rfl (cell_one_new w2 _ _) (fun x hx => by simp at hx; subst hx; rfl) (by unfold maxLen; omega) (by omega) (by simp; omega) ?_; intro v' w4 hown' hgrow4 hpl4))
      go_roundw
      case rel =>
        have hb2 := hb.grown hgrow2 hsz (fun k e => by cases e)
        have hB4 := (hb2.alloc hb2.size (.cells #[slV wr.heap.size m] 62)).grown hgrow4 (by simp; omega) (fun q hq => (ho.lt q hq).1)
        refine ⟨k + 1, updN gs k wr.heap.size, by omega, by go_num, by rw [rowsV_next]; exact hown', hidOf (fun j hj => ?_), hidOf (fun i j h1 h2 h3 => ?_), hB4⟩
        · by_cases hjk : j = k
          · subst hjk
            have e1 : updN gs j wr.heap.size j = wr.heap.size := by unfold updN; rw [if_pos rfl]
            rw [e1]
            refine ⟨World.ownsRow.kept ((ownsRow_base hown2 hsz).alloc _) hgrow4 (.inr (fun e => ?_)), fun e => ?_⟩
            · have := (ho.lt wr.heap.size e.symm).2; omega
            · rcases hpl4 _ e with h | h
              · have := (ho.lt wr.heap.size h).2; omega
              · simp at h; omega
          · have e1 : updN gs k wr.heap.size j = gs j := by unfold updN; rw [if_neg hjk]
            rw [e1]
            obtain ⟨g1, g2⟩ := HR.out j (by omega)
            have g3 := (g1.lt (gs j) rfl).2
            refine ⟨World.ownsRow.kept ((World.ownsRow.kept g1 hgrow2 (ne_none _)).alloc _) hgrow4 (.inr (fun e => g2 e.symm)), fun e => ?_⟩
            rcases hpl4 _ e with h | h
            · exact g2 h
            · simp at h; omega
        · have hl : ∀ j, j < k → gs j < wr.heap.size := fun j hj => ((HR.out j hj).1.lt (gs j) rfl).2
          unfold updN
          by_cases ha : i = k
          · rw [if_pos ha, if_neg (by omega)]
            have := hl j (by omega)
            omega
          · rw [if_neg ha]
            by_cases hbk : j = k
            · rw [if_pos hbk]
              have := hl i (by omega)
              omega
            · rw [if_neg hbk]
              exact HD.out i j (by omega) (by omega) h3
      case measure => simp [intOf]; omega
    · have hkn : k = n + 1 := by omega
      subst hkn
      obtain ⟨G, rfl⟩ := owns_at ho (by omega)
      have T0 : Tb w wr 3 62 G c1 gs (fun _ _ => 0) 0 n m := by
        refine ⟨hb, by rw [← rowsV_tab]; exact ho, fun j _ h2 => (HR.out j (by omega)).1, fun j _ h2 e => (HR.out j (by omega)).2 (by rw [e]; rfl), fun i j _ h2 _ h4 h5 => HD.out i j (by omega) (by omega) h5⟩
      have R0 : Right xs ys (fun _ _ => 0) n m n 0 := ⟨fun j q h1 h2 h3 => by omega, fun q h1 h2 => (ct_endA (by rw [← HN.out]; exact Nat.le_refl _)).symm⟩
      have HT0 := hidOf T0
      have HR0 := hidOf R0
      have hA0 : ¬ ((n : Int) + 1 ≤ (n : Int)) := by omega
      clear T0 R0 ho HR HD hb hsz
      go_wp2
      go_loopw [7] (fun i wr => ∃ (q : Nat) (F : Nat → Nat → Int), q ≤ n ∧ i = .int .i64 ((q : Int) - 1) ∧ Hid (Tb w wr 3 62 G c1 gs F 0 n m) ∧ Hid (Right xs ys F n m q 0) ∧ Hid (∀ j k, j < q → k ≤ m → F j k = 0)) (fun i _ => (intOf i + 1).toNat)
      case atStart => exact ⟨n, _, Nat.le_refl _, by go_num, HT0, HR0, hidOf (fun _ _ _ _ => rfl)⟩
      case round =>
        obtain ⟨q, F, hq, rfl, HT, HR, HZ⟩ := hrel
        clear HT0 HR0
        by_cases hq0 : q = 0
        · subst hq0
          go_wp2
          go_ret
          exact ⟨G, c1, gs, F, rfl, HT.out, fun j k h1 h2 => by
            by_cases hj : j = 0
            · subst hj; exact HR.out.2 k (Nat.zero_le _) h2
            · exact HR.out.1 j k (by omega) h1 h2⟩
        · obtain ⟨i, rfl⟩ : ∃ i, q = i + 1 := ⟨q - 1, by omega⟩
          rw [show (((i + 1 : Nat) : Int) - 1) = (i : Int) by omega]
          have hin : i < n := by omega
          have hA0' : (0 : Int) ≤ (i : Int) := by omega
          have hA9 : (i : Int) < (n : Int) + 1 := by omega
          clear hq0
          obtain ⟨x, ex⟩ : ∃ x, xs[i]? = some x := ⟨_, List.getElem?_eq_getElem (by rw [← HN.out]; exact hin)⟩
          obtain ⟨ba, oa, rfl, hba, hcx⟩ := HXA.out (by omega)
          have cx := hcx i x ex
          have HX := hidOf ex
          clear ex hcx
          have hcx2 := fun W (hb : Below w.heap.size w W) => (hb.cell (p := ⟨ba, oa + i, none⟩) hba).trans cx
          have HCX := hidOf hcx2
          have R1 : Right xs ys F n m i m := by
            refine ⟨fun j q h1 h2 h3 => ?_, fun q h1 h2 => ?_⟩
            · by_cases hj : j = i + 1
              · subst hj; exact HR.out.2 q (Nat.zero_le _) h3
              · exact HR.out.1 j q (by omega) h2 h3
            · rw [HZ.out i q (by omega) h2]
              exact (ct_endB (by rw [← HM.out]; exact h1)).symm
          have HR1 := hidOf R1
          have HZ1 : Hid (∀ j k, j < i → k ≤ m → F j k = 0) := hidOf (fun j k h1 h2 => HZ.out j k (by omega) h2)
          clear R1 HR HZ cx hcx2
          go_wp2
          go_loopw [8] (fun kk wr => ∃ (k : Nat) (F : Nat → Nat → Int), k ≤ m ∧ kk = .int .i64 ((k : Int) - 1) ∧ Hid (Tb w wr 3 62 G c1 gs F 0 n m) ∧ Hid (Right xs ys F n m i k) ∧ Hid (∀ j k, j < i → k ≤ m → F j k = 0)) (fun kk _ => (intOf kk + 1).toNat)
          case atStart => exact ⟨m, F, Nat.le_refl _, by go_num, HT, HR1, HZ1⟩
          case round =>
            obtain ⟨q, F, hq, rfl, HT, HR, HZ⟩ := hrel
            clear HR1 HZ1
            by_cases hq0 : q = 0
            · subst hq0
              go_wp2
              go_roundw
              case rel => exact ⟨i, F, by omega, by go_num, HT, HR, HZ⟩
              case measure => first | (simp [intOf]; done) | (simp [intOf]; omega)
            · obtain ⟨k, rfl⟩ : ∃ k, q = k + 1 := ⟨q - 1, by omega⟩
              rw [show (((k + 1 : Nat) : Int) - 1) = (k : Int) by omega]
              have hkm : k < m := by omega
              have hB0 : (0 : Int) ≤ (k : Int) := by omega
              have hB9 : (k : Int) < (m : Int) + 1 := by omega
              have hB8 : (k : Int) < (m : Int) := by omega
              have hA8 : (i : Int) < (n : Int) := by omega
              clear hq0
              obtain ⟨y, ey⟩ : ∃ y, ys[k]? = some y := ⟨_, List.getElem?_eq_getElem (by rw [← HM.out]; exact hkm)⟩
              obtain ⟨bb, ob, rfl, hbb, hcy⟩ := HXB.out (by omega)
              have hbl := HT.out.below
              have cy := (hbl.cell (p := ⟨bb, ob + k, none⟩) hbb).trans (hcy k y ey)
              have cx := HCX.out _ hbl
              have HY := hidOf ey
              clear ey hcy
              have t0 := HT.out.topC (j := i) (Nat.zero_le _) (by omega)
              have t1 := HT.out.topC (j := i + 1) (Nat.zero_le _) (by omega)
              have r0 := HT.out.rowC (j := i) (k := k) (Nat.zero_le _) (by omega) (by omega)
              have f0 := HT.out.rowF (j := i) k (Nat.zero_le _) (by omega)
              have hB5 : ((i : Int) + 1).toNat = i + 1 := by omega
              have hB6 : ((k : Int) + 1).toNat = k + 1 := by omega
              have hB7 : (0 : Int) ≤ (k : Int) + 1 := by omega
              have hB4 : (k : Int) + 1 < (m : Int) + 1 := by omega
              have hA7 : (0 : Int) ≤ (i : Int) + 1 := by omega
              have hA4 : (i : Int) + 1 < (n : Int) + 1 := by omega
              have HZ2 : ∀ x : Int, Hid (∀ j q, j < i → q ≤ m → upd2 F i k x j q = 0) := fun x => hidOf (fun j q h1 h2 => by unfold upd2; rw [if_neg (by omega)]; exact HZ.out j q h1 h2)
              by_cases hxy : x = y
              · have r1 := HT.out.rowC (j := i + 1) (k := k + 1) (Nat.zero_le _) (by omega) (by omega)
                rw [HR.out.1 (i + 1) (k + 1) (by omega) (by omega) (by omega)] at r1
                have hrg := ct_range xs ys (i + 1) (k + 1)
                rw [← HN.out] at hrg
                have hct := ct_same HX.out HY.out hxy
                obtain ⟨z, hz⟩ : ∃ z, z = ct xs ys (i + 1) (k + 1) := ⟨_, rfl⟩
                rw [← hz] at r1 hrg hct
                have he : (x.toList == y.toList) = true := str_same hxy
                have HCT := hidOf hct
                clear hct hz hxy
                go_wp2
                go_quiet (fail)
                go_wp2
                go_region
                all_goals
                  go_wp2
                  go_roundw
                  case rel => exact ⟨k, upd2 F i k (z + 1), by omega, by go_num, hidOf ((HT.out.more (below_drewN _ nq)).drew.set (Nat.zero_le _) (by omega) (by omega) _), hidOf (HR.out.step HCT.out.symm), HZ2 _⟩
                  case measure => first | (simp [intOf]; done) | (simp [intOf]; omega)
              · have r1 := HT.out.rowC (j := i + 1) (k := k) (Nat.zero_le _) (by omega) (by omega)
                have r2 := HT.out.rowC (j := i) (k := k + 1) (Nat.zero_le _) (by omega) (by omega)
                rw [HR.out.1 (i + 1) k (by omega) (by omega) (by omega)] at r1
                rw [HR.out.2 (k + 1) (by omega) (by omega)] at r2
                have hct := ct_other HX.out HY.out hxy
                obtain ⟨z1, hz1⟩ : ∃ z, z = ct xs ys (i + 1) k := ⟨_, rfl⟩
                obtain ⟨z2, hz2⟩ : ∃ z, z = ct xs ys i (k + 1) := ⟨_, rfl⟩
                rw [← hz1] at r1 hct
                rw [← hz2] at r2 hct
                have he : (x.toList == y.toList) = false := by rw [str_beq, decide_eq_false hxy]
                have HCT := hidOf hct
                clear hct hz1 hz2 hxy
                by_cases hzz : z2 ≤ z1
                · go_wp2
                  go_quiet (fail)
                  obtain ⟨wa, hwa⟩ : ∃ wa, wa = wr.drewN nq := ⟨_, rfl⟩
                  have HTa : Hid (Tb w wa 3 62 G c1 gs F 0 n m) := hidOf (by rw [hwa]; exact HT.out.more (below_drewN _ nq))
                  rw [← hwa]
                  have t0 := HTa.out.topC (j := i) (Nat.zero_le _) (by omega)
                  have t1 := HTa.out.topC (j := i + 1) (Nat.zero_le _) (by omega)
                  have r0 := HTa.out.rowC (j := i) (k := k) (Nat.zero_le _) (by omega) (by omega)
                  have f0 := HTa.out.rowF (j := i) k (Nat.zero_le _) (by omega)
                  have r1 : wa.cell? ⟨gs (i + 1), k, none⟩ = some (.int .i64 z1) := by rw [hwa]; exact r1
                  have r2 : wa.cell? ⟨gs i, k + 1, none⟩ = some (.int .i64 z2) := by rw [hwa]; exact r2
                  clear hwa
                  go_wp2
                  go_quiet (fail)
                  go_wp2
                  go_region
                  all_goals
                    go_wp2
                    go_roundw
                    case rel => exact ⟨k, upd2 F i k z1, by omega, by go_num, hidOf ((HTa.out.more (below_drewN _ _)).drew.set (Nat.zero_le _) (by omega) (by omega) _), hidOf (HR.out.step (by rw [HCT.out]; omega)), HZ2 _⟩
                    case measure => first | (simp [intOf]; done) | (simp [intOf]; omega)
                · go_wp2
                  go_quiet (fail)
                  obtain ⟨wa, hwa⟩ : ∃ wa, wa = wr.drewN nq := ⟨_, rfl⟩
                  have HTa : Hid (Tb w wa 3 62 G c1 gs F 0 n m) := hidOf (by rw [hwa]; exact HT.out.more (below_drewN _ nq))
                  rw [← hwa]
                  have t0 := HTa.out.topC (j := i) (Nat.zero_le _) (by omega)
                  have t1 := HTa.out.topC (j := i + 1) (Nat.zero_le _) (by omega)
                  have r0 := HTa.out.rowC (j := i) (k := k) (Nat.zero_le _) (by omega) (by omega)
                  have f0 := HTa.out.rowF (j := i) k (Nat.zero_le _) (by omega)
                  have r1 : wa.cell? ⟨gs (i + 1), k, none⟩ = some (.int .i64 z1) := by rw [hwa]; exact r1
                  have r2 : wa.cell? ⟨gs i, k + 1, none⟩ = some (.int .i64 z2) := by rw [hwa]; exact r2
                  clear hwa
                  go_wp2
                  go_quiet (fail)
                  go_wp2
                  go_region
                  all_goals
                    go_wp2
                    go_roundw
                    case rel => exact ⟨k, upd2 F i k z2, by omega, by go_num, hidOf ((HTa.out.more (below_drewN _ _)).drew.set (Nat.zero_le _) (by omega) (by omega) _), hidOf (HR.out.step (by rw [HCT.out]; omega)), HZ2 _⟩
                    case measure => first | (simp [intOf]; done) | (simp [intOf]; omega)
end Go.Proofs.Ytdlpepmdjbmmmaa
