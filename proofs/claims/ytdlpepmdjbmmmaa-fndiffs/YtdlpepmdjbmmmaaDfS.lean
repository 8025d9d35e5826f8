/- What changed: spec.DiffOf. -/
import Derived.Test.YtdlpepmdjbmmmaaDfJ
namespace Go.Proofs.Ytdlpepmdjbmmmaa
open Go.RowKit

/-- What a table's cells hold, and where its blocks lie. -/
def TbC (W : World) (G : Nat) (gs : Nat → Nat) (xs ys : List ByteArray) (n m lo hi : Nat) : Prop :=
  (∀ j, j ≤ n → W.cell? ⟨G, j, none⟩ = some (slV (gs j) m)) ∧ (∀ j k, j ≤ n → k ≤ m → W.cell? ⟨gs j, k, none⟩ = some (.int .i64 (ct xs ys j k))) ∧ (lo ≤ G ∧ G < hi) ∧ (∀ j, j ≤ n → lo ≤ gs j ∧ gs j < hi) ∧ hi ≤ W.heap.size
theorem TbC.of {w W : World} {tI tR G c n m : Nat} {gs : Nat → Nat} {F : Nat → Nat → Int} {xs ys : List ByteArray} (h : Tb w W tI tR G c gs F 0 n m) (hF : ∀ j q, j ≤ n → q ≤ m → F j q = ct xs ys j q) : TbC W G gs xs ys n m w.heap.size W.heap.size := by
  refine ⟨fun j hj => h.topC (Nat.zero_le _) hj, fun j k hj hk => ?_, h.top.lt G rfl, fun j hj => (h.row j (Nat.zero_le _) hj).lt (gs j) rfl, Nat.le_refl _⟩
  rw [h.rowC (Nat.zero_le _) hj hk, hF j k hj hk]
theorem TbC.keep {W W' : World} {G : Nat} {gs : Nat → Nat} {xs ys : List ByteArray} {n m lo hi : Nat} {row : Option Nat} (h : TbC W G gs xs ys n m lo hi) (hg : W.grownBy W' row) (hr : ∀ q, row = some q → q < lo ∨ hi ≤ q) : TbC W' G gs xs ys n m lo hi := by
  obtain ⟨h1, h2, h3, h4, h5⟩ := h
  refine ⟨fun j hj => ?_, fun j k hj hk => ?_, h3, h4, Nat.le_trans h5 hg.size⟩
  · rw [World.cell?_of_block (hg.block G (by omega) (fun e => by rcases hr G e.symm with h | h <;> omega))]
    exact h1 j hj
  · have := h4 j hj
    rw [World.cell?_of_block (hg.block (gs j) (by omega) (fun e => by rcases hr (gs j) e.symm with h | h <;> omega))]
    exact h2 j k hj hk

theorem alloc_bel (w : World) (ob : Obj) : Below w.heap.size w (w.alloc ob) := (Below.refl w.heap.size w).alloc (Nat.le_refl _) ob
set_option maxHeartbeats 8000000 in
set_option maxRecDepth 100000 in
theorem sDiff_any (va vb : Value) (xs ys : List ByteArray) (w : World) (hn : xs.length ≤ 1048576) (hm : ys.length ≤ 1048576) (hA : LnsAt w va xs) (hB : LnsAt w vb ys) :
    Calls Try.prog 22 #[va, vb] w fun e w' => EdsAns (dfOf xs ys) 55 w e w' := by
  have hb0 : Below w.heap.size w (w.alloc (.cells #[] 55)) := (Below.refl _ w).alloc (Nat.le_refl _) _
  have hme := World.ownsRow_made (base := w.heap.size) (e := 55) (size := 2) w #[] 0 (Nat.le_refl _) (by decide) rfl
  have qt0 := fun (h : xs.length ≤ 200 ∧ ys.length ≤ 200) => sTab_any va vb xs ys _ h.1 h.2 (hA.below hb0) (hB.below hb0)
  obtain ⟨i0, hi, hz0, hz1, hz2⟩ := info_parts infoEd.2
  obtain ⟨aa, ca, rfl, hca, hxa⟩ := hA
  obtain ⟨ab, cb, rfl, hcb, hxb⟩ := hB
  have q := fun W => sMany_any aa ab xs.length ys.length ca cb W (by omega) (by omega)
  by_cases h : xs.length ≤ 200 ∧ ys.length ≤ 200
  rotate_left
  · have HC : Hid (dfOf xs ys = []) := hidOf (by unfold dfOf; rw [if_neg h])
    rw [decide_eq_false h] at q
    clear h qt0 hxa hxb
    go_enter Try.func22, Try.ntmps22
    go_wp2_with fail
    refine (q _).mono ?_
    rintro e w1 ⟨rfl, rfl⟩
    go_wp2
    go_ret
    rw [HC.out]
    exact ⟨hb0, _, rfl, hme⟩
  · have HD : Hid (dfOf xs ys = dif xs ys) := hidOf (by unfold dfOf; rw [if_pos h])
    rw [decide_eq_true h] at q
    have qt := qt0 h
    obtain ⟨hn2, hm2⟩ := h
    clear qt0
    obtain ⟨n, hnn⟩ : ∃ n, n = xs.length := ⟨_, rfl⟩
    obtain ⟨m, hmm⟩ : ∃ m, m = ys.length := ⟨_, rfl⟩
    rw [← hnn] at hn2 hca hxa qt q
    rw [← hmm] at hm2 hcb hxb qt q
    rw [← hnn, ← hmm]
    have HN := hidOf hnn
    have HM := hidOf hmm
    have HXA := hidOf hxa
    have HXB := hidOf hxb
    clear hnn hmm hxa hxb hn hm
    go_enter Try.func22, Try.ntmps22
    go_wp2_with fail
    refine (q _).mono ?_
    rintro e w1 ⟨rfl, rfl⟩
    go_wp2_with fail
    refine qt.mono ?_
    rintro e w2 ⟨G, c, gs, F, rfl, T, hF⟩
    have HC0 := hidOf (TbC.of T hF)
    have hb2 := hb0.trans (T.below.mono (by simp))
    have hme2 := owns_below hme T.below
    have hsz2 := T.below.size
    rw [World.size_alloc] at hsz2 HC0
    clear q qt T hF hme
    go_wp2
    go_loopw [5, 7, 8] (fun v ii kk wr => ∃ (i k : Nat) (os : List Ed), i ≤ n ∧ k ≤ m ∧ ii = .int .i64 i ∧ kk = .int .i64 k ∧ os.length ≤ i + k ∧ Hid (os ++ dfAt xs ys i k = dif xs ys) ∧ wr.ownsRow w.heap.size 55 2 v os.length (edVals os) ∧ Hid (∀ g, v.ownBlock = some g → g < w.heap.size + 1 ∨ w2.heap.size ≤ g) ∧ Hid (TbC wr G gs xs ys n m (w.heap.size + 1) w2.heap.size) ∧ Below w.heap.size w wr) (fun _ ii kk _ => n - (intOf ii).toNat + (m - (intOf kk).toNat))
    case atStart => exact ⟨0, 0, [], by omega, by omega, rfl, rfl, by simp, hidOf rfl, hme2, hidOf (fun g e => by simp [Value.ownBlock] at e; omega), HC0, hb2⟩
    case round =>
      obtain ⟨i, k, os, hin, hkm, rfl, rfl, hol, HI, ho, HV, HC, hb⟩ := hrel
      obtain ⟨a1, c1, rfl⟩ := owns_slice ho
      clear hme2 HC0 hb2 hb0
      have hsz := hb.size
      have hhi := HC.out.2.2.2.2
      have hA0 : (0 : Int) ≤ (i : Int) := by omega
      have hB0 : (0 : Int) ≤ (k : Int) := by omega
      by_cases hi1 : i < n
      · by_cases hk1 : k < m
        · have hA1 : (i : Int) < (n : Int) := by omega
          obtain ⟨x, ex⟩ : ∃ x, xs[i]? = some x := ⟨_, List.getElem?_eq_getElem (by rw [← HN.out]; exact hi1)⟩
          obtain ⟨ba, oa, rfl, hba, hcx⟩ := HXA.out (by omega)
          have cx := (hb.cell (p := ⟨ba, oa + i, none⟩) hba).trans (hcx i x ex)
          have HX := hidOf ex
          clear ex hcx
          have hB1 : (k : Int) < (m : Int) := by omega
          have hB1' : ¬ (m : Int) ≤ (k : Int) := by omega
          obtain ⟨y, ey⟩ : ∃ y, ys[k]? = some y := ⟨_, List.getElem?_eq_getElem (by rw [← HM.out]; exact hk1)⟩
          obtain ⟨bb, ob, rfl, hbb, hcy⟩ := HXB.out (by omega)
          have cy := (hb.cell (p := ⟨bb, ob + k, none⟩) hbb).trans (hcy k y ey)
          have HY := hidOf ey
          clear ey hcy
          by_cases hxy : x = y
          · have he : (x.toList == y.toList) = true := str_same hxy
            have HE := hidOf hxy
            clear hxy
            go_wp2
            go_quiet (fail)
            obtain ⟨wa, hwa⟩ : ∃ wa, wa = wr.drewN nq := ⟨_, rfl⟩
            have hbm : Below wr.heap.size wr wa := by rw [hwa]; exact below_drewN _ nq
            have cxa : wa.cell? ⟨ba, oa + i, none⟩ = some (.string x) := by rw [hwa]; exact cx
            rw [← hwa]
            clear hwa
            have ho1 := owns_below ho hbm
            have hB1m := hb.trans (hbm.mono hsz)
            have hsa := hB1m.size
            have hsb := hbm.size
            go_wp2_with (at_builtin; refine wpList_append_own2 rfl _ _ 27 rfl w.heap.size 55 i0 _ 2 24 Try.underlying27 hi hz0 hz1 hz2 rfl (by decide) _ _ _ rfl (ho1.alloc _) ⟨wa.heap.size, 0, none⟩ 1 1 [.int .i64 1, .string x] rfl rfl (cell_two_new wa _ _ _) (fun x hx => by simp at hx; rcases hx with rfl | rfl <;> rfl) (by unfold maxLen; omega) (by omega) (by simp; omega) ?_; intro v' w5 hown5 hgrow5 hpl5)
            go_roundw
            case rel =>
              have hlo := hgrow5.size
              refine ⟨i + 1, k + 1, os ++ [⟨1, x⟩], by omega, by omega, by go_num, by go_num, by simp; omega, hidOf ?_, by rw [edVals_app, edVals_one]; simpa using hown5, hidOf (fun g e => ?_), hidOf ((HC.out.keep (grownBy_trans (grownBy_of_below hbm (Value.slice a1 os.length c1).ownBlock) (grownBy_of_below (alloc_bel wa _) _)) HV.out).keep hgrow5 HV.out), (hB1m.alloc (by omega) _).grown hgrow5 (by simp; omega) (fun q hq => (ho.lt q hq).1)⟩
              · rw [← HI.out, dfAt_same HX.out HY.out HE.out]; simp
              · rcases hpl5 g e with h | h
                · exact HV.out g h
                · right; simp at h; omega
            case measure => simp [intOf]; omega
          · have he : (x.toList == y.toList) = false := by rw [str_beq, decide_eq_false hxy]
            have HE := hidOf hxy
            clear hxy
            have t0 := HC.out.1 i (by omega)
            have t1 := HC.out.1 (i + 1) (by omega)
            have r1 := HC.out.2.1 (i + 1) k (by omega) (by omega)
            have r2 := HC.out.2.1 i (k + 1) (by omega) (by omega)
            obtain ⟨z1, hz1'⟩ : ∃ z, z = ct xs ys (i + 1) k := ⟨_, rfl⟩
            obtain ⟨z2, hz2'⟩ : ∃ z, z = ct xs ys i (k + 1) := ⟨_, rfl⟩
            rw [← hz1'] at r1
            rw [← hz2'] at r2
            have HZ1 := hidOf hz1'
            have HZ2 := hidOf hz2'
            clear hz1' hz2'
            have hB5 : ((i : Int) + 1).toNat = i + 1 := by omega
            have hB6 : ((k : Int) + 1).toNat = k + 1 := by omega
            have hB7 : (0 : Int) ≤ (k : Int) + 1 := by omega
            have hB4 : (k : Int) + 1 < (m : Int) + 1 := by omega
            have hA7 : (0 : Int) ≤ (i : Int) + 1 := by omega
            have hA4 : (i : Int) + 1 < (n : Int) + 1 := by omega
            have hA9 : (i : Int) < (n : Int) + 1 := by omega
            have hw1 : IntKind.i64.wrap ((i : Int) + 1) = (i : Int) + 1 := IntWalk.i64_in _ ⟨by omega, by omega⟩
            have hw2 : IntKind.i64.wrap ((k : Int) + 1) = (k : Int) + 1 := IntWalk.i64_in _ ⟨by omega, by omega⟩
            have hB9 : (k : Int) < (m : Int) + 1 := by omega
            have hA5 : (i : Int) + 1 < ((n + 1 : Nat) : Int) := by omega
            have hB8 : (k : Int) + 1 < ((m + 1 : Nat) : Int) := by omega
            by_cases hzz : z2 ≤ z1
            · have HQ : Hid (dfAt xs ys i k = ⟨2, x⟩ :: dfAt xs ys (i + 1) k) := hidOf (dfAt_drop HX.out HY.out HE.out (by rw [← HZ1.out, ← HZ2.out]; exact hzz))
              go_wp2
              go_quiet (fail)
              obtain ⟨wc, hwa⟩ : ∃ wa, wa = wr.drewN nq := ⟨_, rfl⟩
              have hbc : Below wr.heap.size wr wc := by rw [hwa]; exact below_drewN _ nq
              have t0a : wc.cell? ⟨G, i, none⟩ = some (slV (gs i) m) := by rw [hwa]; exact t0
              have t1a : wc.cell? ⟨G, i + 1, none⟩ = some (slV (gs (i + 1)) m) := by rw [hwa]; exact t1
              have r1a : wc.cell? ⟨gs (i + 1), k, none⟩ = some (.int .i64 z1) := by rw [hwa]; exact r1
              have r2a : wc.cell? ⟨gs i, k + 1, none⟩ = some (.int .i64 z2) := by rw [hwa]; exact r2
              have cxa : wc.cell? ⟨ba, oa + i, none⟩ = some (.string x) := by rw [hwa]; exact cx
              have cya : wc.cell? ⟨bb, ob + k, none⟩ = some (.string y) := by rw [hwa]; exact cy
              rw [← hwa]
              clear hwa
              clear t0 t1 r1 r2 cx cy
              go_wp2
              go_quiet (fail)
              obtain ⟨wa, hwa⟩ : ∃ wa, wa = wc.drewN nq := ⟨_, rfl⟩
              have hbd : Below wc.heap.size wc wa := by rw [hwa]; exact below_drewN _ nq
              have cxaa : wa.cell? ⟨ba, oa + i, none⟩ = some (.string x) := by rw [hwa]; exact cxa
              rw [← hwa]
              clear hwa
              have hbm : Below wr.heap.size wr wa := hbc.trans (hbd.mono hbc.size)
              have ho1 := owns_below ho hbm
              have hB1m := hb.trans (hbm.mono hsz)
              have hsa := hB1m.size
              have hsb := hbm.size
              go_wp2_with (at_builtin; refine wpList_append_own2 rfl _ _ 27 rfl w.heap.size 55 i0 _ 2 24 Try.underlying27 hi hz0 hz1 hz2 rfl (by decide) _ _ _ rfl (ho1.alloc _) ⟨wa.heap.size, 0, none⟩ 1 1 [.int .i64 2, .string x] rfl rfl (cell_two_new wa _ _ _) (fun x hx => by simp at hx; rcases hx with rfl | rfl <;> rfl) (by unfold maxLen; omega) (by omega) (by simp; omega) ?_; intro v' w5 hown5 hgrow5 hpl5)
              go_roundw
              case rel =>
                have hlo := hgrow5.size
                refine ⟨i + 1, k, os ++ [⟨2, x⟩], by omega, by omega, by go_num, by go_num, by simp; omega, hidOf ?_, by rw [edVals_app, edVals_one]; simpa using hown5, hidOf (fun g e => ?_), hidOf ((HC.out.keep (grownBy_trans (grownBy_of_below hbm (Value.slice a1 os.length c1).ownBlock) (grownBy_of_below (alloc_bel wa _) _)) HV.out).keep hgrow5 HV.out), (hB1m.alloc (by omega) _).grown hgrow5 (by simp; omega) (fun q hq => (ho.lt q hq).1)⟩
                · rw [← HI.out, HQ.out]; simp
                · rcases hpl5 g e with h | h
                  · exact HV.out g h
                  · right; simp at h; omega
              case measure => simp [intOf]; omega
            · have HQ : Hid (dfAt xs ys i k = ⟨3, y⟩ :: dfAt xs ys i (k + 1)) := hidOf (dfAt_add HX.out HY.out HE.out (by rw [← HZ1.out, ← HZ2.out]; exact hzz))
              go_wp2
              go_quiet (fail)
              obtain ⟨wc, hwa⟩ : ∃ wa, wa = wr.drewN nq := ⟨_, rfl⟩
              have hbc : Below wr.heap.size wr wc := by rw [hwa]; exact below_drewN _ nq
              have t0a : wc.cell? ⟨G, i, none⟩ = some (slV (gs i) m) := by rw [hwa]; exact t0
              have t1a : wc.cell? ⟨G, i + 1, none⟩ = some (slV (gs (i + 1)) m) := by rw [hwa]; exact t1
              have r1a : wc.cell? ⟨gs (i + 1), k, none⟩ = some (.int .i64 z1) := by rw [hwa]; exact r1
              have r2a : wc.cell? ⟨gs i, k + 1, none⟩ = some (.int .i64 z2) := by rw [hwa]; exact r2
              have cxa : wc.cell? ⟨ba, oa + i, none⟩ = some (.string x) := by rw [hwa]; exact cx
              have cya : wc.cell? ⟨bb, ob + k, none⟩ = some (.string y) := by rw [hwa]; exact cy
              rw [← hwa]
              clear hwa
              clear t0 t1 r1 r2 cx cy
              go_wp2
              go_quiet (fail)
              obtain ⟨wa, hwa⟩ : ∃ wa, wa = wc.drewN nq := ⟨_, rfl⟩
              have hbd : Below wc.heap.size wc wa := by rw [hwa]; exact below_drewN _ nq
              have cyaa : wa.cell? ⟨bb, ob + k, none⟩ = some (.string y) := by rw [hwa]; exact cya
              rw [← hwa]
              clear hwa
              have hbm : Below wr.heap.size wr wa := hbc.trans (hbd.mono hbc.size)
              have ho1 := owns_below ho hbm
              have hB1m := hb.trans (hbm.mono hsz)
              have hsa := hB1m.size
              have hsb := hbm.size
              go_wp2_with (at_builtin; refine wpList_append_own2 rfl _ _ 27 rfl w.heap.size 55 i0 _ 2 24 Try.underlying27 hi hz0 hz1 hz2 rfl (by decide) _ _ _ rfl (ho1.alloc _) ⟨wa.heap.size, 0, none⟩ 1 1 [.int .i64 3, .string y] rfl rfl (cell_two_new wa _ _ _) (fun x hx => by simp at hx; rcases hx with rfl | rfl <;> rfl) (by unfold maxLen; omega) (by omega) (by simp; omega) ?_; intro v' w5 hown5 hgrow5 hpl5)
              go_roundw
              case rel =>
                have hlo := hgrow5.size
                refine ⟨i, k + 1, os ++ [⟨3, y⟩], by omega, by omega, by go_num, by go_num, by simp; omega, hidOf ?_, by rw [edVals_app, edVals_one]; simpa using hown5, hidOf (fun g e => ?_), hidOf ((HC.out.keep (grownBy_trans (grownBy_of_below hbm (Value.slice a1 os.length c1).ownBlock) (grownBy_of_below (alloc_bel wa _) _)) HV.out).keep hgrow5 HV.out), (hB1m.alloc (by omega) _).grown hgrow5 (by simp; omega) (fun q hq => (ho.lt q hq).1)⟩
                · rw [← HI.out, HQ.out]; simp
                · rcases hpl5 g e with h | h
                  · exact HV.out g h
                  · right; simp at h; omega
              case measure => simp [intOf]; omega
        · have hA1 : (i : Int) < (n : Int) := by omega
          obtain ⟨x, ex⟩ : ∃ x, xs[i]? = some x := ⟨_, List.getElem?_eq_getElem (by rw [← HN.out]; exact hi1)⟩
          obtain ⟨ba, oa, rfl, hba, hcx⟩ := HXA.out (by omega)
          have cx := (hb.cell (p := ⟨ba, oa + i, none⟩) hba).trans (hcx i x ex)
          have HX := hidOf ex
          clear ex hcx
          have hB1 : ¬ (k : Int) < (m : Int) := by omega
          have hB1' : (m : Int) ≤ (k : Int) := by omega
          have HQ : Hid (dfAt xs ys i k = ⟨2, x⟩ :: dfAt xs ys (i + 1) k) := hidOf (dfAt_endB HX.out (by rw [← HM.out]; omega))
          go_wp2
          go_quiet (fail)
          obtain ⟨wc, hwa⟩ : ∃ wa, wa = wr.drewN nq := ⟨_, rfl⟩
          have hbc : Below wr.heap.size wr wc := by rw [hwa]; exact below_drewN _ nq
          have cxa : wc.cell? ⟨ba, oa + i, none⟩ = some (.string x) := by rw [hwa]; exact cx
          rw [← hwa]
          clear hwa
          go_wp2
          go_quiet (fail)
          obtain ⟨wa, hwa⟩ : ∃ wa, wa = wc.drewN nq := ⟨_, rfl⟩
          have hbd : Below wc.heap.size wc wa := by rw [hwa]; exact below_drewN _ nq
          have cxaa : wa.cell? ⟨ba, oa + i, none⟩ = some (.string x) := by rw [hwa]; exact cxa
          rw [← hwa]
          clear hwa
          have hbm : Below wr.heap.size wr wa := hbc.trans (hbd.mono hbc.size)
          have ho1 := owns_below ho hbm
          have hB1m := hb.trans (hbm.mono hsz)
          have hsa := hB1m.size
          have hsb := hbm.size
          go_wp2_with (at_builtin; refine wpList_append_own2 rfl _ _ 27 rfl w.heap.size 55 i0 _ 2 24 Try.underlying27 hi hz0 hz1 hz2 rfl (by decide) _ _ _ rfl (ho1.alloc _) ⟨wa.heap.size, 0, none⟩ 1 1 [.int .i64 2, .string x] rfl rfl (cell_two_new wa _ _ _) (fun x hx => by simp at hx; rcases hx with rfl | rfl <;> rfl) (by unfold maxLen; omega) (by omega) (by simp; omega) ?_; intro v' w5 hown5 hgrow5 hpl5)
          go_roundw
          case rel =>
            have hlo := hgrow5.size
            refine ⟨i + 1, k, os ++ [⟨2, x⟩], by omega, by omega, by go_num, by go_num, by simp; omega, hidOf ?_, by rw [edVals_app, edVals_one]; simpa using hown5, hidOf (fun g e => ?_), hidOf ((HC.out.keep (grownBy_trans (grownBy_of_below hbm (Value.slice a1 os.length c1).ownBlock) (grownBy_of_below (alloc_bel wa _) _)) HV.out).keep hgrow5 HV.out), (hB1m.alloc (by omega) _).grown hgrow5 (by simp; omega) (fun q hq => (ho.lt q hq).1)⟩
            · rw [← HI.out, HQ.out]; simp
            · rcases hpl5 g e with h | h
              · exact HV.out g h
              · right; simp at h; omega
          case measure => simp [intOf]; omega
      · by_cases hk1 : k < m
        · have hA1 : ¬ (i : Int) < (n : Int) := by omega
          have hB1 : (k : Int) < (m : Int) := by omega
          have hB1' : ¬ (m : Int) ≤ (k : Int) := by omega
          obtain ⟨y, ey⟩ : ∃ y, ys[k]? = some y := ⟨_, List.getElem?_eq_getElem (by rw [← HM.out]; exact hk1)⟩
          obtain ⟨bb, ob, rfl, hbb, hcy⟩ := HXB.out (by omega)
          have cy := (hb.cell (p := ⟨bb, ob + k, none⟩) hbb).trans (hcy k y ey)
          have HY := hidOf ey
          clear ey hcy
          have HQ : Hid (dfAt xs ys i k = ⟨3, y⟩ :: dfAt xs ys i (k + 1)) := hidOf (dfAt_endA (by rw [← HN.out]; omega) HY.out)
          go_wp2
          go_quiet (fail)
          obtain ⟨wc, hwa⟩ : ∃ wa, wa = wr.drewN nq := ⟨_, rfl⟩
          have hbc : Below wr.heap.size wr wc := by rw [hwa]; exact below_drewN _ nq
          have cya : wc.cell? ⟨bb, ob + k, none⟩ = some (.string y) := by rw [hwa]; exact cy
          rw [← hwa]
          clear hwa
          go_wp2
          go_quiet (fail)
          obtain ⟨wa, hwa⟩ : ∃ wa, wa = wc.drewN nq := ⟨_, rfl⟩
          have hbd : Below wc.heap.size wc wa := by rw [hwa]; exact below_drewN _ nq
          have cyaa : wa.cell? ⟨bb, ob + k, none⟩ = some (.string y) := by rw [hwa]; exact cya
          rw [← hwa]
          clear hwa
          have hbm : Below wr.heap.size wr wa := hbc.trans (hbd.mono hbc.size)
          have ho1 := owns_below ho hbm
          have hB1m := hb.trans (hbm.mono hsz)
          have hsa := hB1m.size
          have hsb := hbm.size
          go_wp2_with (at_builtin; refine wpList_append_own2 rfl _ _ 27 rfl w.heap.size 55 i0 _ 2 24 Try.underlying27 hi hz0 hz1 hz2 rfl (by decide) _ _ _ rfl (ho1.alloc _) ⟨wa.heap.size, 0, none⟩ 1 1 [.int .i64 3, .string y] rfl rfl (cell_two_new wa _ _ _) (fun x hx => by simp at hx; rcases hx with rfl | rfl <;> rfl) (by unfold maxLen; omega) (by omega) (by simp; omega) ?_; intro v' w5 hown5 hgrow5 hpl5)
          go_roundw
          case rel =>
            have hlo := hgrow5.size
            refine ⟨i, k + 1, os ++ [⟨3, y⟩], by omega, by omega, by go_num, by go_num, by simp; omega, hidOf ?_, by rw [edVals_app, edVals_one]; simpa using hown5, hidOf (fun g e => ?_), hidOf ((HC.out.keep (grownBy_trans (grownBy_of_below hbm (Value.slice a1 os.length c1).ownBlock) (grownBy_of_below (alloc_bel wa _) _)) HV.out).keep hgrow5 HV.out), (hB1m.alloc (by omega) _).grown hgrow5 (by simp; omega) (fun q hq => (ho.lt q hq).1)⟩
            · rw [← HI.out, HQ.out]; simp
            · rcases hpl5 g e with h | h
              · exact HV.out g h
              · right; simp at h; omega
          case measure => simp [intOf]; omega
        · have HE : Hid (os = dif xs ys) := hidOf (by have := HI.out; rw [dfAt_end (by rw [← HN.out]; omega) (by rw [← HM.out]; omega), List.append_nil] at this; exact this)
          have hA1 : ¬ (i : Int) < (n : Int) := by omega
          have hB1 : ¬ (k : Int) < (m : Int) := by omega
          go_wp2
          go_ret
          rw [HD.out, ← HE.out]
          exact ⟨hb, _, rfl, ho⟩
end Go.Proofs.Ytdlpepmdjbmmmaa
