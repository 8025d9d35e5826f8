/- What changed: impl.editsBetween. -/
import Derived.Test.YtdlpepmdjbmmmaaCoP
import Derived.Test.YtdlpepmdjbmmmaaDfLib
import Derived.Test.YtdlpepmdjbmmmaaEdF
namespace Go.Proofs.Ytdlpepmdjbmmmaa
open Go.RowKit

theorem infoLe : (Try.prog.info? 53).map (fun i => (i.zero, i.size, i.bytes)) = some (some .nilIface, 1, 16) := by kernel_rfl
def ifVals (es : List Ed) : List Value := es.map ifE
theorem ifVals_app (es : List Ed) (e : Ed) (v : Value) (h : ifE e = v) : ifVals (es ++ [e]) = ifVals es ++ [v] := by simp [ifVals, h]
/-- A list's rest. -/
theorem sl_from (aa : Option Addr) (n ca i : Nat) (hi : i ≤ n) : ∃ ra rc, (∀ W, (Instr.slice 24 (.slice aa n ca) (some (.int .i64 (i : Int))) none none).run Try.prog W = .ok (.slice ra (n - i) rc) W) ∧ (ca ≠ i → ra = aa.map (·.add i)) := by
  refine ⟨if ca = i then aa else aa.map (·.add i), ca - i, fun W => ?_, fun h => by rw [if_neg h]⟩
  rw [run_slice_l (P := Try.prog) (w := W) 24 aa n ca (by kernel_rfl) .i64 (i : Int) (by omega) (by omega)]
  have hs : (sizeOf (Try.prog.elem 24)).run Try.prog W = .ok 1 W := by kernel_rfl
  rw [hs]
  simp [Result.andThen, sliced]

set_option maxHeartbeats 8000000 in
set_option maxRecDepth 100000 in
theorem iBetween_any (va vb : Value) (xs ys : List ByteArray) (w : World) (hn : xs.length ≤ 200) (hm : ys.length ≤ 200) (hA : LnsAt w va xs) (hB : LnsAt w vb ys) :
    Calls Try.prog 39 #[va, vb] w fun e w' => Below w.heap.size w w' ∧ ∃ v, e = .returned v ∧ w'.ownsRow w.heap.size 53 1 v (dif xs ys).length (ifVals (dif xs ys)) := by
  have qt := iTab_any va vb xs ys w hn hm hA hB
  obtain ⟨aa, ca, rfl, hca, hxa⟩ := hA
  obtain ⟨ab, cb, rfl, hcb, hxb⟩ := hB
  obtain ⟨n, hnn⟩ : ∃ n, n = xs.length := ⟨_, rfl⟩
  obtain ⟨m, hmm⟩ : ∃ m, m = ys.length := ⟨_, rfl⟩
  rw [← hnn] at hn hca hxa qt
  rw [← hmm] at hm hcb hxb qt
  rw [← hnn, ← hmm]
  have HN := hidOf hnn
  have HM := hidOf hmm
  have HXA := hidOf hxa
  have HXB := hidOf hxb
  clear hnn hmm hxa hxb
  obtain ⟨i0, hi, hz0, hz1, hz2⟩ := info_parts infoLe
  go_enter Try.func39, Try.ntmps39
  go_wp2_with fail
  refine qt.mono ?_
  rintro e w2 ⟨G, c, gs, F, rfl, T, hF⟩
  have HT := hidOf T
  have HF := hidOf hF
  have hb2 := T.below
  have hsz2 := hb2.size
  have hme := World.ownsRow_made (base := w2.heap.size) (e := 53) (size := 1) w2 #[] 0 (Nat.le_refl _) (by decide) rfl
  have hb0 : Below w2.heap.size w2 (w2.alloc (.cells #[] 53)) := (Below.refl _ w2).alloc (Nat.le_refl _) _
  clear qt T hF
  go_wp2
  go_loopw [6, 7, 8] (fun v ii kk wr => ∃ (i k : Nat) (os : List Ed), i ≤ n ∧ k ≤ m ∧ ii = .int .i64 i ∧ kk = .int .i64 k ∧ os.length ≤ i + k ∧ Hid (os ++ dfAt xs ys i k = dif xs ys) ∧ wr.ownsRow w2.heap.size 53 1 v os.length (ifVals os) ∧ Below w2.heap.size w2 wr) (fun _ ii kk _ => n - (intOf ii).toNat + (m - (intOf kk).toNat))
  case atStart => exact ⟨0, 0, [], by omega, by omega, rfl, rfl, by simp, hidOf rfl, hme, hb0⟩
  case round =>
    obtain ⟨i, k, os, hin, hkm, rfl, rfl, hol, HI, ho, hb⟩ := hrel
    obtain ⟨a1, c1, rfl⟩ := owns_slice ho
    clear hme hb0
    have hsz := hb.size
    have hbw := hb2.trans (hb.mono hsz2)
    by_cases hgo : i < n ∧ k < m
    · obtain ⟨hi1, hk1⟩ := hgo
      have hA0 : (0 : Int) ≤ (i : Int) := by omega
      have hA1 : (i : Int) < (n : Int) := by omega
      have hB0 : (0 : Int) ≤ (k : Int) := by omega
      have hB1 : (k : Int) < (m : Int) := by omega
      obtain ⟨x, ex⟩ : ∃ x, xs[i]? = some x := ⟨_, List.getElem?_eq_getElem (by rw [← HN.out]; exact hi1)⟩
      obtain ⟨y, ey⟩ : ∃ y, ys[k]? = some y := ⟨_, List.getElem?_eq_getElem (by rw [← HM.out]; exact hk1)⟩
      obtain ⟨ba, oa, rfl, hba, hcx⟩ := HXA.out (by omega)
      obtain ⟨bb, ob, rfl, hbb, hcy⟩ := HXB.out (by omega)
      have cx := (hbw.cell (p := ⟨ba, oa + i, none⟩) hba).trans (hcx i x ex)
      have cy := (hbw.cell (p := ⟨bb, ob + k, none⟩) hbb).trans (hcy k y ey)
      have HX := hidOf ex
      have HY := hidOf ey
      clear ex ey hcx hcy
      by_cases hxy : x = y
      · have he : (x.toList == y.toList) = true := str_same hxy
        have HE := hidOf hxy
        clear hxy
        go_wp2
        go_quiet (fail)
        have ho1 := owns_below ho (below_drewN wr nq)
        have cx1 : (wr.drewN nq).cell? ⟨ba, oa + i, none⟩ = some (.string x) := cx
        go_wp2_with (at_builtin; refine wpList_append_own2 rfl _ _ 50 rfl w2.heap.size 53 i0 .nilIface 1 16 Try.underlying50 hi hz0 hz1 hz2 rfl (by decide) _ _ _ rfl (ho1.alloc _) ⟨wr.heap.size, 0, none⟩ 1 1 [ifK x] rfl rfl (cell_one_new (wr.drewN nq) _ _) (fun x hx => by simp at hx; subst hx; rfl) (by unfold maxLen; omega) (by omega) (by simp; omega) ?_; intro v' w5 hown5 hgrow5 hpl5)
        go_roundw
        case rel =>
          refine ⟨i + 1, k + 1, os ++ [⟨1, x⟩], by omega, by omega, by go_num, by go_num, by simp; omega, hidOf ?_, ?_, ((bel_drewN hb nq).alloc (by simp; omega) _).grown hgrow5 (by simp; omega) (fun q hq => (ho.lt q hq).1)⟩
          · rw [← HI.out, dfAt_same HX.out HY.out HE.out]; simp
          · rw [ifVals_app os _ (ifK x) (ifE_1 rfl)]; simpa using hown5
        case measure => simp [intOf]; omega
      · have he : (x.toList == y.toList) = false := by rw [str_beq, decide_eq_false hxy]
        have HE := hidOf hxy
        clear hxy
        have TT := HT.out.more hb
        have t0 := TT.topC (j := i) (Nat.zero_le _) (by omega)
        have t1 := TT.topC (j := i + 1) (Nat.zero_le _) (by omega)
        have r1 := TT.rowC (j := i + 1) (k := k) (Nat.zero_le _) (by omega) (by omega)
        have r2 := TT.rowC (j := i) (k := k + 1) (Nat.zero_le _) (by omega) (by omega)
        rw [HF.out (i + 1) k (by omega) (by omega)] at r1
        rw [HF.out i (k + 1) (by omega) (by omega)] at r2
        obtain ⟨z1, hz1'⟩ : ∃ z, z = ct xs ys (i + 1) k := ⟨_, rfl⟩
        obtain ⟨z2, hz2'⟩ : ∃ z, z = ct xs ys i (k + 1) := ⟨_, rfl⟩
        rw [← hz1'] at r1
        rw [← hz2'] at r2
        have HZ1 := hidOf hz1'
        have HZ2 := hidOf hz2'
        clear TT hz1' hz2'
        have hB5 : ((i : Int) + 1).toNat = i + 1 := by omega
        have hB6 : ((k : Int) + 1).toNat = k + 1 := by omega
        have hB7 : (0 : Int) ≤ (k : Int) + 1 := by omega
        have hB4 : (k : Int) + 1 < (m : Int) + 1 := by omega
        have hA7 : (0 : Int) ≤ (i : Int) + 1 := by omega
        have hA4 : (i : Int) + 1 < (n : Int) + 1 := by omega
        by_cases hzz : z2 ≤ z1
        · have HC : Hid (dfAt xs ys i k = ⟨2, x⟩ :: dfAt xs ys (i + 1) k) := hidOf (dfAt_drop HX.out HY.out HE.out (by rw [← HZ1.out, ← HZ2.out]; exact hzz))
          go_wp2
          go_quiet (fail)
          obtain ⟨wa, hwa⟩ : ∃ wa, wa = wr.drewN nq := ⟨_, rfl⟩
          have hba1 : Below wr.heap.size wr wa := by rw [hwa]; exact below_drewN _ nq
          have t0a : wa.cell? ⟨G, i, none⟩ = some (slV (gs i) m) := by rw [hwa]; exact t0
          have t1a : wa.cell? ⟨G, i + 1, none⟩ = some (slV (gs (i + 1)) m) := by rw [hwa]; exact t1
          have r1a : wa.cell? ⟨gs (i + 1), k, none⟩ = some (.int .i64 z1) := by rw [hwa]; exact r1
          have r2a : wa.cell? ⟨gs i, k + 1, none⟩ = some (.int .i64 z2) := by rw [hwa]; exact r2
          have cxa : wa.cell? ⟨ba, oa + i, none⟩ = some (.string x) := by rw [hwa]; exact cx
          rw [← hwa]
          clear hwa t0 t1 r1 r2 cx cy
          have ho1 := owns_below ho hba1
          have hb1 := hb.trans (hba1.mono hsz)
          have hsa := hb1.size
          go_wp2
          go_quiet (fail)
          have ho2 := owns_below ho1 (below_drewN wa nq)
          have cx1 : (wa.drewN nq).cell? ⟨ba, oa + i, none⟩ = some (.string x) := cxa
          go_wp2_with (at_builtin; refine wpList_append_own2 rfl _ _ 50 rfl w2.heap.size 53 i0 .nilIface 1 16 Try.underlying50 hi hz0 hz1 hz2 rfl (by decide) _ _ _ rfl (ho2.alloc _) ⟨wa.heap.size, 0, none⟩ 1 1 [ifD x] rfl rfl (cell_one_new (wa.drewN nq) _ _) (fun x hx => by simp at hx; subst hx; rfl) (by unfold maxLen; omega) (by omega) (by simp; omega) ?_; intro v' w5 hown5 hgrow5 hpl5)
          go_roundw
          case rel =>
            refine ⟨i + 1, k, os ++ [⟨2, x⟩], by omega, by omega, by go_num, by go_num, by simp; omega, hidOf ?_, ?_, ((bel_drewN hb1 nq).alloc (by simp; omega) _).grown hgrow5 (by simp; omega) (fun q hq => (ho.lt q hq).1)⟩
            · rw [← HI.out, HC.out]; simp
            · rw [ifVals_app os _ (ifD x) (ifE_2 rfl)]; simpa using hown5
          case measure => simp [intOf]; omega
        · have HC : Hid (dfAt xs ys i k = ⟨3, y⟩ :: dfAt xs ys i (k + 1)) := hidOf (dfAt_add HX.out HY.out HE.out (by rw [← HZ1.out, ← HZ2.out]; exact hzz))
          go_wp2
          go_quiet (fail)
          obtain ⟨wa, hwa⟩ : ∃ wa, wa = wr.drewN nq := ⟨_, rfl⟩
          have hba1 : Below wr.heap.size wr wa := by rw [hwa]; exact below_drewN _ nq
          have t0a : wa.cell? ⟨G, i, none⟩ = some (slV (gs i) m) := by rw [hwa]; exact t0
          have t1a : wa.cell? ⟨G, i + 1, none⟩ = some (slV (gs (i + 1)) m) := by rw [hwa]; exact t1
          have r1a : wa.cell? ⟨gs (i + 1), k, none⟩ = some (.int .i64 z1) := by rw [hwa]; exact r1
          have r2a : wa.cell? ⟨gs i, k + 1, none⟩ = some (.int .i64 z2) := by rw [hwa]; exact r2
          have cya : wa.cell? ⟨bb, ob + k, none⟩ = some (.string y) := by rw [hwa]; exact cy
          rw [← hwa]
          clear hwa t0 t1 r1 r2 cx cy
          have ho1 := owns_below ho hba1
          have hb1 := hb.trans (hba1.mono hsz)
          have hsa := hb1.size
          go_wp2
          go_quiet (fail)
          have ho2 := owns_below ho1 (below_drewN wa nq)
          have cy1 : (wa.drewN nq).cell? ⟨bb, ob + k, none⟩ = some (.string y) := cya
          go_wp2_with (at_builtin; refine wpList_append_own2 rfl _ _ 50 rfl w2.heap.size 53 i0 .nilIface 1 16 Try.underlying50 hi hz0 hz1 hz2 rfl (by decide) _ _ _ rfl (ho2.alloc _) ⟨wa.heap.size, 0, none⟩ 1 1 [ifA y] rfl rfl (cell_one_new (wa.drewN nq) _ _) (fun x hx => by simp at hx; subst hx; rfl) (by unfold maxLen; omega) (by omega) (by simp; omega) ?_; intro v' w5 hown5 hgrow5 hpl5)
          go_roundw
          case rel =>
            refine ⟨i, k + 1, os ++ [⟨3, y⟩], by omega, by omega, by go_num, by go_num, by simp; omega, hidOf ?_, ?_, ((bel_drewN hb1 nq).alloc (by simp; omega) _).grown hgrow5 (by simp; omega) (fun q hq => (ho.lt q hq).1)⟩
            · rw [← HI.out, HC.out]; simp
            · rw [ifVals_app os _ (ifA y) (ifE_3 rfl)]; simpa using hown5
          case measure => simp [intOf]; omega
    · have hgo' : n = i ∨ m = k := by omega
      obtain ⟨ra, rc, hsl, hra⟩ := sl_from aa n ca i hin
      obtain ⟨rb, rd, hsl2, hrb⟩ := sl_from ab m cb k hkm
      obtain ⟨p, hp⟩ : ∃ p, p = n - i := ⟨_, rfl⟩
      obtain ⟨q, hq⟩ : ∃ q, q = m - k := ⟨_, rfl⟩
      rw [← hp] at hsl
      rw [← hq] at hsl2
      have hpi : i + p = n := by omega
      have hqk : k + q = m := by omega
      clear hp hq
      have HRA := hidOf hra
      have HRB := hidOf hrb
      have hk0 : (0 : Int) ≤ (i : Int) := by omega
      have hk1 : (0 : Int) ≤ (k : Int) := by omega
      clear hra hrb
      by_cases hc : i < n
      · have hkm' : ¬ k < m := by omega
        go_wp2
        go_loopw [6, 94] (fun v jj wr => ∃ (j : Nat) (os : List Ed), j ≤ p ∧ jj = .int .i64 j ∧ os.length ≤ i + j + k ∧ Hid (os ++ dfAt xs ys (i + j) k = dif xs ys) ∧ wr.ownsRow w2.heap.size 53 1 v os.length (ifVals os) ∧ Below w2.heap.size w2 wr) (fun _ jj _ => p - (intOf jj).toNat)
        case atStart => exact ⟨0, os, by omega, rfl, by omega, HI, ho, hb⟩
        case round =>
          obtain ⟨j, os, hj, rfl, hol, HI, ho, hb⟩ := hrel
          obtain ⟨a1, c1, rfl⟩ := owns_slice ho
          have hsz := hb.size
          have hbw := hb2.trans (hb.mono hsz2)
          by_cases hjp : j < p
          · have hA0 : (0 : Int) ≤ (j : Int) := by omega
            have hA1 : (j : Int) < (p : Int) := by omega
            obtain ⟨x, ex⟩ : ∃ x, xs[i + j]? = some x := ⟨_, List.getElem?_eq_getElem (by rw [← HN.out]; omega)⟩
            obtain ⟨ba, oa, hae, hba, hcx⟩ := HXA.out (by omega)
            have hre := HRA.out (by omega)
            rw [hae] at hre
            obtain rfl : ra = some ⟨ba, oa + i, none⟩ := by rw [hre]; simp [Addr.add]; try omega
            have cx : wr.cell? ⟨ba, oa + i + j, none⟩ = some (.string x) := by
              rw [show oa + i + j = oa + (i + j) by omega]
              exact (hbw.cell (p := ⟨ba, oa + (i + j), none⟩) hba).trans (hcx (i + j) x ex)
            have HC : Hid (dfAt xs ys (i + j) k = ⟨2, x⟩ :: dfAt xs ys (i + j + 1) k) := hidOf (dfAt_endB ex (by rw [← HM.out]; omega))
            clear ex hcx hae hre
            go_wp2_with (at_builtin; refine wpList_append_own2 rfl _ _ 50 rfl w2.heap.size 53 i0 .nilIface 1 16 Try.underlying50 hi hz0 hz1 hz2 rfl (by decide) _ _ _ rfl (ho.alloc _) ⟨wr.heap.size, 0, none⟩ 1 1 [ifD x] rfl rfl (cell_one_new wr _ _) (fun x hx => by simp at hx; subst hx; rfl) (by unfold maxLen; omega) (by omega) (by simp; omega) ?_; intro v' w5 hown5 hgrow5 hpl5)
            go_roundw
            case rel =>
              refine ⟨j + 1, os ++ [⟨2, x⟩], by omega, by go_num, by simp; omega, hidOf ?_, ?_, (hb.alloc (by omega) _).grown hgrow5 (by simp; omega) (fun q hq => (ho.lt q hq).1)⟩
              · rw [← HI.out, HC.out]; simp [Nat.add_assoc]
              · rw [ifVals_app os _ (ifD x) (ifE_2 rfl)]; simpa using hown5
            case measure => simp [intOf]; omega
          · have hjp' : j = p := by omega
            have HI2 : Hid (os ++ dfAt xs ys n k = dif xs ys) := hidOf (by have := HI.out; rw [hjp', hpi] at this; exact this)
            have hol2 : os.length ≤ n + k := by omega
            clear HI hol hjp'
            go_wp2
            go_loopw [6, 109] (fun v jj wr => ∃ (j : Nat) (os : List Ed), j ≤ q ∧ jj = .int .i64 j ∧ os.length ≤ n + k + j ∧ Hid (os ++ dfAt xs ys n (k + j) = dif xs ys) ∧ wr.ownsRow w2.heap.size 53 1 v os.length (ifVals os) ∧ Below w2.heap.size w2 wr) (fun _ jj _ => q - (intOf jj).toNat)
            case atStart => exact ⟨0, os, by omega, rfl, by omega, HI2, ho, hb⟩
            case round =>
              obtain ⟨j, os, hj, rfl, hol, HI, ho, hb⟩ := hrel
              obtain ⟨a1, c1, rfl⟩ := owns_slice ho
              have hsz := hb.size
              have hbw := hb2.trans (hb.mono hsz2)
              by_cases hjq : j < q
              · exfalso; omega
              · have hjq' : j = q := by omega
                have HD : Hid (os = dif xs ys) := hidOf (by have := HI.out; rw [hjq', hqk, dfAt_end (by rw [← HN.out]; exact Nat.le_refl _) (by rw [← HM.out]; exact Nat.le_refl _), List.append_nil] at this; exact this)
                go_wp2
                go_ret
                rw [← HD.out]
                exact ⟨hbw, _, rfl, ownsRow_base ho hsz2⟩
      · go_wp2
        go_loopw [6, 94] (fun v jj wr => ∃ (j : Nat) (os : List Ed), j ≤ p ∧ jj = .int .i64 j ∧ os.length ≤ i + j + k ∧ Hid (os ++ dfAt xs ys (i + j) k = dif xs ys) ∧ wr.ownsRow w2.heap.size 53 1 v os.length (ifVals os) ∧ Below w2.heap.size w2 wr) (fun _ jj _ => p - (intOf jj).toNat)
        case atStart => exact ⟨0, os, by omega, rfl, by omega, HI, ho, hb⟩
        case round =>
          obtain ⟨j, os, hj, rfl, hol, HI, ho, hb⟩ := hrel
          obtain ⟨a1, c1, rfl⟩ := owns_slice ho
          have hsz := hb.size
          have hbw := hb2.trans (hb.mono hsz2)
          by_cases hjp : j < p
          · exfalso; omega
          · have hjp' : j = p := by omega
            have HI2 : Hid (os ++ dfAt xs ys n k = dif xs ys) := hidOf (by have := HI.out; rw [hjp', hpi] at this; exact this)
            have hol2 : os.length ≤ n + k := by omega
            clear HI hol hjp'
            go_wp2
            go_loopw [6, 109] (fun v jj wr => ∃ (j : Nat) (os : List Ed), j ≤ q ∧ jj = .int .i64 j ∧ os.length ≤ n + k + j ∧ Hid (os ++ dfAt xs ys n (k + j) = dif xs ys) ∧ wr.ownsRow w2.heap.size 53 1 v os.length (ifVals os) ∧ Below w2.heap.size w2 wr) (fun _ jj _ => q - (intOf jj).toNat)
            case atStart => exact ⟨0, os, by omega, rfl, by omega, HI2, ho, hb⟩
            case round =>
              obtain ⟨j, os, hj, rfl, hol, HI, ho, hb⟩ := hrel
              obtain ⟨a1, c1, rfl⟩ := owns_slice ho
              have hsz := hb.size
              have hbw := hb2.trans (hb.mono hsz2)
              by_cases hjq : j < q
              · have hA0 : (0 : Int) ≤ (j : Int) := by omega
                have hA1 : (j : Int) < (q : Int) := by omega
                obtain ⟨y, ey⟩ : ∃ y, ys[k + j]? = some y := ⟨_, List.getElem?_eq_getElem (by rw [← HM.out]; omega)⟩
                obtain ⟨bb, ob, hae, hbb, hcy⟩ := HXB.out (by omega)
                have hre := HRB.out (by omega)
                rw [hae] at hre
                obtain rfl : rb = some ⟨bb, ob + k, none⟩ := by rw [hre]; simp [Addr.add]; try omega
                have cy : wr.cell? ⟨bb, ob + k + j, none⟩ = some (.string y) := by
                  rw [show ob + k + j = ob + (k + j) by omega]
                  exact (hbw.cell (p := ⟨bb, ob + (k + j), none⟩) hbb).trans (hcy (k + j) y ey)
                have HC : Hid (dfAt xs ys n (k + j) = ⟨3, y⟩ :: dfAt xs ys n (k + j + 1)) := hidOf (dfAt_endA (by rw [← HN.out]; exact Nat.le_refl _) ey)
                clear ey hcy hae hre
                go_wp2_with (at_builtin; refine wpList_append_own2 rfl _ _ 50 rfl w2.heap.size 53 i0 .nilIface 1 16 Try.underlying50 hi hz0 hz1 hz2 rfl (by decide) _ _ _ rfl (ho.alloc _) ⟨wr.heap.size, 0, none⟩ 1 1 [ifA y] rfl rfl (cell_one_new wr _ _) (fun x hx => by simp at hx; subst hx; rfl) (by unfold maxLen; omega) (by omega) (by simp; omega) ?_; intro v' w5 hown5 hgrow5 hpl5)
                go_roundw
                case rel =>
                  refine ⟨j + 1, os ++ [⟨3, y⟩], by omega, by go_num, by simp; omega, hidOf ?_, ?_, (hb.alloc (by omega) _).grown hgrow5 (by simp; omega) (fun q hq => (ho.lt q hq).1)⟩
                  · rw [← HI.out, HC.out]; simp [Nat.add_assoc]
                  · rw [ifVals_app os _ (ifA y) (ifE_3 rfl)]; simpa using hown5
                case measure => simp [intOf]; omega
              · have hjq' : j = q := by omega
                have HD : Hid (os = dif xs ys) := hidOf (by have := HI.out; rw [hjq', hqk, dfAt_end (by rw [← HN.out]; exact Nat.le_refl _) (by rw [← HM.out]; exact Nat.le_refl _), List.append_nil] at this; exact this)
                go_wp2
                go_ret
                rw [← HD.out]
                exact ⟨hbw, _, rfl, ownsRow_base ho hsz2⟩
end Go.Proofs.Ytdlpepmdjbmmmaa
