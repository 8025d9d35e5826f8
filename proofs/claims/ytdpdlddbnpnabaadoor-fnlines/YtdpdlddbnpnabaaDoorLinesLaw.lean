/- The law on lines: what is cut is joined again, and each byte stands where it is told. -/
import Derived.Test.YtdpdlddbnpnabaaDoorSameT
import Derived.Test.YtdpdlddbnpnabaaDoorDrawL3
import Derived.Test.YtdpdlddbnpnabaaDoorLinesI
import Derived.Test.YtdpdlddbnpnabaaDoorWideI
import Derived.Test.YtdpdlddbnpnabaaDoorJoinI
import Derived.Test.YtdpdlddbnpnabaaDoorPlaceI
import Derived.Test.YtdpdlddbnpnabaaDoorTrim
import Derived.Test.YtdpdlddbnpnabaaDoorMaxI
namespace Go.Proofs.YtdpdlddbnpnabaaDoor
open Go.RowKit

theorem CodeAt.up {base base' : Nat} {w : World} {a : Option Addr} {len : Nat} (h : CodeAt base w a len) (hb : base ≤ base') : CodeAt base' w a len := by
  refine ⟨h.1, fun hl => ?_⟩
  obtain ⟨b, off, ha, hlt, hc⟩ := h.2 hl
  exact ⟨b, off, ha, Nat.lt_of_lt_of_le hlt hb, hc⟩
theorem CodeAt.at {w w' : World} {a : Option Addr} {len : Nat} (h : CodeAt w.heap.size w a len) (hb : Below w.heap.size w w') : CodeAt w'.heap.size w' a len := (h.below hb).up hb.size
theorem place_is (s : ByteArray) (n : Int) : ∃ a b : Int, ∀ e, PlaceAns s n e → e = .returned (.tuple #[.int .i64 a, .int .i64 b]) := by
  by_cases h : 0 ≤ n ∧ n ≤ s.size
  · exact ⟨_, _, fun e he => he.1 h⟩
  · exact ⟨_, _, fun e he => he.2 h⟩
/-- The lines before the place, and its column, make up the place. -/
theorem begin_place (t : ByteArray) (k : Nat) (h : k ≤ t.size) : (beginL (lineN (t.data.toList.take k)) (linesF [] t.data.toList) : Int) + plCol t k - 1 = k ∧ lineN (t.data.toList.take k) ≤ (lns t).length := by
  have h1 := begin_at t.data.toList [] k (by simpa using h)
  refine ⟨?_, by have := h1.2; simpa [lns] using this⟩
  have h2 : plCol t k = (colN (t.data.toList.take k) : Int) := rfl
  have h3 := h1.1
  simp at h3
  unfold colN at h2
  omega
theorem begin_next {t l : ByteArray} {k : Nat} (h : (lns t)[k]? = some l) : beginL (k + 1) (linesF [] t.data.toList) = beginL k (linesF [] t.data.toList) + l.size + 1 := by
  have h1 : (linesF [] t.data.toList)[k]? = some l.data.toList := by
    have h2 := congrArg (fun ls : List (List UInt8) => ls[k]?) (lists_lns t)
    rw [← h2, lists, List.getElem?_map, h]
    rfl
  rw [beginL_succ k _ _ h1]
  simp
theorem begin_small (t : ByteArray) : ∀ k, k ≤ (lns t).length → beginL k (linesF [] t.data.toList) ≤ (t.size + 1) * k
  | 0, _ => by simp [beginL]
  | k + 1, h => by
    have ih := begin_small t k (by omega)
    obtain ⟨l, hl⟩ : ∃ l, (lns t)[k]? = some l := ⟨_, List.getElem?_eq_getElem (by omega)⟩
    have hs := lns_size (List.mem_of_getElem? hl)
    rw [begin_next hl, Nat.mul_succ]
    omega

def bgn (t : ByteArray) (k : Nat) : Nat := beginL k (linesF [] t.data.toList)
theorem place_at {s : ByteArray} {k : Nat} (h : k ≤ s.size) : ∃ (ln : Nat) (cl : Int), (∀ e, PlaceAns s k e → e = .returned (.tuple #[.int .i64 (1 + (ln : Int)), .int .i64 cl])) ∧ 0 ≤ cl ∧ cl ≤ k + 1 ∧ (bgn s ln : Int) + cl - 1 = k ∧ ln ≤ (lns s).length := by
  have h1 := begin_place s k h
  have h2 := pl_range s k h
  refine ⟨lineN (s.data.toList.take k), plCol s k, fun e he => ?_, h2.2.2.1, h2.2.2.2, h1.1, h1.2⟩
  rw [he.1 ⟨by omega, by omega⟩, show ((k : Int)).toNat = k by omega]
  rfl
theorem wf_nat (k : Nat) (h : k ≤ 100000) : (Lit.int .i64 (k : Int)).wf = true := by
  simp [Lit.wf, IntKind.min, IntKind.max, IntKind.signed, IntKind.bits]
  omega

set_option maxHeartbeats 4000000 in
set_option maxRecDepth 20000 in
theorem lawLines (a : Option Addr) (len cap : Nat) (w : World) (hc : len ≤ 1048576 → CodeAt w.heap.size w a len) (hlm : len ≤ 9223372036854775807) (m : Int) (hM : MaxIn m w) :
    Calls Tryd.prog 3 #[.slice a len cap] w fun e w' => e = .returned (.bool true) ∧ Below w.heap.size w w' := by
  have HM := hidOf hM
  clear hM
  by_cases h0 : 1048576 < len
  · clear hc
    go_enter Tryd.func3, Tryd.ntmps3
    go_wp2
    go_ret
    exact ⟨rfl, Below.refl _ _⟩
  · have HC := hidOf (hc (by omega))
    clear hc
    go_enter Tryd.func3, Tryd.ntmps3
    go_wp2_with (first | (go_at_call 5; go_in))
    refine (drawText_any w.heap.size _ a len cap HC.out (Nat.le_refl _)).mono ?_
    rintro e w1 ⟨t, ht, rfl, hb1⟩
    have hs1 := hb1.size
    have hmany := lns_many t
    go_wp2_with fail
    refine (iLines_any t m _ (by omega) (HM.out.below hb1).1 (HM.out.below hb1).2).mono ?_
    rintro e w2 ⟨hb2, v, rfl, ho⟩
    have hb02 : Below w.heap.size w w2 := hb1.trans (hb2.mono hs1)
    have hs2 := hb02.size
    obtain ⟨n, hn⟩ : ∃ n, n = (lns t).length := ⟨_, rfl⟩
    rw [← hn] at hmany ho
    have HN := hidOf hn
    clear hn hb2
    have hjs : (joins (lns t)).size ≤ 61 := by
      rcases joins_lns t with h | h
      · rw [h]; omega
      · have h1 : (joins (lns t)).data.toList.length = (joins (lns t)).size := by simp
        rw [h] at h1
        simp at h1
        omega
    go_wp2_with fail
    refine (iJoin_any v w1.heap.size n (lns t) _ (by omega) ho).mono ?_
    rintro e w3 ⟨rfl, hb3⟩
    have ho := owns_below ho hb3
    have hb03 := hb02.trans (hb3.mono hs2)
    have hs3 := hb03.size
    clear hb3 hb02 hs2
    obtain ⟨s, hs⟩ : ∃ s, s = joins (lns t) := ⟨_, rfl⟩
    rw [← hs] at hjs ⊢
    have HS := hidOf hs
    clear hs
    go_wp2_with fail
    refine (places_any w3.heap.size _ a len cap (HC.out.at hb03) (Nat.le_refl _)).mono ?_
    rintro e w4 ⟨vz, zs, hzl, hzr, rfl, hoz, hb4⟩
    have ho := owns_below ho hb4
    have hb04 := hb03.trans (hb4.mono hs3)
    have hs4 := hb04.size
    clear hb4 hb03
    obtain ⟨z, hz⟩ : ∃ z, zs[0]? = some z := ⟨_, List.getElem?_eq_getElem (by omega)⟩
    have hzb := hzr z (List.mem_of_getElem? hz)
    obtain ⟨zn, rfl⟩ := Int.eq_ofNat_of_zero_le hzb.1
    obtain ⟨az, cz, rfl⟩ := owns_slice hoz
    obtain ⟨gz, rfl⟩ := owns_at hoz (by omega)
    have hcz := hoz.cellAt 0 (by omega)
    rw [List.getElem?_map, hz] at hcz
    simp only [Option.map_some] at hcz
    have HZ := hidOf hz
    clear hz hzr hoz
    obtain ⟨k, hk⟩ : ∃ k : Nat, k = zn % (t.size + 1) := ⟨_, rfl⟩
    have hkt : k ≤ t.size := by have := Nat.mod_lt zn (show 0 < t.size + 1 by omega); omega
    have hrem : ((zn : Int)).tmod ((t.size : Int) + 1) = (k : Int) := by
      rw [Int.tmod_eq_emod_of_nonneg (by omega), hk]
      simp
    clear hk
    go_wp2_with fail
    obtain ⟨ln, cl, hpa, hc0, hc1, hbc, hln⟩ := place_at hkt
    refine (iPlace_any t k _ (by omega) (wf_nat k (by omega))).mono ?_
    rintro e w4 ⟨he, rfl⟩
    obtain rfl := hpa _ he
    rw [← HN.out] at hln
    have HBC := hidOf hbc
    clear he hpa hbc hrem hcz HZ hzb hzl
    go_wp2
    go_loop [9, 10] (fun b i => ∃ j : Nat, j ≤ ln ∧ b = .int .i64 (bgn t j) ∧ i = .int .i64 j) (fun _ i => ln - (intOf i).toNat)
    case atStart => exact ⟨0, Nat.zero_le _, rfl, rfl⟩
    case round =>
      obtain ⟨j, hj, rfl, rfl⟩ := hrel
      have hbs : bgn t j ≤ (t.size + 1) * j := begin_small t j (by rw [← HN.out]; omega)
      have hbs2 : bgn t j ≤ 61 * 61 := Nat.le_trans hbs (Nat.mul_le_mul (by omega) (by omega))
      clear hbs
      by_cases hjl : j < ln
      · obtain ⟨l, hl⟩ : ∃ l, (lns t)[j]? = some l := ⟨_, List.getElem?_eq_getElem (by rw [← HN.out]; omega)⟩
        have hls := lns_size (List.mem_of_getElem? hl)
        have hnx : bgn t (j + 1) = bgn t j + l.size + 1 := begin_next hl
        have HX := hidOf hnx
        obtain ⟨ao, cv, rfl⟩ := owns_slice ho
        obtain ⟨g, rfl⟩ := owns_at ho (by omega)
        have hcl := ho.cellAt j (by omega)
        rw [show (strVals (lns t))[j]? = some (.string l) by simp [strVals, hl]] at hcl
        clear hl hnx
        have hA : (0 : Int) ≤ (j : Int) := by omega
        have hB : (j : Int) < (n : Int) := by omega
        go_wp2
        go_round
        case rel => exact ⟨j + 1, by omega, by rw [HX.out]; go_num, by go_num⟩
        case measure => simp [intOf]; omega
      · have hje : j = ln := by omega
        subst hje
        obtain ⟨bg, hbg⟩ : ∃ bg : Nat, bg = bgn t j := ⟨_, rfl⟩
        rw [← hbg] at hbs2 HBC ⊢
        clear hbg hj hjl
        go_wp2_with fail
        refine (drawPlaceOf_any w4.heap.size _ a len cap (HC.out.at hb04) (Nat.le_refl _)).mono ?_
        rintro e w5 ⟨x, xn, hxs, hx1, hx2, rfl, hb5⟩
        have ho := owns_below ho hb5
        have hb05 := hb04.trans (hb5.mono hs4)
        have hs5 := hb05.size
        clear hb5 hb04
        obtain ⟨pa, pb, hA⟩ := place_is x xn
        have HA := hidOf hA
        clear hA
        have hxw : (Lit.int .i64 xn).wf = true := by
          simp [Lit.wf, IntKind.min, IntKind.max, IntKind.signed, IntKind.bits]
          omega
        go_wp2_with fail
        refine (iPlace_any x xn _ (by omega) hxw).mono ?_
        rintro e w5 ⟨he, rfl⟩
        obtain rfl := HA.out _ he
        clear he
        go_wp2_with fail
        refine (sPlace_any x xn _ (by omega) hxw).mono ?_
        rintro e w5 ⟨he, rfl⟩
        obtain rfl := HA.out _ he
        clear he HA hxw
        go_wp2_with fail
        refine (drawTrimmed_any w5.heap.size _ a len cap (HC.out.at hb05) (Nat.le_refl _)).mono ?_
        rintro e w6 ⟨y, hys, rfl, hb6⟩
        have ho := owns_below ho hb6
        have hb06 := hb05.trans (hb6.mono hs5)
        have hs6 := hb06.size
        clear hb6 hb05
        go_wp2
        go_loop [18, 19] (fun r i => ∃ j : Nat, j ≤ n ∧ r = .int .i64 (widest ((lns t).take j)) ∧ i = .int .i64 j) (fun _ i => n - (intOf i).toNat)
        case atStart => exact ⟨0, Nat.zero_le _, rfl, rfl⟩
        case round =>
          obtain ⟨j, hj, rfl, rfl⟩ := hrel
          obtain ⟨ao, cv, rfl⟩ := owns_slice ho
          by_cases hlt : j < n
          · obtain ⟨l, hl⟩ : ∃ l, (lns t)[j]? = some l := ⟨_, List.getElem?_eq_getElem (by rw [← HN.out]; exact hlt)⟩
            have hls := lns_size (List.mem_of_getElem? hl)
            obtain ⟨g, rfl⟩ := owns_at ho (by omega)
            have hcl := ho.cellAt j (by omega)
            rw [show (strVals (lns t))[j]? = some (.string l) by simp [strVals, hl]] at hcl
            have hw : widest ((lns t).take (j + 1)) = max (widest ((lns t).take j)) l.size := by
              rw [List.take_add_one, hl]
              exact widest_snoc _ _
            have HW := hidOf hw
            clear hl hw
            generalize hr : widest ((lns t).take j) = r at *
            clear hr
            have hA : (0 : Int) ≤ (j : Int) := by omega
            have hB : (j : Int) < (n : Int) := by omega
            by_cases hg : r < l.size
            · go_wp2
              go_round
              case rel => exact ⟨j + 1, by omega, by rw [HW.out, Nat.max_eq_right (by omega)], by go_num⟩
              case measure => simp [intOf]; omega
            · go_wp2
              go_round
              case rel => exact ⟨j + 1, by omega, by rw [HW.out, Nat.max_eq_left (by omega)], by go_num⟩
              case measure => simp [intOf]; omega
          · have hje : j = n := by omega
            subst hje
            have hwd : widest ((lns t).take j) = widest (lns t) := by rw [HN.out, List.take_length]
            rw [hwd]
            clear hwd
            obtain ⟨wd, hwd⟩ : ∃ wd : Nat, wd = widest (lns t) := ⟨_, rfl⟩
            rw [← hwd]
            have HWD := hidOf hwd
            clear hwd hj hlt
            have HLS : Hid (lns s = lns t) := by rw [HS.out]; exact lns_joins t
            have hsE : (s.toList == t.toList) = true ∨ ((s.toList == t.toList) = false ∧ (s.toList == (t ++ ⟨#[10]⟩).toList) = true) := by
              rw [HS.out]
              rcases joins_lns t with h | h
              · exact .inl (str_same h)
              · refine .inr ⟨str_other ?_, str_same ?_⟩
                · have h1 : (joins (lns t)).data.toList.length = (joins (lns t)).size := by simp
                  have h2 : t.data.toList.length = t.size := by simp
                  rw [h, List.length_append, h2] at h1
                  simp at h1
                  omega
                · apply ByteArray.ext
                  rw [← Array.toList_inj, h]
                  simp
            have hcmp : ((bg : Int) + cl - 1 == (k : Int)) = true := by rw [HBC.out]; simp
            have hty := trimB_size y
            have h2s : (y ++ (⟨#[32, 32]⟩ : ByteArray)).size ≤ 4194304 := by
              have : (⟨#[32, 32]⟩ : ByteArray).size = 2 := rfl
              rw [ByteArray.size_append]
              omega
            have htm := fun w => iTrim_any (y ++ (⟨#[32, 32]⟩ : ByteArray)) w h2s
            rw [trimB_more y (y ++ (⟨#[32, 32]⟩ : ByteArray)) (by simp)] at htm
            obtain ⟨u, hu⟩ : ∃ u, u = trimB y := ⟨_, rfl⟩
            rw [← hu] at htm hty
            have HU := hidOf hu
            have HTM := hidOf htm
            clear hu htm h2s
            have hEu := str_same (a := u) (b := u) rfl
            rcases hsE with hE1 | ⟨hE1, hE2⟩
            all_goals
              go_wp2_with fail
              refine (iLines_any s m _ (by omega) (HM.out.below hb06).1 (HM.out.below hb06).2).mono ?_
              rw [HLS.out]
              rintro e w7 ⟨hb7, v2, rfl, ho2⟩
              rw [← HN.out] at ho2
              have ho := owns_below ho hb7
              have hb07 := hb06.trans (hb7.mono hs6)
              have hs7 := hb07.size
              clear hb7
              go_wp2_with fail
              refine (same_any v2 _ _ _ j (lns t) _ (by omega) ho2 ho).mono ?_
              rintro e w8 ⟨rfl, q, rfl⟩
              have hb08 := bel_drewN hb07 q
              have hs8 := hb08.size
              clear hb07
              go_wp2_with fail
              refine (iTrim_any y _ (by omega)).mono ?_
              rw [← HU.out]
              rintro e w9 ⟨rfl, hb9⟩
              have hb09 := hb08.trans (hb9.mono hs8)
              have hs9 := hb09.size
              clear hb9 hb08
              go_wp2_with fail
              refine (sTrim_any y _ (by omega)).mono ?_
              rw [← HU.out]
              rintro e w9 ⟨rfl, rfl⟩
              go_wp2_with fail
              refine (HTM.out _).mono ?_
              rintro e w10 ⟨rfl, hb10⟩
              have hb10 := hb09.trans (hb10.mono hs9)
              have hs10 := hb10.size
              clear hb09
              go_wp2_with fail
              refine (iTrim_any y _ (by omega)).mono ?_
              rw [← HU.out]
              rintro e w11 ⟨rfl, hb11⟩
              have hb11 := hb10.trans (hb11.mono hs10)
              have hs11 := hb11.size
              clear hb10
              go_wp2_with fail
              refine (iWide_any t m _ (by omega) (HM.out.below hb11).1 (HM.out.below hb11).2).mono ?_
              rw [← HWD.out]
              rintro e w12 ⟨rfl, hb12⟩
              go_wp2
              go_ret
              exact ⟨rfl, hb11.trans (hb12.mono hs11)⟩
end Go.Proofs.YtdpdlddbnpnabaaDoor
