/- The law on drawn words: they are in lines, in order; the least ragged is no more ragged, in no fewer lines. -/
import Derived.Test.YtabbfpkhlofccaaDoorWrpLib
import Derived.Test.YtabbfpkhlofccaaDoorDrawP
import Derived.Test.YtabbfpkhlofccaaDoorSameT
import Derived.Test.YtabbfpkhlofccaaDoorWdI
import Derived.Test.YtabbfpkhlofccaaDoorWdS
import Derived.Test.YtabbfpkhlofccaaDoorGrI
import Derived.Test.YtabbfpkhlofccaaDoorNvI
import Derived.Test.YtabbfpkhlofccaaDoorMaxW
import Derived.Test.YtabbfpkhlofccaaDoorShp
namespace Go.Proofs.YtabbfpkhlofccaaDoor
open Go.RowKit

theorem code_at {base : Nat} {w w' : World} {a : Option Addr} {len : Nat} (h : CodeAt base w a len) (hb : Below base w w') (hB : base ≤ w'.heap.size) : CodeAt w'.heap.size w' a len := by
  have h2 := h.below hb
  refine ⟨h2.1, fun hl => ?_⟩
  obtain ⟨b, off, ha, hbb, hc⟩ := h2.2 hl
  exact ⟨b, off, ha, by omega, hc⟩
/-- Whether a word is too long. -/
def tooL (W : Int) (l : List ByteArray) : Bool := l.any fun x => decide (W < (x.size : Int))
theorem tooL_next {W : Int} {l : List ByteArray} {k : Nat} {x : ByteArray} (h : l[k]? = some x) : tooL W (l.take (k + 1)) = (tooL W (l.take k) || decide (W < (x.size : Int))) := by
  unfold tooL
  rw [List.take_add_one, h]
  simp
theorem tooL_not {W : Int} {l : List ByteArray} (h : tooL W l = false) : ∀ x ∈ l, (x.size : Int) ≤ W := fun x hx => by
  unfold tooL at h
  rw [List.any_eq_false] at h
  have := h x hx
  simp at this
  omega
theorem cat_take {l : List ByteArray} {k : Nat} : (catB (l.take k)).size ≤ (catB l).size := by
  have h1 := catB_data (l.take k)
  have h2 := catB_data l
  have h3 : catL l = catL (l.take k) ++ catL (l.drop k) := by
    unfold catL
    rw [← List.flatten_append, ← List.map_append, List.take_append_drop]
  rw [size_list, size_list, h1, h2, h3, List.length_append]
  omega

set_option maxHeartbeats 8000000 in
set_option maxRecDepth 100000 in
theorem lawWraps (a : Option Addr) (len cap : Nat) (w : World) (hc : len ≤ 1048576 → CodeAt w.heap.size w a len) (hlm : len ≤ 9223372036854775807) (m : Int) (hM : MaxIn m w) :
    Calls Tryd.prog 3 #[.slice a len cap] w fun e w' => e = .returned (.bool true) ∧ Below w.heap.size w w' := by
  have HM := hidOf hM
  clear hM
  by_cases h0 : 1048576 < len
  · clear hc
    go_enter Tryd.func3, Tryd.ntmps3
    go_wp2
    go_ret
    exact ⟨rfl, Below.refl _ _⟩
  · have HC := hidOf (hc (by omega))
    clear hc
    go_enter Tryd.func3, Tryd.ntmps3
    go_wp2_with (first | (go_at_call 6; go_in))
    refine (drawWords_any w.heap.size _ a len cap HC.out (Nat.le_refl _)).mono ?_
    rintro e w1 ⟨v, ws, hwl, hwm, rfl, ho, hb1⟩
    have hs1 := hb1.size
    obtain ⟨n, hn⟩ : ∃ n, n = ws.length := ⟨_, rfl⟩
    rw [← hn] at ho hwl
    obtain ⟨hok, hbg⟩ := drawn_ok (by omega) hwm
    have hbn : bg ws n ≤ 168 := by have := hbg n (by omega); omega
    have HOK := hidOf hok
    have HBG := hidOf hbn
    have HN := hidOf hn
    clear hn hwm hok hbg hbn
    obtain ⟨av, cv, rfl⟩ := owns_slice ho
    go_wp2_with fail
    refine (places_any w1.heap.size _ a len cap (code_at HC.out hb1 hs1) (Nat.le_refl _)).mono ?_
    rintro e w2 ⟨vz, zs, hzl, hzr, rfl, hoz, hb2⟩
    have hB2 := hb1.trans (hb2.mono hs1)
    have hs2 := hB2.size
    have ho := owns_below ho hb2
    obtain ⟨z, hz⟩ : ∃ z, zs[0]? = some z := ⟨_, List.getElem?_eq_getElem (by omega)⟩
    obtain ⟨hz1, hz2⟩ := hzr z (List.mem_of_getElem? hz)
    obtain ⟨az, cz, rfl⟩ := owns_slice hoz
    obtain ⟨gz, rfl⟩ := owns_at hoz (by omega)
    have hc0 := hoz.cellAt 0 (by omega)
    rw [show (zs.map (Value.int .i64))[0]? = some (.int .i64 z) by simp [hz]] at hc0
    clear hz hzr hzl hoz hb2 hb1
    obtain ⟨W, hW⟩ : ∃ W : Int, W = 6 + z % 20 := ⟨_, rfl⟩
    have hW1 : 6 ≤ W := by omega
    have hW2 : W ≤ 25 := by omega
    have HW := hidOf hW
    clear hW
    obtain ⟨c, hC⟩ := isC_is ws.length (lc ws W)
    have HCO : Hid (Costs ws W c) := hidOf hC
    clear hC
    obtain ⟨A, hA⟩ : ∃ A, A = lnE ws (gE ws W) 0 := ⟨_, rfl⟩
    obtain ⟨B, hB⟩ : ∃ B, B = lnE ws (bE ws W c) 0 := ⟨_, rfl⟩
    have hAl : A.length ≤ n := by rw [hA, HN.out]; exact ln_len (gE_adv ws W) ws.length 0 (by omega)
    have hBl : B.length ≤ n := by rw [hB, HN.out]; exact ln_len (bE_adv ws W c) ws.length 0 (by omega)
    have HWK : Hid (∀ x ∈ ws, wOk x = true) := hidOf (wsOk_all HOK.out).2
    have HSA : Hid (wds (catB A) = ws ∧ (catB A).size ≤ 168) := hidOf ⟨by rw [hA]; exact wds_lines HWK.out (gE_adv ws W), by
      have h1 := catB_size (gE_adv ws W) _ 0 (Nat.le_refl _) (Nat.zero_le _)
      have h2 := HBG.out
      rw [HN.out] at h2
      rw [size_list, catB_data, hA]
      omega⟩
    have HSB : Hid (wds (catB B) = ws ∧ (catB B).size ≤ 168) := hidOf ⟨by rw [hB]; exact wds_lines HWK.out (bE_adv ws W c), by
      have h1 := catB_size (bE_adv ws W c) _ 0 (Nat.le_refl _) (Nat.zero_le _)
      have h2 := HBG.out
      rw [HN.out] at h2
      rw [size_list, catB_data, hB]
      omega⟩
    have HRB : Hid (c 0 = rag B W) := hidOf (by rw [rag_rgL W (by omega), hB, rgL_best HCO.out _ 0 (Nat.le_refl _)])
    have HRA : Hid (c 0 ≤ rag A W) := hidOf (by rw [rag_rgL W (by omega), hA]; exact rgL_any HCO.out (gE_adv ws W) _ 0 (Nat.le_refl _))
    have HAB : Hid (tooL W ws = false → A.length ≤ B.length) := hidOf (fun h => by
      rw [hA, hB]
      exact fewest (bE_adv ws W c) (fun i hi => best_fits HCO.out (tooL_not h) (wsOk_all HOK.out).1 hi) _ 0 0 (Nat.le_refl _) (Nat.le_refl _))
    have HLO : Hid (∀ x ∈ A, W < (x.size : Int) → (wds x).length ≤ 1) := hidOf (by rw [hA]; exact long_one W HWK.out _ 0 (Nat.le_refl _))
    have HGA : Hid (greedy ws W = A) := hidOf (by unfold greedy; rw [HOK.out, hA]; rfl)
    have HGB : Hid (bestW ws W c = B) := hidOf (by unfold bestW; rw [HOK.out, hB]; rfl)
    clear hA hB
    go_wp2_with fail
    rw [← HW.out]
    refine (iGreedy_any (.slice av n cv) w.heap.size n ws W w2 (by omega) (by have := HBG.out; omega) ho).mono ?_
    rw [HGA.out]
    rintro e w3 ⟨hb3, va, rfl, hoA⟩
    have hB3 := hB2.trans (hb3.mono hs2)
    have hs3 := hB3.size
    have ho := owns_below ho hb3
    obtain ⟨aA, cA, rfl⟩ := owns_slice hoA
    clear hb3
    go_wp2_with fail
    refine (iBest_any (.slice av n cv) w.heap.size n ws W c w3 (by omega) (by have := HBG.out; omega) (by omega) HCO.out ho).mono ?_
    rw [HGB.out]
    rintro e w4 ⟨hb4, vb, rfl, hoB⟩
    have hB4 := hB3.trans (hb4.mono hs3)
    have hs4 := hB4.size
    have ho := owns_below ho hb4
    have hoA := owns_below hoA hb4
    obtain ⟨aB, cB, rfl⟩ := owns_slice hoB
    clear hb4 hB2 hs2 hB3 hs3
    obtain ⟨nA, hnA⟩ : ∃ nA, nA = A.length := ⟨_, rfl⟩
    obtain ⟨nB, hnB⟩ : ∃ nB, nB = B.length := ⟨_, rfl⟩
    rw [← hnA] at hoA hAl ⊢
    rw [← hnB] at hoB hBl ⊢
    have HNA := hidOf hnA
    have HNB := hidOf hnB
    clear hnA hnB
    go_wp2
    go_loop [7, 8] (fun l i => ∃ k : Nat, k ≤ n ∧ i = .int .i64 k ∧ l = .bool (tooL W (ws.take k))) (fun _ i => n - (intOf i).toNat)
    case atStart => exact ⟨0, Nat.zero_le _, rfl, rfl⟩
    case round =>
      obtain ⟨k, hk, rfl, rfl⟩ := hrel
      by_cases hlt : k < n
      · obtain ⟨x, hx⟩ : ∃ x, ws[k]? = some x := ⟨_, List.getElem?_eq_getElem (by rw [← HN.out]; exact hlt)⟩
        obtain ⟨g, rfl⟩ := owns_at ho (by omega)
        have hc := str_at ho hlt hx
        have hnx := tooL_next (W := W) hx
        have hA1 : (0 : Int) ≤ (k : Int) := by omega
        have hB1 : (k : Int) < (n : Int) := by omega
        cases hb : tooL W (ws.take k)
        · rw [hb, Bool.false_or] at hnx
          obtain ⟨bb, hbb⟩ : ∃ bb, bb = decide (W < (x.size : Int)) := ⟨_, rfl⟩
          rw [← hbb] at hnx
          have HNX := hidOf hnx
          have HBB := hidOf hbb
          clear hx hnx hb hbb
          go_wp2
          go_round
          case rel => exact ⟨k + 1, by omega, by go_num, by rw [HNX.out, HBB.out]⟩
          case measure => simp [intOf]; omega
        · rw [hb, Bool.true_or] at hnx
          have HNX := hidOf hnx
          clear hx hnx hb
          go_wp2
          go_round
          case rel => exact ⟨k + 1, by omega, by go_num, by rw [HNX.out]⟩
          case measure => simp [intOf]; omega
      · have hke : ws.take k = ws := List.take_of_length_le (by rw [← HN.out]; omega)
        rw [hke]
        obtain ⟨lg, hlg⟩ : ∃ lg, lg = tooL W ws := ⟨_, rfl⟩
        rw [← hlg]
        have HLG := hidOf hlg
        clear hke hlg
        go_wp2
        go_loopw [9, 10] (fun s i wr => ∃ k : Nat, k ≤ nA ∧ i = .int .i64 k ∧ s = .string (catB (A.take k)) ∧ Below w4.heap.size w4 wr) (fun _ i _ => nA - (intOf i).toNat)
        case atStart => exact ⟨0, Nat.zero_le _, rfl, rfl, Below.refl _ _⟩
        case round =>
          obtain ⟨k2, hk2, rfl, rfl, hb5⟩ := hrel
          have hsz5 := hb5.size
          by_cases hlt2 : k2 < nA
          · obtain ⟨x, hx⟩ : ∃ x, A[k2]? = some x := ⟨_, List.getElem?_eq_getElem (by rw [← HNA.out]; exact hlt2)⟩
            obtain ⟨gA, rfl⟩ := owns_at hoA (by omega)
            have hc := str_at (owns_below hoA hb5) hlt2 hx
            have hgl := (hoA.lt gA rfl).2
            have hnx := catB_next hx
            have hcs := cat_take (l := A) (k := k2 + 1)
            have hcs2 := HSA.out.2
            rw [hnx, ByteArray.size_append, ByteArray.size_append] at hcs
            have hxs : x.size ≤ 168 := by omega
            have hss : (catB (A.take k2)).size ≤ 168 := by omega
            obtain ⟨u, hu⟩ : ∃ u, u = catB (A.take k2) := ⟨_, rfl⟩
            rw [← hu] at hnx hss ⊢
            have HNX := hidOf hnx
            have hlo := HLO.out x (List.mem_of_getElem? hx)
            clear hx hnx hcs hcs2 hu
            have hA1 : (0 : Int) ≤ (k2 : Int) := by omega
            have hB1 : (k2 : Int) < (nA : Int) := by omega
            by_cases hxw : W < (x.size : Int)
            · have hd : decide (W < (x.size : Int)) = true := decide_eq_true hxw
              have hl1 := hlo hxw
              clear hlo
              go_wp2_with fail
              refine (iWords_any x m wr (by omega) (HM.out.below (hB4.trans (hb5.mono hs4))).1 (HM.out.below (hB4.trans (hb5.mono hs4))).2).mono ?_
              rintro e w6 ⟨hb6, v6, rfl, ho6⟩
              obtain ⟨a6, c6, rfl⟩ := owns_slice ho6
              obtain ⟨n6, hn6⟩ : ∃ n6, n6 = (wds x).length := ⟨_, rfl⟩
              rw [← hn6] at hl1 ⊢
              have hb7 := hb5.trans (hb6.mono hsz5)
              have hc7 := (hb6.cell (p := ⟨gA, k2, none⟩) (Nat.lt_of_lt_of_le hgl hsz5)).trans hc
              have hd2 : decide ((1 : Int) < (n6 : Int)) = false := decide_eq_false (by omega)
              clear ho6 hn6
              go_wp2
              go_roundw
              case rel => exact ⟨k2 + 1, by omega, by go_num, by rw [HNX.out], hb7⟩
              case measure => simp [intOf]; omega
            · have hd : decide (W < (x.size : Int)) = false := decide_eq_false hxw
              clear hlo
              go_wp2
              go_roundw
              case rel => exact ⟨k2 + 1, by omega, by go_num, by rw [HNX.out], hb5⟩
              case measure => simp [intOf]; omega
          · have hke : A.take k2 = A := List.take_of_length_le (by rw [← HNA.out]; omega)
            rw [hke]
            obtain ⟨S, hS⟩ : ∃ S, S = catB A := ⟨_, rfl⟩
            have hSs : S.size ≤ 168 := by rw [hS]; exact HSA.out.2
            have HSW : Hid (wds S = ws) := hidOf (by rw [hS]; exact HSA.out.1)
            rw [← hS]
            clear hke hS
            have hB5 := hB4.trans (hb5.mono hs4)
            have hs5 := hB5.size
            have ho5 := owns_below ho hb5
            have hoA5 := owns_below hoA hb5
            have hoB5 := owns_below hoB hb5
            clear ho hoA hoB hb5 hB4 hs4
            go_wp2
            go_loop [11, 12] (fun s i => ∃ k : Nat, k ≤ nB ∧ i = .int .i64 k ∧ s = .string (catB (B.take k))) (fun _ i => nB - (intOf i).toNat)
            case atStart => exact ⟨0, Nat.zero_le _, rfl, rfl⟩
            case round =>
              obtain ⟨k3, hk3, rfl, rfl⟩ := hrel
              by_cases hlt3 : k3 < nB
              · obtain ⟨x, hx⟩ : ∃ x, B[k3]? = some x := ⟨_, List.getElem?_eq_getElem (by rw [← HNB.out]; exact hlt3)⟩
                obtain ⟨gB, rfl⟩ := owns_at hoB5 (by omega)
                have hc := str_at hoB5 hlt3 hx
                have hnx := catB_next hx
                have hcs := cat_take (l := B) (k := k3 + 1)
                have hcs2 := HSB.out.2
                rw [hnx, ByteArray.size_append, ByteArray.size_append] at hcs
                have hxs : x.size ≤ 168 := by omega
                have hss : (catB (B.take k3)).size ≤ 168 := by omega
                obtain ⟨u, hu⟩ : ∃ u, u = catB (B.take k3) := ⟨_, rfl⟩
                rw [← hu] at hnx hss ⊢
                have HNX := hidOf hnx
                clear hx hnx hcs hcs2 hu
                have hA1 : (0 : Int) ≤ (k3 : Int) := by omega
                have hB1 : (k3 : Int) < (nB : Int) := by omega
                go_wp2
                go_round
                case rel => exact ⟨k3 + 1, by omega, by go_num, by rw [HNX.out]⟩
                case measure => simp [intOf]; omega
              · have hke : B.take k3 = B := List.take_of_length_le (by rw [← HNB.out]; omega)
                rw [hke]
                obtain ⟨T, hT⟩ : ∃ T, T = catB B := ⟨_, rfl⟩
                have hTs : T.size ≤ 168 := by rw [hT]; exact HSB.out.2
                have HTW : Hid (wds T = ws) := hidOf (by rw [hT]; exact HSB.out.1)
                rw [← hT]
                clear hke hT
                obtain ⟨c0, hc0'⟩ : ∃ c0, c0 = c 0 := ⟨_, rfl⟩
                have HCZ := hidOf hc0'
                clear hc0'
                go_wp2_with fail
                refine (iLeast_any (.slice av n cv) w.heap.size n ws W c wr (by omega) (by have := HBG.out; omega) (by omega) HCO.out ho5).mono ?_
                rw [HOK.out, if_pos rfl, ← HCZ.out]
                rintro e w6 ⟨rfl, hb6⟩
                have hB6 := hB5.trans (hb6.mono hs5)
                have hs6 := hB6.size
                have ho6 := owns_below ho5 hb6
                have hoA6 := owns_below hoA5 hb6
                have hoB6 := owns_below hoB5 hb6
                clear ho5 hoA5 hoB5 hb6 hB5
                go_wp2_with fail
                refine (sWords_any S w6 (by omega)).mono ?_
                rw [HSW.out]
                rintro e w7 ⟨hb7, v7, rfl, ho7⟩
                rw [← HN.out] at ho7
                obtain ⟨a7, c7, rfl⟩ := owns_slice ho7
                have hB7 := hB6.trans (hb7.mono hs6)
                have hs7 := hB7.size
                have ho8 := owns_below ho6 hb7
                have hoA8 := owns_below hoA6 hb7
                have hoB8 := owns_below hoB6 hb7
                clear ho6 hoA6 hoB6 hb7 hB6
                go_wp2_with fail
                refine (same_any (.slice a7 n c7) (.slice av n cv) _ _ n ws w7 (by omega) ho7 ho8).mono ?_
                rintro e w9 ⟨rfl, q9, rfl⟩
                have hB9 := bel_drewN hB7 q9
                have hs9 := hB9.size
                go_wp2_with fail
                refine (sWords_any T (w7.drewN q9) (by omega)).mono ?_
                rw [HTW.out]
                rintro e w10 ⟨hb10, v10, rfl, ho10⟩
                rw [← HN.out] at ho10
                obtain ⟨a10, c10, rfl⟩ := owns_slice ho10
                have hB10 := hB9.trans (hb10.mono hs9)
                have hs10 := hB10.size
                have ho11 := owns_below (w := w7.drewN q9) ho8 hb10
                have hoA11 := owns_below (w := w7.drewN q9) hoA8 hb10
                have hoB11 := owns_below (w := w7.drewN q9) hoB8 hb10
                clear ho7 ho8 hoA8 hoB8 hb10 hB9 hB7
                go_wp2_with fail
                refine (same_any (.slice a10 n c10) (.slice av n cv) _ _ n ws w10 (by omega) ho10 ho11).mono ?_
                rintro e w12 ⟨rfl, q12, rfl⟩
                have hB12 := bel_drewN hB10 q12
                go_wp2_with fail
                refine (iRag_any (.slice aB nB cB) _ nB B W (w10.drewN q12) (by omega) (by omega) hoB11).mono ?_
                rw [← HRB.out, ← HCZ.out]
                rintro e w13 ⟨rfl, rfl⟩
                obtain ⟨r, hr⟩ : ∃ r, r = rag A W := ⟨_, rfl⟩
                have hrr : c0 ≤ r := by rw [hr, HCZ.out]; exact HRA.out
                have HRR := hidOf hr
                have hd : decide (c0 ≤ r) = true := decide_eq_true hrr
                clear hr
                go_wp2_with fail
                refine (iRag_any (.slice aA nA cA) _ nA A W (w10.drewN q12) (by omega) (by omega) hoA11).mono ?_
                rw [← HRR.out]
                rintro e w14 ⟨rfl, rfl⟩
                cases lg
                · have hAB : nA ≤ nB := by rw [HNA.out, HNB.out]; exact HAB.out HLG.out.symm
                  have hd2 : decide ((nA : Int) ≤ (nB : Int)) = true := decide_eq_true (by omega)
                  go_wp2
                  go_ret
                  exact ⟨rfl, hB12⟩
                · go_wp2
                  go_ret
                  exact ⟨rfl, hB12⟩
end Go.Proofs.YtabbfpkhlofccaaDoor
