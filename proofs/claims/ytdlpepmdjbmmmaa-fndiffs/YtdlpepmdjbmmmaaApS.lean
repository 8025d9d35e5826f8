/- What spec.ApplyEdits answers. -/
import Derived.Test.YtdlpepmdjbmmmaaApJ
namespace Go.Proofs.Ytdlpepmdjbmmmaa
open Go.RowKit

theorem sIn_any (x a b : Int) (w : World) : Calls Try.prog 47 #[.int .i64 x, .int .i64 a, .int .i64 b] w fun e w' => e = .returned (.bool (decide (a ≤ x ∧ x ≤ b))) ∧ w' = w := by
  by_cases h : a ≤ x
  · by_cases h2 : x ≤ b
    · rw [decide_eq_true ⟨h, h2⟩]
      go_enter Try.func47, Try.ntmps47
      go_wp2
      go_ret
      exact ⟨rfl, rfl⟩
    · rw [decide_eq_false (fun e => h2 e.2)]
      go_enter Try.func47, Try.ntmps47
      go_wp2
      go_ret
      exact ⟨rfl, rfl⟩
  · rw [decide_eq_false (fun e => h e.1)]
    go_enter Try.func47, Try.ntmps47
    go_wp2
    go_ret
    exact ⟨rfl, rfl⟩

theorem box_facts (wr wa : World) (u v : Value) (T : TypeId) (h : wa = wr.alloc (.cells #[u, v] T)) : wa.heap.size = wr.heap.size + 1 ∧ wa.cell? ⟨wr.heap.size, 0, none⟩ = some u ∧ wa.cell? ⟨wr.heap.size, 1, none⟩ = some v ∧ Below wr.heap.size wr wa ∧ (∀ b o, b < wr.heap.size → wa.cell? ⟨b, o, none⟩ = wr.cell? ⟨b, o, none⟩) := by
  subst h
  exact ⟨by simp, cell_of_row _ _ 0 _ _ _ (heap_alloc_new wr _), cell_of_row _ _ 1 _ _ _ (heap_alloc_new wr _), alloc_below wr _, fun b o h => (alloc_below wr _).cell (p := ⟨b, o, none⟩) h⟩

set_option maxHeartbeats 4000000 in
theorem sApply_any (lv v : Value) (ls : List ByteArray) (xs : List Ed) (w : World) (hL0 : ls.length ≤ 1048576) (hn0 : xs.length ≤ 1048576) (hl : LftAt w lv ls) (hT : EdsAt w v xs) :
    Calls Try.prog 17 #[lv, v] w fun e w' => ApAns (apl ls xs) w e w' := by
  obtain ⟨i0, hi, hz0, hz1, hz2⟩ := info_parts infoStrA
  obtain ⟨a, c, rfl, h⟩ := hT
  obtain ⟨n, hn⟩ : ∃ n, n = xs.length := ⟨_, rfl⟩
  rw [← hn] at h hn0 ⊢
  have HN := hidOf hn
  clear hn
  obtain ⟨la, lc, rfl, hlc, hlx⟩ := hl
  obtain ⟨m, hm⟩ : ∃ m, m = ls.length := ⟨_, rfl⟩
  rw [← hm] at hlc hlx hL0 ⊢
  have HM := hidOf hm
  clear hm
  have hm0 := World.ownsRow_made (base := w.heap.size) (e := 9) (size := 1) w #[] 0 (Nat.le_refl _) (by decide) rfl
  have hm1 := World.ownsRow_made (base := w.heap.size) (e := 9) (size := 1) (w.alloc (.cells #[] 9)) #[] 0 (by simp) (by decide) rfl
  have hm0 := hm0.alloc (.cells #[] 9)
  have hb0 : Below w.heap.size w ((w.alloc (.cells #[] 9)).alloc (.cells #[] 9)) := ((Below.refl _ w).alloc (Nat.le_refl _) _).alloc (by simp) _
  rw [World.size_alloc] at hm1
  go_enter Try.func17, Try.ntmps17
  go_wp2
  go_loopw [7, 8, 9] (fun v i q wr => ∃ (k j : Nat) (d : List ByteArray), k ≤ n ∧ j ≤ m ∧ q = .int .i64 k ∧ i = .int .i64 j ∧ d.length ≤ k ∧ Hid (aplF (ls.drop j) d (xs.drop k) = apl ls xs) ∧ wr.ownsRow w.heap.size 9 1 v d.length (strVals d) ∧ v.ownBlock ≠ some w.heap.size ∧ wr.ownsRow w.heap.size 9 1 (.slice (some ⟨w.heap.size, 0, none⟩) 0 0) 0 [] ∧ Below w.heap.size w wr) (fun _ _ q _ => n - (intOf q).toNat)
  case atStart => exact ⟨0, 0, [], Nat.zero_le _, Nat.zero_le _, rfl, rfl, Nat.le_refl _, rfl, hm1, (fun e => by simp [Value.ownBlock] at e), hm0, hb0⟩
  case round =>
    obtain ⟨k, j, d, hk, hj, rfl, rfl, hd1, HA, ho, hne, hnn, hb⟩ := hrel
    obtain ⟨a1, c1, rfl⟩ := owns_slice ho
    clear hm0 hm1 hb0
    have hsz := hb.size
    by_cases hlt : k < n
    · obtain ⟨x, ex⟩ : ∃ x, xs[k]? = some x := ⟨_, List.getElem?_eq_getElem (by rw [← HN.out]; exact hlt)⟩
      obtain ⟨b1, o1, rfl, hb1, hc1⟩ := h (by omega)
      obtain ⟨p0, p1⟩ := cells2 (w := wr) (fun j hj => by rw [hb.cell hb1]; exact hc1 k x ex j hj)
      have HD := hidOf (drop_cons ex)
      clear ex hc1 h
      have hA : (0 : Int) ≤ (k : Int) := by omega
      have hB : (k : Int) < (n : Int) := by omega
      have hq0 := sIn_any x.kind 1 3
      by_cases hin : 1 ≤ x.kind ∧ x.kind ≤ 3
      rotate_left
      · have hz : stp x (ls.drop j) d = none := stp_other (by omega) (by omega) (by omega)
        have HS := hidOf hz
        rw [decide_eq_false hin] at hq0
        clear hz hin
        go_wp2_with fail
        refine (hq0 _).mono ?_
        rintro e wa ⟨rfl, hwa⟩
        obtain ⟨sa, ca0, ca1, Ba, ya⟩ := box_facts wr wa (.int .i64 x.kind) (.string x.line) 55 hwa
        have hoa := owns_below ho Ba
        have hna := owns_below hnn Ba
        have hba := hb.trans (Ba.mono hsz)
        have sl : wr.heap.size < wa.heap.size := by omega
        clear hwa sa
        go_wp2
        go_ret2
        have hq : apl ls xs = none := by rw [← HA.out, HD.out]; exact aplF_no HS.out
        rw [hq]
        exact ⟨hba, _, rfl, hna⟩
      · rw [decide_eq_true hin] at hq0
        have hB1 := hb.alloc hsz (.cells #[.int .i64 x.kind, .string x.line] 55)
        by_cases h3 : x.kind = 3
        · have HS := hidOf (stp_three (ls := ls.drop j) (ds := d) h3)
          rw [h3] at p0 hq0
          clear h3 hin
          go_wp2_with fail
          refine (hq0 _).mono ?_
          rintro e wa ⟨rfl, hwa⟩
          obtain ⟨sa, ca0, ca1, Ba, ya⟩ := box_facts wr wa (.int .i64 (3)) (.string x.line) 55 hwa
          have hoa := owns_below ho Ba
          have hna := owns_below hnn Ba
          have hba := hb.trans (Ba.mono hsz)
          have sl : wr.heap.size < wa.heap.size := by omega
          clear hwa sa
          go_wp2_with (at_builtin; refine wpList_append_own2 rfl _ _ 24 rfl w.heap.size 9 i0 (.string ByteArray.empty) 1 16 Try.underlying24 hi hz0 hz1 hz2 rfl (by decide) _ _ _ rfl (hoa.alloc _) ⟨wa.heap.size, 0, none⟩ 1 1 [.string x.line] rfl rfl (cell_one_new wa _ _) (fun x hx => by simp at hx; subst hx; rfl) (by unfold maxLen; omega) (by omega) (by simp; omega) ?_; intro v' w4 hown' hgrow4 hpl4)
          go_roundw
          case rel =>
            refine ⟨k + 1, j, d ++ [x.line], by omega, hj, by go_num, rfl, by simp; omega, hidOf (by rw [← HA.out, HD.out]; exact (aplF_yes HS.out).symm), by simpa [strVals] using hown', fun e => ?_, World.ownsRow.kept (hna.alloc _) hgrow4 (.inr (fun e => hne e.symm)), (hba.alloc hba.size _).grown hgrow4 (by simp; omega) (fun q hq => (ho.lt q hq).1)⟩
            rcases hpl4 _ e with h | h
            · exact hne h
            · simp at h; omega
          case measure => simp [intOf]; omega
        · have n3 : (x.kind == 3) = false := by rw [beq_eq_false_iff_ne]; exact h3
          have h12 : x.kind = 1 ∨ x.kind = 2 := by omega
          by_cases hjm : j < m
          rotate_left
          · have hz : ls.drop j = [] := List.drop_of_length_le (by rw [← HM.out]; omega)
            have hs : stp x (ls.drop j) d = none := by rw [hz]; rcases h12 with h | h; exact stp_one_nil h; exact stp_two_nil h
            have HS := hidOf hs
            have hjm2 : j = m := by omega
            clear hs hz h12 h3 hin
            subst hjm2
            go_wp2_with fail
            refine (hq0 _).mono ?_
            rintro e wa ⟨rfl, hwa⟩
            obtain ⟨sa, ca0, ca1, Ba, ya⟩ := box_facts wr wa (.int .i64 x.kind) (.string x.line) 55 hwa
            have hoa := owns_below ho Ba
            have hna := owns_below hnn Ba
            have hba := hb.trans (Ba.mono hsz)
            have sl : wr.heap.size < wa.heap.size := by omega
            clear hwa sa
            go_wp2
            go_quiet (fail)
            go_wp2
            go_ret2
            have hq : apl ls xs = none := by rw [← HA.out, HD.out]; exact aplF_no HS.out
            rw [hq]
            refine ⟨?_, _, rfl, ?_⟩
            · exact bel_drewN hba nq
            · exact owns_below hna (below_drewN _ nq)
          · obtain ⟨y, ey⟩ : ∃ y, ls[j]? = some y := ⟨_, List.getElem?_eq_getElem (by rw [← HM.out]; exact hjm)⟩
            obtain ⟨b2, o2, rfl, hb2, hc2⟩ := hlx (by omega)
            have y0 : wr.cell? ⟨b2, o2 + j, none⟩ = some (.string y) := (hb.cell (p := ⟨b2, o2 + j, none⟩) hb2).trans (hc2 j y ey)
            have hb2r : b2 < wr.heap.size := by omega
            have HY := hidOf (drop_cons ey)
            have hne2 : b2 ≠ wr.heap.size := by omega
            clear ey hc2 hlx
            have hAj : (0 : Int) ≤ (j : Int) := by omega
            have hBj : (j : Int) < (m : Int) := by omega
            by_cases hyx : y = x.line
            rotate_left
            · have hs : stp x (ls.drop j) d = none := by rw [HY.out]; rcases h12 with h | h; exact stp_one_no h hyx; exact stp_two_no h hyx
              have HS := hidOf hs
              have ht : (y.toList == x.line.toList) = false := by rw [str_beq, decide_eq_false hyx]
              clear hs h12 h3 hin hyx
              go_wp2_with fail
              refine (hq0 _).mono ?_
              rintro e wa ⟨rfl, hwa⟩
              obtain ⟨sa, ca0, ca1, Ba, ya⟩ := box_facts wr wa (.int .i64 x.kind) (.string x.line) 55 hwa
              have hoa := owns_below ho Ba
              have hna := owns_below hnn Ba
              have hba := hb.trans (Ba.mono hsz)
              have y1 := (ya b2 (o2 + j) hb2r).trans y0
              have sl : wr.heap.size < wa.heap.size := by omega
              clear hwa sa
              go_wp2
              go_quiet (fail)
              go_wp2
              go_ret2
              have hq : apl ls xs = none := by rw [← HA.out, HD.out]; exact aplF_no HS.out
              rw [hq]
              refine ⟨?_, _, rfl, ?_⟩
              · exact bel_drewN hba nq
              · exact owns_below hna (below_drewN _ nq)
            · have ht : (y.toList == x.line.toList) = true := by rw [str_beq, decide_eq_true hyx]
              rcases h12 with h1 | h2
              · have HS : Hid (stp x (ls.drop j) d = some (ls.drop (j + 1), d ++ [x.line])) := hidOf (by rw [HY.out]; exact stp_one h1 hyx)
                rw [h1] at p0 hq0
                clear h1 h3 hin hyx n3
                go_wp2_with fail
                refine (hq0 _).mono ?_
                rintro e wa ⟨rfl, hwa⟩
                obtain ⟨sa, ca0, ca1, Ba, ya⟩ := box_facts wr wa (.int .i64 (1)) (.string x.line) 55 hwa
                have hoa := owns_below ho Ba
                have hna := owns_below hnn Ba
                have hba := hb.trans (Ba.mono hsz)
                have y1 := (ya b2 (o2 + j) hb2r).trans y0
                have sl : wr.heap.size < wa.heap.size := by omega
                clear hwa sa
                go_wp2
                go_quiet (fail)
                have hoa := owns_below hoa (below_drewN _ nq)
                have hna := owns_below hna (below_drewN _ nq)
                have hba := bel_drewN hba nq
                go_wp2_with (at_builtin; refine wpList_append_own2 rfl _ _ 24 rfl w.heap.size 9 i0 (.string ByteArray.empty) 1 16 Try.underlying24 hi hz0 hz1 hz2 rfl (by decide) _ _ _ rfl (hoa.alloc _) ⟨wa.heap.size, 0, none⟩ 1 1 [.string x.line] rfl rfl (cell_one_new (wa.drewN nq) _ _) (fun x hx => by simp at hx; subst hx; rfl) (by unfold maxLen; omega) (by omega) (by simp; omega) ?_; intro v' w4 hown' hgrow4 hpl4)
                go_roundw
                case rel =>
                  refine ⟨k + 1, j + 1, d ++ [x.line], by omega, by omega, by go_num, by go_num, by simp; omega, hidOf (by rw [← HA.out, HD.out]; exact (aplF_yes HS.out).symm), by simpa [strVals] using hown', fun e => ?_, World.ownsRow.kept (hna.alloc _) hgrow4 (.inr (fun e => hne e.symm)), (hba.alloc hba.size _).grown hgrow4 (by simp; omega) (fun q hq => (ho.lt q hq).1)⟩
                  rcases hpl4 _ e with h | h
                  · exact hne h
                  · simp at h; omega
                case measure => simp [intOf]; omega
              · have HS : Hid (stp x (ls.drop j) d = some (ls.drop (j + 1), d)) := hidOf (by rw [HY.out]; exact stp_two h2 hyx)
                rw [h2] at p0 hq0
                clear h2 h3 hin hyx n3
                go_wp2_with fail
                refine (hq0 _).mono ?_
                rintro e wa ⟨rfl, hwa⟩
                obtain ⟨sa, ca0, ca1, Ba, ya⟩ := box_facts wr wa (.int .i64 (2)) (.string x.line) 55 hwa
                have hoa := owns_below ho Ba
                have hna := owns_below hnn Ba
                have hba := hb.trans (Ba.mono hsz)
                have y1 := (ya b2 (o2 + j) hb2r).trans y0
                have sl : wr.heap.size < wa.heap.size := by omega
                clear hwa sa
                go_wp2
                go_quiet (fail)
                go_wp2
                go_roundw
                case rel =>
                  exact ⟨k + 1, j + 1, d, by omega, by omega, by go_num, by go_num, by omega, hidOf (by rw [← HA.out, HD.out]; exact (aplF_yes HS.out).symm), owns_below hoa (below_drewN _ nq), hne, owns_below hna (below_drewN _ nq), bel_drewN hba nq⟩
                case measure => simp [intOf]; omega
    · have hkn : k = n := by omega
      subst hkn
      have hq := HA.out
      rw [List.drop_of_length_le (l := xs) (by rw [← HN.out]; exact Nat.le_refl _)] at hq
      by_cases hjm : j < m
      · rw [aplF_left (by rw [List.length_drop, ← HM.out]; omega)] at hq
        have HQ := hidOf hq
        clear hq h
        go_wp2
        go_ret2
        rw [← HQ.out]
        exact ⟨hb, _, rfl, hnn⟩
      · rw [aplF_end (by rw [List.length_drop, ← HM.out]; omega)] at hq
        have HQ := hidOf hq
        clear hq h
        go_wp2
        go_ret2
        rw [← HQ.out]
        exact ⟨hb, _, rfl, ho⟩
end Go.Proofs.Ytdlpepmdjbmmmaa
