/- What spec.Neat answers. -/
import Derived.Test.YtlejdjbhbkknlaaLineS
import Derived.Test.YtlejdjbhbkknlaaTrimS
import Derived.Test.YtlejdjbhbkknlaaPlnP
import Derived.Deep.QuietTactic
import Derived.BigQuiet
namespace Go.Proofs.Ytlejdjbhbkknlaa
open Go.RowKit

/-- What the specification looks at, at one line. -/
def OneOk (ls : List ByteArray) (i : Nat) (t : ByteArray) : Prop := OkLn t ∧ (t.size = 0 → ∃ u, ls[i + 1]? = some u ∧ u.size ≠ 0)

theorem ownsRow_drewN {w : World} {b e m n : Nat} {v : Value} {l : List Value} (h : w.ownsRow b e m v n l) (q : Nat) : (w.drewN q).ownsRow b e m v n l := owns_below h (below_drewN w q)

set_option maxHeartbeats 8000000 in
set_option maxRecDepth 20000 in
theorem sNeat_any (s : ByteArray) (w : World) (hs : s.size ≤ 1048576) :
    Calls Try.prog 5 #[.string s] w fun e w' => TelB (NeatP s) w e w' := by
  have hmany := lns_many s
  have hby := by8_at s
  by_cases h0 : s.size = 0
  · have hE : s.toList.isEmpty = true := by rw [str_none, decide_eq_true_eq]; exact h0
    go_enter Try.func5, Try.ntmps5
    go_wp2_with fail
    go_ret
    exact telB_yes (.inl h0) (Below.refl _ _)
  · have hE : s.toList.isEmpty = false := by rw [str_none, decide_eq_false_iff_not]; exact h0
    have hA1 : (0 : Int) ≤ (s.size : Int) - 1 := by omega
    have hB1 : (s.size : Int) - 1 < (s.size : Int) := by omega
    have hC1 : ((s.size : Int) - 1).toNat = s.size - 1 := by omega
    have hr1 := by8_range s (s.size - 1)
    have hr0 := by8_range s 0
    have hlt0 : 0 < s.size := by omega
    have hlt1 : s.size - 1 < s.size := by omega
    by_cases h10 : by8 s (s.size - 1) = 10
    · have hd : (by8 s (s.size - 1) != 10) = false := by simp [h10]
      by_cases hz : by8 s 0 = 10
      · have hd0 : (by8 s 0 == 10) = true := by simp [hz]
        have HZ := hidOf hz
        clear hz
        have H10 := hidOf h10
        clear h10
        go_enter Try.func5, Try.ntmps5
        go_wp2_with fail
        go_ret
        exact telB_no (fun h => (h.resolve_left h0).2.1 HZ.out) (Below.refl _ _)
      · have hd0 : (by8 s 0 == 10) = false := by simp [hz]
        have HZ := hidOf hz
        clear hz
        have H10 := hidOf h10
        clear h10
        go_enter Try.func5, Try.ntmps5
        go_wp2_with fail
        refine (sLines_any s _ (by omega)).mono ?_
        rintro e w1 ⟨hb1, v, rfl, hown⟩
        have hsz : ∀ t ∈ lns s, t.size ≤ 1048576 := fun t ht => Nat.le_trans (lns_size ht) hs
        obtain ⟨ls, hls⟩ : ∃ ls, ls = lns s := ⟨_, rfl⟩
        rw [← hls] at hown hmany hsz
        have HL := hidOf hls
        clear hls
        obtain ⟨n, hn⟩ : ∃ n, n = ls.length := ⟨_, rfl⟩
        rw [← hn] at hown hmany
        have HN := hidOf hn
        clear hn
        obtain ⟨ao, cv, rfl⟩ := owns_slice hown
        have HSz := hidOf hsz
        clear hA1 hB1 hC1 hr1 hr0 hlt1 hd hd0 hby hsz
        go_wp2
        go_loopw [4] (fun i wr => ∃ k : Nat, k ≤ n ∧ i = .int .i64 k ∧ Below w.heap.size w wr ∧ wr.ownsRow w.heap.size 9 1 (.slice ao n cv) n (strVals ls) ∧ Hid (∀ (j : Nat) (t : ByteArray), j < k → ls[j]? = some t → OneOk ls j t)) (fun i _ => n - (intOf i).toNat)
        case atStart => exact ⟨0, Nat.zero_le _, rfl, hb1, hown, hidOf fun j t h => by omega⟩
        case round =>
          obtain ⟨k, hk, rfl, hB, hO, HA⟩ := hrel
          clear hown hb1
          by_cases hlt : k < n
          · obtain ⟨t, ht⟩ : ∃ t, ls[k]? = some t := ⟨_, List.getElem?_eq_getElem (by rw [← HN.out]; exact hlt)⟩
            have hts := HSz.out t (List.mem_of_getElem? ht)
            have hbw := hB.size
            obtain ⟨g, rfl⟩ := owns_at hO (by omega)
            have hgl := (hO.lt g rfl).2
            have hc := hO.cellAt k (by omega)
            rw [show (strVals ls)[k]? = some (.string t) by simp [strVals, ht]] at hc
            have HT := hidOf ht
            have hA : (0 : Int) ≤ (k : Int) := by omega
            have hBk : (k : Int) < (n : Int) := by omega
            clear ht
            have qT := fun W => sTrim_any t W (by omega)
            obtain ⟨bp, hbp⟩ := tel_bool (Pln t)
            have qP : ∀ W, Calls Try.prog 11 #[.string t] W fun e w' => e = .returned (.bool bp) ∧ w' = W := fun W => (sPln_any t W (by omega)).mono fun e w' h => h.is hbp
            have HBP := hidOf hbp
            clear hbp
            have hbad : ¬ OneOk ls k t → ¬ NeatP s := fun h1 h2 => h1 (by
              have h3 := (h2.resolve_left h0).2.2 k t
              rw [← HL.out] at h3
              exact h3 HT.out)
            by_cases hT : trimB t = t
            · rw [hT] at qT
              have HTr := hidOf hT
              clear hT
              cases bp with
              | true =>
                have HP := hidOf (HBP.out.1 rfl)
                clear HBP
                have hOk : OkLn t := ⟨(trim_same t).1 HTr.out, HP.out⟩
                by_cases hz0 : t.size = 0
                · have hEm : t.toList.isEmpty = true := by rw [str_none, decide_eq_true_eq]; exact hz0
                  by_cases hl : k + 1 < n
                  · obtain ⟨u, hu⟩ : ∃ u, ls[k + 1]? = some u := ⟨_, List.getElem?_eq_getElem (by rw [← HN.out]; exact hl)⟩
                    have hc2 := hO.cellAt (k + 1) (by omega)
                    rw [show (strVals ls)[k + 1]? = some (.string u) by simp [strVals, hu]] at hc2
                    have HU := hidOf hu
                    clear hu
                    have hl2 : (k : Int) + 1 < (n : Int) := by omega
                    have hl3 : ((k : Int) + 1 == (n : Int)) = false := by rw [beq_eq_false_iff_ne]; omega
                    have hw1 : IntKind.i64.wrap ((k : Int) + 1) = (k : Int) + 1 := IntWalk.i64_in _ ⟨by omega, by omega⟩
                    by_cases hu0 : u.size = 0
                    · have hEu : u.toList.isEmpty = true := by rw [str_none, decide_eq_true_eq]; exact hu0
                      go_wp2
                      go_quiet ((first | (go_at_call 10; exact Calls.quiet_of_same (qT _)) | (go_at_call 11; exact Calls.quiet_of_same (qP _))))
                      go_wp2
                      go_ret
                      exact telB_no (hbad fun h => by
                        obtain ⟨x, h1, h2⟩ := h.2 hz0
                        have e1 := HU.out
                        rw [h1] at e1
                        injection e1 with e1
                        rw [e1] at h2
                        exact h2 hu0) (bel_drewN hB _)
                    · have hEu : u.toList.isEmpty = false := by rw [str_none, decide_eq_false_iff_not]; exact hu0
                      go_wp2
                      go_quiet ((first | (go_at_call 10; exact Calls.quiet_of_same (qT _)) | (go_at_call 11; exact Calls.quiet_of_same (qP _))))
                      go_wp2
                      go_roundw
                      case rel => exact ⟨k + 1, by omega, by go_num, bel_drewN hB _, ownsRow_drewN hO _, hidOf fun j x hj hx => by
                        by_cases e : j = k
                        · subst e
                          have e1 := HT.out
                          rw [hx] at e1
                          injection e1 with e1
                          subst e1
                          exact ⟨hOk, fun _ => ⟨u, HU.out, hu0⟩⟩
                        · exact HA.out j x (by omega) hx⟩
                      case measure => simp [intOf]; omega
                  · have hl3 : ((k : Int) + 1 == (n : Int)) = true := by rw [beq_iff_eq]; omega
                    have hw1 : IntKind.i64.wrap ((k : Int) + 1) = (k : Int) + 1 := IntWalk.i64_in _ ⟨by omega, by omega⟩
                    go_wp2
                    go_quiet ((first | (go_at_call 10; exact Calls.quiet_of_same (qT _)) | (go_at_call 11; exact Calls.quiet_of_same (qP _))))
                    go_wp2
                    go_ret
                    exact telB_no (hbad fun h => by
                      obtain ⟨x, h1, h2⟩ := h.2 hz0
                      have := (List.getElem?_eq_some_iff.1 h1).1
                      have := HN.out
                      omega) (bel_drewN hB _)
                · have hEm : t.toList.isEmpty = false := by rw [str_none, decide_eq_false_iff_not]; exact hz0
                  go_wp2
                  go_quiet ((first | (go_at_call 10; exact Calls.quiet_of_same (qT _)) | (go_at_call 11; exact Calls.quiet_of_same (qP _))))
                  go_wp2
                  go_roundw
                  case rel => exact ⟨k + 1, by omega, by go_num, bel_drewN hB _, ownsRow_drewN hO _, hidOf fun j x hj hx => by
                    by_cases e : j = k
                    · subst e
                      have e1 := HT.out
                      rw [hx] at e1
                      injection e1 with e1
                      subst e1
                      exact ⟨hOk, fun h => absurd h hz0⟩
                    · exact HA.out j x (by omega) hx⟩
                  case measure => simp [intOf]; omega
              | false =>
                have HP := hidOf (show ¬ Pln t from fun h => by have := HBP.out.2 h; cases this)
                clear HBP
                go_wp2
                go_quiet ((first | (go_at_call 10; exact Calls.quiet_of_same (qT _)) | (go_at_call 11; exact Calls.quiet_of_same (qP _))))
                go_wp2
                go_ret
                exact telB_no (hbad fun h => HP.out h.1.2) (bel_drewN hB _)
            · obtain ⟨u, hu⟩ : ∃ u, u = trimB t := ⟨_, rfl⟩
              rw [← hu] at qT hT
              have hE : (u.toList == t.toList) = false := by rw [str_beq]; simpa using hT
              have HTr := hidOf (show ¬ OneOk ls k t from fun h => hT (hu.trans ((trim_same t).2 h.1.1)))
              clear hT hu HBP
              go_wp2
              go_quiet ((first | (go_at_call 10; exact Calls.quiet_of_same (qT _)) | (go_at_call 11; exact Calls.quiet_of_same (qP _))))
              go_wp2
              go_ret
              exact telB_no (hbad HTr.out) (bel_drewN hB _)
          · go_wp2
            go_ret
            exact telB_yes (.inr ⟨H10.out, HZ.out, fun i t hi => by
              rw [← HL.out] at hi ⊢
              have := (List.getElem?_eq_some_iff.1 hi).1
              have := HN.out
              exact HA.out i t (by omega) hi⟩) hB
    · have hd : (by8 s (s.size - 1) != 10) = true := by simp [h10]
      have H10 := hidOf h10
      clear h10
      go_enter Try.func5, Try.ntmps5
      go_wp2_with fail
      go_ret
      exact telB_no (fun h => H10.out (h.resolve_left h0).1) (Below.refl _ _)
end Go.Proofs.Ytlejdjbhbkknlaa
