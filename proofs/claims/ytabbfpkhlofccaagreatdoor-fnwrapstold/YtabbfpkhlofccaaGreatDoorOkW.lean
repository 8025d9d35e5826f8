/- Whether words are right: impl.wordsOk. -/
import Derived.Test.YtabbfpkhlofccaaGreatDoorShelf
import Derived.Test.YtabbfpkhlofccaaGreatDoorWrapWd
import Derived.WalkKit
import Derived.Laws.OwnMore
namespace Go.Proofs.YtabbfpkhlofccaaGreatDoor
open Go.RowKit

theorem ok_not {ws : List ByteArray} {k : Nat} {x : ByteArray} (hx : ws[k]? = some x) (h : wOk x = false) : wsOk ws = false := by
  cases hb : wsOk ws with
  | false => rfl
  | true =>
    have := (wsOk_all hb).2 x (List.mem_of_getElem? hx)
    rw [h] at this
    cases this
theorem ok_all {ws : List ByteArray} (hl : ws.length ≤ 60) (h : ∀ j x, j < ws.length → ws[j]? = some x → wOk x = true) : wsOk ws = true := by
  unfold wsOk
  rw [Bool.and_eq_true, decide_eq_true_eq, List.all_eq_true]
  refine ⟨hl, fun x hx => ?_⟩
  obtain ⟨j, hj⟩ := List.mem_iff_getElem?.1 hx
  exact h j x (List.getElem?_eq_some_iff.1 hj).1 hj
theorem ok_many {ws : List ByteArray} (hl : 60 < ws.length) : wsOk ws = false := by
  unfold wsOk
  rw [decide_eq_false (by omega)]
  rfl

set_option maxHeartbeats 1600000 in
set_option maxRecDepth 20000 in
theorem iOk_any (v : Value) (b n : Nat) (ws : List ByteArray) (w : World) (hn : n ≤ 4611686018427387904) (hown : w.ownsRow b 9 1 v n (strVals ws)) :
    Calls Tryz.prog 29 #[v] w fun e w' => e = .returned (.bool (wsOk ws)) ∧ w' = w := by
  have hl : ws.length = n := by have := hown.1; simpa [strVals] using this
  obtain ⟨ao, cv, rfl⟩ := owns_slice hown
  have HL := hidOf hl
  clear hl
  by_cases h60 : 60 < n
  · go_enter Tryz.func29, Tryz.ntmps29
    go_wp2
    go_ret
    exact ⟨ret_bool (ok_many (by rw [HL.out]; exact h60)).symm, rfl⟩
  · go_enter Tryz.func29, Tryz.ntmps29
    go_wp2
    go_loop [10] (fun i => ∃ k : Nat, k ≤ n ∧ i = .int .i64 k ∧ Hid (∀ j x, j < k → ws[j]? = some x → wOk x = true)) (fun i => n - (intOf i).toNat)
    case atStart => exact ⟨0, Nat.zero_le _, rfl, hidOf (fun j x h => by omega)⟩
    case round =>
      obtain ⟨k, hk, rfl, HA⟩ := hrel
      by_cases hlt : k < n
      · obtain ⟨x, hx⟩ : ∃ x, ws[k]? = some x := ⟨_, List.getElem?_eq_getElem (by rw [HL.out]; exact hlt)⟩
        obtain ⟨g, rfl⟩ := owns_at hown (by omega)
        have hc := hown.cellAt k (by omega)
        rw [show (strVals ws)[k]? = some (.string x) by simp [strVals, hx]] at hc
        have HX := hidOf hx
        clear hx
        have hA : (0 : Int) ≤ (k : Int) := by omega
        have hB : (k : Int) < (n : Int) := by omega
        by_cases h0 : x.size = 0
        · have hE : x.toList.isEmpty = true := by rw [str_nothing, decide_eq_true_eq]; exact h0
          go_wp2
          go_ret
          exact ⟨ret_bool (ok_not HX.out (by unfold wOk; rw [decide_eq_false (by simp [h0])]; rfl)).symm, rfl⟩
        · have hE : x.toList.isEmpty = false := by rw [str_nothing, decide_eq_false_iff_not]; exact h0
          have q := Tryz.strings_Contains_one x 32 w
          rw [has_blank] at q
          cases hm : decide ((32 : UInt8) ∈ x.data.toList)
          · rw [hm] at q
            have HM := hidOf hm
            clear hm
            go_wp2_with (go_at_call 58; refine q.mono ?_; rintro e w1 ⟨rfl, rfl⟩)
            go_round
            case rel =>
              refine ⟨k + 1, by omega, by go_num, hidOf (fun j y hj hy => ?_)⟩
              by_cases hjk : j = k
              · subst hjk
                have : y = x := by rw [HX.out] at hy; cases hy; rfl
                subst this
                unfold wOk
                rw [Bool.and_eq_true]
                exact ⟨by simp [h0], by simpa using HM.out⟩
              · exact HA.out j y (by omega) hy
            case measure => simp [intOf]; omega
          · rw [hm] at q
            have HM := hidOf hm
            clear hm
            go_wp2_with (go_at_call 58; refine q.mono ?_; rintro e w1 ⟨rfl, rfl⟩)
            go_ret
            refine ⟨ret_bool (ok_not HX.out ?_).symm, rfl⟩
            unfold wOk
            have : decide ((32 : UInt8) ∉ x.data.toList) = false := by
              rw [decide_eq_false_iff_not, Decidable.not_not]
              exact of_decide_eq_true HM.out
            rw [this, Bool.and_false]
      · have hke : k = n := by omega
        have HK := hidOf hke
        clear hke
        go_wp2
        go_ret
        exact ⟨ret_bool (ok_all (by rw [HL.out]; omega) (fun j x hj hx => HA.out j x (by rw [HK.out, ← HL.out]; exact hj) hx)).symm, rfl⟩
end Go.Proofs.YtabbfpkhlofccaaGreatDoor
