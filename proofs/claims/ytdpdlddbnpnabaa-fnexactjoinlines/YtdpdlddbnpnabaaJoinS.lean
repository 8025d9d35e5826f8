/- What spec.JoinLines answers. -/
import Derived.Test.YtdpdlddbnpnabaaLineLib
import Derived.Test.YtdpdlddbnpnabaaProg
import Derived.WalkKit
import Derived.Laws.OwnMore
namespace Go.Proofs.Ytdpdlddbnpnabaa
open Go.RowKit

set_option maxHeartbeats 1600000 in
set_option maxRecDepth 20000 in
theorem sJoin_any (v : Value) (b n : Nat) (ss : List ByteArray) (w : World) (hj : (joins ss).size ≤ 8388608) (hown : w.ownsRow b 9 1 v n (strVals ss)) :
    Calls Try.prog 13 #[v] w fun e w' => e = .returned (.string (joins ss)) ∧ w' = w := by
  have hmany := joins_many ss
  have hl : ss.length = n := by have := hown.1; simpa [strVals] using this
  obtain ⟨ao, cv, rfl⟩ := owns_slice hown
  have HL := hidOf hl
  rw [hl] at hmany
  clear hl
  go_enter Try.func13, Try.ntmps13
  go_wp2
  go_loop [3, 4] (fun r i => ∃ (k : Nat), k ≤ n ∧ r = .string (joins (ss.take k)) ∧ i = .int .i64 k) (fun _ i => n - (intOf i).toNat)
  case atStart => exact ⟨0, Nat.zero_le _, rfl, rfl⟩
  case round =>
    obtain ⟨k, hk, rfl, rfl⟩ := hrel
    by_cases hlt : k < n
    · obtain ⟨t, ht⟩ : ∃ t, ss[k]? = some t := ⟨_, List.getElem?_eq_getElem (by rw [HL.out]; exact hlt)⟩
      obtain ⟨g, rfl⟩ := owns_at hown (by omega)
      have hc := hown.cellAt k (by omega)
      rw [show (strVals ss)[k]? = some (.string t) by simp [strVals, ht]] at hc
      have hroom := joins_room ht
      have hnext := joins_next ht
      obtain ⟨u, hu⟩ : ∃ u, u = joins (ss.take k) := ⟨_, rfl⟩
      rw [← hu] at hroom hnext ⊢
      have HX := hidOf hnext
      clear hnext hu ht
      have hA : (0 : Int) ≤ (k : Int) := by omega
      have hB : (k : Int) < (n : Int) := by omega
      go_wp2
      go_round
      case rel => exact ⟨k + 1, by omega, by rw [HX.out], by go_num⟩
      case measure => simp [intOf]; omega
    · have hke : k = n := by omega
      have HK := hidOf hke
      clear hke
      go_wp2
      go_ret
      refine ⟨ret_str ?_, rfl⟩
      rw [HK.out, List.take_of_length_le (by rw [HL.out]; exact Nat.le_refl _)]
end Go.Proofs.Ytdpdlddbnpnabaa
