/- What spec.SignAt answers. -/
import Derived.Test.YtlpbhhgikgbfhaaProg
import Derived.Test.YtlpbhhgikgbfhaaWhLib
import Derived.BigQuiet
import Derived.Deep.QuietTactic
namespace Go.Proofs.Ytlpbhhgikgbfhaa
open Go.RowKit

set_option maxHeartbeats 1600000 in
theorem sSignAt_any (v : Value) (xs : List Sg) (at' : Int) (w : World) (hx : xs.length ≤ 4611686018427387904) (h : SgsAt w v xs) :
    Calls Try.prog 5 #[v, .int .i64 at'] w fun e w' => e = .returned (.int .i64 (signAt xs at')) ∧ Below w.heap.size w w' := by
  obtain ⟨a, c, rfl, h⟩ := h
  obtain ⟨n, hn⟩ : ∃ n, n = xs.length := ⟨_, rfl⟩
  unfold signAt
  rw [← hn] at h hx ⊢
  have HN := hidOf hn
  clear hn
  go_enter Try.func5, Try.ntmps5
  go_wp2
  go_loopw [5, 6] (fun o i wr => ∃ k : Nat, k ≤ n ∧ i = .int .i64 k ∧ o = .int .i64 (lastOf (atP xs at') k) ∧ Below w.heap.size w wr) (fun _ i _ => n - (intOf i).toNat)
  case atStart => exact ⟨0, Nat.zero_le _, rfl, rfl, Below.refl _ _⟩
  case round =>
    obtain ⟨k, hk, rfl, rfl, hb⟩ := hrel
    by_cases hlt : k < n
    · obtain ⟨b, off, rfl, hbl, hc⟩ := h (by omega)
      have hcell := hc k (sgNo xs k) (sgNo_at (by have := HN.out; omega))
      obtain ⟨c0, c1, c2, c3⟩ := cells4 hcell
      have d2 := (hb.cell (p := ⟨b, off + k * 4 + 2, none⟩) hbl).trans c2
      by_cases hp : (sgNo xs k).place ≤ at'
      · have H := hidOf (show lastOf (atP xs at') (k + 1) = k by rw [lastOf, atP, if_pos (by simpa using hp)])
        go_wp2
        go_roundw
        case rel => exact ⟨k + 1, by omega, by simp, by rw [H.out], hb⟩
        case measure => simp [intOf]; omega
      · have H := hidOf (show lastOf (atP xs at') (k + 1) = lastOf (atP xs at') k by rw [lastOf, atP, if_neg (by simpa using hp)])
        go_wp2
        go_roundw
        case rel => exact ⟨k + 1, by omega, by simp, by rw [H.out], hb⟩
        case measure => simp [intOf]; omega
    · obtain rfl : k = n := by omega
      go_wp2
      go_ret
      exact ⟨rfl, hb⟩
end Go.Proofs.Ytlpbhhgikgbfhaa
