/- How many bytes of a text are no blank and no byte 10: what the specification tells. -/
import Derived.Test.YtghfpcjgionbaaaLib
import Derived.Test.YtghfpcjgionbaaaProg
namespace Go.Proofs.Ytghfpcjgionbaaa
open Go.RowKit

/-- A byte that counts. -/
def fullB (b : Int) : Bool := (b != 32) && (b != 10)
/-- How many of the first bytes count. -/
def byN (t : ByteArray) : Nat → Nat
  | 0 => 0
  | k + 1 => byN t k + (if fullB (by8 t k) = true then 1 else 0)
theorem byN_yes {t : ByteArray} {k : Nat} (h1 : by8 t k ≠ 32) (h2 : by8 t k ≠ 10) : byN t (k + 1) = byN t k + 1 := by
  rw [byN, if_pos (by unfold fullB; simp [h1, h2])]
theorem byN_no {t : ByteArray} {k : Nat} (h : by8 t k = 32 ∨ by8 t k = 10) : byN t (k + 1) = byN t k := by
  rw [byN, if_neg (by unfold fullB; rcases h with h | h <;> simp [h]), Nat.add_zero]
theorem byN_le (t : ByteArray) : ∀ k, byN t k ≤ k
  | 0 => Nat.le_refl _
  | k + 1 => by
    have := byN_le t k
    rw [byN]
    split <;> omega
set_option maxHeartbeats 1600000 in
theorem sBytes_any (t : ByteArray) (w : World) (hs : t.size ≤ 4194304) :
    Calls Try.prog 25 #[.string t] w fun e w' => e = .returned (.int .i64 (byN t t.size : Nat)) ∧ w' = w := by
  have hat := by8_at t
  go_enter Try.func25, Try.ntmps25
  go_wp2
  go_loop [3, 4] (fun n i => ∃ k : Nat, k ≤ t.size ∧ n = .int .i64 (byN t k : Nat) ∧ i = .int .i64 k) (fun _ i => t.size - (intOf i).toNat)
  case atStart => exact ⟨0, Nat.zero_le _, rfl, rfl⟩
  case round =>
    obtain ⟨k, hk, rfl, rfl⟩ := hrel
    have hn := byN_le t k
    by_cases hlt : k < t.size
    · have hA : (0 : Int) ≤ (k : Int) := by omega
      have hB : (k : Int) < (t.size : Int) := by omega
      by_cases h1 : by8 t k = 32
      · have HN := hidOf (byN_no (t := t) (k := k) (.inl h1))
        have hb1 : (by8 t k == 32) = true := by simpa using h1
        have hb2 : (by8 t k != 32) = false := by simp [h1]
        clear h1
        go_wp2
        go_round
        case rel => exact ⟨k + 1, by omega, by rw [HN.out], by go_num⟩
        case measure => simp [intOf]; omega
      · by_cases h2 : by8 t k = 10
        · have HN := hidOf (byN_no (t := t) (k := k) (.inr h2))
          have hb1 : (by8 t k != 32) = true := by simp [h1]
          have hb2 : (by8 t k != 10) = false := by simp [h2]
          clear h1 h2
          go_wp2
          go_round
          case rel => exact ⟨k + 1, by omega, by rw [HN.out], by go_num⟩
          case measure => simp [intOf]; omega
        · have HN := hidOf (byN_yes h1 h2)
          have hb1 : (by8 t k != 32) = true := by simp [h1]
          have hb2 : (by8 t k != 10) = true := by simp [h2]
          clear h1 h2
          go_wp2
          go_round
          case rel => exact ⟨k + 1, by omega, by rw [HN.out]; go_num, by go_num⟩
          case measure => simp [intOf]; omega
    · have e : k = t.size := by omega
      go_wp2
      go_ret
      exact ⟨by first | rfl | (rw [e]; rfl), rfl⟩
end Go.Proofs.Ytghfpcjgionbaaa
