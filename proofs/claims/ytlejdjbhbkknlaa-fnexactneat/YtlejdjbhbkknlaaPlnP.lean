/- Plain bytes, on both sides. -/
import Derived.Test.YtlejdjbhbkknlaaProg
import Derived.Test.YtlejdjbhbkknlaaNeatLib
import Derived.Test.YtlejdjbhbkknlaaTel
import Derived.WalkKit
namespace Go.Proofs.Ytlejdjbhbkknlaa
open Go.RowKit

set_option maxHeartbeats 1600000 in
theorem iPln_any (s : ByteArray) (w : World) (hs : s.size ≤ 4194304) :
    Calls Try.prog 22 #[.string s] w fun e w' => TelQ (Pln s) w e w' := by
  have hat := by8_at s
  go_enter Try.func22, Try.ntmps22
  go_wp2
  go_loop [3] (fun i => ∃ k : Nat, k ≤ s.size ∧ i = .int .i64 k ∧ Hid (∀ j, j < k → 32 ≤ by8 s j ∧ by8 s j ≤ 126)) (fun i => s.size - (intOf i).toNat)
  case atStart => exact ⟨0, Nat.zero_le _, rfl, hidOf fun j h => by omega⟩
  case round =>
    obtain ⟨k, hk, rfl, HA⟩ := hrel
    by_cases hlt : k < s.size
    · have hA : (0 : Int) ≤ (k : Int) := by omega
      have hB : (k : Int) < (s.size : Int) := by omega
      by_cases h1 : by8 s k < 32
      · go_wp2
        go_ret
        exact telQ_no (fun h => by have := (h k hlt).1; omega)
      · by_cases h2 : by8 s k > 126
        · go_wp2
          go_ret
          exact telQ_no (fun h => by have := (h k hlt).2; omega)
        · go_wp2
          go_round
          case rel => exact ⟨k + 1, by omega, by go_num, hidOf fun j hj => by
            by_cases e : j = k
            · subst e; omega
            · exact HA.out j (by omega)⟩
          case measure => simp [intOf]; omega
    · go_wp2
      go_ret
      exact telQ_yes (fun j hj => HA.out j (by omega))

/-- l04Plain's answer. -/
def plainC (z : Int) : Bool := decide (32 ≤ z ∧ z ≤ 126)
set_option maxHeartbeats 1600000 in
theorem s04pl_any (z : Int) (w : World) :
    Calls Try.prog 16 #[.int .u8 z] w fun e w' => e = .returned (.bool (plainC z)) ∧ w' = w := by
  by_cases h1 : 32 ≤ z
  · by_cases h2 : z ≤ 126
    · rw [show plainC z = true from decide_eq_true ⟨h1, h2⟩]
      go_enter Try.func16, Try.ntmps16
      go_wp2
      go_ret
      exact ⟨rfl, rfl⟩
    · rw [show plainC z = false from decide_eq_false fun h => h2 h.2]
      go_enter Try.func16, Try.ntmps16
      go_wp2
      go_ret
      exact ⟨rfl, rfl⟩
  · rw [show plainC z = false from decide_eq_false fun h => h1 h.1]
    go_enter Try.func16, Try.ntmps16
    go_wp2
    go_ret
    exact ⟨rfl, rfl⟩

set_option maxHeartbeats 1600000 in
theorem sPln_any (s : ByteArray) (w : World) (hs : s.size ≤ 4194304) :
    Calls Try.prog 11 #[.string s] w fun e w' => TelQ (Pln s) w e w' := by
  have hat := by8_at s
  go_enter Try.func11, Try.ntmps11
  go_wp2
  go_loop [3] (fun i => ∃ k : Nat, k ≤ s.size ∧ i = .int .i64 k ∧ Hid (∀ j, j < k → 32 ≤ by8 s j ∧ by8 s j ≤ 126)) (fun i => s.size - (intOf i).toNat)
  case atStart => exact ⟨0, Nat.zero_le _, rfl, hidOf fun j h => by omega⟩
  case round =>
    obtain ⟨k, hk, rfl, HA⟩ := hrel
    by_cases hlt : k < s.size
    · have hA : (0 : Int) ≤ (k : Int) := by omega
      have hB : (k : Int) < (s.size : Int) := by omega
      by_cases h1 : 32 ≤ by8 s k ∧ by8 s k ≤ 126
      · have i1 : plainC (by8 s k) = true := decide_eq_true h1
        have H1 := hidOf h1
        clear h1
        go_wp2_with (go_at_call 16; refine (s04pl_any _ _).mono ?_; rintro e w1 ⟨rfl, rfl⟩)
        go_round
        case rel => exact ⟨k + 1, by omega, by go_num, hidOf fun j hj => by
          by_cases e : j = k
          · subst e; exact H1.out
          · exact HA.out j (by omega)⟩
        case measure => simp [intOf]; omega
      · have i1 : plainC (by8 s k) = false := decide_eq_false h1
        have H1 := hidOf h1
        clear h1
        go_wp2_with (go_at_call 16; refine (s04pl_any _ _).mono ?_; rintro e w1 ⟨rfl, rfl⟩)
        go_ret
        exact telQ_no (fun h => H1.out (h k hlt))
    · go_wp2
      go_ret
      exact telQ_yes (fun j hj => HA.out j (by omega))
end Go.Proofs.Ytlejdjbhbkknlaa
