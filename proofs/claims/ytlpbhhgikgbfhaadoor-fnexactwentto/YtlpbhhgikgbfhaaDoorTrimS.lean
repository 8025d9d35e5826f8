/- What spec.Trimmed answers. -/
import Derived.Test.YtlpbhhgikgbfhaaDoorProg
import Derived.Test.YtlpbhhgikgbfhaaDoorLineLib
import Derived.WalkKit
namespace Go.Proofs.YtlpbhhgikgbfhaaDoor
open Go.RowKit

set_option maxHeartbeats 1600000 in
theorem sTrim_any (s : ByteArray) (w : World) (hs : s.size ≤ 4194304) :
    Calls Tryd.prog 29 #[.string s] w fun e w' => e = .returned (.string (trimB s)) ∧ w' = w := by
  have hby := by8_at s
  go_enter Tryd.func29, Tryd.ntmps29
  go_wp2
  go_loop [3] (fun i => ∃ k : Nat, k ≤ s.size ∧ i = .int .i64 k ∧ Hid (∀ j, k ≤ j → j < s.size → by8 s j = 32)) (fun i => (intOf i).toNat)
  case atStart => exact ⟨s.size, Nat.le_refl _, rfl, fun j h1 h2 => by omega⟩
  case round =>
    obtain ⟨k, hk, rfl, HB⟩ := hrel
    cases k with
    | zero =>
      have hsl := str_to (P := Tryd.prog) 9 s 0 (0 : Int) Tryd.underlying9 rfl (Nat.zero_le _)
      go_wp2
      go_ret
      exact ⟨ret_str (by have h := trimB_is (Nat.zero_le _) HB.out (fun h => by omega); rw [← h]; simp), rfl⟩
    | succ k =>
      have hr := by8_range s k
      by_cases h32 : by8 s k = 32
      · have h32' : (by8 s k == 32) = true := by simp [h32]
        have H32 := hidOf h32
        clear h32
        go_wp2
        go_round
        case rel => exact ⟨k, by omega, by go_num, hidOf fun j h1 h2 => by
          by_cases e : j = k
          · subst e; exact H32.out
          · exact HB.out j (by omega) h2⟩
        case measure => simp [intOf]
      · have h32' : (by8 s k == 32) = false := by rw [beq_eq_false_iff_ne]; exact h32
        have H32 := hidOf h32
        clear h32
        have hsl := str_to (P := Tryd.prog) 9 s (k + 1) ((k : Int) + 1) Tryd.underlying9 (by omega) hk
        go_wp2
        go_ret
        exact ⟨ret_str (trimB_is hk HB.out (fun _ => by simpa using H32.out)), rfl⟩

end Go.Proofs.YtlpbhhgikgbfhaaDoor
