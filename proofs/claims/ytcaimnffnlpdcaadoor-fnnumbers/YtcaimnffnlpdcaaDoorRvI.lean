/- Contracts of the program's own functions alone. -/
import Derived.Test.YtcaimnffnlpdcaaDoorVarI
import Derived.Test.YtcaimnffnlpdcaaDoorRvLib
namespace Go.Proofs.YtcaimnffnlpdcaaDoor
open Go.RowKit

/-- The three results, out of what is read. -/
def rvVal : Option (Int × Nat) → Value
  | none => .tuple #[.int .i64 0, .int .i64 0, .bool false]
  | some (n, q) => .tuple #[.int .i64 n, .int .i64 q, .bool true]

theorem prod_bd {x sc : Int} (h0 : 0 ≤ x) (h1 : x ≤ 127) (hs : 0 ≤ sc) : 0 ≤ x * sc ∧ x * sc ≤ 127 * sc := ⟨Int.mul_nonneg h0 hs, Int.mul_le_mul_of_nonneg_right h1 hs⟩

set_option maxHeartbeats 800000 in
set_option maxRecDepth 20000 in
theorem iRv_any (s : ByteArray) (p : Nat) (w : World) (hs : s.size ≤ 1048576) (hp : p ≤ s.size) :
    Calls Tryd.prog 9 #[.string s, .int .i64 p] w fun e w' => e = .returned (rvVal (rv s p)) ∧ w' = w := by
  have hby := by8_at s
  go_enter Tryd.func9, Tryd.ntmps9
  go_wp2
  go_loop [7, 8, 9] (fun n sc i => ∃ (f j : Nat) (N S : Int), j ≤ p + 5 ∧ p ≤ j ∧ f + j = p + 5 ∧ n = .int .i64 N ∧ sc = .int .i64 S ∧ i = .int .i64 j ∧ 0 ≤ N ∧ N < S ∧ S ≤ 34359738368 ∧ j ≤ s.size ∧ Hid (rvF s p f j S N = rv s p) ∧ Hid (S = 128 ^ (j - p)))
    (fun _ _ i => s.size - (intOf i).toNat)
  case atStart => exact ⟨5, p, 0, 1, by omega, by omega, by omega, rfl, rfl, rfl, by omega, by omega, by omega, hp, rfl, by rw [Nat.sub_self]; rfl⟩
  case round =>
    obtain ⟨f, j, N, S, hj1, hj2, hf, rfl, rfl, rfl, hN0, hN1, hS, hj3, HR, HP⟩ := hrel
    have hr := by8_range s j
    by_cases hlt : j < s.size
    · by_cases h5 : j < p + 5
      · obtain ⟨g, rfl⟩ : ∃ g, f = g + 1 := ⟨f - 1, by omega⟩
        have hpd := prod_bd (x := by8 s j % 128) (sc := S) (by omega) (by omega) (by omega)
        by_cases hb : by8 s j < 128
        · go_wp2
          · have hz : 1000000000 < N + by8 s j % 128 * S ∨ (by8 s j == 0) = true := by assumption
            have hpj : p < j := by assumption
            go_ret3
            refine ⟨?_, rfl⟩
            rw [← HR.out, rvF_no hlt hb (hz.imp_right fun h => ⟨hpj, by simpa using h⟩)]
            rfl
          · have hz : N + by8 s j % 128 * S ≤ 1000000000 ∧ (by8 s j == 0) = false := by assumption
            go_ret3
            refine ⟨?_, rfl⟩
            rw [← HR.out, rvF_yes hlt hb hz.1 (fun h => by have := hz.2; simp at this; omega)]
            rfl
          · have hz : N + by8 s j % 128 * S ≤ 1000000000 := by assumption
            have hpj : ¬ p < j := by assumption
            go_ret3
            refine ⟨?_, rfl⟩
            rw [← HR.out, rvF_yes hlt hb hz (fun h => hpj h.1)]
            rfl
          · have hz : 1000000000 < N + by8 s j % 128 * S := by assumption
            go_ret3
            refine ⟨?_, rfl⟩
            rw [← HR.out, rvF_no hlt hb (Or.inl hz)]
            rfl
        · go_wp2
          go_round
          case rel => exact ⟨g, j + 1, _, _, by omega, by omega, by omega, rfl, rfl, by go_num, by omega, by omega, pow_le HP.out h5, by omega, by rw [← HR.out, rvF_more hlt (by omega)]; rfl, pow_next HP.out hj2⟩
          case measure => simp [intOf]; omega
      · go_wp2
        go_ret3
        have hf0 : f = 0 := by omega
        subst hf0
        exact ⟨by rw [← HR.out]; rfl, rfl⟩
    · go_wp2
      go_ret3
      exact ⟨by rw [← HR.out, rvF_out (by omega)]; rfl, rfl⟩

theorem iRv_no (s : ByteArray) (p : Int) (w : World) (hp : p < 0 ∨ s.size < p) :
    Calls Tryd.prog 9 #[.string s, .int .i64 p] w fun e w' => e = .returned (rvVal none) ∧ w' = w := by
  by_cases h0 : p < 0
  · go_enter Tryd.func9, Tryd.ntmps9
    go_wp2
    go_ret3
    exact ⟨rfl, rfl⟩
  · have h1 : (s.size : Int) < p := by omega
    clear hp
    go_enter Tryd.func9, Tryd.ntmps9
    go_wp2
    go_ret3
    exact ⟨rfl, rfl⟩
end Go.Proofs.YtcaimnffnlpdcaaDoor
