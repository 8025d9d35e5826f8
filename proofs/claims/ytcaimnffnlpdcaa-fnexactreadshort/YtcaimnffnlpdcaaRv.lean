/- What impl.ReadVar and spec.ReadVar answer, and the law on them. -/
import Derived.Test.YtcaimnffnlpdcaaVar
import Derived.Test.YtcaimnffnlpdcaaRvLib
import Derived.Deep.RegionHeld3
namespace Go.Proofs.Ytcaimnffnlpdcaa
open Go.RowKit

/-- The three results, out of what is read. -/
def rvVal : Option (Int × Nat) → Value
  | none => .tuple #[.int .i64 0, .int .i64 0, .bool false]
  | some (n, q) => .tuple #[.int .i64 n, .int .i64 q, .bool true]
theorem prod_bd {x sc : Int} (h0 : 0 ≤ x) (h1 : x ≤ 127) (hs : 0 ≤ sc) : 0 ≤ x * sc ∧ x * sc ≤ 127 * sc := ⟨Int.mul_nonneg h0 hs, Int.mul_le_mul_of_nonneg_right h1 hs⟩

set_option maxHeartbeats 800000 in
set_option maxRecDepth 20000 in
theorem iRv_any (s : ByteArray) (p : Nat) (w : World) (hs : s.size ≤ 1048576) (hp : p ≤ s.size) :
    Calls Try.prog 13 #[.string s, .int .i64 p] w fun e w' => e = .returned (rvVal (rv s p)) ∧ w' = w := by
  have hby := by8_at s
  go_enter Try.func13, Try.ntmps13
  go_wp2
  go_loop [7, 8, 9] (fun n sc i => ∃ (f j : Nat) (N S : Int), j ≤ p + 5 ∧ p ≤ j ∧ f + j = p + 5 ∧ n = .int .i64 N ∧ sc = .int .i64 S ∧ i = .int .i64 j ∧ 0 ≤ N ∧ N < S ∧ S ≤ 34359738368 ∧ j ≤ s.size ∧ Hid (rvF s p f j S N = rv s p) ∧ Hid (S = 128 ^ (j - p)))
    (fun _ _ i => s.size - (intOf i).toNat)
  case atStart => exact ⟨5, p, 0, 1, by omega, by omega, by omega, rfl, rfl, rfl, by omega, by omega, by omega, hp, rfl, by rw [Nat.sub_self]; rfl⟩
  case round =>
    obtain ⟨f, j, N, S, hj1, hj2, hf, rfl, rfl, rfl, hN0, hN1, hS, hj3, HR, HP⟩ := hrel
    have hr := by8_range s j
    by_cases hlt : j < s.size
    · by_cases h5 : j < p + 5
      · obtain ⟨g, rfl⟩ : ∃ g, f = g + 1 := ⟨f - 1, by omega⟩
        have hpd := prod_bd (x := by8 s j % 128) (sc := S) (by omega) (by omega) (by omega)
        by_cases hb : by8 s j < 128
        · go_wp2
          · have hz : 1000000000 < N + by8 s j % 128 * S ∨ (by8 s j == 0) = true := by assumption
            have hpj : p < j := by assumption
            go_ret3
            refine ⟨?_, rfl⟩
            rw [← HR.out, rvF_no hlt hb (hz.imp_right fun h => ⟨hpj, by simpa using h⟩)]
            rfl
          · have hz : N + by8 s j % 128 * S ≤ 1000000000 ∧ (by8 s j == 0) = false := by assumption
            go_ret3
            refine ⟨?_, rfl⟩
            rw [← HR.out, rvF_yes hlt hb hz.1 (fun h => by have := hz.2; simp at this; omega)]
            rfl
          · have hz : N + by8 s j % 128 * S ≤ 1000000000 := by assumption
            have hpj : ¬ p < j := by assumption
            go_ret3
            refine ⟨?_, rfl⟩
            rw [← HR.out, rvF_yes hlt hb hz (fun h => hpj h.1)]
            rfl
          · have hz : 1000000000 < N + by8 s j % 128 * S := by assumption
            go_ret3
            refine ⟨?_, rfl⟩
            rw [← HR.out, rvF_no hlt hb (Or.inl hz)]
            rfl
        · go_wp2
          go_round
          case rel => exact ⟨g, j + 1, _, _, by omega, by omega, by omega, rfl, rfl, by go_num, by omega, by omega, pow_le HP.out h5, by omega, by rw [← HR.out, rvF_more hlt (by omega)]; rfl, pow_next HP.out hj2⟩
          case measure => simp [intOf]; omega
      · go_wp2
        go_ret3
        have hf0 : f = 0 := by omega
        subst hf0
        exact ⟨by rw [← HR.out]; rfl, rfl⟩
    · go_wp2
      go_ret3
      exact ⟨by rw [← HR.out, rvF_out (by omega)]; rfl, rfl⟩

theorem iRv_no (s : ByteArray) (p : Int) (w : World) (hp : p < 0 ∨ s.size < p) :
    Calls Try.prog 13 #[.string s, .int .i64 p] w fun e w' => e = .returned (rvVal none) ∧ w' = w := by
  by_cases h0 : p < 0
  · go_enter Try.func13, Try.ntmps13
    go_wp2
    go_ret3
    exact ⟨rfl, rfl⟩
  · have h1 : (s.size : Int) < p := by omega
    clear hp
    go_enter Try.func13, Try.ntmps13
    go_wp2
    go_ret3
    exact ⟨rfl, rfl⟩

theorem sRv_no (s : ByteArray) (p : Int) (w : World) (hp : p < 0 ∨ s.size < p) :
    Calls Try.prog 12 #[.string s, .int .i64 p] w fun e w' => e = .returned (rvVal none) ∧ w' = w := by
  go_enter Try.func12, Try.ntmps12
  go_wp2_with fail
  refine (in_no _ _ _ _ (by omega)).mono ?_
  rintro e w1 ⟨rfl, rfl⟩
  go_wp2
  go_ret3
  exact ⟨rfl, rfl⟩

set_option maxHeartbeats 1600000 in
set_option maxRecDepth 20000 in
theorem sRv_any (s : ByteArray) (p : Nat) (w : World) (hs : s.size ≤ 1048576) (hp : p ≤ s.size) :
    Calls Try.prog 12 #[.string s, .int .i64 p] w fun e w' => e = .returned (rvVal (rv s p)) ∧ Below w.heap.size w w' := by
  have hby := by8_at s
  go_enter Try.func12, Try.ntmps12
  go_wp2_with fail
  refine (in_yes _ _ _ _ (by omega) (by omega)).mono ?_
  rintro e w1 ⟨rfl, rfl⟩
  go_wp2
  go_loop [7, 8, 9] (fun n sc i => ∃ (f j N : Nat) (S : Int), j ≤ p + 5 ∧ p ≤ j ∧ f + j = p + 5 ∧ n = .int .i64 N ∧ sc = .int .i64 S ∧ i = .int .i64 j ∧ (N : Int) < S ∧ S ≤ 34359738368 ∧ j ≤ s.size ∧ Hid (rvF s p f j S N = rv s p) ∧ Hid (S = 128 ^ (j - p)) ∧ Hid (Goes s p (j - p) N))
    (fun _ _ i => s.size - (intOf i).toNat)
  case atStart => exact ⟨5, p, 0, 1, by omega, by omega, by omega, rfl, rfl, rfl, by omega, by omega, hp, rfl, by rw [Nat.sub_self]; rfl, by rw [Nat.sub_self]; exact goes_zero s p⟩
  case round =>
    obtain ⟨f, j, N, S, hj1, hj2, hf, rfl, rfl, rfl, hN1, hS, hj3, HR, HP, HG⟩ := hrel
    have hr := by8_range s j
    by_cases hlt : j < s.size
    · by_cases h5 : j < p + 5
      · obtain ⟨g, rfl⟩ : ∃ g, f = g + 1 := ⟨f - 1, by omega⟩
        have hpd := prod_bd (x := by8 s j % 128) (sc := S) (by omega) (by omega) (by omega)
        have hp5 := pow_le HP.out h5
        obtain ⟨M, hM⟩ : ∃ M : Nat, (N : Int) + by8 s j % 128 * S = M := Int.eq_ofNat_of_zero_le (by omega)
        by_cases hb : by8 s j < 128
        · by_cases hbig : 1000000000 < (M : Int)
          · have hd : decide (1000000000 < (M : Int)) = true := by simpa using hbig
            go_wp2
            go_region
            go_wp2
            go_ret3
            refine ⟨?_, (Below.refl _ _).drew⟩
            rw [← HR.out, rvF_no hlt hb (Or.inl (by omega))]
            rfl
          · have hd : decide (1000000000 < (M : Int)) = false := by simpa using hbig
            have HM : Hid ((N : Int) + by8 s j % 128 * S = M) := hM
            have hsl := str_slice (P := Try.prog) 9 s p (j + 1) (p : Int) ((j : Int) + 1) Try.underlying9 rfl (by omega) (by omega) (by omega)
            have hA : (j : Int) + 1 ≤ s.size := by omega
            have hB : (0 : Int) ≤ (j : Int) + 1 := by omega
            have hC : (p : Int) ≤ (j : Int) + 1 := by omega
            have hD : (0 : Int) ≤ p := by omega
            have hW : IntKind.i64.wrap ((j : Int) + 1) = (j : Int) + 1 := IntWalk.i64_in _ ⟨by omega, by omega⟩
            by_cases hz : p < j ∧ by8 s j = 0
            · have hne : ((strOfNums (vb M)).toList == (s.extract p (j + 1)).toList) = false := by
                refine str_other ?_
                have h1 := goes_ne HG.out hM hz
                rw [strOfNums_size, ByteArray.size_extract]
                omega
              have HZ : Hid (p < j ∧ by8 s j = 0) := hz
              have HB : Hid (by8 s j < 128) := hb
              clear hz
              go_wp2
              clear hM hby hpd hp5 hN1 hS hr hb hf hj1
              go_region_held3 (fun _ => True) (trivial) (first | (go_at_call 25; refine (lVar_any M _ (by omega)).mono ?_; rintro e w' ⟨rfl, hb'⟩))
              go_wp2
              go_ret3
              refine ⟨?_, ?_⟩
              · rw [← HR.out, rvF_no hlt HB.out (Or.inr HZ.out)]
                rfl
              · exact (Below.refl _ _).drew.trans hb'
            · have heq : ((strOfNums (vb M)).toList == (s.extract p (j + 1)).toList) = true := by
                refine str_same ?_
                rw [goes_eq HG.out HP.out hj2 hM hb hz, seg_str _ _ _ (by omega), show p + (j + 1 - p) = j + 1 by omega]
              have HZ : Hid (¬ (p < j ∧ by8 s j = 0)) := hz
              have HB : Hid (by8 s j < 128) := hb
              clear hz
              go_wp2
              clear hM hby hpd hp5 hN1 hS hr hb hf hj1
              go_region_held3 (fun _ => True) (trivial) (first | (go_at_call 25; refine (lVar_any M _ (by omega)).mono ?_; rintro e w' ⟨rfl, hb'⟩))
              go_wp2
              go_ret3
              refine ⟨?_, ?_⟩
              · rw [← HR.out, rvF_yes hlt HB.out (by have := HM.out; omega) HZ.out, HM.out]
                rfl
              · exact (Below.refl _ _).drew.trans hb'
        · go_wp2
          go_round
          case rel => exact ⟨g, j + 1, M, _, by omega, by omega, by omega, rfl, rfl, by go_num, by omega, pow_le HP.out h5, by omega, by rw [← HR.out, rvF_more hlt (by omega), hM]; rfl, pow_next HP.out hj2, goes_more HG.out HP.out hj2 hM (by omega)⟩
          case measure => simp [intOf]; omega
      · go_wp2
        go_ret3
        have hf0 : f = 0 := by omega
        subst hf0
        exact ⟨by rw [← HR.out]; rfl, Below.refl _ _⟩
    · go_wp2
      go_ret3
      exact ⟨by rw [← HR.out, rvF_out (by omega)]; rfl, Below.refl _ _⟩

theorem lawReadVar (s : ByteArray) (p : Int) (w : World) (hs : s.size ≤ maxLen) :
    Calls Try.prog 4 #[.string s, .int .i64 p] w fun e w' => e = .returned (.bool true) ∧ Below w.heap.size w w' := by
  unfold maxLen at hs
  by_cases h0 : 1048576 < s.size
  · go_enter Try.func4, Try.ntmps4
    go_wp2
    go_ret
    exact ⟨rfl, Below.refl _ _⟩
  · by_cases hp : 0 ≤ p ∧ p ≤ s.size
    · obtain ⟨q, rfl⟩ := Int.eq_ofNat_of_zero_le hp.1
      have hq : q ≤ s.size := by omega
      clear hp
      have h1 := fun w => sRv_any s q w (by omega) hq
      have h2 := fun w => iRv_any s q w (by omega) hq
      rcases hrv : rv s q with _ | ⟨n, m⟩
      · rw [hrv] at h1 h2
        simp only [rvVal] at h1 h2
        have H1 := hidOf h1
        have H2 := hidOf h2
        clear h1 h2 hrv
        go_enter Try.func4, Try.ntmps4
        go_wp2_with fail
        refine (H1.out _).mono ?_
        rintro e w1 ⟨rfl, hb1⟩
        go_wp2_with fail
        refine (H2.out _).mono ?_
        rintro e w2 ⟨rfl, rfl⟩
        go_wp2
        go_ret
        exact ⟨rfl, hb1⟩
      · rw [hrv] at h1 h2
        simp only [rvVal] at h1 h2
        have H1 := hidOf h1
        have H2 := hidOf h2
        clear h1 h2 hrv
        go_enter Try.func4, Try.ntmps4
        go_wp2_with fail
        refine (H1.out _).mono ?_
        rintro e w1 ⟨rfl, hb1⟩
        go_wp2_with fail
        refine (H2.out _).mono ?_
        rintro e w2 ⟨rfl, rfl⟩
        go_wp2
        go_ret
        exact ⟨rfl, hb1⟩
    · have hp' : p < 0 ∨ s.size < p := by omega
      clear hp
      go_enter Try.func4, Try.ntmps4
      go_wp2_with fail
      refine (sRv_no s p _ hp').mono ?_
      simp only [rvVal]
      rintro e w1 ⟨rfl, rfl⟩
      go_wp2_with fail
      refine (iRv_no s p _ hp').mono ?_
      simp only [rvVal]
      rintro e w2 ⟨rfl, rfl⟩
      go_wp2
      go_ret
      exact ⟨rfl, Below.refl _ _⟩
end Go.Proofs.Ytcaimnffnlpdcaa
