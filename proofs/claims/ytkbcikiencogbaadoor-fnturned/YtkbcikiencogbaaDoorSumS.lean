/- What the specification's SumMore, SumOf, Sealed and Unsealed answer. -/
import Derived.Test.YtkbcikiencogbaaDoorSumI
import Derived.Deep.RegionHeld3
namespace Go.Proofs.YtkbcikiencogbaaDoor
open Go.RowKit

theorem bit1_odd {D : Nat} (h : D % 2 = 1) (hD : D < 4294967296) : bits .xor .u32 ((D : Int) / 2) 3558460437 = (bit1 D : Nat) := by
  unfold bit1
  rw [if_pos h, ← u32_xor_nat (D / 2) 3558460437 (by omega) (by decide)]
  rfl
theorem bit1_ev {D : Nat} (h : D % 2 = 0) : (D : Int) / 2 = (bit1 D : Nat) := by
  unfold bit1
  rw [if_neg (by omega), Nat.xor_zero]
  rfl

set_option maxHeartbeats 1600000 in
theorem sSumMore_any (s : Nat) (t : ByteArray) (w : World) (hs : s < 4294967296) (ht : t.size ≤ 1048576) :
    Calls Tryd.prog 15 #[.int .u32 s, .string t] w fun e w' => e = .returned (.int .u32 (crc s t t.size : Nat)) ∧ w' = w := by
  have hby := byN_at t
  go_enter Tryd.func15, Tryd.ntmps15
  go_wp2
  go_loop [0, 5] (fun x i => ∃ (k C : Nat), k ≤ t.size ∧ i = .int .i64 k ∧ x = .int .u32 C ∧ C < 4294967296 ∧ Hid (C = crc s t k))
    (fun _ i => t.size - (intOf i).toNat)
  case atStart => exact ⟨0, s, Nat.zero_le _, rfl, rfl, hs, rfl⟩
  case round =>
    obtain ⟨k, C, hk, rfl, rfl, hC, HC⟩ := hrel
    by_cases hlt : k < t.size
    · have hl := byN_lt t k
      have hx := u32_xor_nat C (byN t k) hC (by omega)
      have hm := mix_lt hC hl
      go_wp2
      go_loop [0, 6] (fun x j => ∃ (r D : Nat), r ≤ 8 ∧ j = .int .i64 r ∧ x = .int .u32 D ∧ D < 4294967296 ∧ Hid (D = bitN r (C ^^^ byN t k)))
        (fun _ j => 8 - (intOf j).toNat)
      case atStart => exact ⟨0, C ^^^ byN t k, Nat.zero_le _, rfl, rfl, hm, rfl⟩
      case round =>
        obtain ⟨r, D, hr, rfl, rfl, hD, HD⟩ := hrel
        by_cases hr8 : r < 8
        · have hb := bit1_lt hD
          by_cases ho : D % 2 = 1
          · have ho' : (D : Int) % 2 = 1 := by omega
            have hx2 := bit1_odd ho hD
            go_wp2
            go_round
            case rel => exact ⟨r + 1, bit1 D, by omega, by go_num, rfl, hb, by rw [HD.out]; rfl⟩
            case measure => simp [intOf]; omega
          · have ho' : (D : Int) % 2 = 0 := by omega
            have hx2 := bit1_ev (D := D) (by omega)
            go_wp2
            go_round
            case rel => exact ⟨r + 1, bit1 D, by omega, by go_num, rfl, hb, by rw [HD.out]; rfl⟩
            case measure => simp [intOf]; omega
        · go_wp2
          go_round
          case rel =>
            have h8 : r = 8 := by omega
            subst h8
            exact ⟨k + 1, D, by omega, by go_num, rfl, hD, by rw [HD.out, HC.out]; rfl⟩
          case measure => simp [intOf]; omega
    · have hke : k = t.size := by omega
      have HK := hidOf hke
      clear hke
      go_wp2
      go_ret
      refine ⟨ret_int ?_, rfl⟩
      rw [HC.out, HK.out]

theorem sFour_any (x : Nat) (w : World) (hx : x < 4294967296) :
    Calls Tryd.prog 26 #[.int .u32 x] w fun e w' => e = .returned (.string (four x)) ∧ Below w.heap.size w w' := by
  have hcv := four_conv x w
  go_enter Tryd.func26, Tryd.ntmps26
  go_wp2
  go_ret
  exact ⟨rfl, (Below.refl _ w).alloc (Nat.le_refl _) _⟩
theorem sSumOf_any (t : ByteArray) (w : World) (ht : t.size ≤ 1048576) :
    Calls Tryd.prog 16 #[.string t] w fun e w' => e = .returned (.int .u32 (sumOf t : Nat)) ∧ w' = w := by
  go_enter Tryd.func16, Tryd.ntmps16
  go_wp2_with fail
  refine (sSumMore_any 4294967295 t _ (by decide) ht).mono ?_
  rintro e w ⟨rfl, rfl⟩
  go_wp2
  go_ret
  exact ⟨rfl, rfl⟩

theorem sSealed_any (t : ByteArray) (w : World) (hm : t.size ≤ 1048576) :
    Calls Tryd.prog 17 #[.string t] w fun e w' => SeAns t e ∧ Below w.heap.size w w' := by
  by_cases h : t.size ≤ 20000
  · have hc := sumOf_lt t
    have h4 := four_size (sumOf t)
    go_enter Tryd.func17, Tryd.ntmps17
    go_wp2_with fail
    refine (sSumOf_any t _ (by omega)).mono ?_
    rintro e w ⟨rfl, rfl⟩
    go_wp2_with fail
    refine (sFour_any (sumOf t) _ hc).mono ?_
    rintro e w1 ⟨rfl, hb⟩
    go_wp2
    go_ret2
    exact ⟨.inl ⟨h, rfl⟩, hb⟩
  · go_enter Tryd.func17, Tryd.ntmps17
    go_wp2
    go_ret2
    exact ⟨.inr ⟨by omega, rfl⟩, Below.refl _ _⟩
end Go.Proofs.YtkbcikiencogbaaDoor
