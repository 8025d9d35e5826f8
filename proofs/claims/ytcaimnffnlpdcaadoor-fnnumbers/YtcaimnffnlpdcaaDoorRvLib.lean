/- Plain facts on reading a number in bytes: one function for what both programs read, and when the bytes that were read are those that would be written. -/
import Derived.Test.YtcaimnffnlpdcaaDoorLib
namespace Go.Proofs.YtcaimnffnlpdcaaDoor

/-- What is read from place p on, when j is the place of the next byte, sc what it counts for, n what was read so far, and f bytes may come. -/
def rvF (s : ByteArray) (p : Nat) : Nat → Nat → Int → Int → Option (Int × Nat)
  | 0, _, _, _ => none
  | f + 1, j, sc, n =>
    if j < s.size then
      if by8 s j < 128 then
        if 1000000000 < n + by8 s j % 128 * sc ∨ (p < j ∧ by8 s j = 0) then none else some (n + by8 s j % 128 * sc, j + 1)
      else rvF s p f (j + 1) (sc * 128) (n + by8 s j % 128 * sc)
    else none
def rv (s : ByteArray) (p : Nat) : Option (Int × Nat) := rvF s p 5 p 1 0

theorem rvF_out {s : ByteArray} {p j f : Nat} {sc n : Int} (h : s.size ≤ j) : rvF s p f j sc n = none := by
  cases f with
  | zero => rfl
  | succ f => rw [rvF, if_neg (by omega)]
theorem rvF_more {s : ByteArray} {p j f : Nat} {sc n : Int} (h : j < s.size) (hb : 128 ≤ by8 s j) : rvF s p (f + 1) j sc n = rvF s p f (j + 1) (sc * 128) (n + by8 s j % 128 * sc) := by
  rw [rvF, if_pos h, if_neg (by omega)]
theorem rvF_no {s : ByteArray} {p j f : Nat} {sc n : Int} (h : j < s.size) (hb : by8 s j < 128) (hn : 1000000000 < n + by8 s j % 128 * sc ∨ (p < j ∧ by8 s j = 0)) : rvF s p (f + 1) j sc n = none := by
  rw [rvF, if_pos h, if_pos hb, if_pos hn]
theorem rvF_yes {s : ByteArray} {p j f : Nat} {sc n : Int} (h : j < s.size) (hb : by8 s j < 128) (h1 : n + by8 s j % 128 * sc ≤ 1000000000) (h2 : ¬ (p < j ∧ by8 s j = 0)) :
    rvF s p (f + 1) j sc n = some (n + by8 s j % 128 * sc, j + 1) := by
  rw [rvF, if_pos h, if_pos hb, if_neg (by omega)]
/-- What is read stands in the string. -/
theorem rvF_bounds {s : ByteArray} {p : Nat} : ∀ {f j : Nat} {sc n N : Int} {q : Nat}, 0 ≤ n → 0 ≤ sc → rvF s p f j sc n = some (N, q) → 0 ≤ N ∧ N ≤ 1000000000 ∧ j < q ∧ q ≤ s.size
  | 0, j, sc, n, N, q, _, _, h => by simp [rvF] at h
  | f + 1, j, sc, n, N, q, hn, hsc, h => by
    rw [rvF] at h
    have hr := by8_range s j
    split at h
    · split at h
      · split at h
        · cases h
        · have := Int.mul_nonneg (show 0 ≤ by8 s j % 128 by omega) hsc
          simp at h
          omega
      · have := Int.mul_nonneg (show 0 ≤ by8 s j % 128 by omega) hsc
        have := rvF_bounds (by omega) (by omega) h
        omega
    · cases h

/-- The bytes from place p on. -/
def seg (s : ByteArray) (p : Nat) : Nat → List Int
  | 0 => []
  | k + 1 => seg s p k ++ [by8 s (p + k)]
theorem seg_len (s : ByteArray) (p : Nat) : ∀ k, (seg s p k).length = k
  | 0 => rfl
  | k + 1 => by simp [seg, seg_len s p k]

theorem vb_len_pow : ∀ (k n : Nat), n < 128 ^ (k + 1) → (vb n).length ≤ k + 1
  | 0, n, h => by rw [vb_last n (by omega)]; simp
  | k + 1, n, h => by
    by_cases h1 : 127 < n
    · rw [vb_more n h1]
      have := vb_len_pow k (n / 128) (by rw [Nat.div_lt_iff_lt_mul (by omega)]; rw [Nat.pow_succ] at h; exact h)
      simp
      omega
    · rw [vb_last n (by omega)]; simp

/-- All that was read so far, and a rest m that is not 0, is written as what was read, and the rest. -/
def Goes (s : ByteArray) (p k : Nat) (n : Nat) : Prop := n < 128 ^ k ∧ ∀ m, 0 < m → vb (n + 128 ^ k * m) = seg s p k ++ vb m
theorem goes_zero (s : ByteArray) (p : Nat) : Goes s p 0 0 := ⟨by decide, fun m _ => by simp [seg]⟩
theorem goes_succ {s : ByteArray} {p k n b : Nat} (h : Goes s p k n) (hb : by8 s (p + k) = (b : Int) + 128) (hb2 : b < 128) : Goes s p (k + 1) (n + b * 128 ^ k) := by
  obtain ⟨h1, h2⟩ := h
  refine ⟨?_, fun m hm => ?_⟩
  · rw [Nat.pow_succ]
    have : b * 128 ^ k ≤ 127 * 128 ^ k := Nat.mul_le_mul_right _ (by omega)
    omega
  · have e : n + b * 128 ^ k + 128 ^ (k + 1) * m = n + 128 ^ k * (b + 128 * m) := by
      rw [Nat.pow_succ, Nat.mul_add, Nat.mul_comm b, Nat.mul_assoc]
      omega
    rw [e, h2 _ (by omega), vb_more _ (by omega)]
    have e1 : (b + 128 * m) / 128 = m := by omega
    have e2 : ((b + 128 * m : Nat) : Int) % 128 + 128 = by8 s (p + k) := by omega
    rw [e1, e2]
    simp [seg]
/-- The last byte: what was read is what would be written, unless it is a needless 0. -/
theorem goes_yes {s : ByteArray} {p k n b : Nat} (h : Goes s p k n) (hb : by8 s (p + k) = (b : Int)) (hb2 : b < 128) (h0 : k = 0 ∨ 0 < b) : vb (n + b * 128 ^ k) = seg s p (k + 1) := by
  by_cases hz : 0 < b
  · rw [Nat.mul_comm, h.2 b hz, vb_last b (by omega), ← hb]
    rfl
  · have hk : k = 0 := by omega
    subst hk
    have hn : n = 0 := by have := h.1; simp at this; omega
    subst hn
    have : b = 0 := by omega
    subst this
    rw [vb_last _ (by simp)]
    simp only [seg, List.nil_append, hb]
theorem goes_no {s : ByteArray} {p k n : Nat} (h : Goes s p k n) (hk : 0 < k) : (vb n).length ≠ k + 1 := by
  intro h1
  obtain ⟨j, rfl⟩ : ∃ j, k = j + 1 := ⟨k - 1, by omega⟩
  have h2 := vb_len_pow j n h.1
  omega

/-- The piece of a string from p on, of k bytes. -/
theorem seg_get (s : ByteArray) (p : Nat) : ∀ k i, i < k → (seg s p k)[i]? = some (by8 s (p + i))
  | 0, i, h => by omega
  | k + 1, i, h => by
    rw [seg]
    by_cases h1 : i < k
    · rw [List.getElem?_append_left (by rw [seg_len]; exact h1)]
      exact seg_get s p k i h1
    · have : i = k := by omega
      subst this
      rw [List.getElem?_append_right (by rw [seg_len]; omega), seg_len]
      simp
theorem seg_str (s : ByteArray) (p : Nat) (k : Nat) (hk : p + k ≤ s.size) : strOfNums (seg s p k) = s.extract p (p + k) := by
  have hs : s.data.size = s.size := rfl
  apply ByteArray.ext
  apply Array.ext'
  rw [strOfNums_data, ByteArray.data_extract, Array.toList_extract]
  apply List.ext_getElem?
  intro i
  rw [List.getElem?_map]
  by_cases h : i < k
  · rw [seg_get s p k i h]
    simp [by8, List.getElem?_drop, h, show p + i < s.size by omega]
  · rw [List.getElem?_eq_none (by rw [seg_len]; omega), List.getElem?_eq_none (by simp; omega)]
    rfl
theorem goes_num {N M b k : Nat} {S x : Int} (hS : S = 128 ^ k) (hx : x = (b : Int)) (hM : (N : Int) + x * S = M) : M = N + b * 128 ^ k := by
  have e : ((N + b * 128 ^ k : Nat) : Int) = (N : Int) + (b : Int) * 128 ^ k := by simp
  have e2 : ((N + b * 128 ^ k : Nat) : Int) = (M : Int) := by rw [e, ← hM, hx, hS]
  omega
theorem goes_more {s : ByteArray} {p j N M : Nat} {S : Int} (h : Goes s p (j - p) N) (hS : S = 128 ^ (j - p)) (hp : p ≤ j) (hM : (N : Int) + by8 s j % 128 * S = M) (hb : 128 ≤ by8 s j) : Goes s p (j + 1 - p) M := by
  have hr := by8_range s j
  obtain ⟨b, hb'⟩ : ∃ b : Nat, by8 s j % 128 = b := Int.eq_ofNat_of_zero_le (by omega)
  rw [goes_num hS hb' hM, show j + 1 - p = (j - p) + 1 by omega]
  exact goes_succ h (by rw [show p + (j - p) = j by omega]; omega) (by omega)
theorem goes_eq {s : ByteArray} {p j N M : Nat} {S : Int} (h : Goes s p (j - p) N) (hS : S = 128 ^ (j - p)) (hp : p ≤ j) (hM : (N : Int) + by8 s j % 128 * S = M) (hb : by8 s j < 128) (h0 : ¬ (p < j ∧ by8 s j = 0)) : vb M = seg s p (j + 1 - p) := by
  have hr := by8_range s j
  obtain ⟨b, hb'⟩ : ∃ b : Nat, by8 s j % 128 = b := Int.eq_ofNat_of_zero_le (by omega)
  rw [goes_num hS hb' hM, show j + 1 - p = (j - p) + 1 by omega]
  exact goes_yes h (by rw [show p + (j - p) = j by omega]; omega) (by omega) (by omega)
theorem goes_ne {s : ByteArray} {p j N M : Nat} {S : Int} (h : Goes s p (j - p) N) (hM : (N : Int) + by8 s j % 128 * S = M) (h0 : p < j ∧ by8 s j = 0) : (vb M).length ≠ j + 1 - p := by
  have e : by8 s j % 128 * S = 0 := by rw [h0.2]; simp
  have e2 : M = N := by omega
  rw [e2, show j + 1 - p = (j - p) + 1 by omega]
  exact goes_no h (by omega)
theorem pow_bd : ∀ k, k ≤ 4 → (128 : Int) ^ k ≤ 268435456
  | 0, _ => by decide
  | 1, _ => by decide
  | 2, _ => by decide
  | 3, _ => by decide
  | 4, _ => by decide
theorem pow_next {S : Int} {j p : Nat} (h : S = 128 ^ (j - p)) (hp : p ≤ j) : S * 128 = 128 ^ (j + 1 - p) := by
  rw [h, show j + 1 - p = (j - p) + 1 by omega, Int.pow_succ]
theorem pow_le {S : Int} {j p : Nat} (h : S = 128 ^ (j - p)) (hj : j < p + 5) : S * 128 ≤ 34359738368 := by
  have := pow_bd (j - p) (by omega)
  omega
end Go.Proofs.YtcaimnffnlpdcaaDoor
