/- Plain facts on decimal figures: how they grow, when a text of figures is what its number is written as. -/
import Derived.Test.YtdlbnllkfnfgoaaLib
import Derived.Lib.ItoaNum
namespace Go.Proofs.Ytdlbnllkfnfgoaa

/-- The figures of u, none for 0. -/
def dd (u : Nat) : List UInt8 := if u = 0 then [] else Lib.decDigits u
theorem dec_small {u : Nat} (h : u < 10) : Lib.decDigits u = [UInt8.ofNat (48 + u)] := by rw [Lib.decDigits, dif_pos h]
theorem dec_big {u : Nat} (h : ¬ u < 10) : Lib.decDigits u = Lib.decDigits (u / 10) ++ [UInt8.ofNat (48 + u % 10)] := by rw [Lib.decDigits, dif_neg h]
theorem dd_step {u : Nat} (h : 0 < u) : dd u = dd (u / 10) ++ [UInt8.ofNat (48 + u % 10)] := by
  unfold dd
  rw [if_neg (by omega)]
  by_cases h1 : u < 10
  · rw [dec_small h1, if_pos (by omega), Nat.mod_eq_of_lt h1]
    rfl
  · rw [dec_big h1, if_neg (by omega)]
theorem dec_len : ∀ (k u : Nat), u < 10 ^ (k + 1) → (Lib.decDigits u).length ≤ k + 1
  | 0, u, h => by rw [dec_small (by simpa using h)]; simp
  | k + 1, u, h => by
    by_cases h1 : u < 10
    · rw [dec_small h1]; simp
    · rw [dec_big h1]
      have := dec_len k (u / 10) (by rw [Nat.div_lt_iff_lt_mul (by omega)]; rw [Nat.pow_succ] at h; exact h)
      simp
      omega
theorem dec_pos : ∀ (u : Nat), 0 < (Lib.decDigits u).length := by
  intro u
  by_cases h1 : u < 10
  · rw [dec_small h1]; simp
  · rw [dec_big h1]; simp
theorem fig_byte (d : Nat) (h : d < 10) : UInt8.ofNat ((48 : Int) + (d : Int)).toNat = UInt8.ofNat (48 + d) := by
  have : ((48 : Int) + (d : Int)).toNat = 48 + d := by omega
  rw [this]
theorem head_not : ∀ (k u : Nat), u < 10 ^ (k + 1) → 0 < u → (Lib.decDigits u).head? ≠ some 48
  | 0, u, h, h0 => by
    have h1 : u < 10 := by simpa using h
    rw [dec_small h1]
    rcases (show u = 1 ∨ u = 2 ∨ u = 3 ∨ u = 4 ∨ u = 5 ∨ u = 6 ∨ u = 7 ∨ u = 8 ∨ u = 9 by omega) with rfl | rfl | rfl | rfl | rfl | rfl | rfl | rfl | rfl <;> decide
  | k + 1, u, h, h0 => by
    by_cases h1 : u < 10
    · exact head_not 0 u (by simpa using h1) h0
    · rw [dec_big h1]
      have hp := dec_pos (u / 10)
      have := head_not k (u / 10) (by rw [Nat.div_lt_iff_lt_mul (by omega)]; rw [Nat.pow_succ] at h; exact h) (by omega)
      cases hl : Lib.decDigits (u / 10) with
      | nil => rw [hl] at hp; simp at hp
      | cons a t => rw [hl] at this; simpa using this

/-- The first k bytes are figures; the number that they tell. -/
def Dig (s : ByteArray) (k : Nat) : Prop := ∀ j, j < k → 48 ≤ by8 s j ∧ by8 s j ≤ 57
def vl (s : ByteArray) : Nat → Nat
  | 0 => 0
  | k + 1 => vl s k * 10 + (by8 s k - 48).toNat
theorem dig_succ {s : ByteArray} {k : Nat} (h : Dig s k) (h1 : 48 ≤ by8 s k) (h2 : by8 s k ≤ 57) : Dig s (k + 1) := by
  intro j hj
  by_cases e : j = k
  · subst e; exact ⟨h1, h2⟩
  · exact h j (by omega)
theorem vl_mono (s : ByteArray) (k : Nat) : ∀ d, vl s k ≤ vl s (k + d)
  | 0 => Nat.le_refl _
  | d + 1 => by
    have := vl_mono s k d
    have e : vl s (k + (d + 1)) = vl s (k + d) * 10 + (by8 s (k + d) - 48).toNat := rfl
    omega
theorem vl_pow {s : ByteArray} : ∀ {k : Nat}, Dig s k → vl s k < 10 ^ k
  | 0, _ => by simp [vl]
  | k + 1, h => by
    have := vl_pow (k := k) (fun j hj => h j (by omega))
    have h1 := h k (by omega)
    rw [vl, Nat.pow_succ]
    omega
theorem vl_first {s : ByteArray} (h0 : 48 < by8 s 0) : ∀ k, 0 < k → 1 ≤ vl s k := by
  intro k hk
  have h1 : vl s 1 = (by8 s 0 - 48).toNat := by simp [vl]
  have := vl_mono s 1 (k - 1)
  rw [show 1 + (k - 1) = k by omega] at this
  omega
theorem byte_is (s : ByteArray) (k : Nat) (h1 : 48 ≤ by8 s k) : UInt8.ofNat (48 + (by8 s k - 48).toNat) = s.data.toList.getD k 0 := by
  unfold by8 at *
  have : 48 + (((s.data.toList.getD k 0).toNat : Int) - 48).toNat = (s.data.toList.getD k 0).toNat := by omega
  rw [this]
  exact UInt8.ofNat_toNat
theorem take_more (s : ByteArray) (k : Nat) (h : k < s.size) : s.data.toList.take (k + 1) = s.data.toList.take k ++ [s.data.toList.getD k 0] := by
  have h' : k < s.data.toList.length := by simpa using h
  rw [List.take_succ_eq_append_getElem h', List.getD_eq_getElem?_getD, List.getElem?_eq_getElem h']
  rfl
theorem dec_of_text {s : ByteArray} : ∀ {k : Nat}, k + 1 ≤ s.size → Dig s (k + 1) → (k = 0 ∨ 48 < by8 s 0) → Lib.decDigits (vl s (k + 1)) = s.data.toList.take (k + 1)
  | 0, hk, hd, _ => by
    have h1 := hd 0 (by omega)
    have e : vl s 1 = (by8 s 0 - 48).toNat := by simp [vl]
    rw [e, dec_small (by omega), byte_is s 0 h1.1, take_more s 0 (by omega)]
    simp
  | k + 1, hk, hd, h0 => by
    have h1 := hd (k + 1) (by omega)
    have hf : 48 < by8 s 0 := by omega
    have hv := vl_first hf (k + 1) (by omega)
    have e : vl s (k + 1 + 1) = vl s (k + 1) * 10 + (by8 s (k + 1) - 48).toNat := rfl
    rw [dec_big (by omega), e]
    have e1 : (vl s (k + 1) * 10 + (by8 s (k + 1) - 48).toNat) / 10 = vl s (k + 1) := by omega
    have e2 : (vl s (k + 1) * 10 + (by8 s (k + 1) - 48).toNat) % 10 = (by8 s (k + 1) - 48).toNat := by omega
    rw [e1, e2, dec_of_text (k := k) (by omega) (fun j hj => hd j (by omega)) (Or.inr hf), byte_is s (k + 1) h1.1, take_more s (k + 1) (by omega)]
/-- A text is read. -/
def RdOk (s : ByteArray) : Prop := 0 < s.size ∧ (s.size = 1 ∨ by8 s 0 ≠ 48) ∧ Dig s s.size ∧ vl s s.size ≤ 1000000000
theorem rd_eq {s : ByteArray} (hd : Dig s s.size) (h0 : 0 < s.size) (h1 : s.size = 1 ∨ by8 s 0 ≠ 48) : (⟨(Lib.decDigits (vl s s.size)).toArray⟩ : ByteArray) = s := by
  obtain ⟨k, hk⟩ : ∃ k, s.size = k + 1 := ⟨s.size - 1, by omega⟩
  have h2 := hd 0 h0
  have h := dec_of_text (s := s) (k := k) (by omega) (by rw [← hk]; exact hd) (by omega)
  apply ByteArray.ext
  apply Array.ext'
  rw [hk, List.toList_toArray, h]
  exact List.take_of_length_le (by simp [hk])
theorem rd_ne {s : ByteArray} (hk : s.size ≤ 10) (hd : Dig s s.size) (h : ¬ (0 < s.size ∧ (s.size = 1 ∨ by8 s 0 ≠ 48))) : (⟨(Lib.decDigits (vl s s.size)).toArray⟩ : ByteArray) ≠ s := by
  intro e
  have el : Lib.decDigits (vl s s.size) = s.data.toList := by
    have := congrArg (fun b : ByteArray => b.data.toList) e
    simpa using this
  have hlen := congrArg List.length el
  have hs : s.data.toList.length = s.size := by simp
  rw [hs] at hlen
  have hp := dec_pos (vl s s.size)
  have h48 : by8 s 0 = 48 := by omega
  have hh : s.data.toList.head? = some 48 := by
    have : s.data.toList.getD 0 0 = 48 := by
      unfold by8 at h48
      apply UInt8.toNat.inj
      show (s.data.toList.getD 0 0).toNat = 48
      omega
    cases hl : s.data.toList with
    | nil => rw [hl] at hs; simp at hs; omega
    | cons a t => rw [hl] at this; simpa using this
  by_cases hz : vl s s.size = 0
  · rw [hz, dec_small (by omega)] at hlen
    simp at hlen
    omega
  · refine head_not 9 (vl s s.size) ?_ (by omega) (by rw [el]; exact hh)
    have := vl_pow hd
    have : 10 ^ s.size ≤ 10 ^ 10 := Nat.pow_le_pow_right (by omega) hk
    omega
end Go.Proofs.Ytdlbnllkfnfgoaa
