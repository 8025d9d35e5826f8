/- Check sums of 32 bits as plain functions of numbers: one step is linear and one to one, and four steps are one look at a table of sixteen. -/
import Derived.Test.YtkbcikiencogbaaDoorLib
import Derived.Laws.BitsAllLaws
namespace Go.Proofs.YtkbcikiencogbaaDoor
open Go.RowKit

/-- One of the eight steps of a byte. -/
def bit1 (s : Nat) : Nat := (s / 2) ^^^ (if s % 2 = 1 then 3558460437 else 0)
def bit4 (s : Nat) : Nat := bit1 (bit1 (bit1 (bit1 s)))
/-- Some of the eight steps. -/
def bitN : Nat → Nat → Nat
  | 0, s => s
  | k + 1, s => bit1 (bitN k s)
theorem bitN_8 (s : Nat) : bitN 8 s = bit4 (bit4 s) := rfl
theorem bit1_lt {s : Nat} (h : s < 4294967296) : bit1 s < 4294967296 := by
  unfold bit1
  refine Nat.xor_lt_two_pow (n := 32) (by omega) ?_
  split <;> decide
theorem bit4_lt {s : Nat} (h : s < 4294967296) : bit4 s < 4294967296 := bit1_lt (bit1_lt (bit1_lt (bit1_lt h)))
theorem bitN_lt {s : Nat} (h : s < 4294967296) : ∀ k, bitN k s < 4294967296
  | 0 => h
  | k + 1 => bit1_lt (bitN_lt h k)
theorem xor_four (a b c d : Nat) : (a ^^^ b) ^^^ (c ^^^ d) = (a ^^^ c) ^^^ (b ^^^ d) := by
  rw [Nat.xor_assoc, ← Nat.xor_assoc b c d, Nat.xor_comm b c, Nat.xor_assoc c b d, ← Nat.xor_assoc]
theorem bit1_xor (a b : Nat) : bit1 (a ^^^ b) = bit1 a ^^^ bit1 b := by
  unfold bit1
  rw [xor_four, Nat.xor_div_two]
  congr 1
  have h := Nat.xor_mod_two_eq_one (a := a) (b := b)
  by_cases ha : a % 2 = 1 <;> by_cases hb : b % 2 = 1 <;> simp [ha, hb] at h ⊢
theorem bit4_xor (a b : Nat) : bit4 (a ^^^ b) = bit4 a ^^^ bit4 b := by
  unfold bit4
  rw [bit1_xor, bit1_xor, bit1_xor, bit1_xor]
theorem xor_split (q r : Nat) (h : r < 16) : 16 * q + r = (16 * q) ^^^ r := by
  refine Nat.eq_of_testBit_eq fun j => ?_
  rw [Nat.testBit_xor, show (16 : Nat) = 2 ^ 4 from rfl, Nat.testBit_two_pow_mul_add q (by omega) j, Nat.testBit_two_pow_mul]
  by_cases hj : j < 4
  · rw [if_pos hj, decide_eq_false (by omega)]
    simp
  · rw [if_neg hj, decide_eq_true (by omega), Nat.testBit_lt_two_pow (Nat.lt_of_lt_of_le h (show 2 ^ 4 ≤ 2 ^ j from Nat.pow_le_pow_right (by decide) (by omega : 4 ≤ j)))]
    simp
theorem bit1_even (q : Nat) : bit1 (2 * q) = q := by
  unfold bit1
  rw [if_neg (by omega), Nat.xor_zero]
  omega
theorem bit4_even (q : Nat) : bit4 (16 * q) = q := by
  unfold bit4
  rw [show 16 * q = 2 * (2 * (2 * (2 * q))) by omega, bit1_even, bit1_even, bit1_even, bit1_even]
/-- The table of the program. -/
def qTab : List Int := [0, 1166650509, 2333301018, 3466261911, 3189058079, 4221339282, 889615109, 1888477064, 3558460437, 2442158232, 1594529039, 444807554, 1779230218, 797264519, 3776954128, 2761298845]
theorem qTab_is (r : Nat) (h : r < 16) : qTab.getD r 0 = (bit4 r : Nat) := by
  rcases (show r = 0 ∨ r = 1 ∨ r = 2 ∨ r = 3 ∨ r = 4 ∨ r = 5 ∨ r = 6 ∨ r = 7 ∨ r = 8 ∨ r = 9 ∨ r = 10 ∨ r = 11 ∨ r = 12 ∨ r = 13 ∨ r = 14 ∨ r = 15 by omega) with rfl | rfl | rfl | rfl | rfl | rfl | rfl | rfl | rfl | rfl | rfl | rfl | rfl | rfl | rfl | rfl <;> decide
theorem bit4_look (s : Nat) : bit4 s = (s / 16) ^^^ bit4 (s % 16) := by
  have h : s = 16 * (s / 16) + s % 16 := by omega
  rw [xor_split (s / 16) (s % 16) (by omega)] at h
  conv => lhs; rw [h, bit4_xor, bit4_even]

theorem xor_zero_eq {a b : Nat} (h : a ^^^ b = 0) : a = b := by
  have h1 : (a ^^^ b) ^^^ b = 0 ^^^ b := by rw [h]
  rw [Nat.xor_assoc, Nat.xor_self, Nat.xor_zero, Nat.zero_xor] at h1
  exact h1
theorem bit1_zero {d : Nat} (hd : d < 4294967296) (h : bit1 d = 0) : d = 0 := by
  unfold bit1 at h
  have := xor_zero_eq h
  split at this <;> omega
theorem bit1_inj {a b : Nat} (ha : a < 4294967296) (hb : b < 4294967296) (h : bit1 a = bit1 b) : a = b := by
  refine xor_zero_eq (bit1_zero (Nat.xor_lt_two_pow (n := 32) ha hb) ?_)
  rw [bit1_xor, h, Nat.xor_self]
theorem bitN_inj {a b : Nat} (ha : a < 4294967296) (hb : b < 4294967296) : ∀ k, bitN k a = bitN k b → a = b
  | 0, h => h
  | k + 1, h => bitN_inj ha hb k (bit1_inj (bitN_lt ha k) (bitN_lt hb k) h)

/-- Byte number k of a string, 0 behind its end. -/
def byN (s : ByteArray) (k : Nat) : Nat := (s.data.toList.getD k 0).toNat
theorem byN_8 (s : ByteArray) (k : Nat) : by8 s k = (byN s k : Nat) := rfl
theorem byN_lt (s : ByteArray) (k : Nat) : byN s k < 256 := (s.data.toList.getD k 0).toNat_lt
/-- The sum behind the first k bytes. -/
def crc (s : Nat) (t : ByteArray) : Nat → Nat
  | 0 => s
  | k + 1 => bitN 8 (crc s t k ^^^ byN t k)
theorem mix_lt {s b : Nat} (hs : s < 4294967296) (hb : b < 256) : s ^^^ b < 4294967296 := Nat.xor_lt_two_pow (n := 32) hs (by omega)
theorem crc_lt {s : Nat} (t : ByteArray) (hs : s < 4294967296) : ∀ k, crc s t k < 4294967296
  | 0 => hs
  | k + 1 => bitN_lt (mix_lt (crc_lt t hs k) (byN_lt t k)) 8
theorem crc_same {s : Nat} {t u : ByteArray} : ∀ k, (∀ i, i < k → byN t i = byN u i) → crc s t k = crc s u k
  | 0, _ => rfl
  | k + 1, h => by
    rw [crc, crc, crc_same k (fun i hi => h i (by omega)), h k (by omega)]
/-- A byte that is another leaves another sum. -/
theorem crc_other {s : Nat} {t u : ByteArray} (hs : s < 4294967296) (i : Nat) (hi : byN t i ≠ byN u i) (ho : ∀ j, j ≠ i → byN t j = byN u j) : ∀ k, i < k → crc s t k ≠ crc s u k
  | 0, h => absurd h (by omega)
  | k + 1, h => by
    intro he
    rw [crc, crc] at he
    have h1 := bitN_inj (mix_lt (crc_lt t hs k) (byN_lt t k)) (mix_lt (crc_lt u hs k) (byN_lt u k)) 8 he
    by_cases hk : i = k
    · subst hk
      rw [crc_same i (fun j hj => ho j (by omega))] at h1
      apply hi
      have h2 : crc s u i ^^^ (crc s u i ^^^ byN t i) = crc s u i ^^^ (crc s u i ^^^ byN u i) := by rw [h1]
      rw [← Nat.xor_assoc, ← Nat.xor_assoc, Nat.xor_self, Nat.zero_xor, Nat.zero_xor] at h2
      exact h2
    · rw [ho k (fun e => hk e.symm)] at h1
      refine crc_other hs i hi ho k (by omega) ?_
      have h2 : (crc s t k ^^^ byN u k) ^^^ byN u k = (crc s u k ^^^ byN u k) ^^^ byN u k := by rw [h1]
      rw [Nat.xor_assoc, Nat.xor_assoc, Nat.xor_self, Nat.xor_zero, Nat.xor_zero] at h2
      exact h2

/-- A sum in four bytes, the highest first. -/
def fourL (x : Nat) : List Int := [((x / 16777216 : Nat) : Int), ((x / 65536 % 256 : Nat) : Int), ((x / 256 % 256 : Nat) : Int), ((x % 256 : Nat) : Int)]
def four (x : Nat) : ByteArray := strOfNums (fourL x)
theorem four_size (x : Nat) : (four x).size = 4 := by
  unfold four
  rw [strOfNums_size]
  rfl
/-- The sum of a text. -/
def sumOf (t : ByteArray) : Nat := crc 4294967295 t t.size
theorem sumOf_lt (t : ByteArray) : sumOf t < 4294967296 := crc_lt t (by decide) _
/-- The text is a right sealed one. -/
def SealOk (t : ByteArray) : Prop := 4 ≤ t.size ∧ t.size ≤ 20004 ∧ t.extract (t.size - 4) t.size = four (sumOf (t.extract 0 (t.size - 4)))
/-- What Unsealed answers. -/
def UsAns (t : ByteArray) (e : Ending) : Prop :=
  (SealOk t ∧ e = .returned (.tuple #[.string (t.extract 0 (t.size - 4)), .bool true])) ∨ (¬ SealOk t ∧ e = .returned (.tuple #[.string ⟨#[]⟩, .bool false]))
/-- What Sealed answers. -/
def SeAns (t : ByteArray) (e : Ending) : Prop :=
  (t.size ≤ 20000 ∧ e = .returned (.tuple #[.string (t ++ four (sumOf t)), .bool true])) ∨ (20000 < t.size ∧ e = .returned (.tuple #[.string ⟨#[]⟩, .bool false]))
end Go.Proofs.YtkbcikiencogbaaDoor
