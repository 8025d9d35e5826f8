/- A sealed text with one byte turned is no right sealed text; a sum goes on where it stopped. -/
import Derived.Test.YtkbcikiencogbaaDoorSumLib
namespace Go.Proofs.YtkbcikiencogbaaDoor
open Go.RowKit

theorem byN_nums (bs : List Int) (k : Nat) (x : Int) (h : bs[k]? = some x) (h0 : 0 ≤ x) (h1 : x ≤ 255) : (byN (strOfNums bs) k : Int) = x := by
  unfold byN
  rw [strOfNums_data, List.getD_eq_getElem?_getD, List.getElem?_map, h]
  simp [Nat.mod_eq_of_lt (show x.toNat < 256 by omega)]
  omega
theorem ext_byN {a b : ByteArray} (hs : a.size = b.size) (h : ∀ j, j < a.size → byN a j = byN b j) : a = b := by
  refine ByteArray.ext (Array.ext hs fun j h1 h2 => ?_)
  have := h j h1
  unfold byN at this
  rw [List.getD_eq_getElem?_getD, List.getD_eq_getElem?_getD, List.getElem?_eq_getElem (by simpa using h1), List.getElem?_eq_getElem (by simpa using h2)] at this
  exact UInt8.toNat_inj.1 (by simpa using this)
theorem byN_part (t : ByteArray) (a b j : Nat) (hb : b ≤ t.size) (hj : a + j < b) : byN (t.extract a b) j = byN t (a + j) := by
  have h1 := byN_8 (t.extract a b) j
  have h2 := byN_8 t (a + j)
  rw [← by8_at (t.extract a b) j (by rw [ByteArray.size_extract]; omega)] at h1
  rw [← by8_at t (a + j) (by omega)] at h2
  rw [ByteArray.getElem_extract] at h1
  omega
theorem byN_left (a b : ByteArray) (k : Nat) (h : k < a.size) : byN (a ++ b) k = byN a k := by
  unfold byN
  rw [ByteArray.data_append, Array.toList_append, List.getD_eq_getElem?_getD, List.getD_eq_getElem?_getD, List.getElem?_append_left (by simpa using h)]
theorem byN_right (a b : ByteArray) (k : Nat) : byN (a ++ b) (a.size + k) = byN b k := by
  unfold byN
  have h : a.data.toList.length = a.size := by simp
  rw [ByteArray.data_append, Array.toList_append, List.getD_eq_getElem?_getD, List.getElem?_append_right (by omega), h, Nat.add_sub_cancel_left, ← List.getD_eq_getElem?_getD]
theorem four_inj {x y : Nat} (hx : x < 4294967296) (hy : y < 4294967296) (h : four x = four y) : x = y := by
  have e : ∀ (k : Nat) (z u : Int), (fourL x)[k]? = some z → (fourL y)[k]? = some u → 0 ≤ z → z ≤ 255 → 0 ≤ u → u ≤ 255 → z = u := fun k z u h1 h2 z0 z1 u0 u1 => by
    rw [← byN_nums (fourL x) k z h1 z0 z1, ← byN_nums (fourL y) k u h2 u0 u1]
    unfold four at h
    rw [h]
  have e0 := e 0 _ _ rfl rfl (by omega) (by omega) (by omega) (by omega)
  have e1 := e 1 _ _ rfl rfl (by omega) (by omega) (by omega) (by omega)
  have e2 := e 2 _ _ rfl rfl (by omega) (by omega) (by omega) (by omega)
  have e3 := e 3 _ _ rfl rfl (by omega) (by omega) (by omega) (by omega)
  omega
theorem sumOf_part (t : ByteArray) (n : Nat) (h : n ≤ t.size) : sumOf (t.extract 0 n) = crc 4294967295 t n := by
  unfold sumOf
  have hz : (t.extract 0 n).size = n := by rw [ByteArray.size_extract]; omega
  rw [hz]
  exact crc_same n fun i hi => by have := byN_part t 0 n i h (by omega); rwa [Nat.zero_add] at this

/-- What Sealed writes is right, and its text is the one that was sealed. -/
theorem seal_ok (t : ByteArray) (h : t.size ≤ 20000) : SealOk (t ++ four (sumOf t)) ∧ (t ++ four (sumOf t)).extract 0 ((t ++ four (sumOf t)).size - 4) = t := by
  have hz : (t ++ four (sumOf t)).size = t.size + 4 := by rw [ByteArray.size_append, four_size]
  have he : (t ++ four (sumOf t)).extract 0 (t.size + 4 - 4) = t := by
    refine ext_byN (by rw [ByteArray.size_extract, hz]; omega) fun j hj => ?_
    rw [ByteArray.size_extract, hz] at hj
    rw [byN_part _ 0 _ j (by omega) (by omega), Nat.zero_add, byN_left _ _ _ (by omega)]
  unfold SealOk
  rw [hz, he]
  refine ⟨⟨by omega, by omega, ?_⟩, rfl⟩
  refine ext_byN (by rw [ByteArray.size_extract, hz, four_size]; omega) fun j hj => ?_
  rw [ByteArray.size_extract, hz] at hj
  rw [byN_part _ _ _ j (by omega) (by omega), show t.size + 4 - 4 + j = t.size + j by omega, byN_right]

/-- One byte that is another. -/
theorem turned_not {T U : ByteArray} (hs : U.size = T.size) (i : Nat) (hi : i < T.size) (hne : byN U i ≠ byN T i) (ho : ∀ j, j ≠ i → byN U j = byN T j) (hT : SealOk T) : ¬ SealOk U := by
  intro hU
  obtain ⟨h4, hm, heT⟩ := hT
  obtain ⟨_, _, heU⟩ := hU
  rw [hs] at heU
  rw [sumOf_part T _ (by omega)] at heT
  rw [sumOf_part U _ (by omega)] at heU
  by_cases hin : i < T.size - 4
  · have h1 : U.extract (T.size - 4) T.size = T.extract (T.size - 4) T.size := by
      refine ext_byN (by rw [ByteArray.size_extract, ByteArray.size_extract, hs]) fun j hj => ?_
      rw [ByteArray.size_extract, hs] at hj
      rw [byN_part U _ _ j (by omega) (by omega), byN_part T _ _ j (by omega) (by omega), ho _ (by omega)]
    rw [h1, heT] at heU
    exact crc_other (by decide) i hne.symm (fun j hj => (ho j hj).symm) _ hin (four_inj (crc_lt _ (by decide) _) (crc_lt _ (by decide) _) heU)
  · have h1 : crc 4294967295 U (T.size - 4) = crc 4294967295 T (T.size - 4) := crc_same _ fun j hj => ho j (by omega)
    rw [h1, ← heT] at heU
    apply hne
    have h2 := byN_part U (T.size - 4) T.size (i - (T.size - 4)) (by omega) (by omega)
    have h3 := byN_part T (T.size - 4) T.size (i - (T.size - 4)) (by omega) (by omega)
    rw [show T.size - 4 + (i - (T.size - 4)) = i by omega] at h2 h3
    rw [← h2, ← h3, heU]

/-- The sum goes on. -/
theorem sum_on (s x : ByteArray) : crc (sumOf s) x x.size = sumOf (s ++ x) := by
  have key : ∀ k, crc (sumOf s) x k = crc 4294967295 (s ++ x) (s.size + k) := by
    intro k
    induction k with
    | zero => exact crc_same s.size fun i hi => (byN_left s x i hi).symm
    | succ k ih =>
      rw [crc, ih]
      show _ = bitN 8 (crc 4294967295 (s ++ x) (s.size + k) ^^^ byN (s ++ x) (s.size + k))
      rw [byN_right]
  rw [key x.size]
  unfold sumOf
  rw [ByteArray.size_append]
end Go.Proofs.YtkbcikiencogbaaDoor
