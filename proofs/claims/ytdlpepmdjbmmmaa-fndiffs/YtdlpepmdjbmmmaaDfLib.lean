/- What changed, as a plain function. -/
import Derived.Test.YtdlpepmdjbmmmaaComLib
import Derived.Test.YtdlpepmdjbmmmaaEdLib
namespace Go.Proofs.Ytdlpepmdjbmmmaa
open Go.RowKit

def difR (x : ByteArray) (a : List ByteArray) (f : List ByteArray → List Ed) : List ByteArray → List Ed
  | [] => ⟨2, x⟩ :: f []
  | y :: b => if x = y then ⟨1, x⟩ :: f b else if com (x :: a) b ≤ com a (y :: b) then ⟨2, x⟩ :: f (y :: b) else ⟨3, y⟩ :: difR x a f b
/-- What changed. -/
def dif : List ByteArray → List ByteArray → List Ed
  | [] => fun b => b.map fun y => ⟨3, y⟩
  | x :: a => difR x a (dif a)
theorem dif_nil (b : List ByteArray) : dif [] b = b.map fun y => ⟨3, y⟩ := rfl
theorem dif_end (x : ByteArray) (a : List ByteArray) : dif (x :: a) [] = ⟨2, x⟩ :: dif a [] := rfl
theorem dif_same {x y : ByteArray} (a b : List ByteArray) (h : x = y) : dif (x :: a) (y :: b) = ⟨1, x⟩ :: dif a b := by
  show difR x a (dif a) (y :: b) = _
  rw [difR, if_pos h]
theorem dif_drop {x y : ByteArray} (a b : List ByteArray) (h : x ≠ y) (hc : com (x :: a) b ≤ com a (y :: b)) : dif (x :: a) (y :: b) = ⟨2, x⟩ :: dif a (y :: b) := by
  show difR x a (dif a) (y :: b) = _
  rw [difR, if_neg h, if_pos hc]
theorem dif_add {x y : ByteArray} (a b : List ByteArray) (h : x ≠ y) (hc : ¬ com (x :: a) b ≤ com a (y :: b)) : dif (x :: a) (y :: b) = ⟨3, y⟩ :: dif (x :: a) b := by
  show difR x a (dif a) (y :: b) = _
  rw [difR, if_neg h, if_neg hc]
  rfl
/-- At places of both lists. -/
def dfAt (xs ys : List ByteArray) (i k : Nat) : List Ed := dif (xs.drop i) (ys.drop k)
theorem dfAt_same {xs ys : List ByteArray} {i k : Nat} {x y : ByteArray} (hx : xs[i]? = some x) (hy : ys[k]? = some y) (h : x = y) : dfAt xs ys i k = ⟨1, x⟩ :: dfAt xs ys (i + 1) (k + 1) := by
  unfold dfAt; rw [dropC hx, dropC hy, dif_same _ _ h]
theorem dfAt_drop {xs ys : List ByteArray} {i k : Nat} {x y : ByteArray} (hx : xs[i]? = some x) (hy : ys[k]? = some y) (h : x ≠ y) (hc : ct xs ys i (k + 1) ≤ ct xs ys (i + 1) k) : dfAt xs ys i k = ⟨2, x⟩ :: dfAt xs ys (i + 1) k := by
  unfold dfAt ct at *
  rw [dropC hx] at hc ⊢
  rw [dropC hy] at hc ⊢
  rw [dif_drop _ _ h (by omega)]
theorem dfAt_add {xs ys : List ByteArray} {i k : Nat} {x y : ByteArray} (hx : xs[i]? = some x) (hy : ys[k]? = some y) (h : x ≠ y) (hc : ¬ ct xs ys i (k + 1) ≤ ct xs ys (i + 1) k) : dfAt xs ys i k = ⟨3, y⟩ :: dfAt xs ys i (k + 1) := by
  unfold dfAt ct at *
  rw [dropC hx] at hc ⊢
  rw [dropC hy] at hc ⊢
  rw [dif_add _ _ h (by omega)]
theorem dfAt_endB {xs ys : List ByteArray} {i k : Nat} {x : ByteArray} (hx : xs[i]? = some x) (hk : ys.length ≤ k) : dfAt xs ys i k = ⟨2, x⟩ :: dfAt xs ys (i + 1) k := by
  unfold dfAt; rw [dropC hx, List.drop_of_length_le hk, dif_end]
theorem dfAt_endA {xs ys : List ByteArray} {i k : Nat} {y : ByteArray} (hi : xs.length ≤ i) (hy : ys[k]? = some y) : dfAt xs ys i k = ⟨3, y⟩ :: dfAt xs ys i (k + 1) := by
  unfold dfAt; rw [dropC hy, List.drop_of_length_le hi, dif_nil, dif_nil, List.map_cons]
theorem dfAt_end {xs ys : List ByteArray} {i k : Nat} (hi : xs.length ≤ i) (hk : ys.length ≤ k) : dfAt xs ys i k = [] := by
  unfold dfAt; rw [List.drop_of_length_le hk, List.drop_of_length_le hi, dif_nil]; rfl
/-- What DiffOf tells. -/
def dfOf (xs ys : List ByteArray) : List Ed := if xs.length ≤ 200 ∧ ys.length ≤ 200 then dif xs ys else []
theorem dif_len : ∀ (a b : List ByteArray), (dif a b).length ≤ a.length + b.length
  | [], b => by rw [dif_nil]; simp
  | x :: a, [] => by rw [dif_end]; have := dif_len a []; simp at this ⊢; omega
  | x :: a, y :: b => by
    by_cases h : x = y
    · rw [dif_same _ _ h]; have := dif_len a b; simp; omega
    · by_cases hc : com (x :: a) b ≤ com a (y :: b)
      · rw [dif_drop _ _ h hc]; have := dif_len a (y :: b); simp at this ⊢; omega
      · rw [dif_add _ _ h hc]; have := dif_len (x :: a) b; simp at this ⊢; omega
theorem dif_mem : ∀ (a b : List ByteArray), ∀ e ∈ dif a b, e.line ∈ a ∨ e.line ∈ b
  | [], b => by
    intro e h
    rw [dif_nil] at h
    obtain ⟨y, hy, rfl⟩ := List.mem_map.1 h
    exact .inr hy
  | x :: a, [] => by
    intro e h
    rw [dif_end] at h
    rcases List.mem_cons.1 h with rfl | h
    · exact .inl (by simp)
    · rcases dif_mem a [] e h with h | h
      · exact .inl (by simp [h])
      · cases h
  | x :: a, y :: b => by
    intro e h
    by_cases hxy : x = y
    · rw [dif_same _ _ hxy] at h
      rcases List.mem_cons.1 h with rfl | h
      · exact .inl (by simp)
      · rcases dif_mem a b e h with h | h
        · exact .inl (by simp [h])
        · exact .inr (by simp [h])
    · by_cases hc : com (x :: a) b ≤ com a (y :: b)
      · rw [dif_drop _ _ hxy hc] at h
        rcases List.mem_cons.1 h with rfl | h
        · exact .inl (by simp)
        · rcases dif_mem a (y :: b) e h with h | h
          · exact .inl (by simp [h])
          · exact .inr h
      · rw [dif_add _ _ hxy hc] at h
        rcases List.mem_cons.1 h with rfl | h
        · exact .inr (by simp)
        · rcases dif_mem (x :: a) b e h with h | h
          · exact .inl h
          · exact .inr (by simp [h])
theorem dfOf_len (xs ys : List ByteArray) : (dfOf xs ys).length ≤ 400 := by
  unfold dfOf
  split
  · rename_i h; have := dif_len xs ys; omega
  · simp
theorem dfOf_mem (xs ys : List ByteArray) {M : Nat} (hx : ∀ t ∈ xs, t.size ≤ M) (hy : ∀ t ∈ ys, t.size ≤ M) : ∀ e ∈ dfOf xs ys, e.line.size ≤ M := by
  intro e h
  unfold dfOf at h
  split at h
  · rcases dif_mem xs ys e h with h | h
    · exact hx _ h
    · exact hy _ h
  · cases h
end Go.Proofs.Ytdlpepmdjbmmmaa
