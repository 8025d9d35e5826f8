/- Edits done to a list of lines, as plain functions. -/
import Derived.Test.YtdlpepmdjbmmmaaEdLib
namespace Go.Proofs.Ytdlpepmdjbmmmaa
open Go.RowKit

/-- The next line taken, where it is this one. -/
def tk (t : ByteArray) : List ByteArray → Option (List ByteArray)
  | [] => none
  | y :: l => if y = t then some l else none
/-- One edit: what is left, and what is done. -/
def stp (x : Ed) (ls ds : List ByteArray) : Option (List ByteArray × List ByteArray) :=
  if x.kind = 1 then (tk x.line ls).map fun l => (l, ds ++ [x.line])
  else if x.kind = 2 then (tk x.line ls).map fun l => (l, ds)
  else if x.kind = 3 then some (ls, ds ++ [x.line])
  else none
def aplF : List ByteArray → List ByteArray → List Ed → Option (List ByteArray)
  | ls, ds, [] => if ls.length = 0 then some ds else none
  | ls, ds, x :: xs => match stp x ls ds with
    | some (l, d) => aplF l d xs
    | none => none
def apl (ls : List ByteArray) (xs : List Ed) : Option (List ByteArray) := aplF ls [] xs
theorem aplF_no {ls ds : List ByteArray} {x : Ed} {xs : List Ed} (h : stp x ls ds = none) : aplF ls ds (x :: xs) = none := by rw [aplF, h]
theorem aplF_yes {ls ds l d : List ByteArray} {x : Ed} {xs : List Ed} (h : stp x ls ds = some (l, d)) : aplF ls ds (x :: xs) = aplF l d xs := by rw [aplF, h]
theorem aplF_end {ls ds : List ByteArray} (h : ls.length = 0) : aplF ls ds [] = some ds := by rw [aplF, if_pos h]
theorem aplF_left {ls ds : List ByteArray} (h : ls.length ≠ 0) : aplF ls ds [] = none := by rw [aplF, if_neg h]
theorem drop_cons {α : Type} {xs : List α} {k : Nat} {x : α} (h : xs[k]? = some x) : xs.drop k = x :: xs.drop (k + 1) := by
  have hlt := (List.getElem?_eq_some_iff.1 h).1
  rw [List.drop_eq_getElem_cons hlt, (List.getElem?_eq_some_iff.1 h).2]
theorem stp_one {x : Ed} {y : ByteArray} {ls ds : List ByteArray} (h : x.kind = 1) (hy : y = x.line) : stp x (y :: ls) ds = some (ls, ds ++ [x.line]) := by
  unfold stp; rw [if_pos h]; simp [tk, hy]
theorem stp_one_no {x : Ed} {y : ByteArray} {ls ds : List ByteArray} (h : x.kind = 1) (hy : y ≠ x.line) : stp x (y :: ls) ds = none := by
  unfold stp; rw [if_pos h]; simp [tk, hy]
theorem stp_one_nil {x : Ed} {ds : List ByteArray} (h : x.kind = 1) : stp x [] ds = none := by
  unfold stp; rw [if_pos h]; simp [tk]
theorem stp_two {x : Ed} {y : ByteArray} {ls ds : List ByteArray} (h : x.kind = 2) (hy : y = x.line) : stp x (y :: ls) ds = some (ls, ds) := by
  unfold stp; rw [if_neg (by omega), if_pos h]; simp [tk, hy]
theorem stp_two_no {x : Ed} {y : ByteArray} {ls ds : List ByteArray} (h : x.kind = 2) (hy : y ≠ x.line) : stp x (y :: ls) ds = none := by
  unfold stp; rw [if_neg (by omega), if_pos h]; simp [tk, hy]
theorem stp_two_nil {x : Ed} {ds : List ByteArray} (h : x.kind = 2) : stp x [] ds = none := by
  unfold stp; rw [if_neg (by omega), if_pos h]; simp [tk]
theorem stp_three {x : Ed} {ls ds : List ByteArray} (h : x.kind = 3) : stp x ls ds = some (ls, ds ++ [x.line]) := by
  unfold stp; rw [if_neg (by omega), if_neg (by omega), if_pos h]
theorem stp_other {x : Ed} {ls ds : List ByteArray} (h1 : x.kind ≠ 1) (h2 : x.kind ≠ 2) (h3 : x.kind ≠ 3) : stp x ls ds = none := by
  unfold stp; rw [if_neg h1, if_neg h2, if_neg h3]
/-- What is done is no longer than the edits. -/
theorem stp_len {x : Ed} {ls ds l d : List ByteArray} (h : stp x ls ds = some (l, d)) : d.length ≤ ds.length + 1 := by
  unfold stp at h
  split at h
  · simp at h; obtain ⟨a, _, _, rfl⟩ := h; simp
  split at h
  · simp at h; obtain ⟨a, _, _, rfl⟩ := h; omega
  split at h
  · simp at h; obtain ⟨_, rfl⟩ := h; simp
  · simp at h
theorem stp_left {x : Ed} {ls ds l d : List ByteArray} (h : stp x ls ds = some (l, d)) : l = ls ∨ ∃ y, ls = y :: l := by
  have ht : ∀ {t l}, tk t ls = some l → ∃ y, ls = y :: l := by
    intro t l h
    cases ls with
    | nil => simp [tk] at h
    | cons y ls =>
      simp only [tk] at h
      split at h
      · simp at h; exact ⟨y, by rw [h]⟩
      · simp at h
  unfold stp at h
  split at h
  · simp at h; obtain ⟨a, ha, rfl, _⟩ := h; exact .inr (ht ha)
  split at h
  · simp at h; obtain ⟨a, ha, rfl, _⟩ := h; exact .inr (ht ha)
  split at h
  · simp at h; exact .inl h.1.symm
  · simp at h
theorem aplF_len : ∀ {xs : List Ed} {ls ds os : List ByteArray}, aplF ls ds xs = some os → os.length ≤ ds.length + xs.length
  | [], ls, ds, os, h => by
    rw [aplF] at h
    split at h
    · simp at h; subst h; simp
    · simp at h
  | x :: xs, ls, ds, os, h => by
    cases hs : stp x ls ds with
    | none => rw [aplF_no hs] at h; cases h
    | some p =>
      obtain ⟨l, d⟩ := p
      rw [aplF_yes hs] at h
      have h1 := aplF_len h
      have h2 := stp_len hs
      simp
      omega
theorem apl_len {ls os : List ByteArray} {xs : List Ed} (h : apl ls xs = some os) : os.length ≤ xs.length := by have := aplF_len h; simpa using this
end Go.Proofs.Ytdlpepmdjbmmmaa
