/- What goes up or down in a heap is neither lost nor made. -/
import Derived.Test.YtokfemlcamnaaaaHeapLib
namespace Go.Proofs.Ytokfemlcamnaaaa

section
variable {α : Type} {lt : α → α → Bool} (f : α → Int)
/-- What all of a list come to. -/
def totS : List α → Int
  | [] => 0
  | x :: xs => f x + totS xs
theorem tot_app : ∀ (xs ys : List α), totS f (xs ++ ys) = totS f xs + totS f ys
  | [], ys => by simp [totS]
  | x :: xs, ys => by
    rw [List.cons_append, totS, totS, tot_app xs ys]
    omega
theorem tot_set : ∀ (xs : List α) (i : Nat) (x y : α), xs[i]? = some x → totS f (xs.set i y) = totS f xs - f x + f y
  | [], i, x, y, h => by simp at h
  | z :: xs, 0, x, y, h => by
    have : z = x := by simpa using h
    subst this
    rw [List.set_cons_zero, totS, totS]
    omega
  | z :: xs, i + 1, x, y, h => by
    rw [List.set_cons_succ, totS, totS, tot_set xs i x y (by simpa using h)]
    omega
theorem tot_swp (xs : List α) (i j : Nat) : totS f (swp xs i j) = totS f xs := by
  unfold swp
  split
  · rename_i x y hx hy
    by_cases e : i = j
    · subst e
      rw [hx] at hy
      cases hy
      have hi := (List.getElem?_eq_some_iff.1 hx).1
      rw [tot_set f _ i x x (by rw [List.getElem?_set_self hi]), tot_set f xs i x x hx]
      omega
    · rw [tot_set f _ j y x (by rw [List.getElem?_set_ne e]; exact hy), tot_set f xs i x y hx]
      omega
  · rfl
theorem tot_upF : ∀ (k : Nat) (xs : List α) (i : Nat), totS f (upF lt k xs i) = totS f xs
  | 0, _, _ => rfl
  | k + 1, xs, i => by
    rw [upF]
    split
    · rw [tot_upF k, tot_swp]
    · rfl
theorem tot_dnF : ∀ (k : Nat) (xs : List α) (i : Nat), totS f (dnF lt k xs i) = totS f xs
  | 0, _, _ => rfl
  | k + 1, xs, i => by
    rw [dnF]
    split
    · rw [tot_dnF k, tot_swp]
    · rfl
theorem tot_push (xs : List α) (x : α) : totS f (pushL lt xs x) = totS f xs + f x := by
  unfold pushL up
  rw [tot_upF, tot_app]
  simp [totS]
theorem tot_take (xs : List α) (y : α) (h : xs[xs.length - 1]? = some y) : totS f (xs.take (xs.length - 1)) = totS f xs - f y := by
  have hl := (List.getElem?_eq_some_iff.1 h).1
  have e := tot_app f (xs.take (xs.length - 1)) (xs.drop (xs.length - 1))
  rw [List.take_append_drop, List.drop_eq_getElem_cons hl, List.drop_of_length_le (by omega)] at e
  have e2 : xs[xs.length - 1] = y := by rw [List.getElem?_eq_getElem hl] at h; cases h; rfl
  rw [e2] at e
  simp [totS] at e
  omega
theorem tot_rest (xs : List α) (x : α) (h : xs[0]? = some x) : totS f (restL lt xs) = totS f xs - f x := by
  unfold restL dn
  rw [tot_dnF]
  have h0 := (List.getElem?_eq_some_iff.1 h).1
  obtain ⟨y, hy⟩ : ∃ y, xs[xs.length - 1]? = some y := ⟨_, List.getElem?_eq_getElem (by omega)⟩
  rw [cutL_of hy]
  have hl : (xs.set 0 y).length = xs.length := by simp
  have h2 := tot_take f (xs.set 0 y) y (by
    rw [hl]
    by_cases e : xs.length - 1 = 0
    · rw [e, List.getElem?_set_self (by omega)]
    · rw [List.getElem?_set_ne (by omega)]
      exact hy)
  rw [hl] at h2
  rw [h2, tot_set f xs 0 x y h]
  omega
theorem dnF_mem : ∀ (k : Nat) (xs : List α) (i : Nat) (x : α), x ∈ dnF lt k xs i → x ∈ xs
  | 0, _, _, _, h => h
  | k + 1, xs, i, x, h => by
    rw [dnF] at h
    split at h
    · exact swp_mem (dnF_mem k _ _ x h)
    · exact h
theorem upF_mem : ∀ (k : Nat) (xs : List α) (i : Nat) (x : α), x ∈ upF lt k xs i → x ∈ xs
  | 0, _, _, _, h => h
  | k + 1, xs, i, x, h => by
    rw [upF] at h
    split at h
    · exact swp_mem (upF_mem k _ _ x h)
    · exact h
theorem cut_mem {xs : List α} {x : α} (h : x ∈ cutL xs) : ∃ j, 0 < j ∧ xs[j]? = some x := by
  obtain ⟨i, hi⟩ := List.mem_iff_getElem?.1 h
  have hl := (List.getElem?_eq_some_iff.1 hi).1
  rw [cutL_len] at hl
  obtain ⟨y, hy⟩ : ∃ y, xs[xs.length - 1]? = some y := ⟨_, List.getElem?_eq_getElem (by omega)⟩
  rw [cutL_of hy, List.getElem?_take, if_pos hl] at hi
  by_cases e : i = 0
  · subst e
    rw [List.getElem?_set_self (by omega)] at hi
    cases hi
    exact ⟨xs.length - 1, by omega, hy⟩
  · rw [List.getElem?_set_ne (by omega)] at hi
    exact ⟨i, by omega, hi⟩
theorem rest_mem {xs : List α} {x : α} (h : x ∈ restL lt xs) : ∃ j, 0 < j ∧ xs[j]? = some x := cut_mem (dnF_mem _ _ _ _ h)
end
end Go.Proofs.Ytokfemlcamnaaaa
