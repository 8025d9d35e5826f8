/- Lists of structs of a few cells each, in memory: the rows, what lies in them, and how one more is laid. -/
import Derived.Test.YtdlbnllkfnfgoaaLib
import Derived.Test.YtdlbnllkfnfgoaaCutLib
import Derived.Laws.OwnMore
namespace Go.Proofs.Ytdlbnllkfnfgoaa
open Go.RowKit

/-- The cells of a list of structs, one behind the other. -/
def rowVals {α : Type} (cells : α → List Value) (xs : List α) : List Value := xs.flatMap cells
theorem rowVals_len {α : Type} {cells : α → List Value} {s : Nat} (hs : ∀ x, (cells x).length = s) : ∀ (xs : List α), (rowVals cells xs).length = xs.length * s
  | [] => by simp [rowVals]
  | x :: xs => by
    rw [show rowVals cells (x :: xs) = cells x ++ rowVals cells xs from rfl, List.length_append, rowVals_len hs xs, hs, List.length_cons, Nat.succ_mul]
    omega
theorem rowVals_app {α : Type} (cells : α → List Value) (xs ys : List α) : rowVals cells (xs ++ ys) = rowVals cells xs ++ rowVals cells ys := by simp [rowVals]
theorem rowVals_one {α : Type} (cells : α → List Value) (x : α) : rowVals cells [x] = cells x := by simp [rowVals]
theorem rowVals_at {α : Type} {cells : α → List Value} {s : Nat} (hs : ∀ x, (cells x).length = s) : ∀ (xs : List α) (k : Nat) (x : α), xs[k]? = some x → ∀ j, j < s → (rowVals cells xs)[k * s + j]? = (cells x)[j]?
  | [], k, x, h, _, _ => by simp at h
  | y :: xs, 0, x, h, j, hj => by
    have e : y = x := by simpa using h
    subst e
    rw [show rowVals cells (y :: xs) = cells y ++ rowVals cells xs from rfl, Nat.zero_mul, Nat.zero_add, List.getElem?_append_left (by rw [hs]; omega)]
  | y :: xs, k + 1, x, h, j, hj => by
    have ih := rowVals_at hs xs k x (by simpa using h) j hj
    rw [show rowVals cells (y :: xs) = cells y ++ rowVals cells xs from rfl, Nat.succ_mul, List.getElem?_append_right (by rw [hs]; omega), hs, show k * s + s + j - s = k * s + j by omega]
    exact ih
/-- A list of structs that lies in memory, at a place. -/
def RowsAt {α : Type} (s : Nat) (cells : α → List Value) (w : World) (a : Option Addr) (xs : List α) : Prop :=
  0 < xs.length → ∃ b off, a = some ⟨b, off, none⟩ ∧ b < w.heap.size ∧ ∀ k x, xs[k]? = some x → ∀ j, j < s → w.cell? ⟨b, off + k * s + j, none⟩ = (cells x)[j]?
theorem RowsAt.below {α : Type} {s : Nat} {cells : α → List Value} {w w' : World} {a : Option Addr} {xs : List α} {B : Nat} (h : RowsAt s cells w a xs) (hb : Below B w w') (hB : w.heap.size ≤ B) : RowsAt s cells w' a xs := by
  intro hn
  obtain ⟨b, off, ha, hlt, hc⟩ := h hn
  exact ⟨b, off, ha, Nat.lt_of_lt_of_le hlt hb.size, fun k x hx j hj => by rw [hb.cell (Nat.lt_of_lt_of_le hlt hB)]; exact hc k x hx j hj⟩
/-- The same where all but one row has stayed, and they lie in no part of it. -/
theorem RowsAt.grown {α : Type} {s : Nat} {cells : α → List Value} {w w' : World} {a : Option Addr} {xs : List α} {g : Option Nat} (h : RowsAt s cells w a xs) (hg : w.grownBy w' g) (hne : ∀ b off, a = some ⟨b, off, none⟩ → some b ≠ g) : RowsAt s cells w' a xs := by
  intro hn
  obtain ⟨b, off, ha, hlt, hc⟩ := h hn
  refine ⟨b, off, ha, Nat.lt_of_lt_of_le hlt hg.size, fun k x hx j hj => ?_⟩
  have hbl := hg.block b hlt (hne b off ha)
  rw [← hc k x hx j hj]
  unfold World.cell?
  rw [hbl]
theorem RowsAt.set {α : Type} {s : Nat} {cells : α → List Value} {w : World} {a : Option Addr} {xs : List α} (h : RowsAt s cells w a xs) (p : Addr) (v : Value) (hne : ∀ b off, a = some ⟨b, off, none⟩ → b ≠ p.block) : RowsAt s cells (w.setCell p v) a xs := by
  intro hn
  obtain ⟨b, off, ha, hlt, hc⟩ := h hn
  refine ⟨b, off, ha, by simpa [World.setCell] using hlt, fun k x hx j hj => ?_⟩
  have hbl := Below.heap_setCell w p v b (hne b off ha)
  rw [← hc k x hx j hj]
  unfold World.cell?
  rw [hbl]
theorem RowsAt.of_own {α : Type} {s : Nat} {cells : α → List Value} (hs : ∀ x, (cells x).length = s) {w : World} {base e n c : Nat} {a : Option Addr} {xs : List α} (h : w.ownsRow base e s (.slice a n c) n (rowVals cells xs)) (hl : xs.length = n) : RowsAt s cells w a xs := by
  subst hl
  intro hn
  obtain ⟨g, rfl⟩ := owns_at h hn
  refine ⟨g, 0, rfl, (h.lt g rfl).2, fun k x hx j hj => ?_⟩
  have hk : k < xs.length := (List.getElem?_eq_some_iff.1 hx).1
  have hm : k * s + s ≤ xs.length * s := by
    rw [← Nat.succ_mul]
    exact Nat.mul_le_mul_right s hk
  rw [Nat.zero_add, h.cellAt (k * s + j) (by omega)]
  exact rowVals_at hs xs k x hx j hj
theorem rowsAt_nil {α : Type} {s : Nat} {cells : α → List Value} {w : World} {a : Option Addr} : RowsAt s cells w a ([] : List α) := fun h => absurd h (Nat.lt_irrefl 0)
/-- Values laid one behind the other. -/
def layAt : List Value → Nat → List Value → List Value
  | zs, _, [] => zs
  | zs, o, v :: vs => layAt (zs.set o v) (o + 1) vs
theorem layAt_eq : ∀ (vs zs : List Value) (o : Nat), o + vs.length ≤ zs.length → layAt zs o vs = zs.take o ++ vs ++ zs.drop (o + vs.length)
  | [], zs, o, _ => by simp [layAt]
  | v :: vs, zs, o, h => by
    simp only [List.length_cons] at h
    rw [layAt, layAt_eq vs (zs.set o v) (o + 1) (by simp; omega), List.take_add_one, List.take_set_of_le (Nat.le_refl _), List.getElem?_set_self (by omega), List.drop_set_of_lt (by omega)]
    simp [Nat.add_assoc, Nat.add_comm 1]
theorem layAt_take {α : Type} {cells : α → List Value} {s : Nat} (hs : ∀ x, (cells x).length = s) {zs : List Value} {xs : List α} {k : Nat} {x : α} (hk : k * s + s ≤ zs.length) (hx : xs[k]? = some x) (h : zs.take (k * s) = rowVals cells (xs.take k)) :
    (layAt zs (k * s) (cells x)).take ((k + 1) * s) = rowVals cells (xs.take (k + 1)) := by
  rw [List.take_add_one, hx, rowVals_app, ← h, layAt_eq _ _ _ (by rw [hs]; exact hk)]
  show _ = _ ++ rowVals cells [x]
  rw [rowVals_one, List.take_append_of_le_length (by simp [hs, Nat.succ_mul]; omega)]
  exact List.take_of_length_le (by simp [hs, Nat.succ_mul]; omega)
/-- Whether all are so: what a loop that leaves at the first that is not so tells. -/
theorem all_not {α : Type} {f : α → Bool} {xs : List α} {k : Nat} {x : α} (hx : xs[k]? = some x) (h : f x = false) : xs.all f = false := by
  rw [List.all_eq_false]
  exact ⟨x, List.mem_of_getElem? hx, by simp [h]⟩
theorem all_yes {α : Type} {f : α → Bool} {xs : List α} (h : ∀ (j : Nat) (x : α), xs[j]? = some x → f x = true) : xs.all f = true := by
  rw [List.all_eq_true]
  intro x hm
  obtain ⟨j, hj⟩ := List.mem_iff_getElem?.1 hm
  exact h j x hj
/-- One more of them is so. -/
theorem upto_step {α : Type} {p : α → Prop} {xs : List α} {k : Nat} {x : α} (h : ∀ (j : Nat) (y : α), j < k → xs[j]? = some y → p y) (hx : xs[k]? = some x) (hp : p x) : ∀ (j : Nat) (y : α), j < k + 1 → xs[j]? = some y → p y := by
  intro j y hj hy
  by_cases e : j = k
  · subst e
    rw [hx] at hy
    cases hy
    exact hp
  · exact h j y (by omega) hy
theorem upto_all {α : Type} {p : α → Prop} {xs : List α} {k : Nat} (hk : xs.length ≤ k) (h : ∀ (j : Nat) (y : α), j < k → xs[j]? = some y → p y) : ∀ (j : Nat) (y : α), xs[j]? = some y → p y := fun j y hy => h j y (by have := (List.getElem?_eq_some_iff.1 hy).1; omega) hy
end Go.Proofs.Ytdlbnllkfnfgoaa
