/- Cells as plain records, and a list of them in memory. -/
import Derived.Test.YtdlbnllkfnfgoaaCelLib
import Derived.Test.YtdlbnllkfnfgoaaCutLib
import Derived.Laws.OwnMore
namespace Go.Proofs.Ytdlbnllkfnfgoaa
open Go.RowKit

def clVals (xs : List Cel) : List Value := xs.flatMap celCells
theorem clVals_len : ∀ (xs : List Cel), (clVals xs).length = xs.length * 2
  | [] => rfl
  | x :: xs => by
    rw [show clVals (x :: xs) = celCells x ++ clVals xs from rfl, List.length_append, clVals_len xs, celCells_len, List.length_cons]
    omega
theorem clVals_app (xs ys : List Cel) : clVals (xs ++ ys) = clVals xs ++ clVals ys := by simp [clVals]
theorem clVals_one (x : Cel) : clVals [x] = [.string x.name, .int .i64 x.num] := rfl
theorem clVals_at : ∀ (xs : List Cel) (k : Nat) (x : Cel), xs[k]? = some x → ∀ j, j < 2 → (clVals xs)[k * 2 + j]? = (celCells x)[j]?
  | [], k, x, h, _, _ => by simp at h
  | y :: xs, 0, x, h, j, hj => by
    have e : y = x := by simpa using h
    subst e
    rw [show clVals (y :: xs) = celCells y ++ clVals xs from rfl, List.getElem?_append_left (by rw [celCells_len]; omega)]
    congr 1
    omega
  | y :: xs, k + 1, x, h, j, hj => by
    have ih := clVals_at xs k x (by simpa using h) j hj
    rw [show clVals (y :: xs) = celCells y ++ clVals xs from rfl, List.getElem?_append_right (by rw [celCells_len]; omega), celCells_len, show (k + 1) * 2 + j - 2 = k * 2 + j by omega]
    exact ih
/-- A list of cells that lies in memory: n of them, at a place. -/
def ClsAt (w : World) (v : Value) (xs : List Cel) : Prop :=
  ∃ (a : Option Addr) (c : Nat), v = .slice a xs.length c ∧ (0 < xs.length → ∃ b off, a = some ⟨b, off, none⟩ ∧ b < w.heap.size ∧ ∀ k x, xs[k]? = some x → ∀ j, j < 2 → w.cell? ⟨b, off + k * 2 + j, none⟩ = (celCells x)[j]?)
theorem ClsAt.below {w w' : World} {v : Value} {xs : List Cel} (h : ClsAt w v xs) (hb : Below w.heap.size w w') : ClsAt w' v xs := by
  obtain ⟨a, c, rfl, h⟩ := h
  refine ⟨a, c, rfl, fun hn => ?_⟩
  obtain ⟨b, off, ha, hlt, hc⟩ := h hn
  exact ⟨b, off, ha, Nat.lt_of_lt_of_le hlt hb.size, fun k x hx j hj => by rw [hb.cell hlt]; exact hc k x hx j hj⟩
theorem ClsAt.of_own {w : World} {base e : Nat} {v : Value} {n : Nat} {xs : List Cel} (h : w.ownsRow base e 2 v n (clVals xs)) : ClsAt w v xs := by
  have hl : xs.length = n := by have := h.1; rw [clVals_len] at this; omega
  obtain ⟨a, c, rfl⟩ := owns_slice h
  subst hl
  refine ⟨a, c, rfl, fun hn => ?_⟩
  obtain ⟨g, rfl⟩ := owns_at h hn
  refine ⟨g, 0, rfl, (h.lt g rfl).2, fun k x hx j hj => ?_⟩
  have hk : k < xs.length := (List.getElem?_eq_some_iff.1 hx).1
  rw [Nat.zero_add]
  rw [h.cellAt (k * 2 + j) (by omega)]
  exact clVals_at xs k x hx j hj
theorem cells2c {w : World} {b o : Nat} {x : Cel} (h : ∀ j, j < 2 → w.cell? ⟨b, o + j, none⟩ = (celCells x)[j]?) :
    w.cell? ⟨b, o, none⟩ = some (.string x.name) ∧ w.cell? ⟨b, o + 1, none⟩ = some (.int .i64 x.num) :=
  ⟨h 0 (by omega), h 1 (by omega)⟩
/-- A list of cells, in memory of its own. -/
def ClsAns (xs : List Cel) (e0 : Nat) (w : World) (e : Ending) (w' : World) : Prop :=
  Below w.heap.size w w' ∧ ∃ v, e = .returned v ∧ w'.ownsRow w.heap.size e0 2 v xs.length (clVals xs)
def set2c (zs : List Value) (k : Nat) (x : Cel) : List Value := (zs.set (k * 2) (.string x.name)).set (k * 2 + 1) (.int .i64 x.num)
theorem set2c_len (zs : List Value) (k : Nat) (x : Cel) : (set2c zs k x).length = zs.length := by simp [set2c]
theorem set2c_take {zs : List Value} {xs : List Cel} {k : Nat} {x : Cel} (hk : k * 2 + 2 ≤ zs.length) (hx : xs[k]? = some x) (h : zs.take (k * 2) = clVals (xs.take k)) : (set2c zs k x).take ((k + 1) * 2) = clVals (xs.take (k + 1)) := by
  rw [List.take_add_one, hx, clVals_app, ← h]
  apply List.ext_getElem?
  intro j
  rw [List.getElem?_take]
  have hl : (zs.take (k * 2)).length = k * 2 := by simp; omega
  by_cases h1 : j < k * 2
  · rw [if_pos (by omega), List.getElem?_append_left (by omega)]
    unfold set2c
    rw [List.getElem?_set_ne (by omega), List.getElem?_set_ne (by omega), List.getElem?_take, if_pos h1]
  · rw [List.getElem?_append_right (by omega), hl]
    unfold set2c
    show _ = (celCells x ++ [])[j - k * 2]?
    rw [List.append_nil]
    by_cases h2 : j < (k + 1) * 2
    · rw [if_pos h2]
      obtain ⟨i, hi, rfl⟩ : ∃ i, i < 2 ∧ j = k * 2 + i := ⟨j - k * 2, by omega, by omega⟩
      rw [Nat.add_sub_cancel_left]
      match i, hi with
      | 0, _ => rw [List.getElem?_set_ne (by omega), Nat.add_zero, List.getElem?_set_self (by omega)]; rfl
      | 1, _ => rw [List.getElem?_set_self (by simp; omega)]; rfl
    · rw [if_neg h2, List.getElem?_eq_none (by rw [celCells_len]; omega)]
end Go.Proofs.Ytdlbnllkfnfgoaa
