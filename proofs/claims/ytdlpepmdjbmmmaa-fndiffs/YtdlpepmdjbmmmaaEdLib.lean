/- Edits as plain records, and a list of them in memory. -/
import Derived.Test.YtdlpepmdjbmmmaaLib
import Derived.Test.YtdlpepmdjbmmmaaCutLib
import Derived.Laws.OwnMore
namespace Go.Proofs.Ytdlpepmdjbmmmaa
open Go.RowKit

/-- An edit: what its two cells hold. -/
structure Ed where
  kind : Int
  line : ByteArray
def edCells (x : Ed) : List Value := [.int .i64 x.kind, .string x.line]
def edVals (xs : List Ed) : List Value := xs.flatMap edCells
theorem edCells_len (x : Ed) : (edCells x).length = 2 := rfl
theorem edVals_len : ∀ (xs : List Ed), (edVals xs).length = xs.length * 2
  | [] => rfl
  | x :: xs => by
    rw [show edVals (x :: xs) = edCells x ++ edVals xs from rfl, List.length_append, edVals_len xs, edCells_len, List.length_cons]
    omega
theorem edVals_app (xs ys : List Ed) : edVals (xs ++ ys) = edVals xs ++ edVals ys := by simp [edVals]
theorem edVals_one (x : Ed) : edVals [x] = [.int .i64 x.kind, .string x.line] := rfl
theorem edVals_at : ∀ (xs : List Ed) (k : Nat) (x : Ed), xs[k]? = some x → ∀ j, j < 2 → (edVals xs)[k * 2 + j]? = (edCells x)[j]?
  | [], k, x, h, _, _ => by simp at h
  | y :: xs, 0, x, h, j, hj => by
    have e : y = x := by simpa using h
    subst e
    rw [show edVals (y :: xs) = edCells y ++ edVals xs from rfl, List.getElem?_append_left (by rw [edCells_len]; omega)]
    congr 1
    omega
  | y :: xs, k + 1, x, h, j, hj => by
    have ih := edVals_at xs k x (by simpa using h) j hj
    rw [show edVals (y :: xs) = edCells y ++ edVals xs from rfl, List.getElem?_append_right (by rw [edCells_len]; omega), edCells_len, show (k + 1) * 2 + j - 2 = k * 2 + j by omega]
    exact ih
/-- A list of edits that lies in memory: n of them, at a place. -/
def EdsAt (w : World) (v : Value) (xs : List Ed) : Prop :=
  ∃ (a : Option Addr) (c : Nat), v = .slice a xs.length c ∧ (0 < xs.length → ∃ b off, a = some ⟨b, off, none⟩ ∧ b < w.heap.size ∧ ∀ k x, xs[k]? = some x → ∀ j, j < 2 → w.cell? ⟨b, off + k * 2 + j, none⟩ = (edCells x)[j]?)
theorem EdsAt.below {w w' : World} {v : Value} {xs : List Ed} (h : EdsAt w v xs) (hb : Below w.heap.size w w') : EdsAt w' v xs := by
  obtain ⟨a, c, rfl, h⟩ := h
  refine ⟨a, c, rfl, fun hn => ?_⟩
  obtain ⟨b, off, ha, hlt, hc⟩ := h hn
  exact ⟨b, off, ha, Nat.lt_of_lt_of_le hlt hb.size, fun k x hx j hj => by rw [hb.cell hlt]; exact hc k x hx j hj⟩
theorem EdsAt.of_own {w : World} {base e : Nat} {v : Value} {n : Nat} {xs : List Ed} (h : w.ownsRow base e 2 v n (edVals xs)) : EdsAt w v xs := by
  have hl : xs.length = n := by have := h.1; rw [edVals_len] at this; omega
  obtain ⟨a, c, rfl⟩ := owns_slice h
  subst hl
  refine ⟨a, c, rfl, fun hn => ?_⟩
  obtain ⟨g, rfl⟩ := owns_at h hn
  refine ⟨g, 0, rfl, (h.lt g rfl).2, fun k x hx j hj => ?_⟩
  have hk : k < xs.length := (List.getElem?_eq_some_iff.1 hx).1
  rw [Nat.zero_add]
  rw [h.cellAt (k * 2 + j) (by omega)]
  exact edVals_at xs k x hx j hj
theorem cells2 {w : World} {b o : Nat} {x : Ed} (h : ∀ j, j < 2 → w.cell? ⟨b, o + j, none⟩ = (edCells x)[j]?) :
    w.cell? ⟨b, o, none⟩ = some (.int .i64 x.kind) ∧ w.cell? ⟨b, o + 1, none⟩ = some (.string x.line) :=
  ⟨h 0 (by omega), h 1 (by omega)⟩
/-- A list of edits, in memory of its own. -/
def EdsAns (xs : List Ed) (e0 : Nat) (w : World) (e : Ending) (w' : World) : Prop :=
  Below w.heap.size w w' ∧ ∃ v, e = .returned v ∧ w'.ownsRow w.heap.size e0 2 v xs.length (edVals xs)
def set2 (zs : List Value) (k : Nat) (x : Ed) : List Value := (zs.set (k * 2) (.int .i64 x.kind)).set (k * 2 + 1) (.string x.line)
theorem set2_len (zs : List Value) (k : Nat) (x : Ed) : (set2 zs k x).length = zs.length := by simp [set2]
theorem set2_take {zs : List Value} {xs : List Ed} {k : Nat} {x : Ed} (hk : k * 2 + 2 ≤ zs.length) (hx : xs[k]? = some x) (h : zs.take (k * 2) = edVals (xs.take k)) : (set2 zs k x).take ((k + 1) * 2) = edVals (xs.take (k + 1)) := by
  rw [List.take_add_one, hx, edVals_app, ← h]
  apply List.ext_getElem?
  intro j
  rw [List.getElem?_take]
  have hl : (zs.take (k * 2)).length = k * 2 := by simp; omega
  by_cases h1 : j < k * 2
  · rw [if_pos (by omega), List.getElem?_append_left (by omega)]
    unfold set2
    rw [List.getElem?_set_ne (by omega), List.getElem?_set_ne (by omega), List.getElem?_take, if_pos h1]
  · rw [List.getElem?_append_right (by omega), hl]
    unfold set2
    show _ = (edCells x ++ [])[j - k * 2]?
    rw [List.append_nil]
    by_cases h2 : j < (k + 1) * 2
    · rw [if_pos h2]
      obtain ⟨i, hi, rfl⟩ : ∃ i, i < 2 ∧ j = k * 2 + i := ⟨j - k * 2, by omega, by omega⟩
      rw [Nat.add_sub_cancel_left]
      match i, hi with
      | 0, _ => rw [List.getElem?_set_ne (by omega), Nat.add_zero, List.getElem?_set_self (by omega)]; rfl
      | 1, _ => rw [List.getElem?_set_self (by simp; omega)]; rfl
    · rw [if_neg h2, List.getElem?_eq_none (by rw [edCells_len]; omega)]
end Go.Proofs.Ytdlpepmdjbmmmaa
