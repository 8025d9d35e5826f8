/- Signs as plain records, and a list of them in memory. -/
import Derived.Test.YtlpbhhgikgbfhaaDoorLib
import Derived.Test.YtlpbhhgikgbfhaaDoorCutLib
import Derived.Laws.OwnMore
namespace Go.Proofs.YtlpbhhgikgbfhaaDoor
open Go.RowKit

/-- A sign: what its four cells hold. -/
structure Sg where
  kind : Int
  text : ByteArray
  place : Int
  blank : Bool
def sgCells (x : Sg) : List Value := [.int .i64 x.kind, .string x.text, .int .i64 x.place, .bool x.blank]
def sgAgg (x : Sg) : Value := .agg #[.int .i64 x.kind, .string x.text, .int .i64 x.place, .bool x.blank]
def sgVals (xs : List Sg) : List Value := xs.flatMap sgCells
theorem sgCells_len (x : Sg) : (sgCells x).length = 4 := rfl
theorem sgVals_len : ∀ (xs : List Sg), (sgVals xs).length = xs.length * 4
  | [] => rfl
  | x :: xs => by
    rw [show sgVals (x :: xs) = sgCells x ++ sgVals xs from rfl, List.length_append, sgVals_len xs, sgCells_len, List.length_cons]
    omega
theorem sgVals_app (xs ys : List Sg) : sgVals (xs ++ ys) = sgVals xs ++ sgVals ys := by simp [sgVals]
theorem sgVals_at : ∀ (xs : List Sg) (k : Nat) (x : Sg), xs[k]? = some x → ∀ j, j < 4 → (sgVals xs)[k * 4 + j]? = (sgCells x)[j]?
  | [], k, x, h, _, _ => by simp at h
  | y :: xs, 0, x, h, j, hj => by
    have e : y = x := by simpa using h
    subst e
    rw [show sgVals (y :: xs) = sgCells y ++ sgVals xs from rfl, List.getElem?_append_left (by rw [sgCells_len]; omega)]
    congr 1
    omega
  | y :: xs, k + 1, x, h, j, hj => by
    have ih := sgVals_at xs k x (by simpa using h) j hj
    rw [show sgVals (y :: xs) = sgCells y ++ sgVals xs from rfl, List.getElem?_append_right (by rw [sgCells_len]; omega), sgCells_len, show (k + 1) * 4 + j - 4 = k * 4 + j by omega]
    exact ih
/-- A list of signs that lies in memory: n of them, at a place. -/
def SgsAt (w : World) (v : Value) (xs : List Sg) : Prop :=
  ∃ (a : Option Addr) (c : Nat), v = .slice a xs.length c ∧ (0 < xs.length → ∃ b off, a = some ⟨b, off, none⟩ ∧ b < w.heap.size ∧ ∀ k x, xs[k]? = some x → ∀ j, j < 4 → w.cell? ⟨b, off + k * 4 + j, none⟩ = (sgCells x)[j]?)
theorem SgsAt.below {w w' : World} {v : Value} {xs : List Sg} (h : SgsAt w v xs) (hb : Below w.heap.size w w') : SgsAt w' v xs := by
  obtain ⟨a, c, rfl, h⟩ := h
  refine ⟨a, c, rfl, fun hn => ?_⟩
  obtain ⟨b, off, ha, hlt, hc⟩ := h hn
  exact ⟨b, off, ha, Nat.lt_of_lt_of_le hlt hb.size, fun k x hx j hj => by rw [hb.cell hlt]; exact hc k x hx j hj⟩
theorem SgsAt.of_own {w : World} {base e : Nat} {v : Value} {n : Nat} {xs : List Sg} (h : w.ownsRow base e 4 v n (sgVals xs)) : SgsAt w v xs := by
  have hl : xs.length = n := by have := h.1; rw [sgVals_len] at this; omega
  obtain ⟨a, c, rfl⟩ := owns_slice h
  subst hl
  refine ⟨a, c, rfl, fun hn => ?_⟩
  obtain ⟨g, rfl⟩ := owns_at h hn
  refine ⟨g, 0, rfl, (h.lt g rfl).2, fun k x hx j hj => ?_⟩
  have hk : k < xs.length := (List.getElem?_eq_some_iff.1 hx).1
  rw [Nat.zero_add]
  rw [h.cellAt (k * 4 + j) (by omega)]
  exact sgVals_at xs k x hx j hj
/-- The four cells of one sign of the list. -/
theorem cells4 {w : World} {b o : Nat} {x : Sg} (h : ∀ j, j < 4 → w.cell? ⟨b, o + j, none⟩ = (sgCells x)[j]?) :
    w.cell? ⟨b, o, none⟩ = some (.int .i64 x.kind) ∧ w.cell? ⟨b, o + 1, none⟩ = some (.string x.text) ∧ w.cell? ⟨b, o + 2, none⟩ = some (.int .i64 x.place) ∧ w.cell? ⟨b, o + 3, none⟩ = some (.bool x.blank) :=
  ⟨h 0 (by omega), h 1 (by omega), h 2 (by omega), h 3 (by omega)⟩
/-- A list of signs, in memory of its own. -/
def SgsAns (xs : List Sg) (e0 : Nat) (w : World) (e : Ending) (w' : World) : Prop :=
  Below w.heap.size w w' ∧ ∃ v, e = .returned v ∧ w'.ownsRow w.heap.size e0 4 v xs.length (sgVals xs)
/-- Four cells laid one behind the other. -/
def set4 (zs : List Value) (k : Nat) (x : Sg) : List Value := (((zs.set (k * 4) (.int .i64 x.kind)).set (k * 4 + 1) (.string x.text)).set (k * 4 + 2) (.int .i64 x.place)).set (k * 4 + 3) (.bool x.blank)
theorem set4_len (zs : List Value) (k : Nat) (x : Sg) : (set4 zs k x).length = zs.length := by simp [set4]
theorem set4_take {zs : List Value} {xs : List Sg} {k : Nat} {x : Sg} (hk : k * 4 + 4 ≤ zs.length) (hx : xs[k]? = some x) (h : zs.take (k * 4) = sgVals (xs.take k)) : (set4 zs k x).take ((k + 1) * 4) = sgVals (xs.take (k + 1)) := by
  rw [List.take_add_one, hx, sgVals_app, ← h]
  apply List.ext_getElem?
  intro j
  rw [List.getElem?_take]
  have hl : (zs.take (k * 4)).length = k * 4 := by simp; omega
  by_cases h1 : j < k * 4
  · rw [if_pos (by omega), List.getElem?_append_left (by omega)]
    unfold set4
    rw [List.getElem?_set_ne (by omega), List.getElem?_set_ne (by omega), List.getElem?_set_ne (by omega), List.getElem?_set_ne (by omega), List.getElem?_take, if_pos h1]
  · rw [List.getElem?_append_right (by omega), hl]
    unfold set4
    show _ = (sgCells x ++ [])[j - k * 4]?
    rw [List.append_nil]
    by_cases h2 : j < (k + 1) * 4
    · rw [if_pos h2]
      obtain ⟨i, hi, rfl⟩ : ∃ i, i < 4 ∧ j = k * 4 + i := ⟨j - k * 4, by omega, by omega⟩
      rw [Nat.add_sub_cancel_left]
      match i, hi with
      | 0, _ => rw [List.getElem?_set_ne (by omega), List.getElem?_set_ne (by omega), List.getElem?_set_ne (by omega), Nat.add_zero, List.getElem?_set_self (by omega)]; rfl
      | 1, _ => rw [List.getElem?_set_ne (by omega), List.getElem?_set_ne (by omega), List.getElem?_set_self (by simp; omega)]; rfl
      | 2, _ => rw [List.getElem?_set_ne (by omega), List.getElem?_set_self (by simp; omega)]; rfl
      | 3, _ => rw [List.getElem?_set_self (by simp; omega)]; rfl
    · rw [if_neg h2, List.getElem?_eq_none (by rw [sgCells_len]; omega)]
/-- Same kind, same text. -/
def same2 (x y : Sg) : Bool := (x.kind == y.kind) && (x.text.toList == y.text.toList)
def sameAll : List Sg → List Sg → Bool
  | [], [] => true
  | x :: xs, y :: ys => same2 x y && sameAll xs ys
  | _, _ => false
theorem sameAll_len : ∀ {xs ys : List Sg}, xs.length ≠ ys.length → sameAll xs ys = false
  | [], [], h => by simp at h
  | [], _ :: _, _ => rfl
  | _ :: _, [], _ => rfl
  | x :: xs, y :: ys, h => by
    rw [sameAll, sameAll_len (fun e => h (by simp [e])), Bool.and_false]
theorem sameAll_not : ∀ {xs ys : List Sg} (k : Nat) {x y : Sg}, xs[k]? = some x → ys[k]? = some y → same2 x y = false → sameAll xs ys = false
  | [], _, k, _, _, h, _, _ => by simp at h
  | _ :: _, [], k, _, _, _, h, _ => by simp at h
  | x :: xs, y :: ys, 0, _, _, h1, h2, h3 => by
    obtain rfl : x = _ := by simpa using h1
    obtain rfl : y = _ := by simpa using h2
    rw [sameAll, h3, Bool.false_and]
  | x :: xs, y :: ys, k + 1, _, _, h1, h2, h3 => by
    rw [sameAll, sameAll_not k (by simpa using h1) (by simpa using h2) h3, Bool.and_false]
theorem sameAll_yes : ∀ {xs ys : List Sg}, xs.length = ys.length → (∀ (k : Nat) (x y : Sg), xs[k]? = some x → ys[k]? = some y → same2 x y = true) → sameAll xs ys = true
  | [], [], _, _ => rfl
  | [], _ :: _, h, _ => by simp at h
  | _ :: _, [], h, _ => by simp at h
  | x :: xs, y :: ys, h, hA => by
    rw [sameAll, hA 0 x y rfl rfl, sameAll_yes (by simpa using h) (fun k a b h1 h2 => hA (k + 1) a b (by simpa using h1) (by simpa using h2)), Bool.and_true]
end Go.Proofs.YtlpbhhgikgbfhaaDoor
