/- The marks as plain lists, and what a map of them holds. -/
import Derived.Maps.OwnOps
import Derived.Maps.OwnSet
import Derived.Maps.Views
import Derived.StringKeys
import Derived.Test.YtabbfpkhlofccaaGreatDoorLib
import Derived.Test.YtabbfpkhlofccaaGreatDoorCutLib
import Derived.Laws.OwnMore
namespace Go.Proofs.YtabbfpkhlofccaaGreatDoor
open Go.RowKit Go.Maps Go.WideMaps

/-- The marks, with their sizes. -/
def mkPs : List (List UInt8 × Int) := [([38, 38], 2), ([124, 124], 2), ([61, 61], 2), ([61, 62], 2), ([46, 46], 2), ([40], 1), ([41], 1), ([123], 1), ([125], 1), ([91], 1), ([93], 1), ([59], 1), ([44], 1), ([46], 1), ([61], 1), ([43], 1), ([45], 1), ([42], 1), ([60], 1), ([63], 1), ([58], 1)]
/-- What a map of pairs has at a text. -/
def ofPs (ps : List (List UInt8 × Int)) (z : Int) (l : List UInt8) : Int := ps.foldl (fun acc p => if l = p.1 then p.2 else acc) z
def mkAt (l : List UInt8) : Int := ofPs mkPs 0 l
def mkIs (l : List UInt8) : Bool := mkPs.any fun p => p.1 == l
theorem ofPs_pos (l : List UInt8) : ∀ (ps : List (List UInt8 × Int)) (z : Int), (∀ p ∈ ps, 0 < p.2) → (0 < ofPs ps z l ↔ 0 < z ∨ (ps.any fun p => p.1 == l) = true)
  | [], z, _ => by simp [ofPs]
  | p :: ps, z, h => by
    have h0 := h p (by simp)
    have ih := ofPs_pos l ps (if l = p.1 then p.2 else z) (fun q hq => h q (by simp [hq]))
    rw [show ofPs (p :: ps) z l = ofPs ps (if l = p.1 then p.2 else z) l from rfl, ih]
    by_cases e : l = p.1
    · subst e; simp [h0]
    · have e' : ¬ p.1 = l := fun x => e x.symm
      simp [e, e']
theorem mkAt_pos (l : List UInt8) : (0 < mkAt l) ↔ mkIs l = true := by
  have := ofPs_pos l mkPs 0 (by decide)
  simpa [mkAt, mkIs] using this
/-- A datum that holds the pairs' numbers. -/
def putPs (ps : List (List UInt8 × Int)) (D : DataW Unit) : DataW Unit := ps.foldl (fun D p => D.put (.string p.1) (.lit (.int .i64 p.2))) D
theorem putPs_at (l : List UInt8) : ∀ (ps : List (List UInt8 × Int)) (D : DataW Unit) (z : Int), IsMap D → D.atKey (.string l) (.lit (.int .i64 0)) = .lit (.int .i64 z) → (putPs ps D).atKey (.string l) (.lit (.int .i64 0)) = .lit (.int .i64 (ofPs ps z l))
  | [], D, z, _, h => h
  | p :: ps, D, z, hm, h => by
    show (putPs ps (D.put (.string p.1) (.lit (.int .i64 p.2)))).atKey _ _ = .lit (.int .i64 (ofPs ps (if l = p.1 then p.2 else z) l))
    refine putPs_at l ps _ _ (hm.put _ _) ?_
    by_cases e : l = p.1
    · subst e
      rw [if_pos rfl]
      exact atKey_put_same hm (by trivial) _ _
    · rw [if_neg e, atKey_put_other (by simpa using e)]
      exact h
/-- Block b is the map of marks. -/
def MkMap (P : Program) (w : World) (k e b : Nat) : Prop := ∃ (n : Nat) (D : DataW Unit), w.ownsMap P k (plainElem P e) b n D ∧ ∀ l, D.atKey (.string l) (.lit (.int .i64 0)) = .lit (.int .i64 (mkAt l))
theorem MkMap.below {P : Program} {w w' : World} {k e b : Nat} (h : MkMap P w k e b) (hb : Below w.heap.size w w') : MkMap P w' k e b := by
  obtain ⟨n, D, ho, ha⟩ := h
  exact ⟨n, D, ho.kept (grownBy_of_below hb none) (by simp), ha⟩
theorem MkMap.kept {P : Program} {w w' : World} {k e b : Nat} {row : Option Nat} (h : MkMap P w k e b) (hg : w.grownBy w' row) (hne : some b ≠ row) : MkMap P w' k e b := by
  obtain ⟨n, D, ho, ha⟩ := h
  exact ⟨n, D, ho.kept hg hne, ha⟩
/-- An insertion into a map that the call made, as one step. -/
theorem insStep {P : Program} (w : World) {ops : Array Oper} {rest : List Oper} {o : Oper} {a : Act} {Q : Exit → Act → World → Prop}
    (hg : o.guard = none) (m x v : Operand) (t : TypeId) (hop : o.op = Op.insert t m x v)
    (k e : TypeId) (K : Keyed P k) (ht : P.underlying t = some (.map k e)) (he : P.underlying e = some (.int .i64)) (hks : P.underlying k = some .string) (base b n : Nat) (D : DataW Unit) (w0 : World) (hbb : base ≤ b)
    (hm : a.eval m = .map (some b)) (hown : w.ownsMap P k (plainElem P e) b n D ∧ Below base w0 w) (hn : n < 1000) (s : ByteArray) (i : Int) (hx : a.eval x = .string s) (hv : a.eval v = .int .i64 i) (hs : s.size ≤ 1000) (hi : 0 ≤ i ∧ i ≤ 1000)
    (hK : ∀ w', (w'.ownsMap P k (plainElem P e) b (n + 1) (D.put (.string s.data.toList) (.lit (.int .i64 i))) ∧ Below base w0 w') → wpList P ops Q rest (a.put o.dst undef) w') :
    wpList P ops Q (o :: rest) a w := by
  have hwf : (Lit.int .i64 i).wf = true := WalkArith.wf_i64 (by omega)
  refine wpList_plain hg fun K' hK' => ?_
  obtain ⟨w', hrun, r1, r2⟩ := hown.1.update K ht (by unfold maxLen; omega) (keyOf_string_mk hks (show s.size ≤ maxLen by unfold maxLen; omega)) (plainElem_int he hwf)
  unfold Oper.wp
  simp [execOp, hop, hm, hx, hv, hrun, Result.andThen]
  exact hK' _ _ (hK w' ⟨r1, hown.2.grown r2 (Nat.le_trans hbb (Nat.le_of_lt hown.1.lt)) (fun j hj => by cases hj; exact hbb)⟩)
end Go.Proofs.YtabbfpkhlofccaaGreatDoor
/- Signs as plain records, and a list of them in memory. -/
namespace Go.Proofs.YtabbfpkhlofccaaGreatDoor
open Go.RowKit

/-- A sign: what its four cells hold. -/
structure Sg where
  kind : Int
  text : ByteArray
  place : Int
  blank : Bool
def sgCells (x : Sg) : List Value := [.int .i64 x.kind, .string x.text, .int .i64 x.place, .bool x.blank]
def sgAgg (x : Sg) : Value := .agg #[.int .i64 x.kind, .string x.text, .int .i64 x.place, .bool x.blank]
def sgVals (xs : List Sg) : List Value := xs.flatMap sgCells
theorem sgCells_len (x : Sg) : (sgCells x).length = 4 := rfl
theorem sgVals_len : ∀ (xs : List Sg), (sgVals xs).length = xs.length * 4
  | [] => rfl
  | x :: xs => by
    rw [show sgVals (x :: xs) = sgCells x ++ sgVals xs from rfl, List.length_append, sgVals_len xs, sgCells_len, List.length_cons]
    omega
theorem sgVals_app (xs ys : List Sg) : sgVals (xs ++ ys) = sgVals xs ++ sgVals ys := by simp [sgVals]
theorem sgVals_at : ∀ (xs : List Sg) (k : Nat) (x : Sg), xs[k]? = some x → ∀ j, j < 4 → (sgVals xs)[k * 4 + j]? = (sgCells x)[j]?
  | [], k, x, h, _, _ => by simp at h
  | y :: xs, 0, x, h, j, hj => by
    have e : y = x := by simpa using h
    subst e
    rw [show sgVals (y :: xs) = sgCells y ++ sgVals xs from rfl, List.getElem?_append_left (by rw [sgCells_len]; omega)]
    congr 1
    omega
  | y :: xs, k + 1, x, h, j, hj => by
    have ih := sgVals_at xs k x (by simpa using h) j hj
    rw [show sgVals (y :: xs) = sgCells y ++ sgVals xs from rfl, List.getElem?_append_right (by rw [sgCells_len]; omega), sgCells_len, show (k + 1) * 4 + j - 4 = k * 4 + j by omega]
    exact ih
/-- A list of signs that lies in memory: n of them, at a place. -/
def SgsAt (w : World) (v : Value) (xs : List Sg) : Prop :=
  ∃ (a : Option Addr) (c : Nat), v = .slice a xs.length c ∧ (0 < xs.length → ∃ b off, a = some ⟨b, off, none⟩ ∧ b < w.heap.size ∧ ∀ k x, xs[k]? = some x → ∀ j, j < 4 → w.cell? ⟨b, off + k * 4 + j, none⟩ = (sgCells x)[j]?)
theorem SgsAt.below {w w' : World} {v : Value} {xs : List Sg} (h : SgsAt w v xs) (hb : Below w.heap.size w w') : SgsAt w' v xs := by
  obtain ⟨a, c, rfl, h⟩ := h
  refine ⟨a, c, rfl, fun hn => ?_⟩
  obtain ⟨b, off, ha, hlt, hc⟩ := h hn
  exact ⟨b, off, ha, Nat.lt_of_lt_of_le hlt hb.size, fun k x hx j hj => by rw [hb.cell hlt]; exact hc k x hx j hj⟩
theorem SgsAt.of_own {w : World} {base e : Nat} {v : Value} {n : Nat} {xs : List Sg} (h : w.ownsRow base e 4 v n (sgVals xs)) : SgsAt w v xs := by
  have hl : xs.length = n := by have := h.1; rw [sgVals_len] at this; omega
  obtain ⟨a, c, rfl⟩ := owns_slice h
  subst hl
  refine ⟨a, c, rfl, fun hn => ?_⟩
  obtain ⟨g, rfl⟩ := owns_at h hn
  refine ⟨g, 0, rfl, (h.lt g rfl).2, fun k x hx j hj => ?_⟩
  have hk : k < xs.length := (List.getElem?_eq_some_iff.1 hx).1
  rw [Nat.zero_add]
  rw [h.cellAt (k * 4 + j) (by omega)]
  exact sgVals_at xs k x hx j hj
/-- The four cells of one sign of the list. -/
theorem cells4 {w : World} {b o : Nat} {x : Sg} (h : ∀ j, j < 4 → w.cell? ⟨b, o + j, none⟩ = (sgCells x)[j]?) :
    w.cell? ⟨b, o, none⟩ = some (.int .i64 x.kind) ∧ w.cell? ⟨b, o + 1, none⟩ = some (.string x.text) ∧ w.cell? ⟨b, o + 2, none⟩ = some (.int .i64 x.place) ∧ w.cell? ⟨b, o + 3, none⟩ = some (.bool x.blank) :=
  ⟨h 0 (by omega), h 1 (by omega), h 2 (by omega), h 3 (by omega)⟩
/-- A list of signs, in memory of its own. -/
def SgsAns (xs : List Sg) (e0 : Nat) (w : World) (e : Ending) (w' : World) : Prop :=
  Below w.heap.size w w' ∧ ∃ v, e = .returned v ∧ w'.ownsRow w.heap.size e0 4 v xs.length (sgVals xs)
/-- Four cells laid one behind the other. -/
def set4 (zs : List Value) (k : Nat) (x : Sg) : List Value := (((zs.set (k * 4) (.int .i64 x.kind)).set (k * 4 + 1) (.string x.text)).set (k * 4 + 2) (.int .i64 x.place)).set (k * 4 + 3) (.bool x.blank)
theorem set4_len (zs : List Value) (k : Nat) (x : Sg) : (set4 zs k x).length = zs.length := by simp [set4]
theorem set4_take {zs : List Value} {xs : List Sg} {k : Nat} {x : Sg} (hk : k * 4 + 4 ≤ zs.length) (hx : xs[k]? = some x) (h : zs.take (k * 4) = sgVals (xs.take k)) : (set4 zs k x).take ((k + 1) * 4) = sgVals (xs.take (k + 1)) := by
  rw [List.take_add_one, hx, sgVals_app, ← h]
  apply List.ext_getElem?
  intro j
  rw [List.getElem?_take]
  have hl : (zs.take (k * 4)).length = k * 4 := by simp; omega
  by_cases h1 : j < k * 4
  · rw [if_pos (by omega), List.getElem?_append_left (by omega)]
    unfold set4
    rw [List.getElem?_set_ne (by omega), List.getElem?_set_ne (by omega), List.getElem?_set_ne (by omega), List.getElem?_set_ne (by omega), List.getElem?_take, if_pos h1]
  · rw [List.getElem?_append_right (by omega), hl]
    unfold set4
    show _ = (sgCells x ++ [])[j - k * 4]?
    rw [List.append_nil]
    by_cases h2 : j < (k + 1) * 4
    · rw [if_pos h2]
      obtain ⟨i, hi, rfl⟩ : ∃ i, i < 4 ∧ j = k * 4 + i := ⟨j - k * 4, by omega, by omega⟩
      rw [Nat.add_sub_cancel_left]
      match i, hi with
      | 0, _ => rw [List.getElem?_set_ne (by omega), List.getElem?_set_ne (by omega), List.getElem?_set_ne (by omega), Nat.add_zero, List.getElem?_set_self (by omega)]; rfl
      | 1, _ => rw [List.getElem?_set_ne (by omega), List.getElem?_set_ne (by omega), List.getElem?_set_self (by simp; omega)]; rfl
      | 2, _ => rw [List.getElem?_set_ne (by omega), List.getElem?_set_self (by simp; omega)]; rfl
      | 3, _ => rw [List.getElem?_set_self (by simp; omega)]; rfl
    · rw [if_neg h2, List.getElem?_eq_none (by rw [sgCells_len]; omega)]
/-- Same kind, same text. -/
def same2 (x y : Sg) : Bool := (x.kind == y.kind) && (x.text.toList == y.text.toList)
def sameAll : List Sg → List Sg → Bool
  | [], [] => true
  | x :: xs, y :: ys => same2 x y && sameAll xs ys
  | _, _ => false
theorem sameAll_len : ∀ {xs ys : List Sg}, xs.length ≠ ys.length → sameAll xs ys = false
  | [], [], h => by simp at h
  | [], _ :: _, _ => rfl
  | _ :: _, [], _ => rfl
  | x :: xs, y :: ys, h => by
    rw [sameAll, sameAll_len (fun e => h (by simp [e])), Bool.and_false]
theorem sameAll_not : ∀ {xs ys : List Sg} (k : Nat) {x y : Sg}, xs[k]? = some x → ys[k]? = some y → same2 x y = false → sameAll xs ys = false
  | [], _, k, _, _, h, _, _ => by simp at h
  | _ :: _, [], k, _, _, _, h, _ => by simp at h
  | x :: xs, y :: ys, 0, _, _, h1, h2, h3 => by
    obtain rfl : x = _ := by simpa using h1
    obtain rfl : y = _ := by simpa using h2
    rw [sameAll, h3, Bool.false_and]
  | x :: xs, y :: ys, k + 1, _, _, h1, h2, h3 => by
    rw [sameAll, sameAll_not k (by simpa using h1) (by simpa using h2) h3, Bool.and_false]
theorem sameAll_yes : ∀ {xs ys : List Sg}, xs.length = ys.length → (∀ (k : Nat) (x y : Sg), xs[k]? = some x → ys[k]? = some y → same2 x y = true) → sameAll xs ys = true
  | [], [], _, _ => rfl
  | [], _ :: _, h, _ => by simp at h
  | _ :: _, [], h, _ => by simp at h
  | x :: xs, y :: ys, h, hA => by
    rw [sameAll, hA 0 x y rfl rfl, sameAll_yes (by simpa using h) (fun k a b h1 h2 => hA (k + 1) a b (by simpa using h1) (by simpa using h2)), Bool.and_true]
end Go.Proofs.YtabbfpkhlofccaaGreatDoor
