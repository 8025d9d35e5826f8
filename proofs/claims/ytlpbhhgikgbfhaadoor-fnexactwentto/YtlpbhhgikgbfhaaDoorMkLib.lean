/- The marks as plain lists, and what a map of them holds. -/
import Derived.Maps.OwnOps
import Derived.Maps.OwnSet
import Derived.Maps.Views
import Derived.StringKeys
import Derived.Test.YtlpbhhgikgbfhaaDoorLib
import Derived.Test.YtlpbhhgikgbfhaaDoorCutLib
namespace Go.Proofs.YtlpbhhgikgbfhaaDoor
open Go.RowKit Go.Maps Go.WideMaps

/-- The marks, with their sizes. -/
def mkPs : List (List UInt8 × Int) := [([38, 38], 2), ([124, 124], 2), ([61, 61], 2), ([61, 62], 2), ([46, 46], 2), ([40], 1), ([41], 1), ([123], 1), ([125], 1), ([91], 1), ([93], 1), ([59], 1), ([44], 1), ([46], 1), ([61], 1), ([43], 1), ([45], 1), ([42], 1), ([60], 1), ([63], 1), ([58], 1)]
/-- What a map of pairs has at a text. -/
def ofPs (ps : List (List UInt8 × Int)) (z : Int) (l : List UInt8) : Int := ps.foldl (fun acc p => if l = p.1 then p.2 else acc) z
def mkAt (l : List UInt8) : Int := ofPs mkPs 0 l
def mkIs (l : List UInt8) : Bool := mkPs.any fun p => p.1 == l
theorem ofPs_pos (l : List UInt8) : ∀ (ps : List (List UInt8 × Int)) (z : Int), (∀ p ∈ ps, 0 < p.2) → (0 < ofPs ps z l ↔ 0 < z ∨ (ps.any fun p => p.1 == l) = true)
  | [], z, _ => by simp [ofPs]
  | p :: ps, z, h => by
    have h0 := h p (by simp)
    have ih := ofPs_pos l ps (if l = p.1 then p.2 else z) (fun q hq => h q (by simp [hq]))
    rw [show ofPs (p :: ps) z l = ofPs ps (if l = p.1 then p.2 else z) l from rfl, ih]
    by_cases e : l = p.1
    · subst e; simp [h0]
    · have e' : ¬ p.1 = l := fun x => e x.symm
      simp [e, e']
theorem mkAt_pos (l : List UInt8) : (0 < mkAt l) ↔ mkIs l = true := by
  have := ofPs_pos l mkPs 0 (by decide)
  simpa [mkAt, mkIs] using this
/-- A datum that holds the pairs' numbers. -/
def putPs (ps : List (List UInt8 × Int)) (D : DataW Unit) : DataW Unit := ps.foldl (fun D p => D.put (.string p.1) (.lit (.int .i64 p.2))) D
theorem putPs_at (l : List UInt8) : ∀ (ps : List (List UInt8 × Int)) (D : DataW Unit) (z : Int), IsMap D → D.atKey (.string l) (.lit (.int .i64 0)) = .lit (.int .i64 z) → (putPs ps D).atKey (.string l) (.lit (.int .i64 0)) = .lit (.int .i64 (ofPs ps z l))
  | [], D, z, _, h => h
  | p :: ps, D, z, hm, h => by
    show (putPs ps (D.put (.string p.1) (.lit (.int .i64 p.2)))).atKey _ _ = .lit (.int .i64 (ofPs ps (if l = p.1 then p.2 else z) l))
    refine putPs_at l ps _ _ (hm.put _ _) ?_
    by_cases e : l = p.1
    · subst e
      rw [if_pos rfl]
      exact atKey_put_same hm (by trivial) _ _
    · rw [if_neg e, atKey_put_other (by simpa using e)]
      exact h
/-- Block b is the map of marks. -/
def MkMap (P : Program) (w : World) (k e b : Nat) : Prop := ∃ (n : Nat) (D : DataW Unit), w.ownsMap P k (plainElem P e) b n D ∧ ∀ l, D.atKey (.string l) (.lit (.int .i64 0)) = .lit (.int .i64 (mkAt l))
theorem MkMap.below {P : Program} {w w' : World} {k e b : Nat} (h : MkMap P w k e b) (hb : Below w.heap.size w w') : MkMap P w' k e b := by
  obtain ⟨n, D, ho, ha⟩ := h
  exact ⟨n, D, ho.kept (grownBy_of_below hb none) (by simp), ha⟩
theorem MkMap.kept {P : Program} {w w' : World} {k e b : Nat} {row : Option Nat} (h : MkMap P w k e b) (hg : w.grownBy w' row) (hne : some b ≠ row) : MkMap P w' k e b := by
  obtain ⟨n, D, ho, ha⟩ := h
  exact ⟨n, D, ho.kept hg hne, ha⟩
/-- An insertion into a map that the call made, as one step. -/
theorem insStep {P : Program} (w : World) {ops : Array Oper} {rest : List Oper} {o : Oper} {a : Act} {Q : Exit → Act → World → Prop}
    (hg : o.guard = none) (m x v : Operand) (t : TypeId) (hop : o.op = Op.insert t m x v)
    (k e : TypeId) (K : Keyed P k) (ht : P.underlying t = some (.map k e)) (he : P.underlying e = some (.int .i64)) (hks : P.underlying k = some .string) (base b n : Nat) (D : DataW Unit) (w0 : World) (hbb : base ≤ b)
    (hm : a.eval m = .map (some b)) (hown : w.ownsMap P k (plainElem P e) b n D ∧ Below base w0 w) (hn : n < 1000) (s : ByteArray) (i : Int) (hx : a.eval x = .string s) (hv : a.eval v = .int .i64 i) (hs : s.size ≤ 1000) (hi : 0 ≤ i ∧ i ≤ 1000)
    (hK : ∀ w', (w'.ownsMap P k (plainElem P e) b (n + 1) (D.put (.string s.data.toList) (.lit (.int .i64 i))) ∧ Below base w0 w') → wpList P ops Q rest (a.put o.dst undef) w') :
    wpList P ops Q (o :: rest) a w := by
  have hwf : (Lit.int .i64 i).wf = true := WalkArith.wf_i64 (by omega)
  refine wpList_plain hg fun K' hK' => ?_
  obtain ⟨w', hrun, r1, r2⟩ := hown.1.update K ht (by unfold maxLen; omega) (keyOf_string_mk hks (show s.size ≤ maxLen by unfold maxLen; omega)) (plainElem_int he hwf)
  unfold Oper.wp
  simp [execOp, hop, hm, hx, hv, hrun, Result.andThen]
  exact hK' _ _ (hK w' ⟨r1, hown.2.grown r2 (Nat.le_trans hbb (Nat.le_of_lt hown.1.lt)) (fun j hj => by cases hj; exact hbb)⟩)
end Go.Proofs.YtlpbhhgikgbfhaaDoor
