/- Pieces as plain records, and a piece in memory. -/
import Derived.Test.YtgaejcljabhijaaRowLib
namespace Go.Proofs.Ytgaejcljabhijaa
open Go.RowKit

structure Ru where
  values : Int
  cost : Int
def ruCells (x : Ru) : List Value := [.int .i64 x.values, .int .i64 x.cost]
theorem ruCells_len (x : Ru) : (ruCells x).length = 2 := rfl
theorem ruC {w : World} {b o : Nat} {x : Ru} (h : ∀ j, j < 2 → w.cell? ⟨b, o + j, none⟩ = (ruCells x)[j]?) :
    w.cell? ⟨b, o, none⟩ = some (.int .i64 x.values) ∧ w.cell? ⟨b, o + 1, none⟩ = some (.int .i64 x.cost) :=
  ⟨h 0 (by omega), h 1 (by omega)⟩
structure Ch where
  text : ByteArray
  rule : Int
  frm : Int
  space : Bool
  nest : Int
def chCells (x : Ch) : List Value := [.string x.text, .int .i64 x.rule, .int .i64 x.frm, .bool x.space, .int .i64 x.nest]
theorem chCells_len (x : Ch) : (chCells x).length = 5 := rfl
theorem chC {w : World} {b o : Nat} {x : Ch} (h : ∀ j, j < 5 → w.cell? ⟨b, o + j, none⟩ = (chCells x)[j]?) :
    w.cell? ⟨b, o, none⟩ = some (.string x.text) ∧ w.cell? ⟨b, o + 1, none⟩ = some (.int .i64 x.rule) ∧ w.cell? ⟨b, o + 2, none⟩ = some (.int .i64 x.frm) ∧ w.cell? ⟨b, o + 3, none⟩ = some (.bool x.space) ∧ w.cell? ⟨b, o + 4, none⟩ = some (.int .i64 x.nest) :=
  ⟨h 0 (by omega), h 1 (by omega), h 2 (by omega), h 3 (by omega), h 4 (by omega)⟩
structure Sn where
  frm : Int
  til : Int
  cost : Int
def snCells (x : Sn) : List Value := [.int .i64 x.frm, .int .i64 x.til, .int .i64 x.cost]
theorem snCells_len (x : Sn) : (snCells x).length = 3 := rfl
theorem snC {w : World} {b o : Nat} {x : Sn} (h : ∀ j, j < 3 → w.cell? ⟨b, o + j, none⟩ = (snCells x)[j]?) :
    w.cell? ⟨b, o, none⟩ = some (.int .i64 x.frm) ∧ w.cell? ⟨b, o + 1, none⟩ = some (.int .i64 x.til) ∧ w.cell? ⟨b, o + 2, none⟩ = some (.int .i64 x.cost) :=
  ⟨h 0 (by omega), h 1 (by omega), h 2 (by omega)⟩
structure Ti where
  kid : Int
  up : Int
def tiCells (x : Ti) : List Value := [.int .i64 x.kid, .int .i64 x.up]
theorem tiCells_len (x : Ti) : (tiCells x).length = 2 := rfl
theorem tiC {w : World} {b o : Nat} {x : Ti} (h : ∀ j, j < 2 → w.cell? ⟨b, o + j, none⟩ = (tiCells x)[j]?) :
    w.cell? ⟨b, o, none⟩ = some (.int .i64 x.kid) ∧ w.cell? ⟨b, o + 1, none⟩ = some (.int .i64 x.up) :=
  ⟨h 0 (by omega), h 1 (by omega)⟩
/-- A piece: what it holds. -/
structure Pc where
  indent : Int
  rules : List Ru
  chunks : List Ch
  spans : List Sn
  ties : List Ti
/-- Where its four lists lie, and how much room each has. -/
structure Pl where
  a1 : Option Addr
  c1 : Nat
  a2 : Option Addr
  c2 : Nat
  a3 : Option Addr
  c3 : Nat
  a4 : Option Addr
  c4 : Nat
/-- Its lists lie there. -/
structure PcIn (w : World) (p : Pc) (l : Pl) : Prop where
  rules : RowsAt 2 ruCells w l.a1 p.rules
  chunks : RowsAt 5 chCells w l.a2 p.chunks
  spans : RowsAt 3 snCells w l.a3 p.spans
  ties : RowsAt 2 tiCells w l.a4 p.ties
theorem PcIn.below {w w' : World} {p : Pc} {l : Pl} {B : Nat} (h : PcIn w p l) (hb : Below B w w') (hB : w.heap.size ≤ B) : PcIn w' p l :=
  ⟨h.rules.below hb hB, h.chunks.below hb hB, h.spans.below hb hB, h.ties.below hb hB⟩
/-- The piece as a value. -/
abbrev pcV (p : Pc) (l : Pl) : Value := .agg #[.int .i64 p.indent, .slice l.a1 p.rules.length l.c1, .slice l.a2 p.chunks.length l.c2, .slice l.a3 p.spans.length l.c3, .slice l.a4 p.ties.length l.c4]
/-- No list and no text is longer than one may be. -/
structure PcOk (p : Pc) : Prop where
  rules : p.rules.length ≤ 9223372036854775807
  chunks : p.chunks.length ≤ 9223372036854775807
  texts : ∀ x ∈ p.chunks, x.text.size ≤ 9223372036854775807
  spans : p.spans.length ≤ 9223372036854775807
  ties : p.ties.length ≤ 9223372036854775807
/-- None is longer than the law looks at. -/
structure PcFew (p : Pc) : Prop where
  rules : p.rules.length ≤ 1048576
  chunks : p.chunks.length ≤ 1048576
  texts : ∀ (j : Nat) (x : Ch), p.chunks[j]? = some x → x.text.size ≤ 1048576
  spans : p.spans.length ≤ 1048576
  ties : p.ties.length ≤ 1048576
end Go.Proofs.Ytgaejcljabhijaa
