/- Pieces as plain records, and a piece in memory. -/
import Derived.Test.YtokfemlcamnaaaaGreatKaa
namespace Go.Proofs.YtokfemlcamnaaaaGreat
open Go.RowKit

structure Ru where
  values : Int
  cost : Int
def ruCells (x : Ru) : List Value := [.int .i64 x.values, .int .i64 x.cost]
theorem ruCells_len (x : Ru) : (ruCells x).length = 2 := rfl
theorem ruC {w : World} {b o : Nat} {x : Ru} (h : ∀ j, j < 2 → w.cell? ⟨b, o + j, none⟩ = (ruCells x)[j]?) :
    w.cell? ⟨b, o, none⟩ = some (.int .i64 x.values) ∧ w.cell? ⟨b, o + 1, none⟩ = some (.int .i64 x.cost) :=
  ⟨h 0 (by omega), h 1 (by omega)⟩
structure Ch where
  text : ByteArray
  rule : Int
  frm : Int
  space : Bool
  nest : Int
def chCells (x : Ch) : List Value := [.string x.text, .int .i64 x.rule, .int .i64 x.frm, .bool x.space, .int .i64 x.nest]
theorem chCells_len (x : Ch) : (chCells x).length = 5 := rfl
theorem chC {w : World} {b o : Nat} {x : Ch} (h : ∀ j, j < 5 → w.cell? ⟨b, o + j, none⟩ = (chCells x)[j]?) :
    w.cell? ⟨b, o, none⟩ = some (.string x.text) ∧ w.cell? ⟨b, o + 1, none⟩ = some (.int .i64 x.rule) ∧ w.cell? ⟨b, o + 2, none⟩ = some (.int .i64 x.frm) ∧ w.cell? ⟨b, o + 3, none⟩ = some (.bool x.space) ∧ w.cell? ⟨b, o + 4, none⟩ = some (.int .i64 x.nest) :=
  ⟨h 0 (by omega), h 1 (by omega), h 2 (by omega), h 3 (by omega), h 4 (by omega)⟩
structure Sn where
  frm : Int
  til : Int
  cost : Int
def snCells (x : Sn) : List Value := [.int .i64 x.frm, .int .i64 x.til, .int .i64 x.cost]
theorem snCells_len (x : Sn) : (snCells x).length = 3 := rfl
theorem snC {w : World} {b o : Nat} {x : Sn} (h : ∀ j, j < 3 → w.cell? ⟨b, o + j, none⟩ = (snCells x)[j]?) :
    w.cell? ⟨b, o, none⟩ = some (.int .i64 x.frm) ∧ w.cell? ⟨b, o + 1, none⟩ = some (.int .i64 x.til) ∧ w.cell? ⟨b, o + 2, none⟩ = some (.int .i64 x.cost) :=
  ⟨h 0 (by omega), h 1 (by omega), h 2 (by omega)⟩
structure Ti where
  kid : Int
  up : Int
def tiCells (x : Ti) : List Value := [.int .i64 x.kid, .int .i64 x.up]
theorem tiCells_len (x : Ti) : (tiCells x).length = 2 := rfl
theorem tiC {w : World} {b o : Nat} {x : Ti} (h : ∀ j, j < 2 → w.cell? ⟨b, o + j, none⟩ = (tiCells x)[j]?) :
    w.cell? ⟨b, o, none⟩ = some (.int .i64 x.kid) ∧ w.cell? ⟨b, o + 1, none⟩ = some (.int .i64 x.up) :=
  ⟨h 0 (by omega), h 1 (by omega)⟩
/-- A piece: what it holds. -/
structure Pc where
  indent : Int
  rules : List Ru
  chunks : List Ch
  spans : List Sn
  ties : List Ti
/-- Where its four lists lie, and how much room each has. -/
structure Pl where
  a1 : Option Addr
  c1 : Nat
  a2 : Option Addr
  c2 : Nat
  a3 : Option Addr
  c3 : Nat
  a4 : Option Addr
  c4 : Nat
/-- Its lists lie there. -/
structure PcIn (w : World) (p : Pc) (l : Pl) : Prop where
  rules : RowsAt 2 ruCells w l.a1 p.rules
  chunks : RowsAt 5 chCells w l.a2 p.chunks
  spans : RowsAt 3 snCells w l.a3 p.spans
  ties : RowsAt 2 tiCells w l.a4 p.ties
theorem PcIn.below {w w' : World} {p : Pc} {l : Pl} {B : Nat} (h : PcIn w p l) (hb : Below B w w') (hB : w.heap.size ≤ B) : PcIn w' p l :=
  ⟨h.rules.below hb hB, h.chunks.below hb hB, h.spans.below hb hB, h.ties.below hb hB⟩
/-- The piece as a value. -/
abbrev pcV (p : Pc) (l : Pl) : Value := .agg #[.int .i64 p.indent, .slice l.a1 p.rules.length l.c1, .slice l.a2 p.chunks.length l.c2, .slice l.a3 p.spans.length l.c3, .slice l.a4 p.ties.length l.c4]
/-- No list and no text is longer than one may be. -/
structure PcOk (p : Pc) : Prop where
  rules : p.rules.length ≤ 9223372036854775807
  chunks : p.chunks.length ≤ 9223372036854775807
  texts : ∀ x ∈ p.chunks, x.text.size ≤ 9223372036854775807
  spans : p.spans.length ≤ 9223372036854775807
  ties : p.ties.length ≤ 9223372036854775807
/-- None is longer than the law looks at. -/
structure PcFew (p : Pc) : Prop where
  rules : p.rules.length ≤ 1048576
  chunks : p.chunks.length ≤ 1048576
  texts : ∀ (j : Nat) (x : Ch), p.chunks[j]? = some x → x.text.size ≤ 1048576
  spans : p.spans.length ≤ 1048576
  ties : p.ties.length ≤ 1048576
end Go.Proofs.YtokfemlcamnaaaaGreat
/- How many lists of values are right: the product, as a plain function. -/
namespace Go.Proofs.YtokfemlcamnaaaaGreat
open Go.RowKit

def inB (x a b : Int) : Bool := decide (a ≤ x) && decide (x ≤ b)
theorem inB_yes {x a b : Int} (h1 : a ≤ x) (h2 : x ≤ b) : inB x a b = true := by simp [inB, h1, h2]
theorem inB_no {x a b : Int} (h : ¬ (a ≤ x ∧ x ≤ b)) : inB x a b = false := by
  unfold inB
  rw [Bool.and_eq_false_iff]
  simp only [decide_eq_false_iff_not]
  omega
theorem inB_iff {x a b : Int} : inB x a b = true ↔ a ≤ x ∧ x ≤ b := by simp [inB]
/-- The product of the values, 0 when one is not 2 or 3; c: the product so far. -/
def prod (c : Int) : List Ru → Int
  | [] => c
  | x :: xs => if 2 ≤ x.values ∧ x.values ≤ 3 then prod (c * x.values) xs else 0
def cntOf (p : Pc) : Int := prod 1 (p.rules.take 8)
/-- One round: the k-th of those that count. -/
theorem prod_at {xs : List Ru} {k : Nat} {x : Ru} (hk : k < 8) (hx : xs[k]? = some x) (c : Int) : prod c ((xs.take 8).drop k) = if 2 ≤ x.values ∧ x.values ≤ 3 then prod (c * x.values) ((xs.take 8).drop (k + 1)) else 0 := by
  have hl := (List.getElem?_eq_some_iff.1 hx).1
  have h8 : (xs.take 8)[k]? = some x := by rw [List.getElem?_take, if_pos hk]; exact hx
  have hl8 := (List.getElem?_eq_some_iff.1 h8).1
  have e := (List.getElem?_eq_some_iff.1 h8).2
  rw [List.drop_eq_getElem_cons hl8, e]
  rfl
theorem prod_end {xs : List Ru} {k : Nat} (hk : xs.length ≤ k ∨ 8 ≤ k) (c : Int) : prod c ((xs.take 8).drop k) = c := by
  rw [List.drop_of_length_le (by rw [List.length_take]; omega)]
  rfl
/-- The product so far is no more than this. -/
def pow3 : Nat → Int
  | 0 => 1
  | n + 1 => pow3 n * 3
theorem mul_bd {c v : Int} {k : Nat} (h0 : 0 ≤ c) (h1 : c ≤ pow3 k) (hv : 2 ≤ v ∧ v ≤ 3) : 0 ≤ c * v ∧ c * v ≤ pow3 (k + 1) := by
  rcases (show v = 2 ∨ v = 3 by omega) with rfl | rfl
  · rw [pow3]; omega
  · rw [pow3]; omega
theorem pow3_8 {c : Int} {k : Nat} (hk : k ≤ 8) (h : c ≤ pow3 k) : c ≤ 6561 := by
  rcases (show k = 0 ∨ k = 1 ∨ k = 2 ∨ k = 3 ∨ k = 4 ∨ k = 5 ∨ k = 6 ∨ k = 7 ∨ k = 8 by omega) with rfl | rfl | rfl | rfl | rfl | rfl | rfl | rfl | rfl <;> simp [pow3] at h <;> omega
end Go.Proofs.YtokfemlcamnaaaaGreat
/- What a right piece is, in plain words. -/
namespace Go.Proofs.YtokfemlcamnaaaaGreat
open Go.RowKit

/-- An answer that is true just when P holds; nothing that was there has turned. -/
def Tells (P : Prop) (w : World) (e : Ending) (w' : World) : Prop := ∃ b : Bool, e = .returned (.bool b) ∧ (b = true ↔ P) ∧ Below w.heap.size w w'
theorem tells_yes {P : Prop} {w w' : World} (h : P) (hb : Below w.heap.size w w') : Tells P w (.returned (.bool true)) w' := ⟨true, rfl, by simp [h], hb⟩
theorem tells_no {P : Prop} {w w' : World} (h : ¬ P) (hb : Below w.heap.size w w') : Tells P w (.returned (.bool false)) w' := ⟨false, rfl, by simp [h], hb⟩
/-- The same, and the world is as it was. -/
def TellsQ (P : Prop) (w : World) (e : Ending) (w' : World) : Prop := ∃ b : Bool, e = .returned (.bool b) ∧ (b = true ↔ P) ∧ w' = w
theorem tellsQ_yes {P : Prop} {w : World} (h : P) : TellsQ P w (.returned (.bool true)) w := ⟨true, rfl, by simp [h], rfl⟩
theorem tellsQ_no {P : Prop} {w : World} (h : ¬ P) : TellsQ P w (.returned (.bool false)) w := ⟨false, rfl, by simp [h], rfl⟩
theorem TellsQ.yes {P : Prop} {w w' : World} {e : Ending} (h : TellsQ P w e w') (hp : P) : e = .returned (.bool true) ∧ w' = w := by
  obtain ⟨b, rfl, h1, rfl⟩ := h
  exact ⟨by rw [h1.2 hp], rfl⟩
theorem TellsQ.no {P : Prop} {w w' : World} {e : Ending} (h : TellsQ P w e w') (hp : ¬ P) : e = .returned (.bool false) ∧ w' = w := by
  obtain ⟨b, rfl, h1, rfl⟩ := h
  cases b
  · exact ⟨rfl, rfl⟩
  · exact absurd (h1.1 rfl) hp
theorem Tells.yes {P : Prop} {w w' : World} {e : Ending} (h : Tells P w e w') (hp : P) : e = .returned (.bool true) ∧ Below w.heap.size w w' := by
  obtain ⟨b, rfl, h1, h2⟩ := h
  exact ⟨by rw [h1.2 hp], h2⟩
theorem Tells.no {P : Prop} {w w' : World} {e : Ending} (h : Tells P w e w') (hp : ¬ P) : e = .returned (.bool false) ∧ Below w.heap.size w w' := by
  obtain ⟨b, rfl, h1, h2⟩ := h
  cases b
  · exact ⟨rfl, h2⟩
  · exact absurd (h1.1 rfl) hp
theorem Tells.mono {P : Prop} {a w w' : World} {e : Ending} (hb : Below a.heap.size a w) (h : Tells P w e w') : Tells P a e w' := by
  obtain ⟨b, h1, h2, h3⟩ := h
  exact ⟨b, h1, h2, hb.trans (h3.mono hb.size)⟩
theorem same_bool {b c : Bool} {P : Prop} (h1 : b = true ↔ P) (h2 : c = true ↔ P) : b = c := by
  cases b <;> cases c <;> simp_all
/-- All bytes in 32 .. 126. -/
def Plain (s : ByteArray) : Prop := ∀ k, k < s.size → 32 ≤ by8 s k ∧ by8 s k ≤ 126
def RuOk (x : Ru) : Prop := (2 ≤ x.values ∧ x.values ≤ 3) ∧ 0 ≤ x.cost ∧ x.cost ≤ 9
def RulesOk (rs : List Ru) : Prop := rs.length ≤ 8 ∧ ∀ (j : Nat) (x : Ru), rs[j]? = some x → RuOk x
def SplitOk (rs : List Ru) (x : Ch) : Prop := 0 ≤ x.rule ∧ (∃ y, rs[x.rule.toNat]? = some y ∧ 1 ≤ x.frm ∧ x.frm ≤ wrap64 (y.values - 1)) ∧ 0 ≤ x.nest ∧ x.nest ≤ 40
def Blank (x : Ch) : Prop := x.rule = 0 ∧ x.frm = 0 ∧ x.space = false ∧ x.nest = 0
structure ChunksOk (p : Pc) : Prop where
  least : 1 ≤ p.chunks.length
  most : p.chunks.length ≤ 80
  texts : ∀ (j : Nat) (x : Ch), p.chunks[j]? = some x → Plain x.text ∧ (j + 1 < p.chunks.length → SplitOk p.rules x)
  last : ∀ x, p.chunks[p.chunks.length - 1]? = some x → Blank x
def SnOk (n : Nat) (x : Sn) : Prop := (0 ≤ x.til ∧ x.til ≤ (n : Int) - 2) ∧ (0 ≤ x.frm ∧ x.frm ≤ x.til) ∧ 0 ≤ x.cost ∧ x.cost ≤ 9
structure SpansOk (p : Pc) : Prop where
  most : p.spans.length ≤ 40
  all : ∀ (j : Nat) (x : Sn), p.spans[j]? = some x → SnOk p.chunks.length x
def TiOk (n : Nat) (x : Ti) : Prop := (0 ≤ x.kid ∧ x.kid ≤ (n : Int) - 1) ∧ (0 ≤ x.up ∧ x.up ≤ (n : Int) - 1) ∧ x.kid ≠ x.up
structure TiesOk (p : Pc) : Prop where
  most : p.ties.length ≤ 20
  all : ∀ (j : Nat) (x : Ti), p.ties[j]? = some x → TiOk p.rules.length x
structure Right (p : Pc) : Prop where
  indent : 0 ≤ p.indent ∧ p.indent ≤ 60
  rules : RulesOk p.rules
  chunks : ChunksOk p
  spans : SpansOk p
  ties : TiesOk p
end Go.Proofs.YtokfemlcamnaaaaGreat
/- What right values are, and when there is a split, in plain words. -/
namespace Go.Proofs.YtokfemlcamnaaaaGreat
open Go.RowKit

/-- No rule has the least number that there is. -/
def NoLeast (rs : List Ru) : Prop := ∀ (j : Nat) (y : Ru), rs[j]? = some y → -9223372036854775808 < y.values ∧ y.values ≤ 9223372036854775807
theorem noLeast_right {p : Pc} (h : RulesOk p.rules) : NoLeast p.rules := fun j y hy => by
  have := (h.2 j y hy).1
  omega
/-- As many as rules, each in 0 .. Values less 1. -/
structure ValOk (p : Pc) (vs : List Int) : Prop where
  len : vs.length = p.rules.length
  all : ∀ (j : Nat) (z : Int) (y : Ru), vs[j]? = some z → p.rules[j]? = some y → 0 ≤ z ∧ z ≤ y.values - 1
/-- There is a split behind chunk i. -/
structure SplitAt (p : Pc) (vs : List Int) (i : Int) : Prop where
  right : Right p
  vals : ValOk p vs
  low : 0 ≤ i
  high : i ≤ (p.chunks.length : Int) - 2
  splits : ∀ (x : Ch) (z : Int), p.chunks[i.toNat]? = some x → vs[x.rule.toNat]? = some z → x.frm ≤ z
/-- The split of a chunk that is not the last one has its rule, and the rule its value. -/
theorem split_val {p : Pc} {vs : List Int} {k : Nat} (h : Right p) (hv : ValOk p vs) (hk : (k : Int) ≤ (p.chunks.length : Int) - 2) : ∃ (x : Ch) (r : Nat) (z : Int), p.chunks[k]? = some x ∧ x.rule = (r : Int) ∧ r < vs.length ∧ vs[r]? = some z := by
  have hk' : k < p.chunks.length := by omega
  have hx := List.getElem?_eq_getElem hk'
  obtain ⟨-, hs⟩ := h.chunks.texts k _ hx
  obtain ⟨h0, ⟨y, hy, -⟩, -⟩ := hs (by omega)
  obtain ⟨r, hr⟩ := Int.eq_ofNat_of_zero_le h0
  have hrl := (List.getElem?_eq_some_iff.1 hy).1
  rw [hr, Int.toNat_natCast, ← hv.len] at hrl
  exact ⟨_, r, _, hx, hr, hrl, List.getElem?_eq_getElem hrl⟩
end Go.Proofs.YtokfemlcamnaaaaGreat
