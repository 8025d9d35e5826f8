/- What right values are, and when there is a split, in plain words. -/
import Derived.Test.YtghfpcjgionbaaaGreatRightLib
import Derived.Test.YtghfpcjgionbaaaGreatKaa
namespace Go.Proofs.YtghfpcjgionbaaaGreat
open Go.RowKit

/-- No rule has the least number that there is. -/
def NoLeast (rs : List Ru) : Prop := ∀ (j : Nat) (y : Ru), rs[j]? = some y → -9223372036854775808 < y.values ∧ y.values ≤ 9223372036854775807
theorem noLeast_right {p : Pc} (h : RulesOk p.rules) : NoLeast p.rules := fun j y hy => by
  have := (h.2 j y hy).1
  omega
/-- As many as rules, each in 0 .. Values less 1. -/
structure ValOk (p : Pc) (vs : List Int) : Prop where
  len : vs.length = p.rules.length
  all : ∀ (j : Nat) (z : Int) (y : Ru), vs[j]? = some z → p.rules[j]? = some y → 0 ≤ z ∧ z ≤ y.values - 1
/-- There is a split behind chunk i. -/
structure SplitAt (p : Pc) (vs : List Int) (i : Int) : Prop where
  right : Right p
  vals : ValOk p vs
  low : 0 ≤ i
  high : i ≤ (p.chunks.length : Int) - 2
  splits : ∀ (x : Ch) (z : Int), p.chunks[i.toNat]? = some x → vs[x.rule.toNat]? = some z → x.frm ≤ z
/-- The split of a chunk that is not the last one has its rule, and the rule its value. -/
theorem split_val {p : Pc} {vs : List Int} {k : Nat} (h : Right p) (hv : ValOk p vs) (hk : (k : Int) ≤ (p.chunks.length : Int) - 2) : ∃ (x : Ch) (r : Nat) (z : Int), p.chunks[k]? = some x ∧ x.rule = (r : Int) ∧ r < vs.length ∧ vs[r]? = some z := by
  have hk' : k < p.chunks.length := by omega
  have hx := List.getElem?_eq_getElem hk'
  obtain ⟨-, hs⟩ := h.chunks.texts k _ hx
  obtain ⟨h0, ⟨y, hy, -⟩, -⟩ := hs (by omega)
  obtain ⟨r, hr⟩ := Int.eq_ofNat_of_zero_le h0
  have hrl := (List.getElem?_eq_some_iff.1 hy).1
  rw [hr, Int.toNat_natCast, ← hv.len] at hrl
  exact ⟨_, r, _, hx, hr, hrl, List.getElem?_eq_getElem hrl⟩
end Go.Proofs.YtghfpcjgionbaaaGreat
/- The lines of a piece and what they cost, in plain words. -/
namespace Go.Proofs.YtghfpcjgionbaaaGreat
open Go.RowKit

/-- There is a split behind this chunk. -/
def spl (vs : List Int) (x : Ch) : Bool := decide (x.frm ≤ vs.getD x.rule.toNat 0)
theorem spl_of {vs : List Int} {x : Ch} {r : Nat} {z : Int} (hr : x.rule = (r : Int)) (hz : vs[r]? = some z) : spl vs x = decide (x.frm ≤ z) := by
  unfold spl
  rw [hr, Int.toNat_natCast, List.getD_eq_getElem?_getD, hz]
  rfl
theorem spl_at {p : Pc} {vs : List Int} {k : Nat} {x : Ch} (h : Right p) (hv : ValOk p vs) (hk : (k : Int) ≤ (p.chunks.length : Int) - 2) (hx : p.chunks[k]? = some x) : SplitAt p vs (k : Int) ↔ spl vs x = true := by
  obtain ⟨x', r, z, ex, er, hr, ez⟩ := split_val h hv hk
  rw [hx] at ex
  cases ex
  rw [spl_of er ez, decide_eq_true_eq]
  constructor
  · intro hs
    exact hs.splits x z (by rw [Int.toNat_natCast]; exact hx) (by rw [er, Int.toNat_natCast]; exact ez)
  · intro hf
    refine ⟨h, hv, Int.natCast_nonneg k, hk, fun x' z' hx' hz' => ?_⟩
    rw [Int.toNat_natCast, hx] at hx'
    cases hx'
    rw [er, Int.toNat_natCast, ez] at hz'
    cases hz'
    exact hf
/-- So many blanks. -/
def blanks (n : Int) : ByteArray := ⟨(List.replicate n.toNat (32 : UInt8)).toArray⟩
theorem blanks_size (n : Int) : (blanks n).size = n.toNat := by
  show (List.replicate n.toNat (32 : UInt8)).toArray.size = _
  simp
/-- The blank between two chunks. -/
def sp1 (x : Ch) : ByteArray := if x.space then ⟨#[32]⟩ else ⟨#[]⟩
theorem sp1_yes {x : Ch} (h : x.space = true) : sp1 x = ⟨#[32]⟩ := by unfold sp1; rw [if_pos h]
theorem sp1_no {x : Ch} (h : x.space = false) : sp1 x = ⟨#[]⟩ := by unfold sp1; rw [h]; rfl
theorem sp1_size (x : Ch) : (sp1 x).size ≤ 1 := by
  cases h : x.space
  · rw [sp1_no h]; exact Nat.zero_le _
  · rw [sp1_yes h]; exact Nat.le_refl _
theorem app_none (s : ByteArray) : s ++ (⟨#[]⟩ : ByteArray) = s := ByteArray.append_empty
theorem app_size (a b : ByteArray) : (a ++ b).size = a.size + b.size := ByteArray.size_append
/-- The lines of what is left, behind the beginning of a line. -/
def ren (ind : Int) (vs : List Int) : ByteArray → List Ch → List ByteArray
  | s, [] => [s]
  | s, [x] => [s ++ x.text]
  | s, x :: y :: cs => if spl vs x then (s ++ x.text) :: ren ind vs (blanks (ind + x.nest)) (y :: cs) else ren ind vs (s ++ x.text ++ sp1 x) (y :: cs)
theorem drop_two {cs : List Ch} {k : Nat} {x : Ch} (hx : cs[k]? = some x) (hk : k + 1 < cs.length) : ∃ y r, cs.drop k = x :: y :: r ∧ cs.drop (k + 1) = y :: r := by
  have hk' := (List.getElem?_eq_some_iff.1 hx).1
  have e : cs[k] = x := (List.getElem?_eq_some_iff.1 hx).2
  refine ⟨cs[k + 1], cs.drop (k + 1 + 1), ?_, List.drop_eq_getElem_cons hk⟩
  rw [List.drop_eq_getElem_cons hk', List.drop_eq_getElem_cons hk, e]
theorem drop_one {cs : List Ch} {k : Nat} {x : Ch} (hx : cs[k]? = some x) (hk : k + 1 = cs.length) : cs.drop k = [x] := by
  have hk' := (List.getElem?_eq_some_iff.1 hx).1
  have e : cs[k] = x := (List.getElem?_eq_some_iff.1 hx).2
  rw [List.drop_eq_getElem_cons hk', e, List.drop_of_length_le (by omega)]
theorem ren_last {ind : Int} {vs : List Int} {cs : List Ch} {k : Nat} {x : Ch} (s : ByteArray) (hx : cs[k]? = some x) (hk : k + 1 = cs.length) : ren ind vs s (cs.drop k) = [s ++ x.text] := by
  rw [drop_one hx hk, ren]
theorem ren_split {ind : Int} {vs : List Int} {cs : List Ch} {k : Nat} {x : Ch} (s : ByteArray) (hx : cs[k]? = some x) (hk : k + 1 < cs.length) (h : spl vs x = true) : ren ind vs s (cs.drop k) = (s ++ x.text) :: ren ind vs (blanks (ind + x.nest)) (cs.drop (k + 1)) := by
  obtain ⟨y, r, e1, e2⟩ := drop_two hx hk
  rw [e1, e2, ren, if_pos h]
theorem ren_join {ind : Int} {vs : List Int} {cs : List Ch} {k : Nat} {x : Ch} (s : ByteArray) (hx : cs[k]? = some x) (hk : k + 1 < cs.length) (h : spl vs x = false) : ren ind vs s (cs.drop k) = ren ind vs (s ++ x.text ++ sp1 x) (cs.drop (k + 1)) := by
  obtain ⟨y, r, e1, e2⟩ := drop_two hx hk
  rw [e1, e2, ren, if_neg (by rw [h]; exact Bool.false_ne_true)]
/-- One line, behind its beginning. -/
def lin : ByteArray → List Ch → ByteArray
  | s, [] => s
  | s, [x] => s ++ x.text
  | s, x :: y :: cs => lin (s ++ x.text ++ sp1 x) (y :: cs)
theorem ren_takeAt {cs : List Ch} {n k : Nat} (h : k < n) : (cs.take n)[k]? = cs[k]? := List.getElem?_take_of_lt h
theorem lin_last {cs : List Ch} {k n : Nat} {x : Ch} (s : ByteArray) (hx : cs[k]? = some x) (hk : k + 1 = n) (hn : n ≤ cs.length) : lin s ((cs.take n).drop k) = s ++ x.text := by
  rw [drop_one (cs := cs.take n) (by rw [ren_takeAt (by omega)]; exact hx) (by rw [List.length_take]; omega), lin]
theorem lin_more {cs : List Ch} {k n : Nat} {x : Ch} (s : ByteArray) (hx : cs[k]? = some x) (hk : k + 1 < n) (hn : n ≤ cs.length) : lin s ((cs.take n).drop k) = lin (s ++ x.text ++ sp1 x) ((cs.take n).drop (k + 1)) := by
  obtain ⟨y, r, e1, e2⟩ := drop_two (cs := cs.take n) (k := k) (x := x) (by rw [ren_takeAt (by omega)]; exact hx) (by rw [List.length_take]; omega)
  rw [e1, e2, lin]
/-- A line's chunks: from one on up to the next split. -/
structure Seg (vs : List Int) (cs : List Ch) (a n : Nat) : Prop where
  lt : a < n
  le : n ≤ cs.length
  inner : ∀ (i : Nat) (x : Ch), a ≤ i → i + 1 < n → cs[i]? = some x → spl vs x = false
  last : ∀ (x : Ch), n < cs.length → cs[n - 1]? = some x → spl vs x = true
/-- What the next line begins with. -/
def inOf (p : Pc) (k : Nat) : Int := if k = 0 then p.indent else p.indent + ((p.chunks[k - 1]?).map (·.nest)).getD 0
theorem inOf_zero (p : Pc) : inOf p 0 = p.indent := by unfold inOf; rw [if_pos rfl]
theorem inOf_at {p : Pc} {k : Nat} {x : Ch} (hk : k ≠ 0) (hx : p.chunks[k - 1]? = some x) : inOf p k = p.indent + x.nest := by
  unfold inOf
  rw [if_neg hk, hx]
  rfl
theorem inOf_le {p : Pc} (h : Right p) {k : Nat} (hk : k < p.chunks.length) : 0 ≤ inOf p k ∧ inOf p k ≤ 100 := by
  have hi := h.indent
  by_cases h0 : k = 0
  · subst h0
    rw [inOf_zero]
    omega
  · have hx := List.getElem?_eq_getElem (show k - 1 < p.chunks.length by omega)
    rw [inOf_at h0 hx]
    obtain ⟨-, hs⟩ := h.chunks.texts (k - 1) _ hx
    obtain ⟨-, -, h1, h2⟩ := hs (by omega)
    omega
/-- The line of those chunks. -/
def lineOf (p : Pc) (a n : Nat) : ByteArray := lin (blanks (inOf p a)) ((p.chunks.take n).drop a)
/-- The lines from there on. -/
def linesFrom (p : Pc) (vs : List Int) (a : Nat) : List ByteArray := if a < p.chunks.length then ren p.indent vs (blanks (inOf p a)) (p.chunks.drop a) else []
def linesOf (p : Pc) (vs : List Int) : List ByteArray := ren p.indent vs (blanks p.indent) p.chunks
theorem ren_seg {ind : Int} {vs : List Int} {cs : List Ch} {n : Nat} : ∀ (d a : Nat) (s : ByteArray), n = a + d + 1 → Seg vs cs a n → ren ind vs s (cs.drop a) = lin s ((cs.take n).drop a) :: (if n < cs.length then ren ind vs (blanks (ind + ((cs[n - 1]?).map (·.nest)).getD 0)) (cs.drop n) else [])
  | 0, a, s, hd, h => by
    have hle := h.le
    obtain ⟨x, hx⟩ : ∃ x, cs[a]? = some x := ⟨_, List.getElem?_eq_getElem (show a < cs.length by omega)⟩
    have ha : n - 1 = a := by omega
    by_cases hn : n < cs.length
    · rw [ren_split s hx (by omega) (h.last _ hn (by rw [ha]; exact hx)), lin_last s hx (by omega) hle, if_pos hn, ha, hx, show n = a + 1 by omega]
      rfl
    · rw [ren_last s hx (by omega), lin_last s hx (by omega) hle, if_neg hn]
  | d + 1, a, s, hd, h => by
    have hle := h.le
    have hx := List.getElem?_eq_getElem (show a < cs.length by omega)
    rw [ren_join s hx (by omega) (h.inner a _ (Nat.le_refl _) (by omega) hx), lin_more s hx (by omega) hle]
    exact ren_seg d (a + 1) _ (by omega) ⟨by omega, hle, fun i x h1 h2 h3 => h.inner i x (by omega) h2 h3, h.last⟩
theorem lines_seg {p : Pc} {vs : List Int} {a n : Nat} (h : Seg vs p.chunks a n) : linesFrom p vs a = lineOf p a n :: linesFrom p vs n := by
  have hlt := h.lt
  have hle := h.le
  unfold linesFrom lineOf
  rw [if_pos (by omega), ren_seg (n - a - 1) a _ (by omega) h]
  unfold inOf
  rw [if_neg (show n ≠ 0 by omega)]
theorem lines_zero {p : Pc} {vs : List Int} (h : 0 < p.chunks.length) : linesFrom p vs 0 = linesOf p vs := by
  unfold linesFrom linesOf
  rw [if_pos h, inOf_zero]
  rfl
theorem lines_end {p : Pc} {vs : List Int} {a : Nat} (h : p.chunks.length ≤ a) : linesFrom p vs a = [] := by
  unfold linesFrom
  rw [if_neg (by omega)]
/-- How long a line may be. -/
theorem lin_size : ∀ (cs : List Ch) (s : ByteArray) (m : Nat), (∀ x ∈ cs, x.text.size ≤ m) → (lin s cs).size ≤ s.size + cs.length * (m + 1)
  | [], s, m, _ => by rw [lin]; omega
  | [x], s, m, h => by
    have := h x (by simp)
    rw [lin, app_size, List.length_singleton]
    omega
  | x :: y :: cs, s, m, h => by
    have h1 := h x (by simp)
    have ih := lin_size (y :: cs) (s ++ x.text ++ sp1 x) m (fun z hz => h z (by simp only [List.mem_cons] at hz ⊢; exact .inr hz))
    have h2 := sp1_size x
    rw [lin, List.length_cons, Nat.succ_mul]
    rw [app_size, app_size] at ih
    omega
theorem lineOf_size {p : Pc} {a n : Nat} (h : Right p) (hF : PcFew p) (ha : a < p.chunks.length) : (lineOf p a n).size ≤ 83886260 := by
  have h1 := inOf_le h ha
  have h2 := h.chunks.most
  have h3 := lin_size ((p.chunks.take n).drop a) (blanks (inOf p a)) 1048576 (fun x hx => by
    obtain ⟨j, hj⟩ := List.mem_iff_getElem?.1 (List.mem_of_mem_take (List.mem_of_mem_drop hx))
    exact hF.texts j x hj)
  rw [blanks_size] at h3
  have h4 : ((p.chunks.take n).drop a).length ≤ 80 := by rw [List.length_drop, List.length_take]; omega
  have h5 : ((p.chunks.take n).drop a).length * (1048576 + 1) ≤ 80 * (1048576 + 1) := Nat.mul_le_mul_right _ h4
  unfold lineOf
  omega
/-- By how much lines are too long. -/
def ovr (wd : Int) : List ByteArray → Int
  | [] => 0
  | s :: ss => max ((s.size : Int) - wd) 0 + ovr wd ss
theorem ovr_app (wd : Int) : ∀ (a b : List ByteArray), ovr wd (a ++ b) = ovr wd a + ovr wd b
  | [], b => by rw [List.nil_append, ovr]; omega
  | s :: a, b => by rw [List.cons_append, ovr, ovr, ovr_app wd a b]; omega
/-- A width in its bounds. -/
def wid (w : Int) : Int := min (max w 0) 100000
theorem wid_le (w : Int) : 0 ≤ wid w ∧ wid w ≤ 100000 := by unfold wid; omega
/-- What values cost. -/
def vcost : List Ru → List Int → Int
  | r :: rs, v :: vs => r.cost * v + vcost rs vs
  | [], _ => 0
  | _ :: _, [] => 0
theorem vcost_at {rs : List Ru} {vs : List Int} {k : Nat} {y : Ru} {z : Int} (hy : rs[k]? = some y) (hz : vs[k]? = some z) : vcost (rs.drop k) (vs.drop k) = y.cost * z + vcost (rs.drop (k + 1)) (vs.drop (k + 1)) := by
  have h1 := (List.getElem?_eq_some_iff.1 hy)
  have h2 := (List.getElem?_eq_some_iff.1 hz)
  rw [List.drop_eq_getElem_cons h1.1, List.drop_eq_getElem_cons h2.1, vcost, h1.2, h2.2]
theorem vcost_end {rs : List Ru} {vs : List Int} {k : Nat} (h : vs.length ≤ k) : vcost (rs.drop k) (vs.drop k) = 0 := by
  rw [List.drop_of_length_le h]
  cases rs.drop k <;> rfl
/-- Whether there is a split in a span. -/
def snSpl (cs : List Ch) (vs : List Int) (x : Sn) : Bool := ((cs.take (x.til.toNat + 1)).drop x.frm.toNat).any (spl vs)
/-- What spans cost. -/
def scost (cs : List Ch) (vs : List Int) : List Sn → Int
  | [] => 0
  | x :: xs => (if snSpl cs vs x then x.cost else 0) + scost cs vs xs
theorem scost_yes {cs : List Ch} {vs : List Int} {xs : List Sn} {k : Nat} {x : Sn} (hx : xs[k]? = some x) (h : snSpl cs vs x = true) : scost cs vs (xs.drop k) = x.cost + scost cs vs (xs.drop (k + 1)) := by
  have h1 := (List.getElem?_eq_some_iff.1 hx)
  rw [List.drop_eq_getElem_cons h1.1, scost, h1.2, if_pos h]
theorem scost_no {cs : List Ch} {vs : List Int} {xs : List Sn} {k : Nat} {x : Sn} (hx : xs[k]? = some x) (h : snSpl cs vs x = false) : scost cs vs (xs.drop k) = scost cs vs (xs.drop (k + 1)) := by
  have h1 := (List.getElem?_eq_some_iff.1 hx)
  rw [List.drop_eq_getElem_cons h1.1, scost, h1.2, if_neg (by rw [h]; exact Bool.false_ne_true)]
  omega
theorem scost_end {cs : List Ch} {vs : List Int} {xs : List Sn} {k : Nat} (h : xs.length ≤ k) : scost cs vs (xs.drop k) = 0 := by
  rw [List.drop_of_length_le h, scost]
/-- What a piece costs with its values. -/
def costSum (p : Pc) (vs : List Int) : Int := vcost p.rules vs + scost p.chunks vs p.spans
def costOver (p : Pc) (vs : List Int) (wd : Int) : Int := ovr (wid wd) (linesOf p vs)
theorem ren_len (ind : Int) (vs : List Int) : ∀ (cs : List Ch) (s : ByteArray), (ren ind vs s cs).length ≤ cs.length + 1
  | [], s => by rw [ren]; simp
  | [x], s => by rw [ren]; simp
  | x :: y :: cs, s => by
    have h1 := ren_len ind vs (y :: cs) (blanks (ind + x.nest))
    have h2 := ren_len ind vs (y :: cs) (s ++ x.text ++ sp1 x)
    rw [ren]
    split
    · simp only [List.length_cons] at h1 ⊢; omega
    · simp only [List.length_cons] at h2 ⊢; omega
end Go.Proofs.YtghfpcjgionbaaaGreat
