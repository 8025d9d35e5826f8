/- The lines of a piece and what they cost, in plain words. -/
import Derived.Test.YtbjfkfohkpdlfaaValLib
import Derived.Test.YtbjfkfohkpdlfaaOkI3
import Derived.Test.YtbjfkfohkpdlfaaBoxPc
namespace Go.Proofs.Ytbjfkfohkpdlfaa
open Go.RowKit

/-- There is a split behind this chunk. -/
def spl (vs : List Int) (x : Ch) : Bool := decide (x.frm ≤ vs.getD x.rule.toNat 0)
theorem spl_of {vs : List Int} {x : Ch} {r : Nat} {z : Int} (hr : x.rule = (r : Int)) (hz : vs[r]? = some z) : spl vs x = decide (x.frm ≤ z) := by
  unfold spl
  rw [hr, Int.toNat_natCast, List.getD_eq_getElem?_getD, hz]
  rfl
theorem spl_at {p : Pc} {vs : List Int} {k : Nat} {x : Ch} (h : Right p) (hv : ValOk p vs) (hk : (k : Int) ≤ (p.chunks.length : Int) - 2) (hx : p.chunks[k]? = some x) : SplitAt p vs (k : Int) ↔ spl vs x = true := by
  obtain ⟨x', r, z, ex, er, hr, ez⟩ := split_val h hv hk
  rw [hx] at ex
  cases ex
  rw [spl_of er ez, decide_eq_true_eq]
  constructor
  · intro hs
    exact hs.splits x z (by rw [Int.toNat_natCast]; exact hx) (by rw [er, Int.toNat_natCast]; exact ez)
  · intro hf
    refine ⟨h, hv, Int.natCast_nonneg k, hk, fun x' z' hx' hz' => ?_⟩
    rw [Int.toNat_natCast, hx] at hx'
    cases hx'
    rw [er, Int.toNat_natCast, ez] at hz'
    cases hz'
    exact hf
/-- So many blanks. -/
def blanks (n : Int) : ByteArray := ⟨(List.replicate n.toNat (32 : UInt8)).toArray⟩
theorem blanks_size (n : Int) : (blanks n).size = n.toNat := by
  show (List.replicate n.toNat (32 : UInt8)).toArray.size = _
  simp
/-- The blank between two chunks. -/
def sp1 (x : Ch) : ByteArray := if x.space then ⟨#[32]⟩ else ⟨#[]⟩
theorem sp1_yes {x : Ch} (h : x.space = true) : sp1 x = ⟨#[32]⟩ := by unfold sp1; rw [if_pos h]
theorem sp1_no {x : Ch} (h : x.space = false) : sp1 x = ⟨#[]⟩ := by unfold sp1; rw [h]; rfl
theorem sp1_size (x : Ch) : (sp1 x).size ≤ 1 := by
  cases h : x.space
  · rw [sp1_no h]; exact Nat.zero_le _
  · rw [sp1_yes h]; exact Nat.le_refl _
theorem app_none (s : ByteArray) : s ++ (⟨#[]⟩ : ByteArray) = s := ByteArray.append_empty
theorem app_size (a b : ByteArray) : (a ++ b).size = a.size + b.size := ByteArray.size_append
/-- The lines of what is left, behind the beginning of a line. -/
def ren (ind : Int) (vs : List Int) : ByteArray → List Ch → List ByteArray
  | s, [] => [s]
  | s, [x] => [s ++ x.text]
  | s, x :: y :: cs => if spl vs x then (s ++ x.text) :: ren ind vs (blanks (ind + x.nest)) (y :: cs) else ren ind vs (s ++ x.text ++ sp1 x) (y :: cs)
theorem drop_two {cs : List Ch} {k : Nat} {x : Ch} (hx : cs[k]? = some x) (hk : k + 1 < cs.length) : ∃ y r, cs.drop k = x :: y :: r ∧ cs.drop (k + 1) = y :: r := by
  have hk' := (List.getElem?_eq_some_iff.1 hx).1
  have e : cs[k] = x := (List.getElem?_eq_some_iff.1 hx).2
  refine ⟨cs[k + 1], cs.drop (k + 1 + 1), ?_, List.drop_eq_getElem_cons hk⟩
  rw [List.drop_eq_getElem_cons hk', List.drop_eq_getElem_cons hk, e]
theorem drop_one {cs : List Ch} {k : Nat} {x : Ch} (hx : cs[k]? = some x) (hk : k + 1 = cs.length) : cs.drop k = [x] := by
  have hk' := (List.getElem?_eq_some_iff.1 hx).1
  have e : cs[k] = x := (List.getElem?_eq_some_iff.1 hx).2
  rw [List.drop_eq_getElem_cons hk', e, List.drop_of_length_le (by omega)]
theorem ren_last {ind : Int} {vs : List Int} {cs : List Ch} {k : Nat} {x : Ch} (s : ByteArray) (hx : cs[k]? = some x) (hk : k + 1 = cs.length) : ren ind vs s (cs.drop k) = [s ++ x.text] := by
  rw [drop_one hx hk, ren]
theorem ren_split {ind : Int} {vs : List Int} {cs : List Ch} {k : Nat} {x : Ch} (s : ByteArray) (hx : cs[k]? = some x) (hk : k + 1 < cs.length) (h : spl vs x = true) : ren ind vs s (cs.drop k) = (s ++ x.text) :: ren ind vs (blanks (ind + x.nest)) (cs.drop (k + 1)) := by
  obtain ⟨y, r, e1, e2⟩ := drop_two hx hk
  rw [e1, e2, ren, if_pos h]
theorem ren_join {ind : Int} {vs : List Int} {cs : List Ch} {k : Nat} {x : Ch} (s : ByteArray) (hx : cs[k]? = some x) (hk : k + 1 < cs.length) (h : spl vs x = false) : ren ind vs s (cs.drop k) = ren ind vs (s ++ x.text ++ sp1 x) (cs.drop (k + 1)) := by
  obtain ⟨y, r, e1, e2⟩ := drop_two hx hk
  rw [e1, e2, ren, if_neg (by rw [h]; exact Bool.false_ne_true)]
/-- One line, behind its beginning. -/
def lin : ByteArray → List Ch → ByteArray
  | s, [] => s
  | s, [x] => s ++ x.text
  | s, x :: y :: cs => lin (s ++ x.text ++ sp1 x) (y :: cs)
theorem take_at {cs : List Ch} {n k : Nat} (h : k < n) : (cs.take n)[k]? = cs[k]? := List.getElem?_take_of_lt h
theorem lin_last {cs : List Ch} {k n : Nat} {x : Ch} (s : ByteArray) (hx : cs[k]? = some x) (hk : k + 1 = n) (hn : n ≤ cs.length) : lin s ((cs.take n).drop k) = s ++ x.text := by
  rw [drop_one (cs := cs.take n) (by rw [take_at (by omega)]; exact hx) (by rw [List.length_take]; omega), lin]
theorem lin_more {cs : List Ch} {k n : Nat} {x : Ch} (s : ByteArray) (hx : cs[k]? = some x) (hk : k + 1 < n) (hn : n ≤ cs.length) : lin s ((cs.take n).drop k) = lin (s ++ x.text ++ sp1 x) ((cs.take n).drop (k + 1)) := by
  obtain ⟨y, r, e1, e2⟩ := drop_two (cs := cs.take n) (k := k) (x := x) (by rw [take_at (by omega)]; exact hx) (by rw [List.length_take]; omega)
  rw [e1, e2, lin]
/-- A line's chunks: from one on up to the next split. -/
structure Seg (vs : List Int) (cs : List Ch) (a n : Nat) : Prop where
  lt : a < n
  le : n ≤ cs.length
  inner : ∀ (i : Nat) (x : Ch), a ≤ i → i + 1 < n → cs[i]? = some x → spl vs x = false
  last : ∀ (x : Ch), n < cs.length → cs[n - 1]? = some x → spl vs x = true
/-- What the next line begins with. -/
def inOf (p : Pc) (k : Nat) : Int := if k = 0 then p.indent else p.indent + ((p.chunks[k - 1]?).map (·.nest)).getD 0
theorem inOf_zero (p : Pc) : inOf p 0 = p.indent := by unfold inOf; rw [if_pos rfl]
theorem inOf_at {p : Pc} {k : Nat} {x : Ch} (hk : k ≠ 0) (hx : p.chunks[k - 1]? = some x) : inOf p k = p.indent + x.nest := by
  unfold inOf
  rw [if_neg hk, hx]
  rfl
theorem inOf_le {p : Pc} (h : Right p) {k : Nat} (hk : k < p.chunks.length) : 0 ≤ inOf p k ∧ inOf p k ≤ 100 := by
  have hi := h.indent
  by_cases h0 : k = 0
  · subst h0
    rw [inOf_zero]
    omega
  · have hx := List.getElem?_eq_getElem (show k - 1 < p.chunks.length by omega)
    rw [inOf_at h0 hx]
    obtain ⟨-, hs⟩ := h.chunks.texts (k - 1) _ hx
    obtain ⟨-, -, h1, h2⟩ := hs (by omega)
    omega
/-- The line of those chunks. -/
def lineOf (p : Pc) (a n : Nat) : ByteArray := lin (blanks (inOf p a)) ((p.chunks.take n).drop a)
/-- The lines from there on. -/
def linesFrom (p : Pc) (vs : List Int) (a : Nat) : List ByteArray := if a < p.chunks.length then ren p.indent vs (blanks (inOf p a)) (p.chunks.drop a) else []
def linesOf (p : Pc) (vs : List Int) : List ByteArray := ren p.indent vs (blanks p.indent) p.chunks
theorem ren_seg {ind : Int} {vs : List Int} {cs : List Ch} {n : Nat} : ∀ (d a : Nat) (s : ByteArray), n = a + d + 1 → Seg vs cs a n → ren ind vs s (cs.drop a) = lin s ((cs.take n).drop a) :: (if n < cs.length then ren ind vs (blanks (ind + ((cs[n - 1]?).map (·.nest)).getD 0)) (cs.drop n) else [])
  | 0, a, s, hd, h => by
    have hle := h.le
    obtain ⟨x, hx⟩ : ∃ x, cs[a]? = some x := ⟨_, List.getElem?_eq_getElem (show a < cs.length by omega)⟩
    have ha : n - 1 = a := by omega
    by_cases hn : n < cs.length
    · rw [ren_split s hx (by omega) (h.last _ hn (by rw [ha]; exact hx)), lin_last s hx (by omega) hle, if_pos hn, ha, hx, show n = a + 1 by omega]
      rfl
    · rw [ren_last s hx (by omega), lin_last s hx (by omega) hle, if_neg hn]
  | d + 1, a, s, hd, h => by
    have hle := h.le
    have hx := List.getElem?_eq_getElem (show a < cs.length by omega)
    rw [ren_join s hx (by omega) (h.inner a _ (Nat.le_refl _) (by omega) hx), lin_more s hx (by omega) hle]
    exact ren_seg d (a + 1) _ (by omega) ⟨by omega, hle, fun i x h1 h2 h3 => h.inner i x (by omega) h2 h3, h.last⟩
theorem lines_seg {p : Pc} {vs : List Int} {a n : Nat} (h : Seg vs p.chunks a n) : linesFrom p vs a = lineOf p a n :: linesFrom p vs n := by
  have hlt := h.lt
  have hle := h.le
  unfold linesFrom lineOf
  rw [if_pos (by omega), ren_seg (n - a - 1) a _ (by omega) h]
  unfold inOf
  rw [if_neg (show n ≠ 0 by omega)]
theorem lines_zero {p : Pc} {vs : List Int} (h : 0 < p.chunks.length) : linesFrom p vs 0 = linesOf p vs := by
  unfold linesFrom linesOf
  rw [if_pos h, inOf_zero]
  rfl
theorem lines_end {p : Pc} {vs : List Int} {a : Nat} (h : p.chunks.length ≤ a) : linesFrom p vs a = [] := by
  unfold linesFrom
  rw [if_neg (by omega)]
/-- How long a line may be. -/
theorem lin_size : ∀ (cs : List Ch) (s : ByteArray) (m : Nat), (∀ x ∈ cs, x.text.size ≤ m) → (lin s cs).size ≤ s.size + cs.length * (m + 1)
  | [], s, m, _ => by rw [lin]; omega
  | [x], s, m, h => by
    have := h x (by simp)
    rw [lin, app_size, List.length_singleton]
    omega
  | x :: y :: cs, s, m, h => by
    have h1 := h x (by simp)
    have ih := lin_size (y :: cs) (s ++ x.text ++ sp1 x) m (fun z hz => h z (by simp only [List.mem_cons] at hz ⊢; exact .inr hz))
    have h2 := sp1_size x
    rw [lin, List.length_cons, Nat.succ_mul]
    rw [app_size, app_size] at ih
    omega
theorem lineOf_size {p : Pc} {a n : Nat} (h : Right p) (hF : PcFew p) (ha : a < p.chunks.length) : (lineOf p a n).size ≤ 83886260 := by
  have h1 := inOf_le h ha
  have h2 := h.chunks.most
  have h3 := lin_size ((p.chunks.take n).drop a) (blanks (inOf p a)) 1048576 (fun x hx => by
    obtain ⟨j, hj⟩ := List.mem_iff_getElem?.1 (List.mem_of_mem_take (List.mem_of_mem_drop hx))
    exact hF.texts j x hj)
  rw [blanks_size] at h3
  have h4 : ((p.chunks.take n).drop a).length ≤ 80 := by rw [List.length_drop, List.length_take]; omega
  have h5 : ((p.chunks.take n).drop a).length * (1048576 + 1) ≤ 80 * (1048576 + 1) := Nat.mul_le_mul_right _ h4
  unfold lineOf
  omega
/-- By how much lines are too long. -/
def ovr (wd : Int) : List ByteArray → Int
  | [] => 0
  | s :: ss => max ((s.size : Int) - wd) 0 + ovr wd ss
theorem ovr_app (wd : Int) : ∀ (a b : List ByteArray), ovr wd (a ++ b) = ovr wd a + ovr wd b
  | [], b => by rw [List.nil_append, ovr]; omega
  | s :: a, b => by rw [List.cons_append, ovr, ovr, ovr_app wd a b]; omega
/-- A width in its bounds. -/
def wid (w : Int) : Int := min (max w 0) 100000
theorem wid_le (w : Int) : 0 ≤ wid w ∧ wid w ≤ 100000 := by unfold wid; omega
/-- What values cost. -/
def vcost : List Ru → List Int → Int
  | r :: rs, v :: vs => r.cost * v + vcost rs vs
  | [], _ => 0
  | _ :: _, [] => 0
theorem vcost_at {rs : List Ru} {vs : List Int} {k : Nat} {y : Ru} {z : Int} (hy : rs[k]? = some y) (hz : vs[k]? = some z) : vcost (rs.drop k) (vs.drop k) = y.cost * z + vcost (rs.drop (k + 1)) (vs.drop (k + 1)) := by
  have h1 := (List.getElem?_eq_some_iff.1 hy)
  have h2 := (List.getElem?_eq_some_iff.1 hz)
  rw [List.drop_eq_getElem_cons h1.1, List.drop_eq_getElem_cons h2.1, vcost, h1.2, h2.2]
theorem vcost_end {rs : List Ru} {vs : List Int} {k : Nat} (h : vs.length ≤ k) : vcost (rs.drop k) (vs.drop k) = 0 := by
  rw [List.drop_of_length_le h]
  cases rs.drop k <;> rfl
/-- Whether there is a split in a span. -/
def snSpl (cs : List Ch) (vs : List Int) (x : Sn) : Bool := ((cs.take (x.til.toNat + 1)).drop x.frm.toNat).any (spl vs)
/-- What spans cost. -/
def scost (cs : List Ch) (vs : List Int) : List Sn → Int
  | [] => 0
  | x :: xs => (if snSpl cs vs x then x.cost else 0) + scost cs vs xs
theorem scost_yes {cs : List Ch} {vs : List Int} {xs : List Sn} {k : Nat} {x : Sn} (hx : xs[k]? = some x) (h : snSpl cs vs x = true) : scost cs vs (xs.drop k) = x.cost + scost cs vs (xs.drop (k + 1)) := by
  have h1 := (List.getElem?_eq_some_iff.1 hx)
  rw [List.drop_eq_getElem_cons h1.1, scost, h1.2, if_pos h]
theorem scost_no {cs : List Ch} {vs : List Int} {xs : List Sn} {k : Nat} {x : Sn} (hx : xs[k]? = some x) (h : snSpl cs vs x = false) : scost cs vs (xs.drop k) = scost cs vs (xs.drop (k + 1)) := by
  have h1 := (List.getElem?_eq_some_iff.1 hx)
  rw [List.drop_eq_getElem_cons h1.1, scost, h1.2, if_neg (by rw [h]; exact Bool.false_ne_true)]
  omega
theorem scost_end {cs : List Ch} {vs : List Int} {xs : List Sn} {k : Nat} (h : xs.length ≤ k) : scost cs vs (xs.drop k) = 0 := by
  rw [List.drop_of_length_le h, scost]
/-- What a piece costs with its values. -/
def costSum (p : Pc) (vs : List Int) : Int := vcost p.rules vs + scost p.chunks vs p.spans
def costOver (p : Pc) (vs : List Int) (wd : Int) : Int := ovr (wid wd) (linesOf p vs)
end Go.Proofs.Ytbjfkfohkpdlfaa
/- What impl.isSplit answers. -/
namespace Go.Proofs.Ytbjfkfohkpdlfaa
open Go.RowKit

set_option maxHeartbeats 4000000 in
theorem isSpl_any (x : Ch) (a : Option Addr) (c : Nat) (vs : List Int) (r : Nat) (w : World) (hm0 : vs.length ≤ 1048576) (hr : x.rule = (r : Int)) (hrl : r < vs.length) (hv : KidsAt w a vs) :
    Calls Try.prog 106 #[.agg #[.int .i64 x.rule, .int .i64 x.frm, .bool x.space, .int .i64 x.nest], .slice a vs.length c] w fun e w' => e = .returned (.bool (spl vs x)) ∧ Below w.heap.size w w' := by
  have hm1 := hm0
  clear hm0
  have HB : ∀ o1 : Obj, Below w.heap.size w (w.alloc o1) := fun o1 => (Below.refl _ _).alloc (Nat.le_refl _) _
  have ez := List.getElem?_eq_getElem hrl
  obtain ⟨z, hz⟩ : ∃ z, z = vs[r] := ⟨_, rfl⟩
  rw [← hz] at ez
  clear hz
  obtain ⟨b2, o2, eb, hb2, hc2⟩ := hv (by omega)
  have zc := fun ob : Obj => ((HB ob).cell (p := ⟨b2, o2 + r, none⟩) hb2).trans (hc2 r z ez)
  rw [spl_of hr ez, hr, eb]
  clear hc2 eb ez hv
  have hA2 : (0 : Int) ≤ (r : Int) := by omega
  have hB2 : (r : Int) < (vs.length : Int) := by omega
  by_cases hf : x.frm ≤ z
  · have hfd : decide (z ≥ x.frm) = true := by rw [decide_eq_true_eq]; exact hf
    have hft : decide (x.frm ≤ z) = true := by rw [decide_eq_true_eq]; exact hf
    rw [hft]
    clear hft
    go_enter Try.func106, Try.ntmps106
    go_wp2
    go_quiet (fail)
    go_wp2
    go_ret
    exact ⟨rfl, bel_drewN (HB _) _⟩
  · have hfd : decide (z ≥ x.frm) = false := by rw [decide_eq_false_iff_not]; omega
    have hft : decide (x.frm ≤ z) = false := by rw [decide_eq_false_iff_not]; omega
    rw [hft]
    clear hft
    go_enter Try.func106, Try.ntmps106
    go_wp2
    go_quiet (fail)
    go_wp2
    go_ret
    exact ⟨rfl, bel_drewN (HB _) _⟩
end Go.Proofs.Ytbjfkfohkpdlfaa
/- What impl.nextLine, impl.lineIn, impl.hasBlank and impl.lineLength answer. -/
namespace Go.Proofs.Ytbjfkfohkpdlfaa
open Go.RowKit

set_option maxHeartbeats 8000000 in
theorem next_any (p : Pc) (l : Pl) (a : Option Addr) (c : Nat) (vs : List Int) (k0 : Nat) (w : World) (hF : PcFew p) (hm0 : vs.length ≤ 1048576) (hp : PcIn w p l) (hv : KidsAt w a vs) (h1 : Right p) (h2 : ValOk p vs) (hk0 : k0 < p.chunks.length) :
    Calls Try.prog 97 #[pcV p l, .slice a vs.length c, .int .i64 k0] w fun e w' => ∃ n : Nat, e = .returned (.int .i64 n) ∧ Seg vs p.chunks k0 n ∧ Below w.heap.size w w' := by
  show Calls _ _ #[.agg #[.int .i64 p.indent, .slice l.a1 p.rules.length l.c1, .slice l.a2 p.chunks.length l.c2, .slice l.a3 p.spans.length l.c3, .slice l.a4 p.ties.length l.c4], _, _] _ _
  have hcl := hF.chunks
  have H1 := hidOf h1
  have H2 := hidOf h2
  clear h1 h2
  obtain ⟨W0, hW0, X0, B0, S0⟩ := boxed w p l 29
  have I0 := hp.below B0 (Nat.le_refl _)
  have V0 := hv.below B0 (Nat.le_refl _)
  have hX : w.heap.size < W0.heap.size := by omega
  have x2 := X0.c2
  go_enter Try.func97, Try.ntmps97
  go_wp2
  rw [← hW0]
  clear hW0 S0 hp hv X0
  go_loopw [8] (fun i wr => ∃ k : Nat, k0 ≤ k ∧ k + 1 ≤ p.chunks.length ∧ i = .int .i64 k ∧ Below W0.heap.size W0 wr ∧ Hid (∀ (i : Nat) (x : Ch), k0 ≤ i → i < k → p.chunks[i]? = some x → spl vs x = false)) (fun i _ => p.chunks.length - (intOf i).toNat)
  case atStart => exact ⟨k0, Nat.le_refl _, hk0, rfl, Below.refl _ _, hidOf fun i x h h' => by omega⟩
  case round =>
    obtain ⟨k, hkk, hk, rfl, hb, HA⟩ := hrel
    have BW := B0.trans (hb.mono B0.size)
    have d2 := (hb.cell (p := ⟨w.heap.size, 2, none⟩) hX).trans x2
    by_cases hlt : (k : Int) < (p.chunks.length : Int) - 1
    · obtain ⟨x, r, z, ex, er, hr, ez⟩ := split_val H1.out H2.out (k := k) (by omega)
      obtain ⟨b1, o1, ea, hb1, hc1⟩ := I0.chunks (by omega)
      obtain ⟨p0, p1, p2, p3, p4⟩ := chC (w := wr) (fun j hj => by rw [hb.cell hb1]; exact hc1 k x ex j hj)
      have q0 := fun W hK => isSpl_any x a c vs r W hm0 er hr hK
      rw [ea] at d2
      rw [ea]
      have HX := hidOf ex
      clear ex er ez hc1 ea
      have hA : (0 : Int) ≤ (k : Int) := by omega
      have hB : (k : Int) < (p.chunks.length : Int) := by omega
      cases hs : spl vs x with
      | true =>
        rw [hs] at q0
        have HS := hidOf hs
        clear hs
        go_wp2_with fail
        refine (q0 _ (V0.below hb (Nat.le_refl _))).mono ?_
        rintro e w1 ⟨rfl, hb2⟩
        go_wp2
        go_ret
        refine ⟨k + 1, ret_int (by omega), ⟨by omega, by omega, fun i y h1 h2 h3 => HA.out i y h1 (by omega) h3, fun y h1 h2 => ?_⟩, BW.trans (hb2.mono BW.size)⟩
        have e1 := HX.out
        rw [show k + 1 - 1 = k by omega, e1] at h2
        cases h2
        exact HS.out
      | false =>
        rw [hs] at q0
        have HS := hidOf hs
        clear hs
        go_wp2_with fail
        refine (q0 _ (V0.below hb (Nat.le_refl _))).mono ?_
        rintro e w1 ⟨rfl, hb2⟩
        have hbb := hb.trans (hb2.mono hb.size)
        go_wp2
        go_roundw
        case rel => exact ⟨k + 1, by omega, by omega, by go_num, hbb, hidOf (fun i y h1 h2 h3 => by
          by_cases e : i = k
          · subst e
            have e1 := HX.out
            rw [e1] at h3
            cases h3
            exact HS.out
          · exact HA.out i y h1 (by omega) h3)⟩
        case measure => simp [intOf]; omega
    · go_wp2
      go_ret
      exact ⟨p.chunks.length, rfl, ⟨hk0, Nat.le_refl _, fun i y h1 h2 h3 => HA.out i y h1 (by omega) h3, fun y h => by omega⟩, BW⟩

set_option maxHeartbeats 4000000 in
theorem lineIn_any (p : Pc) (l : Pl) (k : Nat) (w : World) (hF : PcFew p) (hp : PcIn w p l) (h1 : Right p) (hk : k < p.chunks.length) :
    Calls Try.prog 107 #[pcV p l, .int .i64 k] w fun e w' => e = .returned (.int .i64 (inOf p k)) ∧ Below w.heap.size w w' := by
  show Calls _ _ #[.agg #[.int .i64 p.indent, .slice l.a1 p.rules.length l.c1, .slice l.a2 p.chunks.length l.c2, .slice l.a3 p.spans.length l.c3, .slice l.a4 p.ties.length l.c4], _] _ _
  have hcl := hF.chunks
  have HB : ∀ o1 : Obj, Below w.heap.size w (w.alloc o1) := fun o1 => (Below.refl _ _).alloc (Nat.le_refl _) _
  have hin := h1.indent
  by_cases h0 : k = 0
  · subst h0
    rw [inOf_zero]
    go_enter Try.func107, Try.ntmps107
    go_wp2
    go_ret
    exact ⟨rfl, HB _⟩
  · obtain ⟨j, rfl⟩ : ∃ j, k = j + 1 := ⟨k - 1, by omega⟩
    obtain ⟨x, ex⟩ : ∃ x, p.chunks[j]? = some x := ⟨_, List.getElem?_eq_getElem (by omega)⟩
    rw [inOf_at h0 (show p.chunks[j + 1 - 1]? = some x from ex)]
    obtain ⟨-, hs⟩ := h1.chunks.texts j _ ex
    obtain ⟨-, -, hn1, hn2⟩ := hs hk
    obtain ⟨b1, o1, ea, hb1, hc1⟩ := hp.chunks (by omega)
    have hch := fun ob : Obj => chC (w := w.alloc ob) (fun i hi => by rw [(HB ob).cell hb1]; exact hc1 j x ex i hi)
    have p4 := fun ob => (hch ob).2.2.2.2
    rw [ea, show ((j + 1 : Nat) : Int) = (j : Int) + 1 by omega]
    clear ex hc1 ea hch hp hs h0
    have hA : (0 : Int) ≤ (j : Int) := by omega
    have hB : (j : Int) < (p.chunks.length : Int) := by omega
    have hne : ((j : Int) + 1 == 0) = false := by simp; omega
    have hwv : IntKind.i64.wrap (p.indent + x.nest) = p.indent + x.nest := IntWalk.i64_in _ ⟨by omega, by omega⟩
    have hwj : IntKind.i64.wrap ((j : Int) + 1 - 1) = (j : Int) := by rw [show (j : Int) + 1 - 1 = j by omega]; exact IntWalk.i64_in _ ⟨by omega, by omega⟩
    have hwj2 : IntKind.i64.wrap (j : Int) = (j : Int) := IntWalk.i64_in _ ⟨by omega, by omega⟩
    go_enter Try.func107, Try.ntmps107
    go_wp2
    go_quiet (fail)
    go_wp2
    go_ret
    exact ⟨rfl, bel_drewN (HB _) _⟩

set_option maxHeartbeats 4000000 in
theorem blank_any (p : Pc) (l : Pl) (k n : Nat) (x : Ch) (w : World) (hF : PcFew p) (hp : RowsAt 5 chCells w l.a2 p.chunks) (hk : k < n) (hn : n ≤ p.chunks.length) (hx : p.chunks[k]? = some x) :
    Calls Try.prog 108 #[pcV p l, .int .i64 k, .int .i64 n] w fun e w' => e = .returned (.bool (decide (k + 1 < n) && x.space)) ∧ Below w.heap.size w w' := by
  show Calls _ _ #[.agg #[.int .i64 p.indent, .slice l.a1 p.rules.length l.c1, .slice l.a2 p.chunks.length l.c2, .slice l.a3 p.spans.length l.c3, .slice l.a4 p.ties.length l.c4], _, _] _ _
  have hcl := hF.chunks
  have HB : ∀ o1 : Obj, Below w.heap.size w (w.alloc o1) := fun o1 => (Below.refl _ _).alloc (Nat.le_refl _) _
  by_cases hlt : k + 1 < n
  · obtain ⟨b1, o1, ea, hb1, hc1⟩ := hp (by omega)
    have hch := fun ob : Obj => chC (w := w.alloc ob) (fun i hi => by rw [(HB ob).cell hb1]; exact hc1 k x hx i hi)
    have p3 := fun ob => (hch ob).2.2.2.1
    rw [ea, decide_eq_true hlt, Bool.true_and]
    clear hx hc1 ea hch hp
    have hA : (0 : Int) ≤ (k : Int) := by omega
    have hB : (k : Int) < (p.chunks.length : Int) := by omega
    have hC : (k : Int) < (n : Int) - 1 := by omega
    go_enter Try.func108, Try.ntmps108
    go_wp2
    go_ret
    exact ⟨rfl, HB _⟩
  · rw [decide_eq_false hlt, Bool.false_and]
    have hC : ¬ (k : Int) < (n : Int) - 1 := by omega
    clear hx hp
    go_enter Try.func108, Try.ntmps108
    go_wp2
    go_ret
    exact ⟨rfl, HB _⟩

/-- A line is no shorter than its beginning. -/
theorem lin_ge : ∀ (cs : List Ch) (s : ByteArray), s.size ≤ (lin s cs).size
  | [], s => by rw [lin]; exact Nat.le_refl _
  | [x], s => by rw [lin, app_size]; omega
  | x :: y :: cs, s => by
    have ih := lin_ge (y :: cs) (s ++ x.text ++ sp1 x)
    rw [app_size, app_size] at ih
    rw [lin]
    omega
theorem lin_none {cs : List Ch} {n k : Nat} (s : ByteArray) (h : n ≤ k) : lin s ((cs.take n).drop k) = s := by
  rw [List.drop_of_length_le (by rw [List.length_take]; omega), lin]

set_option maxHeartbeats 8000000 in
theorem len_any (p : Pc) (l : Pl) (k0 n : Nat) (w : World) (hF : PcFew p) (hp : PcIn w p l) (h1 : Right p) (hk0 : k0 < n) (hn : n ≤ p.chunks.length) :
    Calls Try.prog 98 #[pcV p l, .int .i64 k0, .int .i64 n] w fun e w' => e = .returned (.int .i64 (lineOf p k0 n).size) ∧ Below w.heap.size w w' := by
  show Calls _ _ #[.agg #[.int .i64 p.indent, .slice l.a1 p.rules.length l.c1, .slice l.a2 p.chunks.length l.c2, .slice l.a3 p.spans.length l.c3, .slice l.a4 p.ties.length l.c4], _, _] _ _
  have hcl := hF.chunks
  obtain ⟨L, hL⟩ : ∃ L, L = lineOf p k0 n := ⟨_, rfl⟩
  have hLs : L.size ≤ 83886260 := by rw [hL]; exact lineOf_size h1 hF (by omega)
  rw [← hL]
  have HL := hidOf hL
  clear hL
  obtain ⟨W0, hW0, X0, B0, S0⟩ := boxed w p l 29
  have I0 := hp.below B0 (Nat.le_refl _)
  have hX : w.heap.size < W0.heap.size := by omega
  go_enter Try.func98, Try.ntmps98
  go_wp2_with fail
  rw [← hW0]
  clear hW0 S0 hp
  have hin := inOf_le h1 (show k0 < p.chunks.length by omega)
  refine (lineIn_any p l k0 _ hF I0 h1 (by omega)).mono ?_
  rintro e w1 ⟨rfl, hb1⟩
  clear h1
  have e0 : inOf p k0 = ((blanks (inOf p k0)).size : Int) := by rw [blanks_size]; omega
  rw [e0]
  clear e0
  go_wp2
  go_loopw [7, 8] (fun m i wr => ∃ (k : Nat) (s : ByteArray), k ≤ n ∧ i = .int .i64 k ∧ m = .int .i64 s.size ∧ Below W0.heap.size W0 wr ∧ Hid (lin s ((p.chunks.take n).drop k) = L)) (fun _ i _ => n - (intOf i).toNat)
  case atStart => exact ⟨k0, blanks (inOf p k0), by omega, rfl, rfl, hb1, hidOf (by rw [HL.out]; rfl)⟩
  case round =>
    obtain ⟨k, s, hk, rfl, rfl, hb, HI⟩ := hrel
    have BW := B0.trans (hb.mono B0.size)
    obtain ⟨-, c0, c1, c2, c3, c4⟩ := X0.below hb hX
    have hss : s.size ≤ 83886260 := by have h := lin_ge ((p.chunks.take n).drop k) s; rw [HI.out] at h; omega
    by_cases hlt : k < n
    · obtain ⟨x, ex⟩ : ∃ x, p.chunks[k]? = some x := ⟨_, List.getElem?_eq_getElem (by omega)⟩
      have hxs := hF.texts k x ex
      obtain ⟨b1, o1, ea, hb1, hc1⟩ := I0.chunks (by omega)
      obtain ⟨p0, p1, p2, p3, p4⟩ := chC (w := wr) (fun j hj => by rw [hb.cell hb1]; exact hc1 k x ex j hj)
      have q0 := fun W hR => blank_any p l k n x W hF hR hlt hn ex
      have HX := hidOf ex
      have hA : (0 : Int) ≤ (k : Int) := by omega
      have hB : (k : Int) < (p.chunks.length : Int) := by omega
      have hM : (k : Int) < (n : Int) := by omega
      have R0 := I0.chunks.below hb (Nat.le_refl _)
      have e2 := hidOf ea
      rw [ea] at c2
      clear ex hc1
      have q1 := q0 wr R0
      rw [show pcV p l = .agg #[.int .i64 p.indent, .slice l.a1 p.rules.length l.c1, .slice (some ⟨b1, o1, none⟩) p.chunks.length l.c2, .slice l.a3 p.spans.length l.c3, .slice l.a4 p.ties.length l.c4] by show Value.agg _ = _; rw [ea]] at q1
      clear ea q0 R0
      by_cases hm : k + 1 < n
      · cases hsp : x.space with
        | true =>
          rw [hsp, decide_eq_true hm] at q1
          have HE := hidOf (show lin (s ++ x.text ++ ⟨#[32]⟩) ((p.chunks.take n).drop (k + 1)) = L by rw [← sp1_yes hsp, ← lin_more s HX.out hm hn]; exact HI.out)
          clear hsp
          go_wp2_with fail
          refine q1.mono ?_
          rintro e w2 ⟨rfl, hb2⟩
          have hbb := hb.trans (hb2.mono hb.size)
          clear q1
          go_wp2
          go_roundw
          case rel => exact ⟨k + 1, _, by omega, by go_num, congrArg (Value.int .i64) (by rw [app_size, app_size]; show (s.size : Int) + x.text.size + 1 = ((s.size + x.text.size + 1 : Nat) : Int); omega), hbb, HE⟩
          case measure => simp [intOf]; omega
        | false =>
          rw [hsp, decide_eq_true hm] at q1
          have HE := hidOf (show lin (s ++ x.text) ((p.chunks.take n).drop (k + 1)) = L by rw [← app_none (s ++ x.text), ← sp1_no hsp, ← lin_more s HX.out hm hn]; exact HI.out)
          clear hsp
          go_wp2_with fail
          refine q1.mono ?_
          rintro e w2 ⟨rfl, hb2⟩
          have hbb := hb.trans (hb2.mono hb.size)
          clear q1
          go_wp2
          go_roundw
          case rel => exact ⟨k + 1, _, by omega, by go_num, congrArg (Value.int .i64) (by rw [app_size]; omega), hbb, HE⟩
          case measure => simp [intOf]; omega
      · rw [decide_eq_false hm, Bool.false_and] at q1
        have HE := hidOf (show lin (s ++ x.text) ((p.chunks.take n).drop (k + 1)) = L by rw [lin_none _ (by omega), ← lin_last s HX.out (show k + 1 = n by omega) hn]; exact HI.out)
        go_wp2_with fail
        refine q1.mono ?_
        rintro e w2 ⟨rfl, hb2⟩
        have hbb := hb.trans (hb2.mono hb.size)
        clear q1
        go_wp2
        go_roundw
        case rel => exact ⟨k + 1, _, by omega, by go_num, congrArg (Value.int .i64) (by rw [app_size]; omega), hbb, HE⟩
        case measure => simp [intOf]; omega
    · have hM : ¬ (k : Int) < (n : Int) := by omega
      have HE := hidOf (show s = L by rw [← lin_none s (show n ≤ k by omega)]; exact HI.out)
      go_wp2
      go_ret
      exact ⟨ret_int (by rw [HE.out]), BW⟩
end Go.Proofs.Ytbjfkfohkpdlfaa
