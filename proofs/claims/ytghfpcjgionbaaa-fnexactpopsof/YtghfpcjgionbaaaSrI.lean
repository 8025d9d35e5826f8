/- The program's search in memory: where it lies, what stays, and its two small steps: whether first values are too dear, and how they are offered. -/
import Derived.Test.YtghfpcjgionbaaaKae
import Derived.Test.YtghfpcjgionbaaaPopI
import Derived.Test.YtghfpcjgionbaaaKaj
import Derived.Test.YtghfpcjgionbaaaKan
import Derived.Test.YtghfpcjgionbaaaKam
namespace Go.Proofs.Ytghfpcjgionbaaa
open Go.RowKit

/-- The block of a search: the piece, the width, the heap, the best one, and what that costs. -/
def srK (p : Pc) (l : Pl) (wd : Int) (ba : Option Addr) (bn bc : Nat) (o s : Int) : HK where
  o := 6
  T := 114
  K := fun h => #[.int .i64 p.indent, .slice l.a1 p.rules.length l.c1, .slice l.a2 p.chunks.length l.c2, .slice l.a3 p.spans.length l.c3, .slice l.a4 p.ties.length l.c4, .int .i64 wd, h, .func (.func 89) #[] #[], .slice ba bn bc, .int .i64 o, .int .i64 s]
  at0 := fun _ => rfl
  at1 := fun _ => rfl
  put := fun _ _ => rfl
  ns := by decide
  ni := by decide
abbrev srOf (p : Pc) (l : Pl) (wd : Int) (ba : Option Addr) (bc : Nat) (bs : List Int) : HK := srK p l wd ba bs.length bc (costOver p bs wd) (costSum p bs)
/-- A search: the states that are open, the best one so far. -/
structure Sr (w0 : World) (sb : Nat) (p : Pc) (l : Pl) (wd : Int) (w : World) (a : Option Addr) (c : Nat) (ps : List Sp) (ba : Option Addr) (bc : Nat) (bs : List Int) : Prop where
  hv : Hv (srOf p l wd ba bc bs) w sb a ps.length c
  own : Own w w0.heap.size a c ps
  best : w.ownsRow w0.heap.size 3 1 (.slice ba bs.length bc) bs.length (intVals bs)
  bel : Below w0.heap.size w0 w
  low : w0.heap.size ≤ sb
section
variable {w0 : World} {sb : Nat} {p : Pc} {l : Pl} {wd : Int} {w w' : World} {a : Option Addr} {c : Nat} {ps : List Sp} {ba : Option Addr} {bc : Nat} {bs : List Int}
theorem Sr.more (h : Sr w0 sb p l wd w a c ps ba bc bs) (hb : Below w.heap.size w w') : Sr w0 sb p l wd w' a c ps ba bc bs :=
  ⟨h.hv.kept hb, h.own.below hb, owns_below h.best hb, h.bel.trans (hb.mono h.bel.size), h.low⟩
theorem Sr.cells (h : Sr w0 sb p l wd w a c ps ba bc bs) : sb < w.heap.size ∧ w.cell? ⟨sb, 0, none⟩ = some (.int .i64 p.indent) ∧ w.cell? ⟨sb, 1, none⟩ = some (.slice l.a1 p.rules.length l.c1) ∧ w.cell? ⟨sb, 2, none⟩ = some (.slice l.a2 p.chunks.length l.c2) ∧ w.cell? ⟨sb, 3, none⟩ = some (.slice l.a3 p.spans.length l.c3) ∧ w.cell? ⟨sb, 4, none⟩ = some (.slice l.a4 p.ties.length l.c4) ∧ w.cell? ⟨sb, 5, none⟩ = some (.int .i64 wd) ∧ w.cell? ⟨sb, 8, none⟩ = some (.slice ba bs.length bc) ∧ w.cell? ⟨sb, 9, none⟩ = some (.int .i64 (costOver p bs wd)) ∧ w.cell? ⟨sb, 10, none⟩ = some (.int .i64 (costSum p bs)) :=
  ⟨h.hv.lt, cell_of_row w sb 0 _ _ _ h.hv.row, cell_of_row w sb 1 _ _ _ h.hv.row, cell_of_row w sb 2 _ _ _ h.hv.row, cell_of_row w sb 3 _ _ _ h.hv.row, cell_of_row w sb 4 _ _ _ h.hv.row, cell_of_row w sb 5 _ _ _ h.hv.row, cell_of_row w sb 8 _ _ _ h.hv.row, cell_of_row w sb 9 _ _ _ h.hv.row, cell_of_row w sb 10 _ _ _ h.hv.row⟩
theorem Sr.pc (h : Sr w0 sb p l wd w a c ps ba bc bs) (hp : PcIn w0 p l) : PcIn w p l := hp.below h.bel (Nat.le_refl _)
theorem Sr.wlow (h : Sr w0 sb p l wd w a c ps ba bc bs) : w0.heap.size ≤ w.heap.size := h.bel.size
/-- The heap has turned, all else is as it was. -/
theorem Sr.turn {a' : Option Addr} {c' n' : Nat} {qs : List Sp} (h : Sr w0 sb p l wd w a c ps ba bc bs) (hv : Hv (srOf p l wd ba bc bs) w' sb a' n' c') (hn : n' = qs.length) (ho : Own w' w0.heap.size a' c' qs) (hb : Below w0.heap.size w w') (hg : Gr2 w w' (Value.slice a ps.length c).ownBlock sb) : Sr w0 sb p l wd w' a' c' qs ba bc bs := by
  subst hn
  exact ⟨hv, ho, hg.own h.best (types_apart h.best h.own.row (by decide)) (h.hv.far h.best (srOf p l wd ba bc bs).ni), h.bel.trans hb, h.low⟩
end

set_option maxHeartbeats 1600000 in
theorem iDear_any {w0 : World} {sb : Nat} {p : Pc} {l : Pl} {wd : Int} {w : World} {a : Option Addr} {c : Nat} {ps : List Sp} {ba : Option Addr} {bc : Nat} {bs : List Int} (b : Int) (h : Sr w0 sb p l wd w a c ps ba bc bs) :
    Calls Try.prog 111 #[.pointer (some ⟨sb, 0, none⟩), .int .i64 b] w fun e w' => e = .returned (.bool (decide (costOver p bs wd = 0) && decide (costSum p bs < b))) ∧ w' = w := by
  obtain ⟨hl, -, -, -, -, -, -, -, c9, c10⟩ := h.cells
  by_cases h0 : costOver p bs wd = 0
  · have hg : (costOver p bs wd == 0) = true := by rw [h0]; rfl
    have HE := hidOf (show decide (b > costSum p bs) = (decide (costOver p bs wd = 0) && decide (costSum p bs < b)) by rw [decide_eq_true h0, Bool.true_and])
    obtain ⟨o, ho⟩ : ∃ o, o = costOver p bs wd := ⟨_, rfl⟩
    obtain ⟨s, hs⟩ : ∃ s, s = costSum p bs := ⟨_, rfl⟩
    rw [← ho, ← hs] at HE
    rw [← ho, ← hs]
    rw [← ho] at c9 hg
    rw [← hs] at c10
    clear ho hs h h0
    go_enter Try.func111, Try.ntmps111
    go_wp2
    go_ret
    exact ⟨ret_bool HE.out, rfl⟩
  · have hg : (costOver p bs wd == 0) = false := by rw [beq_eq_false_iff_ne]; exact h0
    have HE := hidOf (show false = (decide (costOver p bs wd = 0) && decide (costSum p bs < b)) by rw [decide_eq_false h0, Bool.false_and])
    obtain ⟨o, ho⟩ : ∃ o, o = costOver p bs wd := ⟨_, rfl⟩
    rw [← ho] at HE c9 hg
    rw [← ho]
    clear ho h h0
    go_enter Try.func111, Try.ntmps111
    go_wp2
    go_ret
    exact ⟨ret_bool HE.out, rfl⟩

/-- The heap behind an offer. -/
def offH (p : Pc) (wd : Int) (bs vs : List Int) (h : List St) : List St := if goodB p wd bs vs = true then pushL stLess h ⟨vs, costSum p vs⟩ else h
/-- What is there behind an offer. -/
def OfAns (w0 : World) (sb : Nat) (p : Pc) (l : Pl) (wd : Int) (w w' : World) (a : Option Addr) (c : Nat) (ps : List Sp) (ba : Option Addr) (bc : Nat) (bs : List Int) (h' : List St) : Prop :=
  ∃ a' c' qs, Sr w0 sb p l wd w' a' c' qs ba bc bs ∧ qs.map Sp.st = h' ∧ Gr2 w w' (Value.slice a ps.length c).ownBlock sb ∧ ∀ g, (Value.slice a' qs.length c').ownBlock = some g → (Value.slice a ps.length c).ownBlock = some g ∨ w.heap.size ≤ g

set_option maxHeartbeats 8000000 in
theorem iOffer_any {w0 : World} {sb : Nat} {p : Pc} {l : Pl} {wd : Int} {w : World} {a : Option Addr} {c : Nat} {ps : List Sp} {ba : Option Addr} {bc : Nat} {bs : List Int} (va : Option Addr) (vc : Nat) (vs : List Int) (h : Sr w0 sb p l wd w a c ps ba bc bs) (hF : PcFew p) (hcap : p.chunks.length ≤ l.c2) (hp : PcIn w0 p l) (h1 : Right p) (h2 : PreV p.rules vs)
    (hn0 : ps.length ≤ 1048576) (hfew : Few ps) (ho : w.ownsRow w0.heap.size 3 1 (.slice va vs.length vc) vs.length (intVals vs)) (hap : ∀ q ∈ ps, ∀ g, q.blk = some g → (Value.slice va vs.length vc).ownBlock ≠ some g) :
    Calls Try.prog 94 #[.pointer (some ⟨sb, 0, none⟩), .slice va vs.length vc] w fun e w' => e = .returned (.tuple #[]) ∧ OfAns w0 sb p l wd w w' a c ps ba bc bs (offH p wd bs vs (ps.map Sp.st)) := by
  have hvl : vs.length ≤ 8 := Nat.le_trans h2.1 h1.rules.1
  obtain ⟨hl, c0, c1, c2, c3, c4, -, -, -, -⟩ := h.cells
  have qB := fun W hP hK => iBnd_any p l va vc vs W hF hcap hP hK h1 h2
  have qM := fun W hP hK => iMay_any p l va vc vs W hF hP hK (pre_nn h2)
  unfold pcV at qB qM
  obtain ⟨z, hz⟩ : ∃ z, z = costSum p vs := ⟨_, rfl⟩
  rw [← hz] at qB
  have HZ := hidOf hz
  obtain ⟨m, hm⟩ : ∃ m, m = mayB p vs := ⟨_, rfl⟩
  rw [← hm] at qM
  have HG := hidOf (show goodB p wd bs vs = (m && !(decide (costOver p bs wd = 0) && decide (costSum p bs < z))) by unfold goodB; rw [hm, hz])
  clear hz hm
  go_enter Try.func94, Try.ntmps94
  go_wp2_with fail
  refine (qB _ (h.pc hp) (.of_own ho)).mono ?_
  rintro e w1 ⟨rfl, b1⟩
  have S1 := h.more b1
  have o1 := owns_below ho b1
  clear c0 c1 c2 c3 c4 hl
  obtain ⟨hl, c0, c1, c2, c3, c4, -, -, -, -⟩ := S1.cells
  go_wp2_with fail
  refine (qM _ (S1.pc hp) (.of_own o1)).mono ?_
  rintro e w2 ⟨rfl, b2⟩
  have B2 := b1.trans (b2.mono b1.size)
  have S2 := S1.more b2
  have o2 := owns_below o1 b2
  clear c0 c1 c2 c3 c4 hl qB qM S1 o1 b1 b2
  have stay : ∀ W, Below w.heap.size w W → Sr w0 sb p l wd W a c ps ba bc bs → OfAns w0 sb p l wd w W a c ps ba bc bs (ps.map Sp.st) := fun W hb hs => ⟨a, c, ps, hs, rfl, Gr2.ofB hb _ _, fun g hg => .inl hg⟩
  have HS := hidOf stay
  clear stay
  cases m with
  | false =>
    have HN := hidOf (show offH p wd bs vs (ps.map Sp.st) = ps.map Sp.st by unfold offH; rw [HG.out]; rfl)
    go_wp2
    go_end0
    rw [HN.out]
    exact ⟨rfl, HS.out _ B2 S2⟩
  | true =>
    have qD := iDear_any z S2
    obtain ⟨d, hd⟩ : ∃ d, d = (decide (costOver p bs wd = 0) && decide (costSum p bs < z)) := ⟨_, rfl⟩
    rw [← hd] at qD HG
    clear hd
    go_wp2_with fail
    refine qD.mono ?_
    rintro e w2 ⟨rfl, rfl⟩
    clear qD
    cases d with
    | true =>
      have HN := hidOf (show offH p wd bs vs (ps.map Sp.st) = ps.map Sp.st by unfold offH; rw [HG.out]; rfl)
      go_wp2
      go_end0
      rw [HN.out]
      exact ⟨rfl, HS.out _ B2 S2⟩
    | false =>
      have HN := hidOf (show offH p wd bs vs (ps.map Sp.st) = pushL stLess (ps.map Sp.st) ⟨vs, z⟩ by unfold offH; rw [HG.out, HZ.out]; rfl)
      have qP := push_any (srOf p l wd ba bc bs) sb w0.heap.size a c ps ⟨⟨vs, z⟩, va, vc⟩ w2 hn0 hfew (by show vs.length ≤ 1048576; omega) S2.own o2 hap S2.hv S2.low S2.wlow
      have hl := S2.hv.lt
      go_wp2_with fail
      refine qP.mono ?_
      rintro e w3 ⟨rfl, a', c', o3, H3, b3, g3, q3⟩
      have HA := hidOf (show OfAns w0 sb p l wd w w3 a c ps ba bc bs (pushL stLess (ps.map Sp.st) ⟨vs, z⟩) from ⟨a', c', pushL spLess ps ⟨⟨vs, z⟩, va, vc⟩, S2.turn H3 (pushL_len _ _).symm o3 b3 g3, pushL_map Sp.st ps ⟨⟨vs, z⟩, va, vc⟩, (Gr2.ofB B2 _ _).trans g3, fun g hg => by
        rw [pushL_len] at hg
        exact (q3 g hg).imp_right (fun h => Nat.le_trans B2.size h)⟩)
      clear qP H3 o3 b3 g3 q3
      go_wp2
      go_end0
      rw [HN.out]
      exact ⟨rfl, HA.out⟩
end Go.Proofs.Ytghfpcjgionbaaa
