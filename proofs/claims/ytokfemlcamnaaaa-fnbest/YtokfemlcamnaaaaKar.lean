/- What the drawing functions of chapter 10 draw. -/
import Derived.Test.YtokfemlcamnaaaaKaq
import Derived.Test.YtokfemlcamnaaaaKaj
import Derived.Test.YtokfemlcamnaaaaKan
import Derived.Test.YtokfemlcamnaaaaBestS
namespace Go.Proofs.Ytokfemlcamnaaaa
open Go.RowKit

set_option maxHeartbeats 1600000 in
set_option maxRecDepth 20000 in
theorem drawNx_any (base : Nat) (w : World) (a : Option Addr) (len cap : Nat) (hc : CodeAt base w a len) (hb : base ≤ w.heap.size) :
    Calls Try.prog 37 #[.slice a len cap] w fun e w' => PvAns w e w' := by
  have HC := hidOf hc
  clear hc
  go_enter Try.func37, Try.ntmps37
  go_wp2_with fail
  refine (pair_any base _ a len cap (code_alloc HC.out hb _) (by simp; omega)).mono ?_
  rintro e w1 ⟨p, l, vs, av, cv, rfl, hF, hvl, ho, hv, hb1⟩
  have X := rx_pair hb1 ho
  have H := hidOf (And.intro hF (And.intro hvl (ownsRow_base (base' := w.heap.size) hv (by simp))))
  clear hF hvl ho hv hb1
  obtain ⟨r0, r1, r2, r3, r4⟩ := X.cells
  have rf0 := X.frozen 0
  have rf1 := X.frozen 1
  have rf2 := X.frozen 2
  have rf3 := X.frozen 3
  have rf4 := X.frozen 4
  go_wp2
  refine bodyPost_ret (v := .tuple #[pcV p l, .slice av vs.length cv]) (by simp [results, Try.results37, go_sem, r0, r1, r2, r3, r4]) rfl (pv_mk H.out.1 H.out.2.1 (X.fin _ _ _ _ _) (X.finVals H.out.2.2 (by decide) _ _ _ _ _))

/-- Some piece, and a width. -/
def PwAns (w : World) (e : Ending) (w' : World) : Prop :=
  ∃ (p : Pc) (l : Pl) (y : Int), e = .returned (.tuple #[pcV p l, .int .i64 y]) ∧ Fit p ∧ Own4 w.heap.size w' p l ∧ Below w.heap.size w w'
theorem pw_mk {w w' : World} {p : Pc} {l : Pl} {y : Int} (h1 : Fit p) (h3 : Own4 w.heap.size w' p l ∧ Below w.heap.size w w') : PwAns w (.returned (.tuple #[pcV p l, .int .i64 y])) w' := ⟨p, l, y, rfl, h1, h3⟩

set_option maxHeartbeats 4000000 in
set_option maxRecDepth 20000 in
theorem drawBe_any (base : Nat) (w : World) (a : Option Addr) (len cap : Nat) (hc : CodeAt base w a len) (hb : base ≤ w.heap.size) :
    Calls Try.prog 35 #[.slice a len cap] w fun e w' => PwAns w e w' := by
  have HC := hidOf hc
  clear hc
  go_enter Try.func35, Try.ntmps35
  go_wp2_with fail
  refine (new_any base _ a len cap (code_alloc HC.out hb _) (by simp; omega)).mono ?_
  rintro e w1 ⟨blk, rfl, hbk, hc1, hb1⟩
  have H1 := hidOf (And.intro hc1 (And.intro hb1 hbk))
  clear hc1 hb1 hbk
  go_wp2_with fail
  refine (pickInt_in base _ blk a len cap w1.heap.size 4 4 [10, 20, 30, 60] (H1.out.1.kept (World.grownBy_alloc w1 _ none) (fun k e => by cases e)) (by omega) (by omega) rfl (by have := H1.out.1.lt; omega) (by simp) (fun j _ => intCells_at w1 _ _ [10, 20, 30, 60] rfl j)).mono ?_
  rintro e w2 ⟨y, hy, rfl, hc2, hg2⟩
  have H2 : Hid (Below (w.alloc (.cells noCells 29)).heap.size (w.alloc (.cells noCells 29)) w2) := (H1.out.2.1.alloc H1.out.2.1.size _).grown hg2 (by have := H1.out.2.1.size; simp at this; simp; omega) (fun k e => by cases e; exact H1.out.2.2)
  have H3 := hidOf H1.out.2.2
  clear hg2 H1 hy
  go_wp2_with fail
  refine (anyp_any base w2 blk a len cap hc2).mono ?_
  rintro e w3 ⟨p, l, rfl, hD, ho, -, hg3⟩
  have X := rx_of H2.out H3.out hg3 ho
  have HD := hidOf hD
  clear hD ho hg3 H2 H3 hc2
  obtain ⟨r0, r1, r2, r3, r4⟩ := X.cells
  have rf0 := X.frozen 0
  have rf1 := X.frozen 1
  have rf2 := X.frozen 2
  have rf3 := X.frozen 3
  have rf4 := X.frozen 4
  go_wp2
  refine bodyPost_ret (v := .tuple #[pcV p l, .int .i64 y]) (by simp [results, Try.results35, go_sem, r0, r1, r2, r3, r4]) rfl (pw_mk HD.out (X.fin _ _ _ _ _))
end Go.Proofs.Ytokfemlcamnaaaa
/- What the law on the cheapest holds over many worlds. -/
namespace Go.Proofs.Ytokfemlcamnaaaa
open Go.RowKit

/-- A drawn piece, its cheapest list and what that costs. -/
structure FB (w0 w : World) (pb : Nat) (p : Pc) (l : Pl) (ab : Option Addr) (bs : List Int) (cb : Nat) (o s : Int) : Prop where
  bel : Below w0.heap.size w0 w
  P : Pb w pb p l
  D : KidsAt w ab bs
  C : Cb w cb o s
theorem FB.below {w0 w w' : World} {pb : Nat} {p : Pc} {l : Pl} {ab : Option Addr} {bs : List Int} {cb : Nat} {o s : Int} (h : FB w0 w pb p l ab bs cb o s) (hb : Below w.heap.size w w') : FB w0 w' pb p l ab bs cb o s :=
  ⟨h.bel.trans (hb.mono h.bel.size), h.P.below hb, h.D.below hb (Nat.le_refl _), h.C.below hb⟩
/-- How the count of rounds stands to the list. -/
def FR (p : Pc) (vs : List Int) (k : Nat) (b : Bool) : Prop := (b = true ∧ InV p.rules vs ∧ (k : Int) = rk p.rules vs) ∨ (b = false ∧ (k : Int) = tot p.rules)
theorem fr_next {p : Pc} {vs : List Int} {k : Nat} (hI : InV p.rules vs) (hk : (k : Int) = rk p.rules vs) : FR p ((nx p.rules vs).getD []) (k + 1) (nx p.rules vs).isSome := by
  obtain ⟨h1, h2⟩ := nx_both _ _ hI
  cases hn : nx p.rules vs with
  | none =>
    have := h2 hn
    exact .inr ⟨rfl, by omega⟩
  | some u =>
    obtain ⟨h3, h4⟩ := h1 u hn
    exact .inl ⟨rfl, h3, by show ((k + 1 : Nat) : Int) = rk p.rules u; omega⟩
/-- Nothing that is ahead costs as little. -/
theorem best_low {p : Pc} {wd : Int} {vs bs : List Int} (hB : Best p wd bs) (hT : TiesHold p vs) : lessV p wd vs bs = false ∧ (costOver p vs wd = costOver p bs wd ∧ costSum p vs = costSum p bs → ¬ cmpL vs bs < 0) := by
  have h := hB.low vs hT (rk_bd _ _ (inV_ok hT.vals)).2
  refine ⟨h.1, fun ⟨h1, h2⟩ h3 => ?_⟩
  have h4 := h.2 h1 h2
  have h5 := rk_cmp _ _ _ (inV_ok hT.vals) (inV_ok hB.ties.vals) h3
  omega
/-- All that the last statement reads. -/
structure QS (w0 w : World) (pb : Nat) (p : Pc) (l : Pl) (ab : Option Addr) (bs : List Int) (cb : Nat) (o s : Int) (cb2 cb3 : Nat) (o2 s2 : Int) (a6 a7 : Option Addr) (us : List Int) (a9 a10 : Option Addr) (zs : List Int) : Prop where
  bel : Below w0.heap.size w0 w
  P : Pb w pb p l
  D : KidsAt w ab bs
  C : Cb w cb o s
  C2 : Cb w cb2 o2 s2
  C3 : Cb w cb3 o2 s2
  U : KidsAt w a6 us
  U2 : KidsAt w a7 us
  V : KidsAt w a9 zs
  V2 : KidsAt w a10 zs
theorem QS.below {w0 w w' : World} {pb : Nat} {p : Pc} {l : Pl} {ab : Option Addr} {bs : List Int} {cb : Nat} {o s : Int} {cb2 cb3 : Nat} {o2 s2 : Int} {a6 a7 : Option Addr} {us : List Int} {a9 a10 : Option Addr} {zs : List Int} (h : QS w0 w pb p l ab bs cb o s cb2 cb3 o2 s2 a6 a7 us a9 a10 zs) (hb : Below w.heap.size w w') : QS w0 w' pb p l ab bs cb o s cb2 cb3 o2 s2 a6 a7 us a9 a10 zs :=
  ⟨h.bel.trans (hb.mono h.bel.size), h.P.below hb, h.D.below hb (Nat.le_refl _), h.C.below hb, h.C2.below hb, h.C3.below hb, h.U.below hb (Nat.le_refl _), h.U2.below hb (Nat.le_refl _), h.V.below hb (Nat.le_refl _), h.V2.below hb (Nat.le_refl _)⟩
end Go.Proofs.Ytokfemlcamnaaaa
