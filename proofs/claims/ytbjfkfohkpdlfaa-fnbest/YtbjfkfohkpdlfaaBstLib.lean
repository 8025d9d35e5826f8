/- What the law on the cheapest holds over many worlds. -/
import Derived.Test.YtbjfkfohkpdlfaaKa
import Derived.Test.YtbjfkfohkpdlfaaBestS
import Derived.Test.YtbjfkfohkpdlfaaKi
import Derived.Test.YtbjfkfohkpdlfaaCntS
import Derived.Test.YtbjfkfohkpdlfaaRegG
namespace Go.Proofs.Ytbjfkfohkpdlfaa
open Go.RowKit

/-- A drawn piece, its cheapest list and what that costs. -/
structure FB (w0 w : World) (pb : Nat) (p : Pc) (l : Pl) (ab : Option Addr) (bs : List Int) (cb : Nat) (o s : Int) : Prop where
  bel : Below w0.heap.size w0 w
  P : Pb w pb p l
  D : KidsAt w ab bs
  C : Cb w cb o s
theorem FB.below {w0 w w' : World} {pb : Nat} {p : Pc} {l : Pl} {ab : Option Addr} {bs : List Int} {cb : Nat} {o s : Int} (h : FB w0 w pb p l ab bs cb o s) (hb : Below w.heap.size w w') : FB w0 w' pb p l ab bs cb o s :=
  ⟨h.bel.trans (hb.mono h.bel.size), h.P.below hb, h.D.below hb (Nat.le_refl _), h.C.below hb⟩
theorem coEq (o1 s1 o2 s2 : Int) (w : World) : (binOp .eql coT (.agg #[.int .i64 o1, .int .i64 s1]) (.agg #[.int .i64 o2, .int .i64 s2])).run Try.prog w = .ok (.bool (decide (o1 = o2 ∧ s1 = s2))) w := by
  have u3 := Try.underlying3
  have a3 := Try.isAgg3
  have z3 := Try.sizeOf3
  have hS : Try.prog.underlying 34 = some (.struct (Try.prog.fieldsOf 34)) := by kernel_rfl
  have hp : Try.prog.stoodInHeld 34 = false := by kernel_rfl
  rw [run_eql_struct, show (10000 : Nat) = 9999 + 1 from rfl, run_equalIn_agg w 9999 34 _ _ hS hp]
  simp only [Program.fieldsOf, Try.underlying34]
  by_cases h1 : o1 = o2
  · subst h1
    by_cases h2 : s1 = s2
    · subst h2
      go_simp
    · have h2' : (s1 == s2) = false := by simpa using h2
      go_simp
  · have h1' : (o1 == o2) = false := by simpa using h1
    go_simp
/-- How the count of rounds stands to the list. -/
def FR (p : Pc) (vs : List Int) (k : Nat) (b : Bool) : Prop := (b = true ∧ InV p.rules vs ∧ (k : Int) = rk p.rules vs) ∨ (b = false ∧ (k : Int) = tot p.rules)
theorem fr_next {p : Pc} {vs : List Int} {k : Nat} (hI : InV p.rules vs) (hk : (k : Int) = rk p.rules vs) : FR p ((nx p.rules vs).getD []) (k + 1) (nx p.rules vs).isSome := by
  obtain ⟨h1, h2⟩ := nx_both _ _ hI
  cases hn : nx p.rules vs with
  | none =>
    have := h2 hn
    exact .inr ⟨rfl, by omega⟩
  | some u =>
    obtain ⟨h3, h4⟩ := h1 u hn
    exact .inl ⟨rfl, h3, by show ((k + 1 : Nat) : Int) = rk p.rules u; omega⟩
/-- Nothing that is ahead costs as little. -/
theorem best_low {p : Pc} {wd : Int} {vs bs : List Int} (hB : Best p wd bs) (hT : TiesHold p vs) : lessV p wd vs bs = false ∧ (costOver p vs wd = costOver p bs wd ∧ costSum p vs = costSum p bs → ¬ cmpL vs bs < 0) := by
  have h := hB.low vs hT (rk_bd _ _ (inV_ok hT.vals)).2
  refine ⟨h.1, fun ⟨h1, h2⟩ h3 => ?_⟩
  have h4 := h.2 h1 h2
  have h5 := rk_cmp _ _ _ (inV_ok hT.vals) (inV_ok hB.ties.vals) h3
  omega
/-- All that the last statement reads. -/
structure QS (w0 w : World) (pb : Nat) (p : Pc) (l : Pl) (ab : Option Addr) (bs : List Int) (cb : Nat) (o s : Int) (cb2 cb3 : Nat) (o2 s2 : Int) (a6 a7 : Option Addr) (us : List Int) (a9 a10 : Option Addr) (zs : List Int) : Prop where
  bel : Below w0.heap.size w0 w
  P : Pb w pb p l
  D : KidsAt w ab bs
  C : Cb w cb o s
  C2 : Cb w cb2 o2 s2
  C3 : Cb w cb3 o2 s2
  U : KidsAt w a6 us
  U2 : KidsAt w a7 us
  V : KidsAt w a9 zs
  V2 : KidsAt w a10 zs
theorem QS.below {w0 w w' : World} {pb : Nat} {p : Pc} {l : Pl} {ab : Option Addr} {bs : List Int} {cb : Nat} {o s : Int} {cb2 cb3 : Nat} {o2 s2 : Int} {a6 a7 : Option Addr} {us : List Int} {a9 a10 : Option Addr} {zs : List Int} (h : QS w0 w pb p l ab bs cb o s cb2 cb3 o2 s2 a6 a7 us a9 a10 zs) (hb : Below w.heap.size w w') : QS w0 w' pb p l ab bs cb o s cb2 cb3 o2 s2 a6 a7 us a9 a10 zs :=
  ⟨h.bel.trans (hb.mono h.bel.size), h.P.below hb, h.D.below hb (Nat.le_refl _), h.C.below hb, h.C2.below hb, h.C3.below hb, h.U.below hb (Nat.le_refl _), h.U2.below hb (Nat.le_refl _), h.V.below hb (Nat.le_refl _), h.V2.below hb (Nat.le_refl _)⟩
end Go.Proofs.Ytbjfkfohkpdlfaa
