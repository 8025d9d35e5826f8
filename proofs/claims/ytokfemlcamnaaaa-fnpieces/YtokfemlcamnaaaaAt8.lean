/- What spec.l08At answers, and splits in plain words. -/
import Derived.Test.YtokfemlcamnaaaaValLib
import Derived.Test.YtokfemlcamnaaaaOkI3
import Derived.Test.YtokfemlcamnaaaaSpl
import Derived.Test.YtokfemlcamnaaaaOkS2
namespace Go.Proofs.Ytokfemlcamnaaaa
open Go.RowKit

theorem at_yes {p : Pc} {vs : List Int} {k : Nat} {x : Ch} {r : Nat} {z : Int} (h : Right p) (hv : ValOk p vs) (hk : (k : Int) ≤ (p.chunks.length : Int) - 2) (hx : p.chunks[k]? = some x) (hr : x.rule = (r : Int)) (hz : vs[r]? = some z) (hf : x.frm ≤ z) : SplitAt p vs (k : Int) :=
  ⟨h, hv, Int.natCast_nonneg k, hk, fun x' z' hx' hz' => by
    rw [Int.toNat_natCast, hx] at hx'
    cases hx'
    rw [hr, Int.toNat_natCast, hz] at hz'
    cases hz'
    exact hf⟩
theorem at_no {p : Pc} {vs : List Int} {k : Nat} {x : Ch} {r : Nat} {z : Int} (hx : p.chunks[k]? = some x) (hr : x.rule = (r : Int)) (hz : vs[r]? = some z) (hf : ¬ x.frm ≤ z) : ¬ SplitAt p vs (k : Int) := fun h =>
  hf (h.splits x z (by rw [Int.toNat_natCast]; exact hx) (by rw [hr, Int.toNat_natCast]; exact hz))

set_option maxHeartbeats 8000000 in
theorem s08At_any (p : Pc) (l : Pl) (a : Option Addr) (c : Nat) (vs : List Int) (k : Nat) (w : World) (hF : PcFew p) (hm0 : vs.length ≤ 1048576) (hp : PcIn w p l) (hv : KidsAt w a vs) (h1 : Right p) (h2 : ValOk p vs) (hk : (k : Int) ≤ (p.chunks.length : Int) - 2) :
    Calls Try.prog 89 #[pcV p l, .slice a vs.length c, .int .i64 k] w fun e w' => Tells (SplitAt p vs k) w e w' := by
  show Calls _ _ #[.agg #[.int .i64 p.indent, .slice l.a1 p.rules.length l.c1, .slice l.a2 p.chunks.length l.c2, .slice l.a3 p.spans.length l.c3, .slice l.a4 p.ties.length l.c4], _, _] _ _
  have hcl := hF.chunks
  have hm1 := hm0
  clear hm0
  have HB : ∀ o1 : Obj, Below w.heap.size w (w.alloc o1) := fun o1 => (Below.refl _ _).alloc (Nat.le_refl _) _
  have HB2 : ∀ o1 o2 : Obj, Below w.heap.size w ((w.alloc o1).alloc o2) := fun o1 o2 => ((Below.refl _ _).alloc (Nat.le_refl _) _).alloc (by simp) _
  obtain ⟨x, r, z, ex, er, hr, ez⟩ := split_val h1 h2 hk
  obtain ⟨b1, o1, ea, hb1, hc1⟩ := hp.chunks (by omega)
  obtain ⟨b2, o2, eb, hb2, hc2⟩ := hv (by omega)
  have hch := fun ob : Obj => chC (w := w.alloc ob) (fun j hj => by rw [(HB ob).cell hb1]; exact hc1 k x ex j hj)
  rw [er] at hch
  have p0 := fun ob => (hch ob).1
  have p1 := fun ob => (hch ob).2.1
  have p2 := fun ob => (hch ob).2.2.1
  have p3 := fun ob => (hch ob).2.2.2.1
  have p4 := fun ob => (hch ob).2.2.2.2
  have zc := fun ob oc : Obj => ((HB2 ob oc).cell (p := ⟨b2, o2 + r, none⟩) hb2).trans (hc2 r z ez)
  rw [ea, eb]
  have HX := hidOf ex
  have HR := hidOf er
  have HZ := hidOf ez
  have H1 := hidOf h1
  have H2 := hidOf h2
  have HK := hidOf hk
  clear ex er ez hc1 hc2 ea eb h1 h2 hch hp hv
  have hA : (0 : Int) ≤ (k : Int) := by omega
  have hB : (k : Int) < (p.chunks.length : Int) := by omega
  have hA2 : (0 : Int) ≤ (r : Int) := by omega
  have hB2 : (r : Int) < (vs.length : Int) := by omega
  by_cases hf : x.frm ≤ z
  · have hfd : decide (z ≥ x.frm) = true := by rw [decide_eq_true_eq]; exact hf
    have HF2 := hidOf hf
    go_enter Try.func89, Try.ntmps89
    go_wp2
    go_quiet (fail)
    go_wp2
    go_ret
    exact tells_yes (at_yes H1.out H2.out HK.out HX.out HR.out HZ.out HF2.out) (bel_drewN (HB2 _ _) _)
  · have hfd : decide (z ≥ x.frm) = false := by rw [decide_eq_false_iff_not]; omega
    have HF2 := hidOf hf
    go_enter Try.func89, Try.ntmps89
    go_wp2
    go_quiet (fail)
    go_wp2
    go_ret
    exact tells_no (at_no HX.out HR.out HZ.out (by have := HF2.out; omega)) (bel_drewN (HB2 _ _) _)

end Go.Proofs.Ytokfemlcamnaaaa
