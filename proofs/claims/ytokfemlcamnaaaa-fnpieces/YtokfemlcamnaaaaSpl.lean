/- What impl.isSplit answers. -/
import Derived.Test.YtokfemlcamnaaaaRenLib
import Derived.Test.YtokfemlcamnaaaaOkI3
namespace Go.Proofs.Ytokfemlcamnaaaa
open Go.RowKit

set_option maxHeartbeats 4000000 in
theorem isSpl_any (x : Ch) (a : Option Addr) (c : Nat) (vs : List Int) (r : Nat) (w : World) (hm0 : vs.length ≤ 1048576) (hr : x.rule = (r : Int)) (hrl : r < vs.length) (hv : KidsAt w a vs) :
    Calls Try.prog 78 #[.agg #[.int .i64 x.rule, .int .i64 x.frm, .bool x.space, .int .i64 x.nest], .slice a vs.length c] w fun e w' => e = .returned (.bool (spl vs x)) ∧ Below w.heap.size w w' := by
  have hm1 := hm0
  clear hm0
  have HB : ∀ o1 : Obj, Below w.heap.size w (w.alloc o1) := fun o1 => (Below.refl _ _).alloc (Nat.le_refl _) _
  have ez := List.getElem?_eq_getElem hrl
  obtain ⟨z, hz⟩ : ∃ z, z = vs[r] := ⟨_, rfl⟩
  rw [← hz] at ez
  clear hz
  obtain ⟨b2, o2, eb, hb2, hc2⟩ := hv (by omega)
  have zc := fun ob : Obj => ((HB ob).cell (p := ⟨b2, o2 + r, none⟩) hb2).trans (hc2 r z ez)
  rw [spl_of hr ez, hr, eb]
  clear hc2 eb ez hv
  have hA2 : (0 : Int) ≤ (r : Int) := by omega
  have hB2 : (r : Int) < (vs.length : Int) := by omega
  by_cases hf : x.frm ≤ z
  · have hfd : decide (z ≥ x.frm) = true := by rw [decide_eq_true_eq]; exact hf
    have hft : decide (x.frm ≤ z) = true := by rw [decide_eq_true_eq]; exact hf
    rw [hft]
    clear hft
    go_enter Try.func78, Try.ntmps78
    go_wp2
    go_quiet (fail)
    go_wp2
    go_ret
    exact ⟨rfl, bel_drewN (HB _) _⟩
  · have hfd : decide (z ≥ x.frm) = false := by rw [decide_eq_false_iff_not]; omega
    have hft : decide (x.frm ≤ z) = false := by rw [decide_eq_false_iff_not]; omega
    rw [hft]
    clear hft
    go_enter Try.func78, Try.ntmps78
    go_wp2
    go_quiet (fail)
    go_wp2
    go_ret
    exact ⟨rfl, bel_drewN (HB _) _⟩
end Go.Proofs.Ytokfemlcamnaaaa
