/- What impl.markSizes, impl.MarkOk, spec.l04Marks and spec.MarkOk answer. -/
import Derived.Test.YtlpbhhgikgbfhaaDoorProg
import Derived.Test.YtlpbhhgikgbfhaaDoorMkLib
namespace Go.Proofs.YtlpbhhgikgbfhaaDoor
open Go.RowKit Go.Maps Go.WideMaps

theorem keyLaw : Keyed Tryd.prog 9 := string_keyed Tryd.underlying9
theorem zeroInt (w : World) : (zeroValue 3).run Tryd.prog w = .ok (.int .i64 0) w := by kernel_rfl
theorem mkPs_at (l : List UInt8) : (putPs mkPs (.map [])).atKey (.string l) (.lit (.int .i64 0)) = .lit (.int .i64 (mkAt l)) := putPs_at l mkPs _ 0 isMap_empty rfl

set_option maxHeartbeats 4000000 in
set_option maxRecDepth 100000 in
theorem iSizes_any (w : World) : Calls Tryd.prog 18 #[] w fun e w' => e = .returned (.map (some w.heap.size)) ∧ MkMap Tryd.prog w' 9 3 w.heap.size ∧ Below w.heap.size w w' := by
  have hmm := @run_makeMap Tryd.prog
  have hI : (w.alloc (.map #[] 0)).ownsMap Tryd.prog 9 (plainElem (H := Unit) Tryd.prog 3) w.heap.size 0 (.map []) ∧ Below w.heap.size w (w.alloc (.map #[] 0)) := ⟨World.ownsMap_made _ _ _ _, (Below.refl _ _).alloc (Nat.le_refl _) _⟩
  go_enter Tryd.func18, Tryd.ntmps18
  go_wp2_with (refine insStep _ rfl _ _ _ 39 rfl 9 3 keyLaw Tryd.underlying39 Tryd.underlying3 Tryd.underlying9 w.heap.size w.heap.size _ _ w (Nat.le_refl _) rfl hI (by decide) _ _ rfl rfl (by decide) (by decide) ?_; clear hI; intro w1 hI)
  go_ret
  exact ⟨rfl, ⟨_, _, hI.1, mkPs_at⟩, hI.2⟩
end Go.Proofs.YtlpbhhgikgbfhaaDoor
