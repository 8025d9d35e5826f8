/- The law on CostLess: two answers alike. -/
import Derived.Test.YtndnngfljoamdaaCmpLaw
import Derived.Test.YtndnngfljoamdaaToCh
import Derived.Deep.RegionHeld3
namespace Go.Proofs.Ytndnngfljoamdaa
open Go.RowKit

set_option maxHeartbeats 8000000 in
set_option maxRecDepth 20000 in
theorem lawCostLess (o1 s1 o2 s2 : Int) (w : World) :
    Calls Try.prog 8 #[coV o1 s1, coV o2 s2] w fun e w' => e = .returned (.bool true) ∧ Below w.heap.size w w' := by
  show Calls _ _ #[.agg #[.int .i64 o1, .int .i64 s1], .agg #[.int .i64 o2, .int .i64 s2]] _ _
  obtain ⟨b, hb⟩ : ∃ b, b = lessC o1 s1 o2 s2 := ⟨_, rfl⟩
  have hne : (b != b) = false := by simp
  have qS := fun W => sLess_any o1 s1 o2 s2 W
  have qI := fun W => iLess_any o1 s1 o2 s2 W
  rw [← hb] at qS qI
  clear hb
  go_enter Try.func8, Try.ntmps8
  go_wp2
  obtain ⟨W0, hW0⟩ : ∃ W0, W0 = (w.alloc (.cells #[.int .i64 o1, .int .i64 s1] 76)).alloc (.cells #[.int .i64 o2, .int .i64 s2] 76) := ⟨_, rfl⟩
  rw [← hW0]
  have B0 : Below w.heap.size w W0 := by rw [hW0]; exact ((Below.refl _ _).alloc (Nat.le_refl _) _).alloc (by simp) _
  have c0 : W0.cell? ⟨w.heap.size, 0, none⟩ = some (.int .i64 o1) := by rw [hW0]; simp
  have c1 : W0.cell? ⟨w.heap.size, 1, none⟩ = some (.int .i64 s1) := by rw [hW0]; simp
  have d0 : W0.cell? ⟨w.heap.size + 1, 0, none⟩ = some (.int .i64 o2) := by rw [hW0]; simp
  have d1 : W0.cell? ⟨w.heap.size + 1, 1, none⟩ = some (.int .i64 s2) := by rw [hW0]; simp
  have hz0 : w.heap.size < W0.heap.size := by rw [hW0]; simp; omega
  have hz1 : w.heap.size + 1 < W0.heap.size := by rw [hW0]; simp
  clear hW0
  go_region_held3 (fun W => (W.cell? ⟨w.heap.size, 0, none⟩ = some (.int .i64 o1) ∧ W.cell? ⟨w.heap.size, 1, none⟩ = some (.int .i64 s1)) ∧ W.cell? ⟨w.heap.size + 1, 0, none⟩ = some (.int .i64 o2) ∧ W.cell? ⟨w.heap.size + 1, 1, none⟩ = some (.int .i64 s2)) (first | trivial | go_keep)
    ((first
    | (go_at_call 56; refine (toCo_any _ _ _).mono ?_; rintro e w1 ⟨rfl, hb1⟩; first | (have A1 := (Below.refl W0.heap.size W0).drew.trans hb1; have hc1 := (bcell A1).1) | (have A2 := A1.trans (hb1.mono A1.size); have hc2 := (bcell A2).1))
    | (go_at_call 42; refine (qS _).mono ?_; rintro e w3 ⟨rfl, hb3⟩; have A3 := A2.trans (hb3.mono A2.size); have hc3 := (bcell A3).1)))
  have B3 := B0.trans (A3.mono B0.size)
  have c0 := (A3.cell (p := ⟨w.heap.size, 0, none⟩) hz0).trans c0
  have c1 := (A3.cell (p := ⟨w.heap.size, 1, none⟩) hz0).trans c1
  have d0 := (A3.cell (p := ⟨w.heap.size + 1, 0, none⟩) hz1).trans d0
  have d1 := (A3.cell (p := ⟨w.heap.size + 1, 1, none⟩) hz1).trans d1
  have hz0 : w.heap.size < w3.heap.size := Nat.lt_of_lt_of_le hz0 A3.size
  have hz1 : w.heap.size + 1 < w3.heap.size := Nat.lt_of_lt_of_le hz1 A3.size
  clear hb1 hb3 hc1 hc2 hc3 A1 A2 A3
  go_wp2
  go_region_held3 (fun W => (W.cell? ⟨w.heap.size, 0, none⟩ = some (.int .i64 o1) ∧ W.cell? ⟨w.heap.size, 1, none⟩ = some (.int .i64 s1)) ∧ W.cell? ⟨w.heap.size + 1, 0, none⟩ = some (.int .i64 o2) ∧ W.cell? ⟨w.heap.size + 1, 1, none⟩ = some (.int .i64 s2)) (first | trivial | go_keep)
    ((first
    | (go_at_call 56; refine (toCo_any _ _ _).mono ?_; rintro e w1 ⟨rfl, hb1⟩; first | (have A1 := (Below.refl w3.heap.size w3).drew.trans hb1; have hc1 := (bcell A1).1) | (have A2 := A1.trans (hb1.mono A1.size); have hc2 := (bcell A2).1))
    | (go_at_call 41; refine (qI _).mono ?_; rintro e w6 ⟨rfl, hb3⟩; have A3 := A2.trans (hb3.mono A2.size); have hc3 := (bcell A3).1)))
  have B6 := B3.trans (A3.mono B3.size)
  go_wp2
  go_ret
  exact ⟨rfl, B6⟩
end Go.Proofs.Ytndnngfljoamdaa
