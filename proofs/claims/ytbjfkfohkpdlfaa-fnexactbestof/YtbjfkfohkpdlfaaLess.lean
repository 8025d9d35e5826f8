/- What impl.CostLess and spec.CostLess answer. -/
import Derived.Test.YtbjfkfohkpdlfaaProg
import Derived.Test.YtbjfkfohkpdlfaaIntLib
import Derived.BigQuiet
import Derived.Deep.QuietTactic
import Derived.Laws.StructEq
namespace Go.Proofs.Ytbjfkfohkpdlfaa
open Go.RowKit

/-- A cost. -/
abbrev coV (o s : Int) : Value := .agg #[.int .i64 o, .int .i64 s]
def lessC (o1 s1 o2 s2 : Int) : Bool := decide (o1 < o2 ∨ o1 = o2 ∧ s1 < s2)
def uptoC (o1 s1 o2 s2 : Int) : Bool := decide (o1 < o2 ∨ o1 = o2 ∧ s1 ≤ s2)

theorem coGuard (o1 s1 o2 s2 : Int) (op : BinOp) (a b : Operand) (w : World) : (eqGuard op 34 a b (.agg #[.int .i64 o1, .int .i64 s1]) (.agg #[.int .i64 o2, .int .i64 s2])).run Try.prog w = .ok () w :=
  run_eqGuard_agg w op 34 a b _ _ (by kernel_rfl)
theorem coNeq (o1 s1 o2 s2 : Int) (w : World) : (binOp .neq 34 (.agg #[.int .i64 o1, .int .i64 s1]) (.agg #[.int .i64 o2, .int .i64 s2])).run Try.prog w = .ok (.bool (!decide (o1 = o2 ∧ s1 = s2))) w := by
  have u3 := Try.underlying3
  have a3 := Try.isAgg3
  have z3 := Try.sizeOf3
  have hS : Try.prog.underlying 34 = some (.struct (Try.prog.fieldsOf 34)) := by kernel_rfl
  have hp : Try.prog.stoodInHeld 34 = false := by kernel_rfl
  rw [run_neq_struct, show (10000 : Nat) = 9999 + 1 from rfl, run_equalIn_agg w 9999 34 _ _ hS hp]
  simp only [Program.fieldsOf, Try.underlying34]
  by_cases h1 : o1 = o2
  · subst h1
    by_cases h2 : s1 = s2
    · subst h2
      go_simp
    · have h2' : (s1 == s2) = false := by simpa using h2
      go_simp
  · have h1' : (o1 == o2) = false := by simpa using h1
    go_simp

set_option maxHeartbeats 4000000 in
theorem upto_any (o1 s1 o2 s2 : Int) (w : World) : Calls Try.prog 76 #[coV o1 s1, coV o2 s2] w fun e w' => e = .returned (.bool (uptoC o1 s1 o2 s2)) ∧ Below w.heap.size w w' := by
  show Calls _ _ #[.agg #[.int .i64 o1, .int .i64 s1], .agg #[.int .i64 o2, .int .i64 s2]] _ _
  have HB2 : ∀ a b : Obj, Below w.heap.size w ((w.alloc a).alloc b) := fun a b => ((Below.refl _ _).alloc (Nat.le_refl _) _).alloc (by simp) _
  by_cases h1 : o1 < o2
  · rw [show uptoC o1 s1 o2 s2 = true by unfold uptoC; rw [decide_eq_true_eq]; omega]
    go_enter Try.func76, Try.ntmps76
    go_wp2
    go_ret
    exact ⟨rfl, HB2 _ _⟩
  · by_cases h2 : o1 = o2
    · subst h2
      have h3 : (o1 == o1) = true := by simp
      by_cases h4 : s1 ≤ s2
      · rw [show uptoC o1 s1 o1 s2 = true by unfold uptoC; rw [decide_eq_true_eq]; omega]
        go_enter Try.func76, Try.ntmps76
        go_wp2
        go_ret
        exact ⟨rfl, HB2 _ _⟩
      · rw [show uptoC o1 s1 o1 s2 = false by unfold uptoC; rw [decide_eq_false_iff_not]; omega]
        go_enter Try.func76, Try.ntmps76
        go_wp2
        go_ret
        exact ⟨rfl, HB2 _ _⟩
    · have h3 : (o1 == o2) = false := by simpa using h2
      rw [show uptoC o1 s1 o2 s2 = false by unfold uptoC; rw [decide_eq_false_iff_not]; omega]
      clear h2
      go_enter Try.func76, Try.ntmps76
      go_wp2
      go_ret
      exact ⟨rfl, HB2 _ _⟩

set_option maxHeartbeats 4000000 in
theorem iLess_any (o1 s1 o2 s2 : Int) (w : World) : Calls Try.prog 37 #[coV o1 s1, coV o2 s2] w fun e w' => e = .returned (.bool (lessC o1 s1 o2 s2)) ∧ Below w.heap.size w w' := by
  show Calls _ _ #[.agg #[.int .i64 o1, .int .i64 s1], .agg #[.int .i64 o2, .int .i64 s2]] _ _
  have HB2 : ∀ a b : Obj, Below w.heap.size w ((w.alloc a).alloc b) := fun a b => ((Below.refl _ _).alloc (Nat.le_refl _) _).alloc (by simp) _
  have hG := coGuard o1 s1 o2 s2
  have hQ := coNeq o1 s1 o2 s2
  have hU := fun W => upto_any o1 s1 o2 s2 W
  by_cases h : o1 = o2 ∧ s1 = s2
  · rw [show lessC o1 s1 o2 s2 = false by unfold lessC; rw [decide_eq_false_iff_not]; omega]
    rw [show (!decide (o1 = o2 ∧ s1 = s2)) = false by rw [decide_eq_true h]; rfl] at hQ
    clear h
    go_enter Try.func37, Try.ntmps37
    go_wp2
    go_ret
    exact ⟨rfl, HB2 _ _⟩
  · rw [show lessC o1 s1 o2 s2 = uptoC o1 s1 o2 s2 by unfold lessC uptoC; rw [decide_eq_decide]; omega]
    rw [show (!decide (o1 = o2 ∧ s1 = s2)) = true by rw [decide_eq_false h]; rfl] at hQ
    clear h
    go_enter Try.func37, Try.ntmps37
    go_wp2_with fail
    refine (hU _).mono ?_
    rintro e w1 ⟨rfl, hb⟩
    have BW := (HB2 (.cells #[.int .i64 o1, .int .i64 s1] 34) (.cells #[.int .i64 o2, .int .i64 s2] 34))
    have BX := BW.trans (hb.mono BW.size)
    go_wp2
    go_ret
    exact ⟨rfl, BX⟩

set_option maxHeartbeats 4000000 in
theorem sLess_any (o1 s1 o2 s2 : Int) (w : World) : Calls Try.prog 12 #[coV o1 s1, coV o2 s2] w fun e w' => e = .returned (.bool (lessC o1 s1 o2 s2)) ∧ Below w.heap.size w w' := by
  show Calls _ _ #[.agg #[.int .i64 o1, .int .i64 s1], .agg #[.int .i64 o2, .int .i64 s2]] _ _
  have HB2 : ∀ a b : Obj, Below w.heap.size w ((w.alloc a).alloc b) := fun a b => ((Below.refl _ _).alloc (Nat.le_refl _) _).alloc (by simp) _
  by_cases h1 : o1 < o2
  · rw [show lessC o1 s1 o2 s2 = true by unfold lessC; rw [decide_eq_true_eq]; omega]
    go_enter Try.func12, Try.ntmps12
    go_wp2
    go_ret
    exact ⟨rfl, HB2 _ _⟩
  · by_cases h2 : o1 = o2
    · subst h2
      have h3 : (o1 == o1) = true := by simp
      by_cases h4 : s1 < s2
      · rw [show lessC o1 s1 o1 s2 = true by unfold lessC; rw [decide_eq_true_eq]; omega]
        go_enter Try.func12, Try.ntmps12
        go_wp2
        go_ret
        exact ⟨rfl, HB2 _ _⟩
      · rw [show lessC o1 s1 o1 s2 = false by unfold lessC; rw [decide_eq_false_iff_not]; omega]
        go_enter Try.func12, Try.ntmps12
        go_wp2
        go_ret
        exact ⟨rfl, HB2 _ _⟩
    · have h3 : (o1 == o2) = false := by simpa using h2
      rw [show lessC o1 s1 o2 s2 = false by unfold lessC; rw [decide_eq_false_iff_not]; omega]
      clear h2
      go_enter Try.func12, Try.ntmps12
      go_wp2
      go_ret
      exact ⟨rfl, HB2 _ _⟩
end Go.Proofs.Ytbjfkfohkpdlfaa
