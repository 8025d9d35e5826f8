/- What the laws' helper sameExact tells of two lists of the same signs. -/
import Derived.Test.YtmmefiaommfpkaaDoorProg
import Derived.Test.YtmmefiaommfpkaaDoorSgLib
import Derived.BigQuiet
import Derived.Deep.QuietTactic
import Derived.Laws.StructEq
namespace Go.Proofs.YtmmefiaommfpkaaDoor
open Go.RowKit

theorem sgGuard (x : Sg) (op : BinOp) (a b : Operand) (w : World) : (eqGuard op 30 a b (.agg #[.int .i64 x.kind, .string x.text, .int .i64 x.place, .bool x.blank]) (.agg #[.int .i64 x.kind, .string x.text, .int .i64 x.place, .bool x.blank])).run Tryd.prog w = .ok () w :=
  run_eqGuard_agg w op 30 a b _ _ (by kernel_rfl)
theorem sgNeq (x : Sg) (w : World) : (binOp .neq 30 (.agg #[.int .i64 x.kind, .string x.text, .int .i64 x.place, .bool x.blank]) (.agg #[.int .i64 x.kind, .string x.text, .int .i64 x.place, .bool x.blank])).run Tryd.prog w = .ok (.bool false) w := by
  have u3 := Tryd.underlying3
  have a3 := Tryd.isAgg3
  have z3 := Tryd.sizeOf3
  have u9 := Tryd.underlying9
  have a9 := Tryd.isAgg9
  have z9 := Tryd.sizeOf9
  have u4 := Tryd.underlying4
  have a4 := Tryd.isAgg4
  have z4 := Tryd.sizeOf4
  have hS : Tryd.prog.underlying 30 = some (.struct (Tryd.prog.fieldsOf 30)) := by kernel_rfl
  have hp : Tryd.prog.stoodInHeld 30 = false := by kernel_rfl
  rw [run_neq_struct, show (10000 : Nat) = 9999 + 1 from rfl, run_equalIn_agg w 9999 30 _ _ hS hp]
  simp only [Program.fieldsOf, Tryd.underlying30]
  go_simp

set_option maxHeartbeats 4000000 in
theorem exact_same (v1 v2 : Value) (xs : List Sg) (w : World) (hx0 : xs.length ≤ 4611686018427387904) (h1 : SgsAt w v1 xs) (h2 : SgsAt w v2 xs) :
    Calls Tryd.prog 15 #[v1, v2] w fun e w' => e = .returned (.bool true) ∧ Below w.heap.size w w' := by
  obtain ⟨a1, c1, rfl, h1⟩ := h1
  obtain ⟨a2, c2, rfl, h2⟩ := h2
  have hx := hx0
  clear hx0
  obtain ⟨n, hn⟩ : ∃ n, n = xs.length := ⟨_, rfl⟩
  rw [← hn] at h1 h2 hx
  rw [← hn]
  have HN := hidOf hn
  clear hn
  go_enter Tryd.func15, Tryd.ntmps15
  go_wp2
  go_loopw [5] (fun i wr => ∃ k q : Nat, k ≤ n ∧ i = .int .i64 k ∧ wr = w.drewN q) (fun i _ => n - (intOf i).toNat)
  case atStart => exact ⟨0, 0, Nat.zero_le _, rfl, rfl⟩
  case round =>
    obtain ⟨k, q, hk, rfl, rfl⟩ := hrel
    by_cases hlt : k < n
    · obtain ⟨x, ex⟩ : ∃ x, xs[k]? = some x := ⟨_, List.getElem?_eq_getElem (by rw [← HN.out]; exact hlt)⟩
      obtain ⟨b1, o1, rfl, hb1, hc1⟩ := h1 (by omega)
      obtain ⟨b2, o2, rfl, hb2, hc2⟩ := h2 (by omega)
      obtain ⟨p0, p1, p2, p3⟩ := cells4 (w := w) (fun j hj => hc1 k x ex j hj)
      obtain ⟨q0, q1, q2, q3⟩ := cells4 (w := w) (fun j hj => hc2 k x ex j hj)
      clear ex hc1 hc2 h1 h2
      have hA : (0 : Int) ≤ (k : Int) := by omega
      have hB : (k : Int) < (n : Int) := by omega
      have hG := sgGuard x
      have hQ := sgNeq x
      go_wp2
      go_quiet (fail)
      go_wp2
      go_roundw
      case rel => exact ⟨k + 1, q + nq, by omega, by go_num, rfl⟩
      case measure => simp [intOf]; omega
    · go_wp2
      go_ret
      exact ⟨rfl, below_drewN _ _⟩
end Go.Proofs.YtmmefiaommfpkaaDoor
