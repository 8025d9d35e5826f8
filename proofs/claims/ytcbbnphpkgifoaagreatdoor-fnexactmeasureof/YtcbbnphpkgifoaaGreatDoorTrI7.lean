/- The form of a kind of node, how many Kids it may have, and what each must be: the program. By tools/rd/gti7.py. -/
import Derived.Test.YtcbbnphpkgifoaaGreatDoorKap
namespace Go.Proofs.YtcbbnphpkgifoaaGreatDoor
open Go.RowKit
set_option maxHeartbeats 4000000
set_option maxRecDepth 100000
def formV (k : Int) : Value :=
 if k = 1 then .iface 225 (.agg #[])
 else if k = 2 then .iface 225 (.agg #[])
 else if k = 3 then .iface 225 (.agg #[])
 else if k = 4 then .iface 227 (.agg #[.int .i64 0, .int .i64 12])
 else if k = 5 then .iface 227 (.agg #[.int .i64 1, .int .i64 12])
 else if k = 6 then .iface 227 (.agg #[.int .i64 1, .int .i64 1])
 else if k = 7 then .iface 227 (.agg #[.int .i64 2, .int .i64 12])
 else if k = 8 then .iface 227 (.agg #[.int .i64 3, .int .i64 3])
 else if k = 9 then .iface 229 (.agg #[.int .i64 1])
 else if k = 10 then .iface 230 (.agg #[])
 else if k = 11 then .iface 227 (.agg #[.int .i64 1, .int .i64 1])
 else if k = 12 then .iface 227 (.agg #[.int .i64 0, .int .i64 1])
 else if k = 13 then .iface 227 (.agg #[.int .i64 1, .int .i64 1])
 else if k = 14 then .iface 227 (.agg #[.int .i64 1, .int .i64 1])
 else if k = 15 then .iface 227 (.agg #[.int .i64 0, .int .i64 1])
 else if k = 16 then .iface 232 (.agg #[.int .i64 3])
 else if k = 17 then .iface 232 (.agg #[.int .i64 2])
 else if k = 18 then .iface 234 (.agg #[.int .i64 5])
 else if k = 19 then .iface 225 (.agg #[])
 else if k = 20 then .iface 229 (.agg #[.int .i64 4])
 else if k = 21 then .iface 234 (.agg #[.int .i64 6])
 else if k = 22 then .iface 234 (.agg #[.int .i64 7])
 else .nilIface
def cI (k : Int) (n : Nat) : Bool :=
 if k = 1 then decide (n = 0)
 else if k = 2 then decide (n = 0)
 else if k = 3 then decide (n = 0)
 else if k = 4 then decide (n ≤ 12)
 else if k = 5 then decide (1 ≤ n ∧ n ≤ 12)
 else if k = 6 then decide (n = 1)
 else if k = 7 then decide (2 ≤ n ∧ n ≤ 12)
 else if k = 8 then decide (n = 3)
 else if k = 9 then decide (1 ≤ n)
 else if k = 10 then decide (1 ≤ n)
 else if k = 11 then decide (n = 1)
 else if k = 12 then decide (n ≤ 1)
 else if k = 13 then decide (n = 1)
 else if k = 14 then decide (n = 1)
 else if k = 15 then decide (n ≤ 1)
 else if k = 16 then decide (2 ≤ n ∧ n ≤ 3)
 else if k = 17 then decide (n = 2)
 else if k = 18 then true
 else if k = 19 then decide (n = 0)
 else if k = 20 then decide (1 ≤ n)
 else if k = 21 then true
 else if k = 22 then true
 else false
theorem formV_no {k : Int} (h : ¬ (1 ≤ k ∧ k ≤ 22)) : formV k = .nilIface := by
 unfold formV
 rw [if_neg (show ¬ k = 1 by omega)]
 rw [if_neg (show ¬ k = 2 by omega)]
 rw [if_neg (show ¬ k = 3 by omega)]
 rw [if_neg (show ¬ k = 4 by omega)]
 rw [if_neg (show ¬ k = 5 by omega)]
 rw [if_neg (show ¬ k = 6 by omega)]
 rw [if_neg (show ¬ k = 7 by omega)]
 rw [if_neg (show ¬ k = 8 by omega)]
 rw [if_neg (show ¬ k = 9 by omega)]
 rw [if_neg (show ¬ k = 10 by omega)]
 rw [if_neg (show ¬ k = 11 by omega)]
 rw [if_neg (show ¬ k = 12 by omega)]
 rw [if_neg (show ¬ k = 13 by omega)]
 rw [if_neg (show ¬ k = 14 by omega)]
 rw [if_neg (show ¬ k = 15 by omega)]
 rw [if_neg (show ¬ k = 16 by omega)]
 rw [if_neg (show ¬ k = 17 by omega)]
 rw [if_neg (show ¬ k = 18 by omega)]
 rw [if_neg (show ¬ k = 19 by omega)]
 rw [if_neg (show ¬ k = 20 by omega)]
 rw [if_neg (show ¬ k = 21 by omega)]
 rw [if_neg (show ¬ k = 22 by omega)]
theorem cI_no {k : Int} {n : Nat} (h : ¬ (1 ≤ k ∧ k ≤ 22)) : cI k n = false := by
 unfold cI
 rw [if_neg (show ¬ k = 1 by omega)]
 rw [if_neg (show ¬ k = 2 by omega)]
 rw [if_neg (show ¬ k = 3 by omega)]
 rw [if_neg (show ¬ k = 4 by omega)]
 rw [if_neg (show ¬ k = 5 by omega)]
 rw [if_neg (show ¬ k = 6 by omega)]
 rw [if_neg (show ¬ k = 7 by omega)]
 rw [if_neg (show ¬ k = 8 by omega)]
 rw [if_neg (show ¬ k = 9 by omega)]
 rw [if_neg (show ¬ k = 10 by omega)]
 rw [if_neg (show ¬ k = 11 by omega)]
 rw [if_neg (show ¬ k = 12 by omega)]
 rw [if_neg (show ¬ k = 13 by omega)]
 rw [if_neg (show ¬ k = 14 by omega)]
 rw [if_neg (show ¬ k = 15 by omega)]
 rw [if_neg (show ¬ k = 16 by omega)]
 rw [if_neg (show ¬ k = 17 by omega)]
 rw [if_neg (show ¬ k = 18 by omega)]
 rw [if_neg (show ¬ k = 19 by omega)]
 rw [if_neg (show ¬ k = 20 by omega)]
 rw [if_neg (show ¬ k = 21 by omega)]
 rw [if_neg (show ¬ k = 22 by omega)]
theorem cI_iff {k : Int} {n : Nat} (h12 : n ≤ 12) (hc : k = 10 → n ≠ 1) : cI k n = true ↔ (1 ≤ k ∧ k ≤ 22) ∧ CntK k n := by
 by_cases h : 1 ≤ k ∧ k ≤ 22
 ·rcases kind_cases h with rfl | rfl | rfl | rfl | rfl | rfl | rfl | rfl | rfl | rfl | rfl | rfl | rfl | rfl | rfl | rfl | rfl | rfl | rfl | rfl | rfl | rfl
  all_goals simp [cI, CntK]
  all_goals omega
 ·rw [cI_no h]
  simp [h]
theorem iForm (k : Int) (w : World) : Calls Tryz.prog 203 #[.int .i64 k] w fun e w' => e = .returned (formV k) ∧ w' = w := by
 by_cases h : 1 ≤ k ∧ k ≤ 22
 ·rcases kind_cases h with rfl | rfl | rfl | rfl | rfl | rfl | rfl | rfl | rfl | rfl | rfl | rfl | rfl | rfl | rfl | rfl | rfl | rfl | rfl | rfl | rfl | rfl
  all_goals clear h
  all_goals go_enter Tryz.func203, Tryz.ntmps203
  all_goals go_wp2
  all_goals go_ret
  all_goals exact ⟨rfl, rfl⟩
 ·have HN := hidOf (formV_no h)
  have n1 : (k == 1) = false := by rw [beq_eq_false_iff_ne]; omega
  have n2 : (k == 2) = false := by rw [beq_eq_false_iff_ne]; omega
  have n3 : (k == 3) = false := by rw [beq_eq_false_iff_ne]; omega
  have n4 : (k == 4) = false := by rw [beq_eq_false_iff_ne]; omega
  have n5 : (k == 5) = false := by rw [beq_eq_false_iff_ne]; omega
  have n6 : (k == 6) = false := by rw [beq_eq_false_iff_ne]; omega
  have n7 : (k == 7) = false := by rw [beq_eq_false_iff_ne]; omega
  have n8 : (k == 8) = false := by rw [beq_eq_false_iff_ne]; omega
  have n9 : (k == 9) = false := by rw [beq_eq_false_iff_ne]; omega
  have n10 : (k == 10) = false := by rw [beq_eq_false_iff_ne]; omega
  have n11 : (k == 11) = false := by rw [beq_eq_false_iff_ne]; omega
  have n12 : (k == 12) = false := by rw [beq_eq_false_iff_ne]; omega
  have n13 : (k == 13) = false := by rw [beq_eq_false_iff_ne]; omega
  have n14 : (k == 14) = false := by rw [beq_eq_false_iff_ne]; omega
  have n15 : (k == 15) = false := by rw [beq_eq_false_iff_ne]; omega
  have n16 : (k == 16) = false := by rw [beq_eq_false_iff_ne]; omega
  have n17 : (k == 17) = false := by rw [beq_eq_false_iff_ne]; omega
  have n18 : (k == 18) = false := by rw [beq_eq_false_iff_ne]; omega
  have n19 : (k == 19) = false := by rw [beq_eq_false_iff_ne]; omega
  have n20 : (k == 20) = false := by rw [beq_eq_false_iff_ne]; omega
  have n21 : (k == 21) = false := by rw [beq_eq_false_iff_ne]; omega
  have n22 : (k == 22) = false := by rw [beq_eq_false_iff_ne]; omega
  clear h
  go_enter Tryz.func203, Tryz.ntmps203
  go_wp2
  go_ret
  exact ⟨by rw [HN.out]; rfl, rfl⟩
theorem taVV (v : Value) (w : World) : (Instr.typeAssert (.iface 227 v) 207 227 true).run Tryz.prog w = .ok (.tuple #[v, .bool true]) w := by
 unfold Instr.typeAssert
 rw [Sem.run_bind, run_underlying Tryz.underlying227, Result.andThen_ok]
 first | rfl | (dsimp only; simp [Sem.run_bind, Result.andThen_ok, Sem.run_pure])
theorem taNV (v : Value) (w : World) : (Instr.typeAssert (.iface 229 v) 207 227 true).run Tryz.prog w = .ok (.tuple #[.agg #[.int .i64 0, .int .i64 0], .bool false]) w := by
 unfold Instr.typeAssert
 rw [Sem.run_bind, run_underlying Tryz.underlying227, Result.andThen_ok]
 dsimp only
 simp [Result.andThen_ok]
theorem taNN (v : Value) (w : World) : (Instr.typeAssert (.iface 229 v) 207 229 true).run Tryz.prog w = .ok (.tuple #[v, .bool true]) w := by
 unfold Instr.typeAssert
 rw [Sem.run_bind, run_underlying Tryz.underlying229, Result.andThen_ok]
 first | rfl | (dsimp only; simp [Sem.run_bind, Result.andThen_ok, Sem.run_pure])
theorem taCV (v : Value) (w : World) : (Instr.typeAssert (.iface 230 v) 207 227 true).run Tryz.prog w = .ok (.tuple #[.agg #[.int .i64 0, .int .i64 0], .bool false]) w := by
 unfold Instr.typeAssert
 rw [Sem.run_bind, run_underlying Tryz.underlying227, Result.andThen_ok]
 dsimp only
 simp [Result.andThen_ok]
theorem taCN (v : Value) (w : World) : (Instr.typeAssert (.iface 230 v) 207 229 true).run Tryz.prog w = .ok (.tuple #[.agg #[.int .i64 0], .bool false]) w := by
 unfold Instr.typeAssert
 rw [Sem.run_bind, run_underlying Tryz.underlying229, Result.andThen_ok]
 dsimp only
 simp [Result.andThen_ok]
theorem taCC (v : Value) (w : World) : (Instr.typeAssert (.iface 230 v) 207 230 true).run Tryz.prog w = .ok (.tuple #[v, .bool true]) w := by
 unfold Instr.typeAssert
 rw [Sem.run_bind, run_underlying Tryz.underlying230, Result.andThen_ok]
 first | rfl | (dsimp only; simp [Sem.run_bind, Result.andThen_ok, Sem.run_pure])
theorem taBV (v : Value) (w : World) : (Instr.typeAssert (.iface 232 v) 207 227 true).run Tryz.prog w = .ok (.tuple #[.agg #[.int .i64 0, .int .i64 0], .bool false]) w := by
 unfold Instr.typeAssert
 rw [Sem.run_bind, run_underlying Tryz.underlying227, Result.andThen_ok]
 dsimp only
 simp [Result.andThen_ok]
theorem taBN (v : Value) (w : World) : (Instr.typeAssert (.iface 232 v) 207 229 true).run Tryz.prog w = .ok (.tuple #[.agg #[.int .i64 0], .bool false]) w := by
 unfold Instr.typeAssert
 rw [Sem.run_bind, run_underlying Tryz.underlying229, Result.andThen_ok]
 dsimp only
 simp [Result.andThen_ok]
theorem taBC (v : Value) (w : World) : (Instr.typeAssert (.iface 232 v) 207 230 true).run Tryz.prog w = .ok (.tuple #[.agg #[], .bool false]) w := by
 unfold Instr.typeAssert
 rw [Sem.run_bind, run_underlying Tryz.underlying230, Result.andThen_ok]
 dsimp only
 simp [Result.andThen_ok]
theorem taBB (v : Value) (w : World) : (Instr.typeAssert (.iface 232 v) 207 232 true).run Tryz.prog w = .ok (.tuple #[v, .bool true]) w := by
 unfold Instr.typeAssert
 rw [Sem.run_bind, run_underlying Tryz.underlying232, Result.andThen_ok]
 first | rfl | (dsimp only; simp [Sem.run_bind, Result.andThen_ok, Sem.run_pure])
theorem taDV (v : Value) (w : World) : (Instr.typeAssert (.iface 234 v) 207 227 true).run Tryz.prog w = .ok (.tuple #[.agg #[.int .i64 0, .int .i64 0], .bool false]) w := by
 unfold Instr.typeAssert
 rw [Sem.run_bind, run_underlying Tryz.underlying227, Result.andThen_ok]
 dsimp only
 simp [Result.andThen_ok]
theorem taDN (v : Value) (w : World) : (Instr.typeAssert (.iface 234 v) 207 229 true).run Tryz.prog w = .ok (.tuple #[.agg #[.int .i64 0], .bool false]) w := by
 unfold Instr.typeAssert
 rw [Sem.run_bind, run_underlying Tryz.underlying229, Result.andThen_ok]
 dsimp only
 simp [Result.andThen_ok]
theorem taDC (v : Value) (w : World) : (Instr.typeAssert (.iface 234 v) 207 230 true).run Tryz.prog w = .ok (.tuple #[.agg #[], .bool false]) w := by
 unfold Instr.typeAssert
 rw [Sem.run_bind, run_underlying Tryz.underlying230, Result.andThen_ok]
 dsimp only
 simp [Result.andThen_ok]
theorem taDB (v : Value) (w : World) : (Instr.typeAssert (.iface 234 v) 207 232 true).run Tryz.prog w = .ok (.tuple #[.agg #[.int .i64 0], .bool false]) w := by
 unfold Instr.typeAssert
 rw [Sem.run_bind, run_underlying Tryz.underlying232, Result.andThen_ok]
 dsimp only
 simp [Result.andThen_ok]
theorem taDD (v : Value) (w : World) : (Instr.typeAssert (.iface 234 v) 207 234 true).run Tryz.prog w = .ok (.tuple #[v, .bool true]) w := by
 unfold Instr.typeAssert
 rw [Sem.run_bind, run_underlying Tryz.underlying234, Result.andThen_ok]
 first | rfl | (dsimp only; simp [Sem.run_bind, Result.andThen_ok, Sem.run_pure])
theorem iRole4 (i n : Nat) (w : World) (_hn : n ≤ 12) (_hi : i < n) : Calls Tryz.prog 206 #[formV 4, .int .i64 (i : Int), .int .i64 (n : Int)] w fun e w' => e = .returned (.int .i64 ((roleK 4 i n : Nat) : Int)) ∧ Below w.heap.size w w' := by
 rw [show formV 4 = .iface 227 (.agg #[.int .i64 0, .int .i64 12]) from rfl]
 have HR := hidOf (show roleK 4 i n = 1 by simp [roleK])
 have tV := fun (v : Value) (W : World) => taVV v W
 go_enter Tryz.func206, Tryz.ntmps206
 go_wp2
 go_ret
 exact ⟨by rw [HR.out]; rfl, (by repeat first | exact Below.refl _ _ | refine Below.alloc ?_ (by simp) _ | refine Below.setCell ?_ (by simp) _ | refine Below.drew ?_)⟩
theorem iRole5 (i n : Nat) (w : World) (_hn : n ≤ 12) (_hi : i < n) : Calls Tryz.prog 206 #[formV 5, .int .i64 (i : Int), .int .i64 (n : Int)] w fun e w' => e = .returned (.int .i64 ((roleK 5 i n : Nat) : Int)) ∧ Below w.heap.size w w' := by
 rw [show formV 5 = .iface 227 (.agg #[.int .i64 1, .int .i64 12]) from rfl]
 have HR := hidOf (show roleK 5 i n = 1 by simp [roleK])
 have tV := fun (v : Value) (W : World) => taVV v W
 go_enter Tryz.func206, Tryz.ntmps206
 go_wp2
 go_ret
 exact ⟨by rw [HR.out]; rfl, (by repeat first | exact Below.refl _ _ | refine Below.alloc ?_ (by simp) _ | refine Below.setCell ?_ (by simp) _ | refine Below.drew ?_)⟩
theorem iRole6 (i n : Nat) (w : World) (_hn : n ≤ 12) (_hi : i < n) : Calls Tryz.prog 206 #[formV 6, .int .i64 (i : Int), .int .i64 (n : Int)] w fun e w' => e = .returned (.int .i64 ((roleK 6 i n : Nat) : Int)) ∧ Below w.heap.size w w' := by
 rw [show formV 6 = .iface 227 (.agg #[.int .i64 1, .int .i64 1]) from rfl]
 have HR := hidOf (show roleK 6 i n = 1 by simp [roleK])
 have tV := fun (v : Value) (W : World) => taVV v W
 go_enter Tryz.func206, Tryz.ntmps206
 go_wp2
 go_ret
 exact ⟨by rw [HR.out]; rfl, (by repeat first | exact Below.refl _ _ | refine Below.alloc ?_ (by simp) _ | refine Below.setCell ?_ (by simp) _ | refine Below.drew ?_)⟩
theorem iRole7 (i n : Nat) (w : World) (_hn : n ≤ 12) (_hi : i < n) : Calls Tryz.prog 206 #[formV 7, .int .i64 (i : Int), .int .i64 (n : Int)] w fun e w' => e = .returned (.int .i64 ((roleK 7 i n : Nat) : Int)) ∧ Below w.heap.size w w' := by
 rw [show formV 7 = .iface 227 (.agg #[.int .i64 2, .int .i64 12]) from rfl]
 have HR := hidOf (show roleK 7 i n = 1 by simp [roleK])
 have tV := fun (v : Value) (W : World) => taVV v W
 go_enter Tryz.func206, Tryz.ntmps206
 go_wp2
 go_ret
 exact ⟨by rw [HR.out]; rfl, (by repeat first | exact Below.refl _ _ | refine Below.alloc ?_ (by simp) _ | refine Below.setCell ?_ (by simp) _ | refine Below.drew ?_)⟩
theorem iRole8 (i n : Nat) (w : World) (_hn : n ≤ 12) (_hi : i < n) : Calls Tryz.prog 206 #[formV 8, .int .i64 (i : Int), .int .i64 (n : Int)] w fun e w' => e = .returned (.int .i64 ((roleK 8 i n : Nat) : Int)) ∧ Below w.heap.size w w' := by
 rw [show formV 8 = .iface 227 (.agg #[.int .i64 3, .int .i64 3]) from rfl]
 have HR := hidOf (show roleK 8 i n = 1 by simp [roleK])
 have tV := fun (v : Value) (W : World) => taVV v W
 go_enter Tryz.func206, Tryz.ntmps206
 go_wp2
 go_ret
 exact ⟨by rw [HR.out]; rfl, (by repeat first | exact Below.refl _ _ | refine Below.alloc ?_ (by simp) _ | refine Below.setCell ?_ (by simp) _ | refine Below.drew ?_)⟩
theorem iRole9 (i n : Nat) (w : World) (_hn : n ≤ 12) (_hi : i < n) : Calls Tryz.prog 206 #[formV 9, .int .i64 (i : Int), .int .i64 (n : Int)] w fun e w' => e = .returned (.int .i64 ((roleK 9 i n : Nat) : Int)) ∧ Below w.heap.size w w' := by
 rw [show formV 9 = .iface 229 (.agg #[.int .i64 1]) from rfl]
 by_cases hc : i + 1 < n
 ·have hd : decide ((i : Int) < (n : Int) - 1) = true := decide_eq_true (by omega)
  have HR := hidOf (show roleK 9 i n = 2 by simp [roleK, hc])
  clear hc
  have tV := fun (v : Value) (W : World) => taNV v W
  have tN := fun (v : Value) (W : World) => taNN v W
  go_enter Tryz.func206, Tryz.ntmps206
  go_wp2
  go_ret
  exact ⟨by rw [HR.out]; rfl, (by repeat first | exact Below.refl _ _ | refine Below.alloc ?_ (by simp) _ | refine Below.setCell ?_ (by simp) _ | refine Below.drew ?_)⟩
 ·have hd : decide ((i : Int) < (n : Int) - 1) = false := decide_eq_false (by omega)
  have HR := hidOf (show roleK 9 i n = 1 by simp [roleK, hc])
  clear hc
  have tV := fun (v : Value) (W : World) => taNV v W
  have tN := fun (v : Value) (W : World) => taNN v W
  go_enter Tryz.func206, Tryz.ntmps206
  go_wp2
  go_ret
  exact ⟨by rw [HR.out]; rfl, (by repeat first | exact Below.refl _ _ | refine Below.alloc ?_ (by simp) _ | refine Below.setCell ?_ (by simp) _ | refine Below.drew ?_)⟩
theorem iRole10 (i n : Nat) (w : World) (_hn : n ≤ 12) (_hi : i < n) : Calls Tryz.prog 206 #[formV 10, .int .i64 (i : Int), .int .i64 (n : Int)] w fun e w' => e = .returned (.int .i64 ((roleK 10 i n : Nat) : Int)) ∧ Below w.heap.size w w' := by
 rw [show formV 10 = .iface 230 (.agg #[]) from rfl]
 by_cases hc : 0 < i
 ·have hd : decide ((0 : Int) < (i : Int)) = true := decide_eq_true (by omega)
  have HR := hidOf (show roleK 10 i n = 3 by simp [roleK, hc])
  have hc2 : (0 : Int) < (i : Int) := by omega
  have hc3 : decide (0 < i) = true := decide_eq_true hc
  have tV := fun (v : Value) (W : World) => taCV v W
  have tN := fun (v : Value) (W : World) => taCN v W
  have tC := fun (v : Value) (W : World) => taCC v W
  go_enter Tryz.func206, Tryz.ntmps206
  go_wp2
  go_ret
  exact ⟨by rw [HR.out]; rfl, (by repeat first | exact Below.refl _ _ | refine Below.alloc ?_ (by simp) _ | refine Below.setCell ?_ (by simp) _ | refine Below.drew ?_)⟩
 ·have hd : decide ((0 : Int) < (i : Int)) = false := decide_eq_false (by omega)
  have HR := hidOf (show roleK 10 i n = 1 by simp [roleK, hc])
  have hc2 : ¬ (0 : Int) < (i : Int) := by omega
  have hc3 : decide (0 < i) = false := decide_eq_false hc
  have tV := fun (v : Value) (W : World) => taCV v W
  have tN := fun (v : Value) (W : World) => taCN v W
  have tC := fun (v : Value) (W : World) => taCC v W
  go_enter Tryz.func206, Tryz.ntmps206
  go_wp2
  go_ret
  exact ⟨by rw [HR.out]; rfl, (by repeat first | exact Below.refl _ _ | refine Below.alloc ?_ (by simp) _ | refine Below.setCell ?_ (by simp) _ | refine Below.drew ?_)⟩
theorem iRole11 (i n : Nat) (w : World) (_hn : n ≤ 12) (_hi : i < n) : Calls Tryz.prog 206 #[formV 11, .int .i64 (i : Int), .int .i64 (n : Int)] w fun e w' => e = .returned (.int .i64 ((roleK 11 i n : Nat) : Int)) ∧ Below w.heap.size w w' := by
 rw [show formV 11 = .iface 227 (.agg #[.int .i64 1, .int .i64 1]) from rfl]
 have HR := hidOf (show roleK 11 i n = 1 by simp [roleK])
 have tV := fun (v : Value) (W : World) => taVV v W
 go_enter Tryz.func206, Tryz.ntmps206
 go_wp2
 go_ret
 exact ⟨by rw [HR.out]; rfl, (by repeat first | exact Below.refl _ _ | refine Below.alloc ?_ (by simp) _ | refine Below.setCell ?_ (by simp) _ | refine Below.drew ?_)⟩
theorem iRole12 (i n : Nat) (w : World) (_hn : n ≤ 12) (_hi : i < n) : Calls Tryz.prog 206 #[formV 12, .int .i64 (i : Int), .int .i64 (n : Int)] w fun e w' => e = .returned (.int .i64 ((roleK 12 i n : Nat) : Int)) ∧ Below w.heap.size w w' := by
 rw [show formV 12 = .iface 227 (.agg #[.int .i64 0, .int .i64 1]) from rfl]
 have HR := hidOf (show roleK 12 i n = 1 by simp [roleK])
 have tV := fun (v : Value) (W : World) => taVV v W
 go_enter Tryz.func206, Tryz.ntmps206
 go_wp2
 go_ret
 exact ⟨by rw [HR.out]; rfl, (by repeat first | exact Below.refl _ _ | refine Below.alloc ?_ (by simp) _ | refine Below.setCell ?_ (by simp) _ | refine Below.drew ?_)⟩
theorem iRole13 (i n : Nat) (w : World) (_hn : n ≤ 12) (_hi : i < n) : Calls Tryz.prog 206 #[formV 13, .int .i64 (i : Int), .int .i64 (n : Int)] w fun e w' => e = .returned (.int .i64 ((roleK 13 i n : Nat) : Int)) ∧ Below w.heap.size w w' := by
 rw [show formV 13 = .iface 227 (.agg #[.int .i64 1, .int .i64 1]) from rfl]
 have HR := hidOf (show roleK 13 i n = 1 by simp [roleK])
 have tV := fun (v : Value) (W : World) => taVV v W
 go_enter Tryz.func206, Tryz.ntmps206
 go_wp2
 go_ret
 exact ⟨by rw [HR.out]; rfl, (by repeat first | exact Below.refl _ _ | refine Below.alloc ?_ (by simp) _ | refine Below.setCell ?_ (by simp) _ | refine Below.drew ?_)⟩
theorem iRole14 (i n : Nat) (w : World) (_hn : n ≤ 12) (_hi : i < n) : Calls Tryz.prog 206 #[formV 14, .int .i64 (i : Int), .int .i64 (n : Int)] w fun e w' => e = .returned (.int .i64 ((roleK 14 i n : Nat) : Int)) ∧ Below w.heap.size w w' := by
 rw [show formV 14 = .iface 227 (.agg #[.int .i64 1, .int .i64 1]) from rfl]
 have HR := hidOf (show roleK 14 i n = 1 by simp [roleK])
 have tV := fun (v : Value) (W : World) => taVV v W
 go_enter Tryz.func206, Tryz.ntmps206
 go_wp2
 go_ret
 exact ⟨by rw [HR.out]; rfl, (by repeat first | exact Below.refl _ _ | refine Below.alloc ?_ (by simp) _ | refine Below.setCell ?_ (by simp) _ | refine Below.drew ?_)⟩
theorem iRole15 (i n : Nat) (w : World) (_hn : n ≤ 12) (_hi : i < n) : Calls Tryz.prog 206 #[formV 15, .int .i64 (i : Int), .int .i64 (n : Int)] w fun e w' => e = .returned (.int .i64 ((roleK 15 i n : Nat) : Int)) ∧ Below w.heap.size w w' := by
 rw [show formV 15 = .iface 227 (.agg #[.int .i64 0, .int .i64 1]) from rfl]
 have HR := hidOf (show roleK 15 i n = 1 by simp [roleK])
 have tV := fun (v : Value) (W : World) => taVV v W
 go_enter Tryz.func206, Tryz.ntmps206
 go_wp2
 go_ret
 exact ⟨by rw [HR.out]; rfl, (by repeat first | exact Below.refl _ _ | refine Below.alloc ?_ (by simp) _ | refine Below.setCell ?_ (by simp) _ | refine Below.drew ?_)⟩
theorem iRole16 (i n : Nat) (w : World) (_hn : n ≤ 12) (_hi : i < n) : Calls Tryz.prog 206 #[formV 16, .int .i64 (i : Int), .int .i64 (n : Int)] w fun e w' => e = .returned (.int .i64 ((roleK 16 i n : Nat) : Int)) ∧ Below w.heap.size w w' := by
 rw [show formV 16 = .iface 232 (.agg #[.int .i64 3]) from rfl]
 by_cases hc : 0 < i
 ·have hd : decide ((0 : Int) < (i : Int)) = true := decide_eq_true (by omega)
  have HR := hidOf (show roleK 16 i n = 4 by simp [roleK, hc])
  have hc2 : (0 : Int) < (i : Int) := by omega
  have hc3 : decide (0 < i) = true := decide_eq_true hc
  have tV := fun (v : Value) (W : World) => taBV v W
  have tN := fun (v : Value) (W : World) => taBN v W
  have tC := fun (v : Value) (W : World) => taBC v W
  have tB := fun (v : Value) (W : World) => taBB v W
  go_enter Tryz.func206, Tryz.ntmps206
  go_wp2
  go_ret
  exact ⟨by rw [HR.out]; rfl, (by repeat first | exact Below.refl _ _ | refine Below.alloc ?_ (by simp) _ | refine Below.setCell ?_ (by simp) _ | refine Below.drew ?_)⟩
 ·have hd : decide ((0 : Int) < (i : Int)) = false := decide_eq_false (by omega)
  have HR := hidOf (show roleK 16 i n = 1 by simp [roleK, hc])
  have hc2 : ¬ (0 : Int) < (i : Int) := by omega
  have hc3 : decide (0 < i) = false := decide_eq_false hc
  have tV := fun (v : Value) (W : World) => taBV v W
  have tN := fun (v : Value) (W : World) => taBN v W
  have tC := fun (v : Value) (W : World) => taBC v W
  have tB := fun (v : Value) (W : World) => taBB v W
  go_enter Tryz.func206, Tryz.ntmps206
  go_wp2
  go_ret
  exact ⟨by rw [HR.out]; rfl, (by repeat first | exact Below.refl _ _ | refine Below.alloc ?_ (by simp) _ | refine Below.setCell ?_ (by simp) _ | refine Below.drew ?_)⟩
theorem iRole17 (i n : Nat) (w : World) (_hn : n ≤ 12) (_hi : i < n) : Calls Tryz.prog 206 #[formV 17, .int .i64 (i : Int), .int .i64 (n : Int)] w fun e w' => e = .returned (.int .i64 ((roleK 17 i n : Nat) : Int)) ∧ Below w.heap.size w w' := by
 rw [show formV 17 = .iface 232 (.agg #[.int .i64 2]) from rfl]
 by_cases hc : 0 < i
 ·have hd : decide ((0 : Int) < (i : Int)) = true := decide_eq_true (by omega)
  have HR := hidOf (show roleK 17 i n = 4 by simp [roleK, hc])
  have hc2 : (0 : Int) < (i : Int) := by omega
  have hc3 : decide (0 < i) = true := decide_eq_true hc
  have tV := fun (v : Value) (W : World) => taBV v W
  have tN := fun (v : Value) (W : World) => taBN v W
  have tC := fun (v : Value) (W : World) => taBC v W
  have tB := fun (v : Value) (W : World) => taBB v W
  go_enter Tryz.func206, Tryz.ntmps206
  go_wp2
  go_ret
  exact ⟨by rw [HR.out]; rfl, (by repeat first | exact Below.refl _ _ | refine Below.alloc ?_ (by simp) _ | refine Below.setCell ?_ (by simp) _ | refine Below.drew ?_)⟩
 ·have hd : decide ((0 : Int) < (i : Int)) = false := decide_eq_false (by omega)
  have HR := hidOf (show roleK 17 i n = 1 by simp [roleK, hc])
  have hc2 : ¬ (0 : Int) < (i : Int) := by omega
  have hc3 : decide (0 < i) = false := decide_eq_false hc
  have tV := fun (v : Value) (W : World) => taBV v W
  have tN := fun (v : Value) (W : World) => taBN v W
  have tC := fun (v : Value) (W : World) => taBC v W
  have tB := fun (v : Value) (W : World) => taBB v W
  go_enter Tryz.func206, Tryz.ntmps206
  go_wp2
  go_ret
  exact ⟨by rw [HR.out]; rfl, (by repeat first | exact Below.refl _ _ | refine Below.alloc ?_ (by simp) _ | refine Below.setCell ?_ (by simp) _ | refine Below.drew ?_)⟩
theorem iRole18 (i n : Nat) (w : World) (_hn : n ≤ 12) (_hi : i < n) : Calls Tryz.prog 206 #[formV 18, .int .i64 (i : Int), .int .i64 (n : Int)] w fun e w' => e = .returned (.int .i64 ((roleK 18 i n : Nat) : Int)) ∧ Below w.heap.size w w' := by
 rw [show formV 18 = .iface 234 (.agg #[.int .i64 5]) from rfl]
 have HR := hidOf (show roleK 18 i n = 5 by simp [roleK])
 have tV := fun (v : Value) (W : World) => taDV v W
 have tN := fun (v : Value) (W : World) => taDN v W
 have tC := fun (v : Value) (W : World) => taDC v W
 have tB := fun (v : Value) (W : World) => taDB v W
 have tD := fun (v : Value) (W : World) => taDD v W
 go_enter Tryz.func206, Tryz.ntmps206
 go_wp2
 go_ret
 exact ⟨by rw [HR.out]; rfl, (by repeat first | exact Below.refl _ _ | refine Below.alloc ?_ (by simp) _ | refine Below.setCell ?_ (by simp) _ | refine Below.drew ?_)⟩
theorem iRole20 (i n : Nat) (w : World) (_hn : n ≤ 12) (_hi : i < n) : Calls Tryz.prog 206 #[formV 20, .int .i64 (i : Int), .int .i64 (n : Int)] w fun e w' => e = .returned (.int .i64 ((roleK 20 i n : Nat) : Int)) ∧ Below w.heap.size w w' := by
 rw [show formV 20 = .iface 229 (.agg #[.int .i64 4]) from rfl]
 by_cases hc : i + 1 < n
 ·have hd : decide ((i : Int) < (n : Int) - 1) = true := decide_eq_true (by omega)
  have HR := hidOf (show roleK 20 i n = 2 by simp [roleK, hc])
  clear hc
  have tV := fun (v : Value) (W : World) => taNV v W
  have tN := fun (v : Value) (W : World) => taNN v W
  go_enter Tryz.func206, Tryz.ntmps206
  go_wp2
  go_ret
  exact ⟨by rw [HR.out]; rfl, (by repeat first | exact Below.refl _ _ | refine Below.alloc ?_ (by simp) _ | refine Below.setCell ?_ (by simp) _ | refine Below.drew ?_)⟩
 ·have hd : decide ((i : Int) < (n : Int) - 1) = false := decide_eq_false (by omega)
  have HR := hidOf (show roleK 20 i n = 4 by simp [roleK, hc])
  clear hc
  have tV := fun (v : Value) (W : World) => taNV v W
  have tN := fun (v : Value) (W : World) => taNN v W
  go_enter Tryz.func206, Tryz.ntmps206
  go_wp2
  go_ret
  exact ⟨by rw [HR.out]; rfl, (by repeat first | exact Below.refl _ _ | refine Below.alloc ?_ (by simp) _ | refine Below.setCell ?_ (by simp) _ | refine Below.drew ?_)⟩
theorem iRole21 (i n : Nat) (w : World) (_hn : n ≤ 12) (_hi : i < n) : Calls Tryz.prog 206 #[formV 21, .int .i64 (i : Int), .int .i64 (n : Int)] w fun e w' => e = .returned (.int .i64 ((roleK 21 i n : Nat) : Int)) ∧ Below w.heap.size w w' := by
 rw [show formV 21 = .iface 234 (.agg #[.int .i64 6]) from rfl]
 have HR := hidOf (show roleK 21 i n = 6 by simp [roleK])
 have tV := fun (v : Value) (W : World) => taDV v W
 have tN := fun (v : Value) (W : World) => taDN v W
 have tC := fun (v : Value) (W : World) => taDC v W
 have tB := fun (v : Value) (W : World) => taDB v W
 have tD := fun (v : Value) (W : World) => taDD v W
 go_enter Tryz.func206, Tryz.ntmps206
 go_wp2
 go_ret
 exact ⟨by rw [HR.out]; rfl, (by repeat first | exact Below.refl _ _ | refine Below.alloc ?_ (by simp) _ | refine Below.setCell ?_ (by simp) _ | refine Below.drew ?_)⟩
theorem iRole22 (i n : Nat) (w : World) (_hn : n ≤ 12) (_hi : i < n) : Calls Tryz.prog 206 #[formV 22, .int .i64 (i : Int), .int .i64 (n : Int)] w fun e w' => e = .returned (.int .i64 ((roleK 22 i n : Nat) : Int)) ∧ Below w.heap.size w w' := by
 rw [show formV 22 = .iface 234 (.agg #[.int .i64 7]) from rfl]
 have HR := hidOf (show roleK 22 i n = 7 by simp [roleK])
 have tV := fun (v : Value) (W : World) => taDV v W
 have tN := fun (v : Value) (W : World) => taDN v W
 have tC := fun (v : Value) (W : World) => taDC v W
 have tB := fun (v : Value) (W : World) => taDB v W
 have tD := fun (v : Value) (W : World) => taDD v W
 go_enter Tryz.func206, Tryz.ntmps206
 go_wp2
 go_ret
 exact ⟨by rw [HR.out]; rfl, (by repeat first | exact Below.refl _ _ | refine Below.alloc ?_ (by simp) _ | refine Below.setCell ?_ (by simp) _ | refine Below.drew ?_)⟩
end Go.Proofs.YtcbbnphpkgifoaaGreatDoor
