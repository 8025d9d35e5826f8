/- The door of the program's reader: a fault in the midst of it ends here. -/
import Derived.Test.YtcbbnphpkgifoaaGreatDoorRdI14
import Derived.Defers
import Derived.Recover
namespace Go.Proofs.YtcbbnphpkgifoaaGreatDoor
open Go.RowKit
set_option maxHeartbeats 1000000
set_option maxRecDepth 100000
section
variable {P : Program} {ops : Array Oper} {Q : Exit → Act → List Frame → World → Prop} {i : Nat} {rest : List Nat} {a : Act} {cs cs' : List Frame} {w w' : World} {o : Oper} {v : Value}
theorem opsS_val (ho : ops[i]? = some o) (hg : o.guard = none) (hr : (execOp a.eval o).run P w = .ok (.value v) w') (h : wpOpsS P ops Q rest (a.put o.dst v) cs w') : wpOpsS P ops Q (i :: rest) a cs w := by
 have hw : Region.wanted o (yielded ops a.tmps) = true := by simp [Region.wanted, hg]
 simp only [wpOpsS, ho, hw, if_true, hr, Oper.upon]
 exact h
theorem opsS_skip (ho : ops[i]? = some o) (hg : o.guard = none) (hr : (execOp a.eval o).run P w = .ok .skip w') (h : wpOpsS P ops Q rest (a.put o.dst undef) cs w') : wpOpsS P ops Q (i :: rest) a cs w := by
 have hw : Region.wanted o (yielded ops a.tmps) = true := by simp [Region.wanted, hg]
 simp only [wpOpsS, ho, hw, if_true, hr, Oper.upon]
 exact h
theorem opsS_rec (ho : ops[i]? = some o) (hg : o.guard = none) (hr : (execOp a.eval o).run P w = .ok .recover w') (hd : recoverD cs = some (v, cs')) (h : wpOpsS P ops Q rest (a.put o.dst v) cs' w') : wpOpsS P ops Q (i :: rest) a cs w := by
 have hw : Region.wanted o (yielded ops a.tmps) = true := by simp [Region.wanted, hg]
 simp only [wpOpsS, ho, hw, if_true, hr, hd]
 exact h
theorem opsS_nil (ho : ops[i]? = some o) (hg : o.guard = none) (hr : (execOp a.eval o).run P w = .ok .recover w') (hd : recoverD cs = none) (h : wpOpsS P ops Q rest (a.put o.dst .nilIface) cs w') : wpOpsS P ops Q (i :: rest) a cs w := by
 have hw : Region.wanted o (yielded ops a.tmps) = true := by simp [Region.wanted, hg]
 simp only [wpOpsS, ho, hw, if_true, hr, hd]
 exact h
end
abbrev fV (pl : Int) : Value := .iface 158 (.agg #[.int .i64 pl])
theorem ta_yes (pl : Int) (w : World) : (Instr.typeAssert (fV pl) 20 158 true).run Tryz.prog w = .ok (.tuple #[.agg #[.int .i64 pl], .bool true]) w := by
 unfold Instr.typeAssert
 rw [Sem.run_bind, run_underlying Tryz.underlying158, Result.andThen_ok]
 rfl
theorem zero_ft (w : World) : (zeroValue 158).run Tryz.prog w = .ok (.agg #[.int .i64 0]) w := by kernel_rfl
theorem ta_no (w : World) : (Instr.typeAssert .nilIface 20 158 true).run Tryz.prog w = .ok (.tuple #[.agg #[.int .i64 0], .bool false]) w := by
 unfold Instr.typeAssert
 rw [Sem.run_bind, run_underlying Tryz.underlying158, Result.andThen_ok]
 dsimp only
 simp only [if_true, Sem.run_bind, zero_ft, Result.andThen_ok, Sem.run_pure]
theorem ta_run {P : Program} {w : World} {a : Act} {o : Oper} {x : Operand} {t1 t2 : TypeId} {c : Bool} {y v : Value} (ho : o.op = .typeAssert x t1 t2 c) (hx : a.eval x = y) (h : (Instr.typeAssert y t1 t2 c).run P w = .ok v w) : (execOp a.eval o).run P w = .ok (.value v) w := by
 unfold execOp
 simp only [ho, hx, Sem.run_bind, h, Result.andThen_ok, Sem.run_pure]
theorem rsDoor_idle (b0 b1 b2 : Nat) (w : World) :
  CallsD Tryz.prog 105 #[.pointer (some ⟨b0, 0, none⟩), .pointer (some ⟨b1, 0, none⟩), .pointer (some ⟨b2, 0, none⟩)] .returning w fun e u' w' => e = .returned (.tuple #[]) ∧ u' = .returning ∧ w' = w.alloc (.cells #[.int .i64 0] 158) := by
 refine callsD_of_wpS Tryz.func105 rfl fun c₀ cs hu => ?_
 apply wpS_seq
 apply wpS_region
 rw [show (#[Value.pointer (some ⟨b0, 0, none⟩), .pointer (some ⟨b1, 0, none⟩), .pointer (some ⟨b2, 0, none⟩)] ++ Array.replicate (Tryz.f105.ntmps - #[Value.pointer (some ⟨b0, 0, none⟩), .pointer (some ⟨b1, 0, none⟩), .pointer (some ⟨b2, 0, none⟩)].size) undef) = #[Value.pointer (some ⟨b0, 0, none⟩), .pointer (some ⟨b1, 0, none⟩), .pointer (some ⟨b2, 0, none⟩), undef, undef, undef, undef, undef, undef, undef, undef, undef, undef] by kernel_rfl]
 refine opsS_nil (w' := w) rfl rfl (by kernel_rfl) (by simp only [recoverD, hu]) ?_
 show wpOpsS _ _ _ [1, 2, 3, 4, 5, 6, 7] (⟨#[.pointer (some ⟨b0, 0, none⟩), .pointer (some ⟨b1, 0, none⟩), .pointer (some ⟨b2, 0, none⟩), undef, undef, undef, .nilIface, undef, undef, undef, undef, undef, undef], []⟩ : Act) _ w
 refine opsS_val (v := .tuple #[.agg #[.int .i64 0], .bool false]) (w' := w) rfl rfl (ta_run (y := .nilIface) rfl rfl (ta_no w)) ?_
 show wpOpsS _ _ _ [2, 3, 4, 5, 6, 7] (⟨#[.pointer (some ⟨b0, 0, none⟩), .pointer (some ⟨b1, 0, none⟩), .pointer (some ⟨b2, 0, none⟩), undef, undef, undef, .nilIface, .tuple #[.agg #[.int .i64 0], .bool false], undef, undef, undef, undef, undef], []⟩ : Act) _ w
 refine opsS_val (v := .tuple #[.agg #[.int .i64 0], .bool false]) (w' := w) rfl rfl rfl ?_
 show wpOpsS _ _ _ [3, 4, 5, 6, 7] (⟨#[.pointer (some ⟨b0, 0, none⟩), .pointer (some ⟨b1, 0, none⟩), .pointer (some ⟨b2, 0, none⟩), undef, undef, .tuple #[.agg #[.int .i64 0], .bool false], .nilIface, .tuple #[.agg #[.int .i64 0], .bool false], undef, undef, undef, undef, undef], []⟩ : Act) _ w
 refine opsS_val (v := .agg #[.int .i64 0]) (w' := w) rfl rfl rfl ?_
 show wpOpsS _ _ _ [4, 5, 6, 7] (⟨#[.pointer (some ⟨b0, 0, none⟩), .pointer (some ⟨b1, 0, none⟩), .pointer (some ⟨b2, 0, none⟩), undef, undef, .tuple #[.agg #[.int .i64 0], .bool false], .nilIface, .tuple #[.agg #[.int .i64 0], .bool false], .agg #[.int .i64 0], undef, undef, undef, undef], []⟩ : Act) _ w
 refine opsS_val (v := .bool false) (w' := w) rfl rfl rfl ?_
 show wpOpsS _ _ _ [5, 6, 7] (⟨#[.pointer (some ⟨b0, 0, none⟩), .pointer (some ⟨b1, 0, none⟩), .pointer (some ⟨b2, 0, none⟩), undef, undef, .tuple #[.agg #[.int .i64 0], .bool false], .nilIface, .tuple #[.agg #[.int .i64 0], .bool false], .agg #[.int .i64 0], .bool false, undef, undef, undef], []⟩ : Act) _ w
 refine opsS_val (v := .pointer (some ⟨w.heap.size, 0, none⟩)) (w' := (w.alloc (.cells #[.int .i64 0] 158))) rfl rfl (by kernel_rfl) ?_
 show wpOpsS _ _ _ [6, 7] (⟨#[.pointer (some ⟨b0, 0, none⟩), .pointer (some ⟨b1, 0, none⟩), .pointer (some ⟨b2, 0, none⟩), .pointer (some ⟨w.heap.size, 0, none⟩), undef, .tuple #[.agg #[.int .i64 0], .bool false], .nilIface, .tuple #[.agg #[.int .i64 0], .bool false], .agg #[.int .i64 0], .bool false, undef, undef, undef], []⟩ : Act) _ (w.alloc (.cells #[.int .i64 0] 158))
 refine opsS_skip (w' := (w.alloc (.cells #[.int .i64 0] 158))) rfl rfl (by go_simp) ?_
 show wpOpsS _ _ _ [7] (⟨#[.pointer (some ⟨b0, 0, none⟩), .pointer (some ⟨b1, 0, none⟩), .pointer (some ⟨b2, 0, none⟩), .pointer (some ⟨w.heap.size, 0, none⟩), undef, .tuple #[.agg #[.int .i64 0], .bool false], .nilIface, .tuple #[.agg #[.int .i64 0], .bool false], .agg #[.int .i64 0], .bool false, undef, undef, undef], []⟩ : Act) _ (w.alloc (.cells #[.int .i64 0] 158))
 refine opsS_val (v := .bool false) (w' := (w.alloc (.cells #[.int .i64 0] 158))) rfl rfl rfl ?_
 show wpOpsS _ _ _ [] (⟨#[.pointer (some ⟨b0, 0, none⟩), .pointer (some ⟨b1, 0, none⟩), .pointer (some ⟨b2, 0, none⟩), .pointer (some ⟨w.heap.size, 0, none⟩), .bool false, .tuple #[.agg #[.int .i64 0], .bool false], .nilIface, .tuple #[.agg #[.int .i64 0], .bool false], .agg #[.int .i64 0], .bool false, undef, undef, undef], []⟩ : Act) _ (w.alloc (.cells #[.int .i64 0] 158))
 show Code.wpS _ _ _ (⟨#[.pointer (some ⟨b0, 0, none⟩), .pointer (some ⟨b1, 0, none⟩), .pointer (some ⟨b2, 0, none⟩), .pointer (some ⟨w.heap.size, 0, none⟩), .bool false, .tuple #[.agg #[.int .i64 0], .bool false], .nilIface, .tuple #[.agg #[.int .i64 0], .bool false], .agg #[.int .i64 0], .bool false, undef, undef, undef], []⟩ : Act) _ (w.alloc (.cells #[.int .i64 0] 158))
 apply wpS_seq
 apply wpS_region
 refine opsS_val (v := .bool false) (w' := w.alloc (.cells #[.int .i64 0] 158)) rfl rfl rfl ?_
 show Code.wpS _ _ _ (⟨#[.pointer (some ⟨b0, 0, none⟩), .pointer (some ⟨b1, 0, none⟩), .pointer (some ⟨b2, 0, none⟩), .pointer (some ⟨w.heap.size, 0, none⟩), .bool false, .tuple #[.agg #[.int .i64 0], .bool false], .nilIface, .tuple #[.agg #[.int .i64 0], .bool false], .agg #[.int .i64 0], .bool false, .bool false, undef, undef], []⟩ : Act) _ (w.alloc (.cells #[.int .i64 0] 158))
 refine wpS_cond (t := false) rfl ?_
 rw [if_neg Bool.false_ne_true]
 refine wpS_of_wp (Go.wp_skip ?_)
 cases c₀
 simp_all [bodyPostS, results, Tryz.results105]
set_option maxHeartbeats 1000000 in
set_option maxRecDepth 100000 in
theorem rsDoor_panics (b0 b1 b2 : Nat) (pl : Int) (w : World) (x1 : Int) (x2 : Bool) (h0 : w.cell? ⟨b0, 0, none⟩ = some (.slice none 0 0)) (h1 : w.cell? ⟨b1, 0, none⟩ = some (.int .i64 x1)) (h2 : w.cell? ⟨b2, 0, none⟩ = some (.bool x2)) (z0 : w.frozen? ⟨b0, 0, none⟩ = false) (z1 : w.frozen? ⟨b1, 0, none⟩ = false) (z2 : w.frozen? ⟨b2, 0, none⟩ = false) (l0 : b0 < w.heap.size) (l1 : b1 < w.heap.size) (l2 : b2 < w.heap.size) (n10 : ¬ b1 = b0) (n20 : ¬ b2 = b0) (n21 : ¬ b2 = b1) :
  CallsD Tryz.prog 105 #[.pointer (some ⟨b0, 0, none⟩), .pointer (some ⟨b1, 0, none⟩), .pointer (some ⟨b2, 0, none⟩)] (.panicking [{ v := fV pl, recovered := false }]) w fun e u' w' => e = .returned (.tuple #[]) ∧ u' = .panicking [{ v := fV pl, recovered := true }] ∧ w' = ((((w.setCell ⟨b0, 0, none⟩ (.slice none 0 0)).setCell ⟨b1, 0, none⟩ (.int .i64 pl)).setCell ⟨b2, 0, none⟩ (.bool false)).alloc (.cells #[.int .i64 pl] 158)).drew := by
 refine callsD_of_wpS Tryz.func105 rfl fun c₀ cs hu => ?_
 have hrec : recoverD (c₀ :: cs) = some (fV pl, { c₀ with mode := .panicking [{ v := fV pl, recovered := true }] } :: cs) := by simp only [recoverD, hu]
 have hta := fun w => ta_yes pl w
 obtain ⟨c1, hc1⟩ : ∃ c1, c1 = ({ c₀ with mode := .panicking [{ v := fV pl, recovered := true }] } : Frame) := ⟨_, rfl⟩
 rw [← hc1] at hrec
 obtain ⟨y, hy⟩ : ∃ y, y = fV pl := ⟨_, rfl⟩
 rw [← hy] at hrec
 have hta2 : ∀ w, (Instr.typeAssert y 20 158 true).run Tryz.prog w = .ok (.tuple #[.agg #[.int .i64 pl], .bool true]) w := by rw [hy]; exact hta
 obtain ⟨ag, hag⟩ : ∃ ag, ag = Value.agg #[.int .i64 pl] := ⟨_, rfl⟩
 rw [← hag] at hta2
 have HC := hidOf hc1
 have HY := hidOf hy
 have HG := hidOf hag
 have HU := hidOf hu
 clear hta hc1 hy hag hu
 apply wpS_seq
 apply wpS_region
 rw [show (#[Value.pointer (some ⟨b0, 0, none⟩), .pointer (some ⟨b1, 0, none⟩), .pointer (some ⟨b2, 0, none⟩)] ++ Array.replicate (Tryz.f105.ntmps - #[Value.pointer (some ⟨b0, 0, none⟩), .pointer (some ⟨b1, 0, none⟩), .pointer (some ⟨b2, 0, none⟩)].size) undef) = #[Value.pointer (some ⟨b0, 0, none⟩), .pointer (some ⟨b1, 0, none⟩), .pointer (some ⟨b2, 0, none⟩), undef, undef, undef, undef, undef, undef, undef, undef, undef, undef] by kernel_rfl]
 refine opsS_rec (v := y) (cs' := c1 :: cs) (w' := w) rfl rfl (by kernel_rfl) hrec ?_
 show wpOpsS _ _ _ [1, 2, 3, 4, 5, 6, 7] (⟨#[.pointer (some ⟨b0, 0, none⟩), .pointer (some ⟨b1, 0, none⟩), .pointer (some ⟨b2, 0, none⟩), undef, undef, undef, y, undef, undef, undef, undef, undef, undef], []⟩ : Act) _ w
 refine opsS_val (v := .tuple #[ag, .bool true]) (w' := w) rfl rfl (ta_run (y := y) rfl rfl (hta2 w)) ?_
 show wpOpsS _ _ _ [2, 3, 4, 5, 6, 7] (⟨#[.pointer (some ⟨b0, 0, none⟩), .pointer (some ⟨b1, 0, none⟩), .pointer (some ⟨b2, 0, none⟩), undef, undef, undef, y, .tuple #[ag, .bool true], undef, undef, undef, undef, undef], []⟩ : Act) _ w
 refine opsS_val (v := .tuple #[ag, .bool true]) (w' := w) rfl rfl rfl ?_
 show wpOpsS _ _ _ [3, 4, 5, 6, 7] (⟨#[.pointer (some ⟨b0, 0, none⟩), .pointer (some ⟨b1, 0, none⟩), .pointer (some ⟨b2, 0, none⟩), undef, undef, .tuple #[ag, .bool true], y, .tuple #[ag, .bool true], undef, undef, undef, undef, undef], []⟩ : Act) _ w
 refine opsS_val (v := ag) (w' := w) rfl rfl rfl ?_
 show wpOpsS _ _ _ [4, 5, 6, 7] (⟨#[.pointer (some ⟨b0, 0, none⟩), .pointer (some ⟨b1, 0, none⟩), .pointer (some ⟨b2, 0, none⟩), undef, undef, .tuple #[ag, .bool true], y, .tuple #[ag, .bool true], ag, undef, undef, undef, undef], []⟩ : Act) _ w
 refine opsS_val (v := .bool true) (w' := w) rfl rfl rfl ?_
 show wpOpsS _ _ _ [5, 6, 7] (⟨#[.pointer (some ⟨b0, 0, none⟩), .pointer (some ⟨b1, 0, none⟩), .pointer (some ⟨b2, 0, none⟩), undef, undef, .tuple #[ag, .bool true], y, .tuple #[ag, .bool true], ag, .bool true, undef, undef, undef], []⟩ : Act) _ w
 refine opsS_val (v := .pointer (some ⟨w.heap.size, 0, none⟩)) (w' := (w.alloc (.cells #[.int .i64 0] 158))) rfl rfl (by kernel_rfl) ?_
 show wpOpsS _ _ _ [6, 7] (⟨#[.pointer (some ⟨b0, 0, none⟩), .pointer (some ⟨b1, 0, none⟩), .pointer (some ⟨b2, 0, none⟩), .pointer (some ⟨w.heap.size, 0, none⟩), undef, .tuple #[ag, .bool true], y, .tuple #[ag, .bool true], ag, .bool true, undef, undef, undef], []⟩ : Act) _ (w.alloc (.cells #[.int .i64 0] 158))
 have hst := HG.out
 subst hst
 clear HG
 refine opsS_skip (w' := (w.alloc (.cells #[.int .i64 pl] 158))) rfl rfl (by go_simp) ?_
 show wpOpsS _ _ _ [7] (⟨#[.pointer (some ⟨b0, 0, none⟩), .pointer (some ⟨b1, 0, none⟩), .pointer (some ⟨b2, 0, none⟩), .pointer (some ⟨w.heap.size, 0, none⟩), undef, .tuple #[(.agg #[.int .i64 pl]), .bool true], y, .tuple #[(.agg #[.int .i64 pl]), .bool true], (.agg #[.int .i64 pl]), .bool true, undef, undef, undef], []⟩ : Act) _ (w.alloc (.cells #[.int .i64 pl] 158))
 refine opsS_val (v := .bool true) (w' := (w.alloc (.cells #[.int .i64 pl] 158))) rfl rfl rfl ?_
 show wpOpsS _ _ _ [] (⟨#[.pointer (some ⟨b0, 0, none⟩), .pointer (some ⟨b1, 0, none⟩), .pointer (some ⟨b2, 0, none⟩), .pointer (some ⟨w.heap.size, 0, none⟩), .bool true, .tuple #[(.agg #[.int .i64 pl]), .bool true], y, .tuple #[(.agg #[.int .i64 pl]), .bool true], (.agg #[.int .i64 pl]), .bool true, undef, undef, undef], []⟩ : Act) _ (w.alloc (.cells #[.int .i64 pl] 158))
 show Code.wpS _ _ _ (⟨#[.pointer (some ⟨b0, 0, none⟩), .pointer (some ⟨b1, 0, none⟩), .pointer (some ⟨b2, 0, none⟩), .pointer (some ⟨w.heap.size, 0, none⟩), .bool true, .tuple #[(.agg #[.int .i64 pl]), .bool true], y, .tuple #[(.agg #[.int .i64 pl]), .bool true], (.agg #[.int .i64 pl]), .bool true, undef, undef, undef], []⟩ : Act) _ (w.alloc (.cells #[.int .i64 pl] 158))
 apply wpS_seq
 apply wpS_region
 refine opsS_val (v := .bool true) (w' := (w.alloc (.cells #[.int .i64 pl] 158))) rfl rfl rfl ?_
 show Code.wpS _ _ _ (⟨#[.pointer (some ⟨b0, 0, none⟩), .pointer (some ⟨b1, 0, none⟩), .pointer (some ⟨b2, 0, none⟩), .pointer (some ⟨w.heap.size, 0, none⟩), .bool true, .tuple #[(.agg #[.int .i64 pl]), .bool true], y, .tuple #[(.agg #[.int .i64 pl]), .bool true], (.agg #[.int .i64 pl]), .bool true, .bool true, undef, undef], []⟩ : Act) _ (w.alloc (.cells #[.int .i64 pl] 158))
 refine wpS_cond (t := true) rfl ?_
 rw [if_pos rfl]
 refine wpS_of_wp ?_
 go_region
 all_goals exact ⟨rfl, _, by rw [HC.out], _, results_none rfl _ _ _, rfl, rfl, rfl⟩
def RsPost (B : Nat) (w : World) (o : Option (Nat × Ps)) (e : Ending) (w' : World) : Prop :=
 match o with
 | none => (∃ pl : Int, e = .returned (.tuple #[.slice none 0 0, .int .i64 pl, .bool false])) ∧ Below B w w'
 | some (_, s) => (∃ na nc qs, e = .returned (.tuple #[.slice na s.ns.length nc, .int .i64 0, .bool true]) ∧ Nds w' B na nc qs ∧ qs.map Np.nd = s.ns) ∧ Below B w w' ∧ s.ns.length ≤ 300
theorem far_of {w : World} {B e sz n b : Nat} {v : Value} {l : List Value} {cs : Array Value} {T : Nat} {z : Nat × Nat} (ho : w.ownsRow B e sz v n l) (hb : w.heap[b]? = some (.cells cs T z)) (hne : e ≠ T) : v.ownBlock = none ∨ v.ownBlock ≠ some b := by
 rcases ho.2 with ⟨rfl, _⟩ | ⟨g, cap, cur, rfl, _, hg, _⟩
 ·exact .inl rfl
 ·right
  intro h
  have e' : g = b := by injection h
  subst e'
  rw [hg] at hb
  injection hb with hb
  injection hb with _ hb _
  exact hne hb
theorem setGrown (w : World) (b o : Nat) (v : Value) : w.grownBy (w.setCell ⟨b, o, none⟩ v) (some b) := ⟨rfl, rfl, rfl, by simp, fun k _ hk => heap_setCell_other w _ k _ (fun e => hk (by rw [e]))⟩
theorem Nds.set {w : World} {B : Nat} {a : Option Addr} {c : Nat} {qs : List Np} (h : Nds w B a c qs) (b o : Nat) (v : Value) (h1 : (Value.slice a qs.length c).ownBlock = none ∨ (Value.slice a qs.length c).ownBlock ≠ some b) (h2 : ∀ q ∈ qs, (Value.slice q.a q.nd.kids.length q.c).ownBlock ≠ some b) : Nds (w.setCell ⟨b, o, none⟩ v) B a c qs :=
 ⟨h.row.kept (setGrown w b o v) h1, fun q hq => (h.each q hq).kept (setGrown w b o v) (.inr (h2 q hq))⟩
set_option maxHeartbeats 8000000 in
set_option maxRecDepth 100000 in
theorem iReadS {B : Nat} {xs : List Sg} {w : World} {sa : Option Addr} {sc : Nat} {en : Sg} {o : Option (Nat × Ps)} (hB : B ≤ w.heap.size) (ho : w.ownsRow B tSg 4 (.slice sa (xs.length + 1) sc) (xs.length + 1) (sgVals (xs ++ [en]))) (e1 : en.text = ByteArray.empty) (e2 : en.kind = 0) (e3 : en.blank = false) (hX : xs.length ≤ 3000) (hr : fileP xs = some o) :
  Calls Tryz.prog 65 #[.slice sa (xs.length + 1) sc] w (RsPost B w o) := by
 have hmf : ∀ (fn : Fn) (first cap : Array Value) (w : World), (Instr.makeFunc fn first cap).run Tryz.prog w = .ok (.func fn first cap) w := fun _ _ _ _ => rfl
 obtain ⟨U1, hU1⟩ : ∃ U1, U1 = w.alloc (.cells #[.slice none 0 0] 49) := ⟨_, rfl⟩
 obtain ⟨U2, hU2⟩ : ∃ U2, U2 = U1.alloc (.cells #[.int .i64 0] 3) := ⟨_, rfl⟩
 obtain ⟨U3, hU3⟩ : ∃ U3, U3 = U2.alloc (.cells #[.bool false] 4) := ⟨_, rfl⟩
 obtain ⟨W4, hW4⟩ : ∃ W4, W4 = U3.alloc (.cells #[.slice sa (xs.length + 1) sc, .int .i64 0, .int .i64 0, .slice none 0 0] tRd) := ⟨_, rfl⟩
 have s1 : U1.heap.size = w.heap.size + 1 := by rw [hU1]; simp
 have s2 : U2.heap.size = w.heap.size + 1 + 1 := by rw [hU2, ← s1]; simp
 have s3 : U3.heap.size = w.heap.size + 1 + 1 + 1 := by rw [hU3, ← s2]; simp
 have s4 : W4.heap.size = w.heap.size + 1 + 1 + 1 + 1 := by rw [hW4, ← s3]; simp
 have GR : W4.heap[w.heap.size + 1 + 1 + 1]? = some (.cells #[.slice sa (xs.length + 1) sc, .int .i64 0, .int .i64 0, .slice none 0 0] tRd (0, 0)) := by rw [hW4, ← s3]; exact heap_alloc_new U3 _
 have G2 : W4.heap[w.heap.size + 1 + 1]? = some (.cells #[.bool false] 4 (0, 0)) := by
  rw [hW4, heap_alloc_old U3 _ (by omega), hU3, ← s2]
  exact heap_alloc_new U2 _
 have G1 : W4.heap[w.heap.size + 1]? = some (.cells #[.int .i64 0] 3 (0, 0)) := by
  rw [hW4, heap_alloc_old U3 _ (by omega), hU3, heap_alloc_old U2 _ (by omega), hU2, ← s1]
  exact heap_alloc_new U1 _
 have G0 : W4.heap[w.heap.size]? = some (.cells #[.slice none 0 0] 49 (0, 0)) := by
  rw [hW4, heap_alloc_old U3 _ (by omega), hU3, heap_alloc_old U2 _ (by omega), hU2, heap_alloc_old U1 _ (by omega), hU1]
  exact heap_alloc_new w _
 have BW : Below w.heap.size w W4 := by
  rw [hW4, hU3, hU2, hU1]
  exact ((((Below.refl w.heap.size w).alloc (Nat.le_refl _) _).alloc (by simp) _).alloc (by simp; omega) _).alloc (by simp; omega) _
 have R4 : Rd B (w.heap.size + 1 + 1 + 1) xs (fun b => b = w.heap.size + 1) W4 ⟨0, 0, []⟩ := ⟨⟨by omega, Nat.zero_le _, Nat.zero_le _, sa, sc, none, 0, [], en, GR, owns_below ho BW, ⟨World.ownsRow_nil _ _ _ _, fun q hq => by simp at hq⟩, rfl, e1, e2, e3, fun q hq => by simp at hq⟩, Nat.zero_le _⟩
 have qF := iFile (o := o) R4 hX (fun b hb => by rw [hb, s4]; omega) hr
 have HBW := hidOf (BW.mono hB)
 rw [hU1] at hU2
 rw [hU2] at hU3
 rw [hU3] at hW4
 have HS := hidOf s4
 clear hU1 hU2 hU3 s1 s2 s3 s4 U1 U2 U3 GR R4 ho e1 e2 e3 hr BW
 go_enter_defers Tryz.func65, Tryz.ntmps65
 go_wp2_with fail
 rw [← hW4]
 clear hW4
 refine qF.mono ?_
 clear qF
 intro e w1 H
 rcases o with _ | ⟨k, s'⟩
 ·obtain ⟨F1, pl, rfl⟩ := H
  have g0 := F1.keep _ _ _ _ G0 (by decide) (by decide) (by decide)
  have g1 := F1.keep _ _ _ _ G1 (by decide) (by decide) (by decide)
  have g2 := F1.keep _ _ _ _ G2 (by decide) (by decide) (by decide)
  have hs : w.heap.size + 1 + 1 + 1 + 1 ≤ w1.heap.size := by rw [← HS.out]; exact F1.size
  have c0 : w1.cell? ⟨w.heap.size, 0, none⟩ = some (.slice none 0 0) := cell_of_row w1 _ 0 _ _ _ g0
  have c1 : w1.cell? ⟨w.heap.size + 1, 0, none⟩ = some (.int .i64 0) := cell_of_row w1 _ 0 _ _ _ g1
  have c2 : w1.cell? ⟨w.heap.size + 1 + 1, 0, none⟩ = some (.bool false) := cell_of_row w1 _ 0 _ _ _ g2
  have z0 := frozen_of_row w1 _ 0 _ _ g0
  have z1 := frozen_of_row w1 _ 0 _ _ g1
  have z2 := frozen_of_row w1 _ 0 _ _ g2
  show Leaves _ _ _ _ _ _ _
  refine leaves_cons (f := 105) (args := #[.pointer (some ⟨w.heap.size, 0, none⟩), .pointer (some ⟨w.heap.size + 1, 0, none⟩), .pointer (some ⟨w.heap.size + 1 + 1, 0, none⟩)]) (by simp) (by simp [go_sem]) ?_
  refine (rsDoor_panics _ _ _ pl w1 0 false c0 c1 c2 z0 z1 z2 (by omega) (by omega) (by omega) (by omega) (by omega) (by omega)).mono ?_
  rintro e u' w2 ⟨rfl, rfl, rfl⟩
  have hl0 : w.heap.size < w1.heap.size := by omega
  have hl1 : w.heap.size + 1 < w1.heap.size := by omega
  have hl2 : w.heap.size + 1 + 1 < w1.heap.size := by omega
  have hn1 : ¬ w.heap.size + 1 = w.heap.size := by omega
  have hn2 : ¬ w.heap.size + 1 + 1 = w.heap.size := by omega
  have hn3 : ¬ w.heap.size + 1 + 1 = w.heap.size + 1 := by omega
  have f0 : (((((w1.setCell ⟨w.heap.size, 0, none⟩ (.slice none 0 0)).setCell ⟨w.heap.size + 1, 0, none⟩ (.int .i64 pl)).setCell ⟨w.heap.size + 1 + 1, 0, none⟩ (.bool false)).alloc (.cells #[.int .i64 pl] 158)).drew).cell? ⟨w.heap.size, 0, none⟩ = some (.slice none 0 0) := by go_simp
  have f1 : (((((w1.setCell ⟨w.heap.size, 0, none⟩ (.slice none 0 0)).setCell ⟨w.heap.size + 1, 0, none⟩ (.int .i64 pl)).setCell ⟨w.heap.size + 1 + 1, 0, none⟩ (.bool false)).alloc (.cells #[.int .i64 pl] 158)).drew).cell? ⟨w.heap.size + 1, 0, none⟩ = some (.int .i64 pl) := by go_simp
  have f2 : (((((w1.setCell ⟨w.heap.size, 0, none⟩ (.slice none 0 0)).setCell ⟨w.heap.size + 1, 0, none⟩ (.int .i64 pl)).setCell ⟨w.heap.size + 1 + 1, 0, none⟩ (.bool false)).alloc (.cells #[.int .i64 pl] 158)).drew).cell? ⟨w.heap.size + 1 + 1, 0, none⟩ = some (.bool false) := by go_simp
  have fb : Below B w1 (((((w1.setCell ⟨w.heap.size, 0, none⟩ (.slice none 0 0)).setCell ⟨w.heap.size + 1, 0, none⟩ (.int .i64 pl)).setCell ⟨w.heap.size + 1 + 1, 0, none⟩ (.bool false)).alloc (.cells #[.int .i64 pl] 158)).drew) := bel_drewN (((((Below.refl B w1).setCell (by omega) _).setCell (by show B ≤ w.heap.size + 1; omega) _).setCell (by show B ≤ w.heap.size + 1 + 1; omega) _).alloc (by simp; omega) _) 1
  obtain ⟨Wf, hWf⟩ : ∃ Wf, Wf = ((((w1.setCell ⟨w.heap.size, 0, none⟩ (.slice none 0 0)).setCell ⟨w.heap.size + 1, 0, none⟩ (.int .i64 pl)).setCell ⟨w.heap.size + 1 + 1, 0, none⟩ (.bool false)).alloc (.cells #[.int .i64 pl] 158)).drew := ⟨_, rfl⟩
  rw [← hWf] at f0 f1 f2 fb
  rw [← hWf]
  have HB := hidOf (HBW.out.trans (F1.bel.trans fb))
  clear hWf fb c0 c1 c2 z0 z1 z2 g0 g1 g2 F1
  simp [Leaves, settle, results, Tryz.results65, go_sem, f0, f1, f2]
  exact ⟨⟨pl, rfl⟩, HB.out⟩
 ·obtain ⟨⟨rfl, hk⟩, R1, F1⟩ := H
  have g0 := F1.keep _ _ _ _ G0 (by decide) (by decide) (by decide)
  have g1 := F1.keep _ _ _ _ G1 (by decide) (by decide) (by decide)
  have g2 := F1.keep _ _ _ _ G2 (by decide) (by decide) (by decide)
  have hs : w.heap.size + 1 + 1 + 1 + 1 ≤ w1.heap.size := by rw [← HS.out]; exact F1.size
  have c0 : w1.cell? ⟨w.heap.size, 0, none⟩ = some (.slice none 0 0) := cell_of_row w1 _ 0 _ _ _ g0
  have c1 : w1.cell? ⟨w.heap.size + 1, 0, none⟩ = some (.int .i64 0) := cell_of_row w1 _ 0 _ _ _ g1
  have c2 : w1.cell? ⟨w.heap.size + 1 + 1, 0, none⟩ = some (.bool false) := cell_of_row w1 _ 0 _ _ _ g2
  have z0 := frozen_of_row w1 _ 0 _ _ g0
  have z1 := frozen_of_row w1 _ 0 _ _ g1
  have z2 := frozen_of_row w1 _ 0 _ _ g2
  obtain ⟨sa', sc', na, nc, qs, en', m1, -, m3, m4, -, -, -, m8⟩ := R1.mem
  have c3 : w1.cell? ⟨w.heap.size + 1 + 1 + 1, 3, none⟩ = some (.slice na s'.ns.length nc) := cell_of_row w1 _ 3 _ _ _ m1
  have hl0 : w.heap.size < w1.heap.size := by omega
  have hl1 : w.heap.size + 1 < w1.heap.size := by omega
  have hl2 : w.heap.size + 1 + 1 < w1.heap.size := by omega
  have hn1 : ¬ w.heap.size + 1 = w.heap.size := by omega
  have hn2 : ¬ w.heap.size + 1 + 1 = w.heap.size := by omega
  have hn3 : ¬ w.heap.size + 1 + 1 = w.heap.size + 1 := by omega
  have hql : qs.length = s'.ns.length := by rw [← m4]; simp
  have n1 := m3.set w.heap.size 0 (.slice na s'.ns.length nc) (far_of m3.row g0 (by decide)) (fun q hq e => by
   rcases far_of (m3.each q hq) g0 (by decide) with h5 | h5
   ·rw [h5] at e; cases e
   ·exact h5 e)
  have n2 := n1.set (w.heap.size + 1) 0 (.int .i64 0) (far_of m3.row g1 (by decide)) (fun q hq e => m8 q hq _ e rfl)
  have n3 := n2.set (w.heap.size + 1 + 1) 0 (.bool true) (far_of m3.row g2 (by decide)) (fun q hq e => by
   rcases far_of (m3.each q hq) g2 (by decide) with h5 | h5
   ·rw [h5] at e; cases e
   ·exact h5 e)
  have HN := hidOf n3
  have HM := hidOf m4
  have HL := hidOf R1.few
  have fb : Below B w1 (((w1.setCell ⟨w.heap.size, 0, none⟩ (.slice na s'.ns.length nc)).setCell ⟨w.heap.size + 1, 0, none⟩ (.int .i64 0)).setCell ⟨w.heap.size + 1 + 1, 0, none⟩ (.bool true)) := (((Below.refl B w1).setCell (by omega) _).setCell (by show B ≤ w.heap.size + 1; omega) _).setCell (by show B ≤ w.heap.size + 1 + 1; omega) _
  have HB := hidOf (HBW.out.trans (F1.bel.trans fb))
  have hlg := R1.lt
  clear fb g0 g1 g2 F1 R1 m1 m3 m4 m8 n1 n2 n3 hql G0 G1 G2 HS HBW
  go_wp2
  show Leaves _ _ _ _ _ _ _
  refine leaves_cons (f := 105) (args := #[.pointer (some ⟨w.heap.size, 0, none⟩), .pointer (some ⟨w.heap.size + 1, 0, none⟩), .pointer (some ⟨w.heap.size + 1 + 1, 0, none⟩)]) (by simp) (by simp [go_sem]) ?_
  refine (rsDoor_idle _ _ _ _).mono ?_
  rintro e u' w2 ⟨rfl, rfl, rfl⟩
  have f0 : ((((w1.setCell ⟨w.heap.size, 0, none⟩ (.slice na s'.ns.length nc)).setCell ⟨w.heap.size + 1, 0, none⟩ (.int .i64 0)).setCell ⟨w.heap.size + 1 + 1, 0, none⟩ (.bool true)).alloc (.cells #[.int .i64 0] 158)).cell? ⟨w.heap.size, 0, none⟩ = some (.slice na s'.ns.length nc) := by go_simp
  have f1 : ((((w1.setCell ⟨w.heap.size, 0, none⟩ (.slice na s'.ns.length nc)).setCell ⟨w.heap.size + 1, 0, none⟩ (.int .i64 0)).setCell ⟨w.heap.size + 1 + 1, 0, none⟩ (.bool true)).alloc (.cells #[.int .i64 0] 158)).cell? ⟨w.heap.size + 1, 0, none⟩ = some (.int .i64 0) := by go_simp
  have f2 : ((((w1.setCell ⟨w.heap.size, 0, none⟩ (.slice na s'.ns.length nc)).setCell ⟨w.heap.size + 1, 0, none⟩ (.int .i64 0)).setCell ⟨w.heap.size + 1 + 1, 0, none⟩ (.bool true)).alloc (.cells #[.int .i64 0] 158)).cell? ⟨w.heap.size + 1 + 1, 0, none⟩ = some (.bool true) := by go_simp
  have fb : Below (((w1.setCell ⟨w.heap.size, 0, none⟩ (.slice na s'.ns.length nc)).setCell ⟨w.heap.size + 1, 0, none⟩ (.int .i64 0)).setCell ⟨w.heap.size + 1 + 1, 0, none⟩ (.bool true)).heap.size (((w1.setCell ⟨w.heap.size, 0, none⟩ (.slice na s'.ns.length nc)).setCell ⟨w.heap.size + 1, 0, none⟩ (.int .i64 0)).setCell ⟨w.heap.size + 1 + 1, 0, none⟩ (.bool true)) ((((w1.setCell ⟨w.heap.size, 0, none⟩ (.slice na s'.ns.length nc)).setCell ⟨w.heap.size + 1, 0, none⟩ (.int .i64 0)).setCell ⟨w.heap.size + 1 + 1, 0, none⟩ (.bool true)).alloc (.cells #[.int .i64 0] 158)) := (Below.refl _ _).alloc (Nat.le_refl _) _
  have n4 := HN.out.below fb
  have b4 := HB.out.trans (fb.mono (by simp; omega))
  obtain ⟨Wf, hWf⟩ : ∃ Wf, Wf = ((((w1.setCell ⟨w.heap.size, 0, none⟩ (.slice na s'.ns.length nc)).setCell ⟨w.heap.size + 1, 0, none⟩ (.int .i64 0)).setCell ⟨w.heap.size + 1 + 1, 0, none⟩ (.bool true)).alloc (.cells #[.int .i64 0] 158)) := ⟨_, rfl⟩
  rw [← hWf] at f0 f1 f2 n4 b4
  rw [← hWf]
  clear hWf fb c0 c1 c2 z0 z1 z2 HN HB
  simp [Leaves, settle, results, Tryz.results65, go_sem, f0, f1, f2]
  exact ⟨⟨na, nc, qs, rfl, n4, HM.out⟩, b4, HL.out⟩
end Go.Proofs.YtcbbnphpkgifoaaGreatDoor
