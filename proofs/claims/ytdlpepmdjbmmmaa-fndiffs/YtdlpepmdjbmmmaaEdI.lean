/- Edits as values of four types behind one interface: editIn makes one of an edit, turnedEdit turns it; what each type's line tells. -/
import Derived.Test.YtdlpepmdjbmmmaaProg
import Derived.Test.YtdlpepmdjbmmmaaEdLib
import Derived.BigQuiet
import Derived.Deep.QuietTactic
import Derived.Handy
namespace Go.Proofs.Ytdlpepmdjbmmmaa
open Go.RowKit

abbrev ifK (t : ByteArray) : Value := .iface 68 (.agg #[.string t])
abbrev ifD (t : ByteArray) : Value := .iface 78 (.agg #[.string t])
abbrev ifA (t : ByteArray) : Value := .iface 79 (.agg #[.string t])
abbrev ifS (k : Int) (t : ByteArray) : Value := .iface 83 (.agg #[.int .i64 k, .string t])
/-- The value that an edit becomes. -/
def ifE (x : Ed) : Value := if x.kind = 1 then ifK x.line else if x.kind = 2 then ifD x.line else if x.kind = 3 then ifA x.line else ifS x.kind x.line
theorem ifE_1 {x : Ed} (h : x.kind = 1) : ifE x = ifK x.line := by unfold ifE; rw [if_pos h]
theorem ifE_2 {x : Ed} (h : x.kind = 2) : ifE x = ifD x.line := by unfold ifE; rw [if_neg (by omega), if_pos h]
theorem ifE_3 {x : Ed} (h : x.kind = 3) : ifE x = ifA x.line := by unfold ifE; rw [if_neg (by omega), if_neg (by omega), if_pos h]
theorem ifE_4 {x : Ed} (h1 : x.kind ≠ 1) (h2 : x.kind ≠ 2) (h3 : x.kind ≠ 3) : ifE x = ifS x.kind x.line := by unfold ifE; rw [if_neg h1, if_neg h2, if_neg h3]

theorem zeroK (w : World) : (zeroValue 68).run Try.prog w = .ok (.agg #[.string ⟨#[]⟩]) w := by kernel_rfl
theorem zeroD (w : World) : (zeroValue 78).run Try.prog w = .ok (.agg #[.string ⟨#[]⟩]) w := by kernel_rfl
theorem zeroA (w : World) : (zeroValue 79).run Try.prog w = .ok (.agg #[.string ⟨#[]⟩]) w := by kernel_rfl
theorem zeroS (w : World) : (zeroValue 83).run Try.prog w = .ok (.agg #[.int .i64 0, .string ⟨#[]⟩]) w := by kernel_rfl
theorem taKK (v : Value) (w : World) : (Instr.typeAssert (.iface 68 v) 53 68 true).run Try.prog w = .ok (.tuple #[v, .bool true]) w := by
  unfold Instr.typeAssert
  rw [Sem.run_bind, run_underlying Try.underlying68, Result.andThen_ok]
  first | rfl | (dsimp only; simp [Sem.run_bind, Result.andThen_ok, Sem.run_pure])
set_option maxRecDepth 100000 in
theorem taKD (v : Value) (w : World) : (Instr.typeAssert (.iface 68 v) 53 78 true).run Try.prog w = .ok (.tuple #[.agg #[.string ⟨#[]⟩], .bool false]) w := by
  unfold Instr.typeAssert
  rw [Sem.run_bind, run_underlying Try.underlying78, Result.andThen_ok]
  dsimp only
  simp [Result.andThen_ok]
set_option maxRecDepth 100000 in
theorem taKA (v : Value) (w : World) : (Instr.typeAssert (.iface 68 v) 53 79 true).run Try.prog w = .ok (.tuple #[.agg #[.string ⟨#[]⟩], .bool false]) w := by
  unfold Instr.typeAssert
  rw [Sem.run_bind, run_underlying Try.underlying79, Result.andThen_ok]
  dsimp only
  simp [Result.andThen_ok]
set_option maxRecDepth 100000 in
theorem taKS (v : Value) (w : World) : (Instr.typeAssert (.iface 68 v) 53 83 true).run Try.prog w = .ok (.tuple #[.agg #[.int .i64 0, .string ⟨#[]⟩], .bool false]) w := by
  unfold Instr.typeAssert
  rw [Sem.run_bind, run_underlying Try.underlying83, Result.andThen_ok]
  dsimp only
  simp [Result.andThen_ok]
set_option maxRecDepth 100000 in
theorem taDK (v : Value) (w : World) : (Instr.typeAssert (.iface 78 v) 53 68 true).run Try.prog w = .ok (.tuple #[.agg #[.string ⟨#[]⟩], .bool false]) w := by
  unfold Instr.typeAssert
  rw [Sem.run_bind, run_underlying Try.underlying68, Result.andThen_ok]
  dsimp only
  simp [Result.andThen_ok]
theorem taDD (v : Value) (w : World) : (Instr.typeAssert (.iface 78 v) 53 78 true).run Try.prog w = .ok (.tuple #[v, .bool true]) w := by
  unfold Instr.typeAssert
  rw [Sem.run_bind, run_underlying Try.underlying78, Result.andThen_ok]
  first | rfl | (dsimp only; simp [Sem.run_bind, Result.andThen_ok, Sem.run_pure])
set_option maxRecDepth 100000 in
theorem taDA (v : Value) (w : World) : (Instr.typeAssert (.iface 78 v) 53 79 true).run Try.prog w = .ok (.tuple #[.agg #[.string ⟨#[]⟩], .bool false]) w := by
  unfold Instr.typeAssert
  rw [Sem.run_bind, run_underlying Try.underlying79, Result.andThen_ok]
  dsimp only
  simp [Result.andThen_ok]
set_option maxRecDepth 100000 in
theorem taDS (v : Value) (w : World) : (Instr.typeAssert (.iface 78 v) 53 83 true).run Try.prog w = .ok (.tuple #[.agg #[.int .i64 0, .string ⟨#[]⟩], .bool false]) w := by
  unfold Instr.typeAssert
  rw [Sem.run_bind, run_underlying Try.underlying83, Result.andThen_ok]
  dsimp only
  simp [Result.andThen_ok]
set_option maxRecDepth 100000 in
theorem taAK (v : Value) (w : World) : (Instr.typeAssert (.iface 79 v) 53 68 true).run Try.prog w = .ok (.tuple #[.agg #[.string ⟨#[]⟩], .bool false]) w := by
  unfold Instr.typeAssert
  rw [Sem.run_bind, run_underlying Try.underlying68, Result.andThen_ok]
  dsimp only
  simp [Result.andThen_ok]
set_option maxRecDepth 100000 in
theorem taAD (v : Value) (w : World) : (Instr.typeAssert (.iface 79 v) 53 78 true).run Try.prog w = .ok (.tuple #[.agg #[.string ⟨#[]⟩], .bool false]) w := by
  unfold Instr.typeAssert
  rw [Sem.run_bind, run_underlying Try.underlying78, Result.andThen_ok]
  dsimp only
  simp [Result.andThen_ok]
theorem taAA (v : Value) (w : World) : (Instr.typeAssert (.iface 79 v) 53 79 true).run Try.prog w = .ok (.tuple #[v, .bool true]) w := by
  unfold Instr.typeAssert
  rw [Sem.run_bind, run_underlying Try.underlying79, Result.andThen_ok]
  first | rfl | (dsimp only; simp [Sem.run_bind, Result.andThen_ok, Sem.run_pure])
set_option maxRecDepth 100000 in
theorem taAS (v : Value) (w : World) : (Instr.typeAssert (.iface 79 v) 53 83 true).run Try.prog w = .ok (.tuple #[.agg #[.int .i64 0, .string ⟨#[]⟩], .bool false]) w := by
  unfold Instr.typeAssert
  rw [Sem.run_bind, run_underlying Try.underlying83, Result.andThen_ok]
  dsimp only
  simp [Result.andThen_ok]
set_option maxRecDepth 100000 in
theorem taSK (v : Value) (w : World) : (Instr.typeAssert (.iface 83 v) 53 68 true).run Try.prog w = .ok (.tuple #[.agg #[.string ⟨#[]⟩], .bool false]) w := by
  unfold Instr.typeAssert
  rw [Sem.run_bind, run_underlying Try.underlying68, Result.andThen_ok]
  dsimp only
  simp [Result.andThen_ok]
set_option maxRecDepth 100000 in
theorem taSD (v : Value) (w : World) : (Instr.typeAssert (.iface 83 v) 53 78 true).run Try.prog w = .ok (.tuple #[.agg #[.string ⟨#[]⟩], .bool false]) w := by
  unfold Instr.typeAssert
  rw [Sem.run_bind, run_underlying Try.underlying78, Result.andThen_ok]
  dsimp only
  simp [Result.andThen_ok]
set_option maxRecDepth 100000 in
theorem taSA (v : Value) (w : World) : (Instr.typeAssert (.iface 83 v) 53 79 true).run Try.prog w = .ok (.tuple #[.agg #[.string ⟨#[]⟩], .bool false]) w := by
  unfold Instr.typeAssert
  rw [Sem.run_bind, run_underlying Try.underlying79, Result.andThen_ok]
  dsimp only
  simp [Result.andThen_ok]
theorem taSS (v : Value) (w : World) : (Instr.typeAssert (.iface 83 v) 53 83 true).run Try.prog w = .ok (.tuple #[v, .bool true]) w := by
  unfold Instr.typeAssert
  rw [Sem.run_bind, run_underlying Try.underlying83, Result.andThen_ok]
  first | rfl | (dsimp only; simp [Sem.run_bind, Result.andThen_ok, Sem.run_pure])
theorem lineK (t : ByteArray) (w : World) : Calls Try.prog 76 #[.agg #[.string t]] w fun e w' => e = .returned (.string t) ∧ Below w.heap.size w w' := by
  go_enter Try.func76, Try.ntmps76
  go_wp2
  go_ret
  exact ⟨rfl, by go_grown⟩
theorem lineD (t : ByteArray) (w : World) : Calls Try.prog 77 #[.agg #[.string t]] w fun e w' => e = .returned (.string t) ∧ Below w.heap.size w w' := by
  go_enter Try.func77, Try.ntmps77
  go_wp2
  go_ret
  exact ⟨rfl, by go_grown⟩
theorem lineA (t : ByteArray) (w : World) : Calls Try.prog 78 #[.agg #[.string t]] w fun e w' => e = .returned (.string t) ∧ Below w.heap.size w w' := by
  go_enter Try.func78, Try.ntmps78
  go_wp2
  go_ret
  exact ⟨rfl, by go_grown⟩
theorem lineS (k : Int) (t : ByteArray) (w : World) : Calls Try.prog 79 #[.agg #[.int .i64 k, .string t]] w fun e w' => e = .returned (.string t) ∧ Below w.heap.size w w' := by
  go_enter Try.func79, Try.ntmps79
  go_wp2
  go_ret
  exact ⟨rfl, by go_grown⟩
set_option maxHeartbeats 1600000 in
theorem iIn_any (x : Ed) (w : World) : Calls Try.prog 42 #[.agg #[.int .i64 x.kind, .string x.line]] w fun e w' => e = .returned (ifE x) ∧ Below w.heap.size w w' := by
  by_cases h1 : x.kind = 1
  · rw [ifE_1 h1, h1]
    clear h1
    go_enter Try.func42, Try.ntmps42
    go_wp2
    go_ret
    exact ⟨rfl, by go_grown⟩
  by_cases h2 : x.kind = 2
  · rw [ifE_2 h2, h2]
    clear h1 h2
    go_enter Try.func42, Try.ntmps42
    go_wp2
    go_ret
    exact ⟨rfl, by go_grown⟩
  by_cases h3 : x.kind = 3
  · rw [ifE_3 h3, h3]
    clear h1 h2 h3
    go_enter Try.func42, Try.ntmps42
    go_wp2
    go_ret
    exact ⟨rfl, by go_grown⟩
  · rw [ifE_4 h1 h2 h3]
    have n1 : (x.kind == 1) = false := by rw [beq_eq_false_iff_ne]; exact h1
    have n2 : (x.kind == 2) = false := by rw [beq_eq_false_iff_ne]; exact h2
    have n3 : (x.kind == 3) = false := by rw [beq_eq_false_iff_ne]; exact h3
    clear h1 h2 h3
    go_enter Try.func42, Try.ntmps42
    go_wp2
    go_ret
    exact ⟨rfl, by go_grown⟩
/-- An edit turned. -/
def turn (x : Ed) : Ed := if x.kind = 2 then ⟨3, x.line⟩ else if x.kind = 3 then ⟨2, x.line⟩ else x
theorem ifE_turn2 {x : Ed} (h : x.kind = 2) : ifE (turn x) = ifA x.line := by unfold turn; rw [if_pos h]; exact ifE_3 rfl
theorem ifE_turn3 {x : Ed} (h : x.kind = 3) : ifE (turn x) = ifD x.line := by unfold turn; rw [if_neg (by omega), if_pos h]; exact ifE_2 rfl
theorem turn_other {x : Ed} (h : x.kind ≠ 2) (h' : x.kind ≠ 3) : turn x = x := by unfold turn; rw [if_neg h, if_neg h']
set_option maxHeartbeats 1600000 in
theorem iTurn_any (x : Ed) (w : World) : Calls Try.prog 43 #[ifE x] w fun e w' => e = .returned (ifE (turn x)) ∧ Below w.heap.size w w' := by
  by_cases h1 : x.kind = 1
  · rw [turn_other (by omega) (by omega), ifE_1 h1]
    clear h1
    have a1 := fun w => taKD (.agg #[.string x.line]) w
    have a2 := fun w => taKA (.agg #[.string x.line]) w
    go_enter Try.func43, Try.ntmps43
    go_wp2
    go_ret
    exact ⟨rfl, by go_grown⟩
  by_cases h2 : x.kind = 2
  · rw [ifE_turn2 h2, ifE_2 h2]
    clear h1 h2
    have a1 := fun w => taDD (.agg #[.string x.line]) w
    go_enter Try.func43, Try.ntmps43
    go_wp2
    go_ret
    exact ⟨rfl, by go_grown⟩
  by_cases h3 : x.kind = 3
  · rw [ifE_turn3 h3, ifE_3 h3]
    clear h1 h2 h3
    have a1 := fun w => taAD (.agg #[.string x.line]) w
    have a2 := fun w => taAA (.agg #[.string x.line]) w
    go_enter Try.func43, Try.ntmps43
    go_wp2
    go_ret
    exact ⟨rfl, by go_grown⟩
  · rw [turn_other h2 h3, ifE_4 h1 h2 h3]
    clear h1 h2 h3
    have a1 := fun w => taSD (.agg #[.int .i64 x.kind, .string x.line]) w
    have a2 := fun w => taSA (.agg #[.int .i64 x.kind, .string x.line]) w
    go_enter Try.func43, Try.ntmps43
    go_wp2
    go_ret
    exact ⟨rfl, by go_grown⟩
end Go.Proofs.Ytdlpepmdjbmmmaa
