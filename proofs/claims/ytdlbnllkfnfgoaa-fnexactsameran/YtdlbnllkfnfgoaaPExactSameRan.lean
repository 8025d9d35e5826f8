/- At every two runs' answers, SameRan answers as the specification does, and writes into no argument; no condition. -/
import Derived.Test.YtdlbnllkfnfgoaaRows
import Derived.Test.YtdlbnllkfnfgoaaSrnLaw
import Derived.WalkKit
import Derived.ProofKit
import Derived.OpenShut
import Derived.ShutString
import Derived.SliceStrings
import Derived.LaidMore
import Derived.Test.YtdlbnllkfnfgoaaOpenRan
namespace Go.Proofs.Ytdlbnllkfnfgoaa.fnExactSameRan
open Go.ChangeShapes Go.WideShapes Go.ChangeAt Go.RowKit
open Go.ChangeMaps (open_string shut_string)
set_option linter.unusedVariables false

theorem own : ownKnob Try.prog.godebug = none := by kernel_rfl
theorem laidOut : laidOutB Try.prog = true := by kernel_rfl

set_option maxRecDepth 100000 in
theorem lifted (os : Os) (started : os.Started) (H : Type) (enc : TypeId × Value → H) :
    ReturnsInHanded {} Try.checked os 5 .any (Rows.fnExactSameRanSpec.pre6 enc Try.prog Try.f5 Rows.fnExactSameRanRow.domain false) (Rows.fnExactSameRanSpec.post enc Try.prog Try.f5 false true false false) := by
  refine returnsInHanded_of_change (C := Try.checked) own started (by kernel_rfl) Try.func5
    (ChangeSpec.witness6 (enc := enc) (C := Try.checked) false ⟨#[], #[.agg #[.slice none 0 0, .int .i64 0, .int .i64 0, .int .i64 0], .agg #[.slice none 0 0, .int .i64 0, .int .i64 0, .int .i64 0]], []⟩ 8 (by kernel_rfl) (by kernel_rfl) (by kernel_rfl) (by kernel_rfl)) ?_
  intro W base args ds gs before hval0 hW hcnd _
  have hval : ∀ (j : Nat) t v, Try.f5.params[j]? = some t → args[j]? = some v → Value.okWide Try.prog W .any base t v := hval0
  have hW' := hW
  obtain ⟨p, q, hA0, hV, rfl, hfz, hnd⟩ := hW
  have hA : DataW.TrodAll enc Try.prog W 0 (fun _ => true) true Try.f5.params.toList args.toList ds p := hA0
  rw [Try.params5] at hA hval
  obtain ⟨v0, vs0, d0, ds0, p0, q0, hargs, rfl, rfl, h0, r0⟩ := trodAll_cons hA
  obtain ⟨v1, vs1, d1, ds1, p1, q1, rfl, rfl, rfl, h1, r1⟩ := trodAll_cons r0
  obtain ⟨rfl, rfl, rfl⟩ := trodAll_nil r1
  obtain rfl : args = #[v0, v1] := by cases args; simp_all
  obtain ⟨rfl, rfl⟩ := trodVars_none hV
  obtain ⟨cs0, rfl, hsz0⟩ := okWide_struct Try.underlying35 (hval 0 35 v0 rfl rfl)
  have lt0 : ∀ x ∈ p0, x.block < W.heap.size := by obtain ⟨m, hm⟩ := h0; exact DataW.trod_lt m _ _ _ hm
  obtain ⟨z0, eq0, ok0, in0⟩ : ∃ p : Ra, Value.agg cs0 = .agg #[.slice p.a p.xs.length p.c, .int .i64 p.ret, .int .i64 p.code, .int .i64 p.st] ∧ p.xs.length ≤ 9223372036854775807 ∧ KidsAt W p.a p.xs := by
    obtain ⟨fuel, hf⟩ := h0
    have hl2 : cs0.toList.length = 4 := by rw [Array.length_toList, hsz0]; kernel_rfl
    obtain ⟨p, e, e1, e2⟩ := open_ran hl2 hf
    exact ⟨p, congrArg Value.agg (Array.ext' e), e1, e2⟩
  injection eq0 with eq0
  subst eq0
  have k0 := h0
  obtain ⟨cs1, rfl, hsz1⟩ := okWide_struct Try.underlying35 (hval 1 35 v1 rfl rfl)
  have lt1 : ∀ x ∈ p1, x.block < W.heap.size := by obtain ⟨m, hm⟩ := h1; exact DataW.trod_lt m _ _ _ hm
  obtain ⟨z1, eq1, ok1, in1⟩ : ∃ p : Ra, Value.agg cs1 = .agg #[.slice p.a p.xs.length p.c, .int .i64 p.ret, .int .i64 p.code, .int .i64 p.st] ∧ p.xs.length ≤ 9223372036854775807 ∧ KidsAt W p.a p.xs := by
    obtain ⟨fuel, hf⟩ := h1
    have hl2 : cs1.toList.length = 4 := by rw [Array.length_toList, hsz1]; kernel_rfl
    obtain ⟨p, e, e1, e2⟩ := open_ran hl2 hf
    exact ⟨p, congrArg Value.agg (Array.ext' e), e1, e2⟩
  injection eq1 with eq1
  subst eq1
  have k1 := h1
  clear hA0 hval0
  refine (lawSameRan z0 z1 W ok0 ok1 in0 in1).mono fun e W' ⟨he, bel⟩ => ?_
  subst he
  exact ⟨_, rfl, _, _, _, [], _, [], hW', trodAll_mk1 (shut_bool Try.underlying4 _), (trodAll_cons_mk (Below.trod laidOut (by kernel_rfl) (of_decide_eq_true (by kernel_rfl)) k0 bel lt0) (trodAll_cons_mk (Below.trod laidOut (by kernel_rfl) (of_decide_eq_true (by kernel_rfl)) k1 bel lt1) trodAll_mk0)), rfl, bel.frame _, fun h => by cases h⟩

theorem over : Rows.fnExactSameRanRow.holds Try.pinned (OpenSpec.ofChange Rows.fnExactSameRanSpec) :=
  OpenClaim.holds_of_wide 5 Try.f5 rfl rfl rfl rfl rfl rfl rfl ⟨rfl, rfl, rfl, rfl, rfl⟩ rfl rfl rfl rfl rfl (by kernel_rfl) Try.func5 (by kernel_rfl)
    (of_decide_eq_true (by kernel_rfl)) (by unfold Func.isWrapper; first | (rw [if_pos (by decide +kernel)]; kernel_rfl) | (rw [if_neg (by decide +kernel)]; exact ⟨rfl, rfl⟩))
    (fun os started H enc _ => lifted os started H enc)

theorem proved : Rows.FnExactSameRanSaid :=
  over
end Go.Proofs.Ytdlbnllkfnfgoaa.fnExactSameRan
