/- What slices.Clone answers at a list of numbers, and 'append([]int{}, v...)' as a step: the same numbers in memory of their own. -/
import Derived.Test.YtokfemlcamnaaaaInfoT
import Derived.Test.YtokfemlcamnaaaaCopyLib
import Derived.Lib.SliceRun
namespace Go.Proofs.Ytokfemlcamnaaaa
open Go.RowKit

def oneInt (z : Int) : List Value := [.int .i64 z]
theorem oneInt_len (z : Int) : (oneInt z).length = 1 := rfl
theorem oneInt_one (z : Int) : ∀ u ∈ oneInt z, u.oneCell' = true := fun u hu => by
  unfold oneInt at hu
  rw [List.mem_singleton] at hu
  subst hu
  rfl
theorem oneInt_vals : ∀ (vs : List Int), rowVals oneInt vs = intVals vs
  | [] => rfl
  | v :: vs => by
    show oneInt v ++ rowVals oneInt vs = _
    rw [oneInt_vals vs]
    rfl
theorem kids_rows {w : World} {a : Option Addr} {vs : List Int} (h : KidsAt w a vs) : RowsAt 1 oneInt w a vs := by
  intro hn
  obtain ⟨b, off, ha, hlt, hc⟩ := h hn
  refine ⟨b, off, ha, hlt, fun k x hx j hj => ?_⟩
  have hj0 : j = 0 := by omega
  subst hj0
  rw [Nat.mul_one, Nat.add_zero, hc k x hx]
  rfl
theorem wpList_copyInt {ops : Array Oper} {rest : List Oper} {o : Oper} {ac : Act} {Q : Exit → Act → World → Prop} (hgd : o.guard = none) (x y : Operand)
    (ho : o.op = .call { callee := .builtin .append, args := #[x, y], argTypes := #[31, 31] }) (w : World) (base z0 : Nat) (hb0 : base ≤ z0) (hz0 : w.heap[z0]? = some (.cells #[] 3 (0, 0)))
    (a : Option Addr) (c : Nat) (vs : List Int) (hx : ac.eval x = .slice (some ⟨z0, 0, none⟩) 0 0) (hy : ac.eval y = .slice a vs.length c) (h : KidsAt w a vs) (hn : vs.length ≤ 1048576)
    (hk : ∀ a' c' w', w'.ownsRow base 3 1 (.slice a' vs.length c') vs.length (intVals vs) → w.grownBy w' none → wpList Try.prog ops Q rest (ac.put o.dst (.slice a' vs.length c')) w') : wpList Try.prog ops Q (o :: rest) ac w := by
  obtain ⟨i0, hi, hz0', hz1, hz2⟩ := info_parts infoIntT
  exact wpList_plain hgd fun _ hK => wp_copy oneInt_len oneInt_one x y 31 ho 3 i0 (.int .i64 0) 8 Try.underlying31 hi hz0' hz1 hz2 rfl (by decide) w base z0 hb0 hz0 a c vs hx hy (kids_rows h) hn (by omega) fun a' c' w' h2 h3 => hK _ _ (hk a' c' w' (by rw [oneInt_vals] at h2; exact h2) h3)

set_option maxHeartbeats 1600000 in
theorem clone_any (a : Option Addr) (c : Nat) (vs : List Int) (w : World) (hn : vs.length ≤ 1048576) (h : KidsAt w a vs) :
    Calls Try.prog 96 #[.slice a vs.length c] w fun e w' => IntsAns vs 3 w e w' := by
  have qT : ∀ (w : World) (a : Option Addr) (n c n' c' : Nat), (binOp .eql 31 (.slice a n c) (.slice none n' c')).run Try.prog w = .ok (.bool a.isNone) w := fun w a n c n' c' => Lib.run_eql_slice_nil w _ _ a n c n' c' Try.underlying31
  cases a with
  | none =>
    have hl : vs = [] := by
      cases vs with
      | nil => rfl
      | cons x xs => obtain ⟨b, off, ha, -⟩ := h (by simp); cases ha
    subst hl
    go_enter Try.func96, Try.ntmps96
    go_wp2
    go_ret
    exact ⟨Below.refl _ _, none, 0, rfl, rfl, .inl ⟨rfl, rfl⟩⟩
  | some ad =>
    go_enter Try.func96, Try.ntmps96
    have B1 : Below w.heap.size w (w.alloc (.cells #[] 3)) := (Below.refl _ _).alloc (Nat.le_refl _) _
    go_wp2_with (at_builtin; refine wpList_copyInt rfl _ _ rfl _ w.heap.size w.heap.size (Nat.le_refl _) (heap_alloc_new w _) (some ad) c vs rfl rfl (h.below B1 (Nat.le_refl _)) hn ?_; intro a' c' w1 hown hg)
    go_ret
    exact ⟨B1.grown hg B1.size (fun k e => by cases e), a', c', rfl, hown⟩
end Go.Proofs.Ytokfemlcamnaaaa
