/- What the laws' helpers on lists of numbers do: toIntS copies, eqIntS tells two lists alike, markIntS writes its marks, heldIntS finds them again. -/
import Derived.Test.YtbjfkfohkpdlfaaProg
import Derived.Test.YtbjfkfohkpdlfaaIntLib
import Derived.BigQuiet
import Derived.Deep.QuietTactic
import Derived.Test.YtbjfkfohkpdlfaaCopyLib
import Derived.Lib.SliceRun
namespace Go.Proofs.Ytbjfkfohkpdlfaa
open Go.RowKit

theorem infoIntT : (Try.prog.info? 3).map (fun i => (i.zero, i.size, i.bytes)) = some (some (.int .i64 0), 1, 8) := by kernel_rfl

set_option maxHeartbeats 1600000 in
theorem toInts_any (a : Option Addr) (c : Nat) (ks : List Int) (w : World) (hn0 : ks.length ≤ 1048576) (hT : KidsAt w a ks) :
    Calls Try.prog 23 #[.slice a ks.length c] w fun e w' => e = .returned (.slice (some ⟨w.heap.size, 0, none⟩) ks.length ks.length) ∧ w'.ownsRow w.heap.size 3 1 (.slice (some ⟨w.heap.size, 0, none⟩) ks.length ks.length) ks.length (intVals ks) ∧ Below w.heap.size w w' := by
  unfold KidsAt at hT
  obtain ⟨n, hn⟩ : ∃ n, n = ks.length := ⟨_, rfl⟩
  rw [← hn] at hT hn0 ⊢
  have HN := hidOf hn
  clear hn
  obtain ⟨i0, hi, hz0, hz1, hz2⟩ := info_parts infoIntT
  go_enter Try.func23, Try.ntmps23
  go_wp2_with (at_make; refine wpList_make_full _ rfl _ _ 32 rfl w.heap.size 3 i0 (.int .i64 0) 1 Try.underlying32 hi hz0 hz1 .i64 .i64 _ _ n rfl rfl rfl rfl (by rw [hz2]; omega) (by unfold maxLen; omega) (Nat.le_refl _) ?_; intro w1 hown hgrow)
  have hb1 : Below w.heap.size w w1 := (Below.refl _ w).grown hgrow (Nat.le_refl _) (fun k e => by cases e)
  obtain ⟨zs, hzs⟩ : ∃ zs, zs = (madeCells (Value.int IntKind.i64 0).cells (n * 1)).toList := ⟨_, rfl⟩
  rw [← hzs] at hown
  clear hzs hgrow
  go_loopw [4] (fun i wr => ∃ (k : Nat) (zs : List Value), k ≤ n ∧ i = .int .i64 k ∧ wr.ownsRow w.heap.size 3 1 (.slice (some ⟨w.heap.size, 0, none⟩) n n) n zs ∧ Hid (zs.take k = intVals (ks.take k)) ∧ Below w.heap.size w wr) (fun i _ => n - (intOf i).toNat)
  case atStart => exact ⟨0, zs, Nat.zero_le _, rfl, hown, rfl, hb1⟩
  case round =>
    obtain ⟨k, zs, hk, rfl, ho, HZ, hb⟩ := hrel
    by_cases hlt : k < n
    · obtain ⟨t, ht⟩ : ∃ t, ks[k]? = some t := ⟨_, List.getElem?_eq_getElem (by rw [← HN.out]; exact hlt)⟩
      obtain ⟨b, off, rfl, hlb, hcs⟩ := hT (by omega)
      have hc : wr.cell? ⟨b, off + k, none⟩ = some (.int .i64 t) := by rw [hb.cell hlb]; exact hcs k t ht
      have hlz : zs.length = n * 1 := ho.1
      have HS := hidOf (ho.stored k (.int .i64 t))
      have hf := ho.frozenAt k
      obtain ⟨u, hu⟩ : ∃ u, wr.cell? ⟨w.heap.size, k, none⟩ = some u := ⟨_, (ho.cellAt k (by omega)).trans (List.getElem?_eq_getElem (by omega))⟩
      have HT := hidOf ht
      have HLZ := hidOf hlz
      clear ht hcs hlz ho
      have hA : (0 : Int) ≤ (k : Int) := by omega
      have hB : (k : Int) < (n : Int) := by omega
      go_wp2
      go_roundw
      case rel => exact ⟨k + 1, _, by omega, by go_num, HS.out.1, hidOf (by
        have h1 := HZ.out
        have h2 := HLZ.out
        rw [List.take_add_one, List.take_set_of_le (Nat.le_refl _), h1, List.getElem?_set_self (by omega), List.take_add_one, HT.out]
        simp [intVals]), hb.grown HS.out.2 hb.size (fun q hq => by cases hq; exact Nat.le_refl _)⟩
      case measure => simp [intOf]; omega
    · go_wp2
      go_ret
      refine ⟨rfl, ?_, hb⟩
      have hz : zs = intVals ks := by
        have h1 := HZ.out
        have h2 : zs.length = n * 1 := ho.1
        have h3 := HN.out
        rw [List.take_of_length_le (by omega), List.take_of_length_le (by omega)] at h1
        exact h1
      rw [← hz]
      exact ho

set_option maxHeartbeats 1600000 in
theorem eqInts_same (a1 a2 : Option Addr) (c1 c2 : Nat) (ks : List Int) (w : World) (hx0 : ks.length ≤ 4611686018427387904) (h1 : KidsAt w a1 ks) (h2 : KidsAt w a2 ks) :
    Calls Try.prog 24 #[.slice a1 ks.length c1, .slice a2 ks.length c2] w fun e w' => e = .returned (.bool true) ∧ Below w.heap.size w w' := by
  have hx := hx0
  clear hx0
  unfold KidsAt at h1 h2
  obtain ⟨n, hn⟩ : ∃ n, n = ks.length := ⟨_, rfl⟩
  rw [← hn] at h1 h2 hx
  rw [← hn]
  have HN := hidOf hn
  clear hn
  go_enter Try.func24, Try.ntmps24
  go_wp2
  go_loopw [5] (fun i wr => ∃ k q : Nat, k ≤ n ∧ i = .int .i64 k ∧ wr = w.drewN q) (fun i _ => n - (intOf i).toNat)
  case atStart => exact ⟨0, 0, Nat.zero_le _, rfl, rfl⟩
  case round =>
    obtain ⟨k, q, hk, rfl, rfl⟩ := hrel
    by_cases hlt : k < n
    · obtain ⟨x, ex⟩ : ∃ x, ks[k]? = some x := ⟨_, List.getElem?_eq_getElem (by rw [← HN.out]; exact hlt)⟩
      obtain ⟨b1, o1, rfl, hb1, hc1⟩ := h1 (by omega)
      obtain ⟨b2, o2, rfl, hb2, hc2⟩ := h2 (by omega)
      have p0 := hc1 k x ex
      have q0 := hc2 k x ex
      clear ex hc1 hc2 h1 h2
      have hm1 : (x != x) = false := by simp
      have hA : (0 : Int) ≤ (k : Int) := by omega
      have hB : (k : Int) < (n : Int) := by omega
      go_wp2
      go_quiet (fail)
      go_wp2
      go_roundw
      case rel => exact ⟨k + 1, q + nq, by omega, by go_num, rfl⟩
      case measure => simp [intOf]; omega
    · go_wp2
      go_ret
      exact ⟨rfl, below_drewN _ _⟩
end Go.Proofs.Ytbjfkfohkpdlfaa
/- What slices.Clone answers at a list of numbers, and 'append([]int{}, v...)' as a step: the same numbers in memory of their own. -/
namespace Go.Proofs.Ytbjfkfohkpdlfaa
open Go.RowKit

def oneInt (z : Int) : List Value := [.int .i64 z]
theorem oneInt_len (z : Int) : (oneInt z).length = 1 := rfl
theorem oneInt_one (z : Int) : ∀ u ∈ oneInt z, u.oneCell' = true := fun u hu => by
  unfold oneInt at hu
  rw [List.mem_singleton] at hu
  subst hu
  rfl
theorem oneInt_vals : ∀ (vs : List Int), rowVals oneInt vs = intVals vs
  | [] => rfl
  | v :: vs => by
    show oneInt v ++ rowVals oneInt vs = _
    rw [oneInt_vals vs]
    rfl
theorem kids_rows {w : World} {a : Option Addr} {vs : List Int} (h : KidsAt w a vs) : RowsAt 1 oneInt w a vs := by
  intro hn
  obtain ⟨b, off, ha, hlt, hc⟩ := h hn
  refine ⟨b, off, ha, hlt, fun k x hx j hj => ?_⟩
  have hj0 : j = 0 := by omega
  subst hj0
  rw [Nat.mul_one, Nat.add_zero, hc k x hx]
  rfl
theorem wpList_copyInt {ops : Array Oper} {rest : List Oper} {o : Oper} {ac : Act} {Q : Exit → Act → World → Prop} (hgd : o.guard = none) (x y : Operand)
    (ho : o.op = .call { callee := .builtin .append, args := #[x, y], argTypes := #[32, 32] }) (w : World) (base z0 : Nat) (hb0 : base ≤ z0) (hz0 : w.heap[z0]? = some (.cells #[] 3 (0, 0)))
    (a : Option Addr) (c : Nat) (vs : List Int) (hx : ac.eval x = .slice (some ⟨z0, 0, none⟩) 0 0) (hy : ac.eval y = .slice a vs.length c) (h : KidsAt w a vs) (hn : vs.length ≤ 1048576)
    (hk : ∀ a' c' w', w'.ownsRow base 3 1 (.slice a' vs.length c') vs.length (intVals vs) → w.grownBy w' none → wpList Try.prog ops Q rest (ac.put o.dst (.slice a' vs.length c')) w') : wpList Try.prog ops Q (o :: rest) ac w := by
  obtain ⟨i0, hi, hz0', hz1, hz2⟩ := info_parts infoIntT
  exact wpList_plain hgd fun _ hK => wp_copy oneInt_len oneInt_one x y 32 ho 3 i0 (.int .i64 0) 8 Try.underlying32 hi hz0' hz1 hz2 rfl (by decide) w base z0 hb0 hz0 a c vs hx hy (kids_rows h) hn (by omega) fun a' c' w' h2 h3 => hK _ _ (hk a' c' w' (by rw [oneInt_vals] at h2; exact h2) h3)

set_option maxHeartbeats 1600000 in
theorem clone_any (a : Option Addr) (c : Nat) (vs : List Int) (w : World) (hn : vs.length ≤ 1048576) (h : KidsAt w a vs) :
    Calls Try.prog 38 #[.slice a vs.length c] w fun e w' => IntsAns vs 3 w e w' := by
  have qT : ∀ (w : World) (a : Option Addr) (n c n' c' : Nat), (binOp .eql 32 (.slice a n c) (.slice none n' c')).run Try.prog w = .ok (.bool a.isNone) w := fun w a n c n' c' => Lib.run_eql_slice_nil w _ _ a n c n' c' Try.underlying32
  cases a with
  | none =>
    have hl : vs = [] := by
      cases vs with
      | nil => rfl
      | cons x xs => obtain ⟨b, off, ha, -⟩ := h (by simp); cases ha
    subst hl
    go_enter Try.func38, Try.ntmps38
    go_wp2
    go_ret
    exact ⟨Below.refl _ _, none, 0, rfl, rfl, .inl ⟨rfl, rfl⟩⟩
  | some ad =>
    go_enter Try.func38, Try.ntmps38
    have B1 : Below w.heap.size w (w.alloc (.cells #[] 3)) := (Below.refl _ _).alloc (Nat.le_refl _) _
    go_wp2_with (at_builtin; refine wpList_copyInt rfl _ _ rfl _ w.heap.size w.heap.size (Nat.le_refl _) (heap_alloc_new w _) (some ad) c vs rfl rfl (h.below B1 (Nat.le_refl _)) hn ?_; intro a' c' w1 hown hg)
    go_ret
    exact ⟨B1.grown hg B1.size (fun k e => by cases e), a', c', rfl, hown⟩
end Go.Proofs.Ytbjfkfohkpdlfaa
