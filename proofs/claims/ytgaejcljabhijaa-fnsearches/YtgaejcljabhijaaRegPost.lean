/- A region that draws its order, by what each of its operations leaves: whatever order is drawn. -/
import Derived.Test.YtgaejcljabhijaaLib
import Derived.Orders
namespace Go.Proofs.Ytgaejcljabhijaa
open Go.RowKit

/-- What an operation has left in its slot. -/
def slotOf (a : Act) (o : Oper) : Value :=
  match o.dst with
  | some d => a.tmps.getD d undef
  | none => undef
/-- What is seen of the operations by looking: no guards, each waits for earlier ones only, each has a slot of its own. -/
def tidy (ops : Array Oper) (size : Nat) : Bool :=
  (List.range ops.size).all fun k =>
    match ops[k]? with
    | none => true
    | some o => o.guard.isNone && (o.after.all fun e => !Region.binds .any e || decide (e.on < k)) &&
      (match o.dst with
      | none => true
      | some d => decide (d < size) && (List.range ops.size).all fun j => decide (k = j) || ((ops[j]?).bind (·.dst)) != some d)
theorem tidy_at {ops : Array Oper} {size : Nat} (h : tidy ops size = true) {k : Nat} {o : Oper} (hk : ops[k]? = some o) :
    o.guard = none ∧ (∀ e ∈ o.after, Region.binds .any e = true → e.on < k) ∧ ∀ d, o.dst = some d → d < size ∧ ∀ (j : Nat) (o' : Oper), ops[j]? = some o' → o'.dst = some d → k = j := by
  have hlt : k < ops.size := (Array.getElem?_eq_some_iff.1 hk).1
  unfold tidy at h
  rw [List.all_eq_true] at h
  have h1 := h k (List.mem_range.2 hlt)
  rw [hk] at h1
  dsimp only at h1
  rw [Bool.and_eq_true, Bool.and_eq_true] at h1
  obtain ⟨⟨hg, ha⟩, hd⟩ := h1
  refine ⟨by simpa using hg, fun e he hb => ?_, fun d hdd => ?_⟩
  · rw [Array.all_eq_true_iff_forall_mem] at ha
    have := ha e he
    rw [hb] at this
    simpa using this
  · rw [hdd] at hd
    dsimp only at hd
    rw [Bool.and_eq_true] at hd
    refine ⟨by simpa using hd.1, fun j o' hj hj' => ?_⟩
    have hjl : j < ops.size := (Array.getElem?_eq_some_iff.1 hj).1
    have h2 := List.all_eq_true.1 hd.2 j (List.mem_range.2 hjl)
    rw [hj] at h2
    simp only [Option.bind_some, hj', bne_self_eq_false, Bool.or_false, decide_eq_true_eq] at h2
    exact h2

section
variable {P : Program} {ops : Array Oper} {Q : Exit → Act → World → Prop}

/-- The state behind the operations that are listed. -/
structure RegAt (ops : Array Oper) (a0 : Act) (Inv : World → Prop) (Post : Nat → Value → World → Prop) (L : Array Bool) (a : Act) (w : World) : Prop where
  size : L.size = ops.size
  inv : Inv w
  defers : a.defers = a0.defers
  tsize : a.tmps.size = a0.tmps.size
  fix : ∀ s, (∀ (j : Nat) (o : Oper), ops[j]? = some o → o.dst ≠ some s) → a.tmps.getD s undef = a0.tmps.getD s undef
  post : ∀ (k : Nat) (o : Oper), ops[k]? = some o → L.getD k true = true → Post k (slotOf a o) w

theorem all_listed {L : Array Bool} (hs : L.size = ops.size) (hafter : ∀ (k : Nat) (o : Oper), ops[k]? = some o → ∀ e ∈ o.after, Region.binds .any e = true → e.on < k) (h : Region.ready .any ops L = []) : ∀ k, L.getD k true = true := by
  intro k
  induction k using Nat.strongRecOn with
  | ind k ih =>
    rcases hb : L.getD k true with _ | _
    · have hkl : k < L.size := by
        rcases Nat.lt_or_ge k L.size with h' | h'
        · exact h'
        · simp [Array.getElem?_eq_none h'] at hb
      have hko : k < ops.size := by omega
      have hm : k ∈ Region.ready .any ops L := mem_ready.2 ⟨hb, ops[k], Array.getElem?_eq_getElem hko, fun e he hbn => by
        have hlt := hafter k _ (Array.getElem?_eq_getElem hko) e he hbn
        have h1 := ih e.on hlt
        have hel : e.on < L.size := by omega
        simp [hel] at h1 ⊢
        exact h1⟩
      rw [h] at hm
      cases hm
    · rfl
theorem count_set {L : Array Bool} {i : Nat} (h : L.getD i true = false) : (L.setIfInBounds i true).count false + 1 = L.count false := by
  have hlt : i < L.size := by
    rcases Nat.lt_or_ge i L.size with h' | h'
    · exact h'
    · simp [Array.getElem?_eq_none h'] at h
  have hv : L[i] = false := by simpa [hlt] using h
  rw [Array.setIfInBounds_def, dif_pos hlt, Array.count_set hlt, hv]
  have : 0 < L.count false := Array.count_pos_iff.2 (by rw [← hv]; exact Array.getElem_mem hlt)
  simp
  omega

theorem wpAny_posts {a0 : Act} (Inv : World → Prop) (Step : World → World → Prop) (Post : Nat → Value → World → Prop) (ht : tidy ops a0.tmps.size = true)
    (hstab : ∀ k v w w', Post k v w → Inv w → Step w w' → Post k v w')
    (hstep : ∀ (k : Nat) (o : Oper), ops[k]? = some o → ∀ a w, Inv w → a.tmps.size = a0.tmps.size → (∀ s, (∀ (j : Nat) (o' : Oper), ops[j]? = some o' → o'.dst ≠ some s) → a.tmps.getD s undef = a0.tmps.getD s undef) →
      (∀ e ∈ o.after, Region.binds .any e = true → ∀ (o' : Oper), ops[e.on]? = some o' → Post e.on (slotOf a o') w) →
      ∀ K : Act → World → Prop, (∀ v w', (o.dst = none → v = undef) → Inv w' → Step w w' → Post k v w' → K (a.put o.dst v) w') → Oper.wp P o a w K Q)
    (hend : ∀ a w, Inv w → a.defers = a0.defers → a.tmps.size = a0.tmps.size → (∀ s, (∀ (j : Nat) (o' : Oper), ops[j]? = some o' → o'.dst ≠ some s) → a.tmps.getD s undef = a0.tmps.getD s undef) →
      (∀ (k : Nat) (o : Oper), ops[k]? = some o → Post k (slotOf a o) w) → Q .normal a w) :
    ∀ (fuel : Nat) (L : Array Bool) (a : Act) (w : World), RegAt ops a0 Inv Post L a w → L.count false ≤ fuel → wpAny P .any ops Q fuel L a w := by
  have fin : ∀ (L : Array Bool) (a : Act) (w : World), RegAt ops a0 Inv Post L a w → Region.ready .any ops L = [] → Q .normal a w := fun L a w h hr =>
    hend a w h.inv h.defers h.tsize h.fix (fun k o hk => h.post k o hk (all_listed h.size (fun k o hk => (tidy_at ht hk).2.1) hr k))
  intro fuel
  induction fuel with
  | zero =>
    intro L a w h hc
    have hr : Region.ready .any ops L = [] := by
      cases hr : Region.ready .any ops L with
      | nil => rfl
      | cons x xs =>
        have hx : x ∈ Region.ready .any ops L := by rw [hr]; exact List.mem_cons_self
        have := count_set (mem_ready.1 hx).1
        omega
    exact ⟨hr, fin L a w h hr⟩
  | succ fuel ih =>
    intro L a w h hc
    refine ⟨fin L a w h, fun i hi => ?_⟩
    obtain ⟨hun, o, ho, hall⟩ := mem_ready.1 hi
    obtain ⟨hg, hb, hd⟩ := tidy_at ht ho
    have hw : Region.wanted o (yielded ops a.tmps) = true := by simp [Region.wanted, hg]
    have hcs := count_set hun
    unfold wpOp
    simp only [ho]
    rw [if_pos hw]
    refine .inl (hstep i o ho a w h.inv h.tsize h.fix (fun e he hbn o' ho' => h.post e.on o' ho' ?_) _ (fun v w' hv hinv hst hpost => ih _ _ _ ?_ (by omega)))
    · have h1 := hall e he hbn
      have hel : e.on < L.size := by
        rcases Nat.lt_or_ge e.on L.size with h' | h'
        · exact h'
        · simp [Array.getElem?_eq_none h'] at h1
      simp [hel] at h1 ⊢
      exact h1
    · refine ⟨by simpa using h.size, hinv, ?_, ?_, ?_, ?_⟩
      · cases hod : o.dst with
        | none => exact h.defers
        | some d => exact h.defers
      · cases hod : o.dst with
        | none => exact h.tsize
        | some d => simpa [Act.put] using h.tsize
      · intro s hs
        rw [← h.fix s hs]
        cases hod : o.dst with
        | none => rfl
        | some d =>
          have hne : d ≠ s := fun e => hs i o ho (by rw [hod, e])
          simp [Act.put, Array.getElem?_setIfInBounds_ne hne]
      · intro k o' hk hL
        by_cases hik : i = k
        · subst hik
          rw [ho] at hk
          cases hk
          cases hod : o.dst with
          | none =>
            have : slotOf (a.put none v) o = v := by rw [hv hod]; unfold slotOf; rw [hod]
            rw [this]
            exact hpost
          | some d =>
            have hlt : d < a.tmps.size := by rw [h.tsize]; exact (hd d hod).1
            have : slotOf (a.put (some d) v) o = v := by
              unfold slotOf
              rw [hod]
              simp [Act.put, hlt]
            rw [this]
            exact hpost
        · rw [getD_set_ne true hik] at hL
          have hold := hstab k _ w w' (h.post k o' hk hL) h.inv hst
          have : slotOf (a.put o.dst v) o' = slotOf a o' := by
            cases hod : o.dst with
            | none => rfl
            | some d =>
              unfold slotOf
              cases hod' : o'.dst with
              | none => rfl
              | some d' =>
                have hne : d ≠ d' := fun e => hik ((hd d hod).2 k o' hk (by rw [hod', e]))
                simp [Act.put, Array.getElem?_setIfInBounds_ne hne]
          rw [this]
          exact hold

/-- THE LAW: whatever order is drawn, each operation leaves what it leaves; what one leaves is not undone by another. -/
theorem wp_region_posts {id : Nat} {a0 : Act} {w0 : World} (hm : P.follows .mixedOrders = true) (Inv : World → Prop) (Step : World → World → Prop) (Post : Nat → Value → World → Prop) (h0 : Inv { w0 with drawn := w0.drawn + 1 }) (ht : tidy ops a0.tmps.size = true)
    (hstab : ∀ k v w w', Post k v w → Inv w → Step w w' → Post k v w')
    (hstep : ∀ (k : Nat) (o : Oper), ops[k]? = some o → ∀ a w, Inv w → a.tmps.size = a0.tmps.size → (∀ s, ops.all (fun o => o.dst != some s) = true → a.tmps.getD s undef = a0.tmps.getD s undef) →
      (∀ (j : Nat) (o' : Oper), ops[j]? = some o' → o.after.any (fun e => Region.binds .any e && e.on == j) = true → Post j (slotOf a o') w) →
      ∀ K : Act → World → Prop, (∀ v w', (o.dst = none → v = undef) → Inv w' → Step w w' → Post k v w' → K (a.put o.dst v) w') → Oper.wp P o a w K Q)
    (hend : ∀ a w, Inv w → a.defers = a0.defers → a.tmps.size = a0.tmps.size → (∀ s, ops.all (fun o => o.dst != some s) = true → a.tmps.getD s undef = a0.tmps.getD s undef) →
      (∀ (k : Nat) (o : Oper), ops[k]? = some o → Post k (slotOf a o) w) → Q .normal a w) : (Code.region id ops true).wp P Q a0 w0 := by
  have hfx : ∀ s, ops.all (fun o => o.dst != some s) = true → ∀ (j : Nat) (o' : Oper), ops[j]? = some o' → o'.dst ≠ some s := fun s hs j o' hj e => by
    have := Array.all_eq_true_iff_forall_mem.1 hs o' (Array.mem_of_getElem? hj)
    simp [e] at this
  refine wp_region_any hm (wpAny_posts Inv Step Post ht hstab (fun k o hk a w hI hsz hfix hdep K hK => hstep k o hk a w hI hsz (fun s hs => hfix s (hfx s hs)) (fun j o' hj ha => ?_) K hK) (fun a w hI hd hsz hfix hpost => hend a w hI hd hsz (fun s hs => hfix s (hfx s hs)) hpost) _ _ _ _ ⟨by simp, h0, rfl, rfl, fun _ _ => rfl, fun k o hk hL => ?_⟩ ?_)
  · obtain ⟨e, he, hb⟩ := Array.any_eq_true'.1 ha
    rw [Bool.and_eq_true, beq_iff_eq] at hb
    obtain ⟨hb, rfl⟩ := hb
    exact hdep e he hb o' hj
  · have hlt : k < ops.size := (Array.getElem?_eq_some_iff.1 hk).1
    simp [hlt] at hL
  · exact Nat.le_trans Array.count_le_size (by simp)
/-- An operation that yields a value. -/
theorem wp_value {o : Oper} {a : Act} {w w' : World} {K : Act → World → Prop} {v : Value} (h : (execOp a.eval o).run P w = .ok (.value v) w') (hk : K (a.put o.dst v) w') : Oper.wp P o a w K Q := by
  unfold Oper.wp
  rw [h]
  exact hk
/-- One that yields nothing. -/
theorem wp_skip {o : Oper} {a : Act} {w w' : World} {K : Act → World → Prop} (h : (execOp a.eval o).run P w = .ok .skip w') (hk : K (a.put o.dst undef) w') : Oper.wp P o a w K Q := by
  unfold Oper.wp
  rw [h]
  exact hk
end
end Go.Proofs.Ytgaejcljabhijaa
