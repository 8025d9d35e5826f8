/- What the search tells, in plain words: with room enough the cheapest; always one whose ties hold, no dearer than the one that it began with. -/
import Derived.Test.YtgaejcljabhijaaKah
import Derived.Test.YtgaejcljabhijaaPcLib
import Derived.Test.YtgaejcljabhijaaKae
import Derived.Lib.AppendIntMem
import Derived.WalkKit
import Derived.Laws.OwnMore
import Derived.Test.YtgaejcljabhijaaKag
import Derived.Test.YtgaejcljabhijaaRightLib
import Derived.Test.YtgaejcljabhijaaValLib
import Derived.Test.YtgaejcljabhijaaLib
import Derived.Deep.MidRow
import Derived.Laws.ResultCell
namespace Go.Proofs.Ytgaejcljabhijaa
open Go.RowKit

theorem cmp_self : ∀ (u : List Int), cmpL u u = 0
  | [] => rfl
  | a :: u => by rw [cmpL, if_neg (by omega), if_neg (by omega)]; exact cmp_self u
theorem cmp_zero : ∀ {u v : List Int}, cmpL u v = 0 → u = v
  | [], [], _ => rfl
  | [], _ :: _, h => by simp [cmpL] at h
  | _ :: _, [], h => by simp [cmpL] at h
  | a :: u, b :: v, h => by
    rw [cmpL] at h
    by_cases h1 : a < b
    · rw [if_pos h1] at h; omega
    · rw [if_neg h1] at h
      by_cases h2 : b < a
      · rw [if_pos h2] at h; omega
      · rw [if_neg h2] at h
        rw [cmp_zero h, show a = b by omega]
theorem ahead_iff {p : Pc} {wd : Int} {u b : List Int} : aheadB p wd u b = true ↔ (costOver p u wd < costOver p b wd ∨ costOver p u wd = costOver p b wd ∧ (costSum p u < costSum p b ∨ costSum p u = costSum p b ∧ cmpL u b < 0)) := by
  unfold aheadB lessV
  rw [Bool.or_eq_true, lessC_iff]
  simp only [Bool.and_eq_true, decide_eq_true_eq]
  omega
theorem ahead_no {p : Pc} {wd : Int} {u b : List Int} : aheadB p wd u b = false ↔ ¬ (costOver p u wd < costOver p b wd ∨ costOver p u wd = costOver p b wd ∧ (costSum p u < costSum p b ∨ costSum p u = costSum p b ∧ cmpL u b < 0)) := by
  rw [← ahead_iff]
  simp
theorem ahead_self (p : Pc) (wd : Int) (u : List Int) : aheadB p wd u u = false := by
  rw [ahead_no]
  have := cmp_self u
  omega
theorem ahead_tr {p : Pc} {wd : Int} {v b b' : List Int} (h1 : aheadB p wd v b = false) (h2 : aheadB p wd b' b = true) : aheadB p wd v b' = false := by
  rw [ahead_no] at h1 ⊢
  rw [ahead_iff] at h2
  intro h3
  by_cases hc : cmpL v b < 0
  · omega
  · by_cases hd : cmpL b' b < 0
    · by_cases he : cmpL v b' < 0
      · have h4 := cmp_back b' v
        exact cmp_tr hc (show ¬ cmpL b' v < 0 by have := cmp_back v b'; omega) hd
      · omega
    · omega
theorem ovr_pos (wd : Int) : ∀ (ss : List ByteArray), 0 ≤ ovr wd ss
  | [] => by rw [ovr]; omega
  | s :: ss => by
    have := ovr_pos wd ss
    rw [ovr]
    omega
theorem over_pos (p : Pc) (v : List Int) (wd : Int) : 0 ≤ costOver p v wd := ovr_pos _ _
/-- What is so while it searches. -/
structure SInv (p : Pc) (wd : Int) (h : List St) (best : List Int) : Prop where
  tie : TiesHold p best
  pre : ∀ x ∈ h, PreV p.rules x.vals
  may : ∀ x ∈ h, mayB p x.vals = true
  cov : ∀ v, TiesHold p v → aheadB p wd v best = false ∨ ∃ x ∈ h, ∃ t, v = x.vals ++ t
theorem pushK_old {p : Pc} {wd : Int} {best u : List Int} : ∀ (c k : Nat) (h : List St) (y : St), y ∈ h → y ∈ pushK p wd best u c k h
  | 0, _, _, _, hy => hy
  | c + 1, k, h, y, hy => by
    rw [pushK]
    refine pushK_old c (k + 1) _ y ?_
    split
    · exact mem_push.2 (.inl hy)
    · exact hy
theorem pushK_new {p : Pc} {wd : Int} {best u : List Int} : ∀ (c k : Nat) (h : List St) (j : Nat), k ≤ j → j < k + c → goodB p wd best (u ++ [(j : Int)]) = true → (⟨u ++ [(j : Int)], costSum p (u ++ [(j : Int)])⟩ : St) ∈ pushK p wd best u c k h
  | 0, k, _, j, h1, h2, _ => by omega
  | c + 1, k, h, j, h1, h2, hg => by
    rw [pushK]
    by_cases e : j = k
    · subst e
      rw [if_pos hg]
      exact pushK_old c _ _ _ (mem_push.2 (.inr rfl))
    · exact pushK_new c (k + 1) _ j (by omega) (by omega) hg
theorem pushK_from {p : Pc} {wd : Int} {best u : List Int} : ∀ (c k : Nat) (h : List St) (y : St), y ∈ pushK p wd best u c k h → y ∈ h ∨ ∃ j : Nat, k ≤ j ∧ j < k + c ∧ y = ⟨u ++ [(j : Int)], costSum p (u ++ [(j : Int)])⟩ ∧ goodB p wd best (u ++ [(j : Int)]) = true
  | 0, _, _, _, hy => .inl hy
  | c + 1, k, h, y, hy => by
    rw [pushK] at hy
    rcases pushK_from c (k + 1) _ y hy with h1 | ⟨j, h1, h2, h3⟩
    · split at h1
      · rename_i hg
        rcases mem_push.1 h1 with h1 | h1
        · exact .inl h1
        · exact .inr ⟨k, Nat.le_refl _, by omega, h1, hg⟩
      · exact .inl h1
    · exact .inr ⟨j, by omega, by omega, h3⟩
theorem pushK_tot {p : Pc} {wd : Int} {best u : List Int} (f : St → Int) (M : Int) (hM : 0 ≤ M) (hf : ∀ x : St, x.vals.length = u.length + 1 → f x ≤ M) : ∀ (c k : Nat) (h : List St), totS f (pushK p wd best u c k h) ≤ totS f h + c * M
  | 0, _, h => by rw [pushK]; omega
  | c + 1, k, h => by
    rw [pushK]
    have ih := pushK_tot (p := p) (wd := wd) (best := best) (u := u) f M hM hf c (k + 1) (if goodB p wd best (u ++ [(k : Int)]) = true then pushL stLess h ⟨u ++ [(k : Int)], costSum p (u ++ [(k : Int)])⟩ else h)
    have e : ((c + 1 : Nat) : Int) * M = c * M + M := by rw [Int.natCast_add, Int.add_mul]; simp
    rw [e]
    split at ih
    · rw [tot_push] at ih
      have := hf ⟨u ++ [(k : Int)], costSum p (u ++ [(k : Int)])⟩ (by simp)
      rw [if_pos (by assumption)]
      omega
    · rw [if_neg (by assumption)]
      omega
theorem pre_nonneg {rs : List Ru} {v : List Int} (h : InV rs v) : ∀ z ∈ v, 0 ≤ z := fun z hz => by
  obtain ⟨j, hj⟩ := List.mem_iff_getElem?.1 hz
  have hl := (List.getElem?_eq_some_iff.1 hj).1
  have := inV_len _ _ h
  obtain ⟨y, hy⟩ : ∃ y, rs[j]? = some y := ⟨_, List.getElem?_eq_getElem (by omega)⟩
  exact (inV_at _ _ h j z y hj hy).1
/-- A list that is not pushed on needs no look. -/
theorem bad_no {p : Pc} {wd : Int} (hR : Right p) {best u t : List Int} (ho : 0 ≤ costOver p (u ++ t) wd) (hv : TiesHold p (u ++ t)) (hg : goodB p wd best u = false) : aheadB p wd (u ++ t) best = false := by
  unfold goodB at hg
  cases hm : mayB p u with
  | false =>
    exfalso
    unfold mayB at hm
    rw [List.all_eq_false] at hm
    obtain ⟨x, hx, hb⟩ := hm
    obtain ⟨j, hj⟩ := List.mem_iff_getElem?.1 hx
    exact brk_pre (by simpa using hb) (hv.ties j x hj)
  | true =>
    rw [hm] at hg
    simp at hg
    have h1 := sum_pre hR (u := u) (t := t) (pre_nonneg (inV_ok hv.vals))
    rw [ahead_no]
    omega
theorem SInv.full {p : Pc} {wd : Int} {h : List St} {best : List Int} {x : St} (hR : Right p) (hi : SInv p wd h best) (hx : h[0]? = some x) (hl : x.vals.length = p.rules.length) : SInv p wd (restL stLess h) (if aheadB p wd x.vals best = true then x.vals else best) := by
  have hm := List.mem_of_getElem? hx
  have hT : TiesHold p x.vals := may_ties hR (pre_in (hi.pre x hm) hl) (hi.may x hm)
  have hr : ∀ y ∈ restL stLess h, y ∈ h := fun y hy => by
    obtain ⟨j, _, hj⟩ := rest_mem hy
    exact List.mem_of_getElem? hj
  refine ⟨?_, fun y hy => hi.pre y (hr y hy), fun y hy => hi.may y (hr y hy), fun v hv => ?_⟩
  · split
    · exact hT
    · exact hi.tie
  · have hnb : aheadB p wd v best = false → aheadB p wd v (if aheadB p wd x.vals best = true then x.vals else best) = false := fun h1 => by
      split
      · exact ahead_tr h1 (by assumption)
      · exact h1
    rcases hi.cov v hv with h1 | ⟨z, hz, t, ht⟩
    · exact .inl (hnb h1)
    · rcases mem_rest (lt := stLess) hx hz with e | h2
      · subst e
        left
        have hlv := hv.vals.len
        have ht0 : t = [] := by
          rw [ht, List.length_append] at hlv
          exact List.eq_nil_of_length_eq_zero (by omega)
        rw [ht0, List.append_nil] at ht
        rw [ht]
        split
        · exact ahead_self p wd _
        · rename_i h3
          simpa using h3
      · exact .inr ⟨z, h2, t, ht⟩
theorem SInv.part {p : Pc} {wd : Int} {h : List St} {best : List Int} {x : St} (hR : Right p) (hi : SInv p wd h best) (hx : h[0]? = some x) (hl : x.vals.length ≠ p.rules.length) : SInv p wd (pushK p wd best x.vals (vOf p x.vals.length) 0 (restL stLess h)) best := by
  have hm := List.mem_of_getElem? hx
  have hpx := hi.pre x hm
  have hr : ∀ y ∈ restL stLess h, y ∈ h := fun y hy => by
    obtain ⟨j, _, hj⟩ := rest_mem hy
    exact List.mem_of_getElem? hj
  have hlt : x.vals.length < p.rules.length := by have := hpx.1; omega
  obtain ⟨r, er⟩ : ∃ r, p.rules[x.vals.length]? = some r := ⟨_, List.getElem?_eq_getElem hlt⟩
  have hv2 := (hR.rules.2 _ r er).1
  have hvo : (vOf p x.vals.length : Int) = r.values := by unfold vOf; rw [er]; simp; omega
  refine ⟨hi.tie, fun y hy => ?_, fun y hy => ?_, fun v hv => ?_⟩
  · rcases pushK_from _ _ _ y hy with h1 | ⟨j, _, hj, e, _⟩
    · exact hi.pre y (hr y h1)
    · rw [e]
      exact pre_add hpx er (by omega)
  · rcases pushK_from _ _ _ y hy with h1 | ⟨j, _, hj, e, hg⟩
    · exact hi.may y (hr y h1)
    · rw [e]
      unfold goodB at hg
      rw [Bool.and_eq_true] at hg
      exact hg.1
  · rcases hi.cov v hv with h1 | ⟨z, hz, t, ht⟩
    · exact .inl h1
    · rcases mem_rest (lt := stLess) hx hz with e | h2
      · subst e
        have hlv := hv.vals.len
        cases t with
        | nil => rw [ht, List.append_nil] at hlv; exact absurd hlv hl
        | cons q t =>
          have hq : v[z.vals.length]? = some q := by rw [ht]; simp
          have hqr := hv.vals.all _ q r hq er
          obtain ⟨k, hk⟩ := Int.eq_ofNat_of_zero_le hqr.1
          have hv' : v = (z.vals ++ [(k : Int)]) ++ t := by rw [ht, ← hk]; simp
          cases hg : goodB p wd best (z.vals ++ [(k : Int)]) with
          | true => exact .inr ⟨_, pushK_new _ 0 _ k (Nat.zero_le _) (by omega) hg, t, hv'⟩
          | false =>
            left
            rw [hv'] at hv ⊢
            exact bad_no hR (over_pos _ _ _) hv hg
      · exact .inr ⟨z, pushK_old _ _ _ z h2, t, ht⟩
theorem srch_step {p : Pc} {wd : Int} {f : Nat} {h : List St} {best : List Int} {x : St} (hx : h[0]? = some x) : srch p wd (f + 1) h best = if x.vals.length = p.rules.length then srch p wd f (restL stLess h) (if aheadB p wd x.vals best = true then x.vals else best) else srch p wd f (pushK p wd best x.vals (vOf p x.vals.length) 0 (restL stLess h)) best := by
  cases h with
  | nil => simp at hx
  | cons y ys =>
    have e : hd0 (y :: ys) = x := by unfold hd0; rw [hx]; rfl
    rw [srch, e]
/-- What it tells behind all: the cheapest. -/
theorem srch_best {p : Pc} {wd : Int} (hR : Right p) : ∀ (f : Nat) (h : List St) (best : List Int), SInv p wd h best → (srch p wd f h best).2 = 1 → Best p wd (srch p wd f h best).1
  | f, [], best, hi, _ => by
    have e : srch p wd f [] best = (best, 1) := by cases f <;> rfl
    rw [e]
    show Best p wd best
    refine ⟨hi.tie, (rk_bd _ _ (inV_ok hi.tie.vals)).2, fun u hu _ => ?_⟩
    rcases hi.cov u hu with h1 | ⟨x, hx, _⟩
    · rw [ahead_no] at h1
      refine ⟨by unfold lessV; rw [lessC_no]; omega, fun e1 e2 => ?_⟩
      have h2 : ¬ cmpL u best < 0 := by omega
      rcases cmp_in u best with h3 | h3 | h3
      · omega
      · rw [cmp_zero h3]; exact Int.le_refl _
      · have h4 := cmp_back u best
        have := rk_cmp _ _ _ (inV_ok hi.tie.vals) (inV_ok hu.vals) (by omega)
        omega
    · cases hx
  | 0, y :: ys, best, _, h2 => by rw [srch] at h2; cases h2
  | f + 1, y :: ys, best, hi, h2 => by
    have hx : (y :: ys)[0]? = some y := rfl
    rw [srch_step hx] at h2 ⊢
    split at h2
    · rename_i hl
      rw [if_pos hl]
      exact srch_best hR f _ _ (hi.full hR hx hl) h2
    · rename_i hl
      rw [if_neg hl]
      exact srch_best hR f _ _ (hi.part hR hx hl) h2
/-- What it tells, be it behind all or not. -/
theorem srch_some {p : Pc} {wd : Int} (hR : Right p) : ∀ (f : Nat) (h : List St) (best : List Int), SInv p wd h best → TiesHold p (srch p wd f h best).1 ∧ lessV p wd best (srch p wd f h best).1 = false ∧ ((srch p wd f h best).2 = 1 ∨ (srch p wd f h best).2 = 2)
  | f, [], best, hi => by
    have e : srch p wd f [] best = (best, 1) := by cases f <;> rfl
    rw [e]
    exact ⟨hi.tie, by show lessV p wd best best = false; unfold lessV; rw [lessC_no]; omega, .inl rfl⟩
  | 0, y :: ys, best, hi => by
    rw [srch]
    exact ⟨hi.tie, by show lessV p wd best best = false; unfold lessV; rw [lessC_no]; omega, .inr rfl⟩
  | f + 1, y :: ys, best, hi => by
    have hx : (y :: ys)[0]? = some y := rfl
    rw [srch_step hx]
    split
    · rename_i hl
      have ih := srch_some hR f _ _ (hi.full hR hx hl)
      refine ⟨ih.1, ?_, ih.2.2⟩
      have h1 := ih.2.1
      split at h1
      · rename_i ha
        rw [if_pos ha]
        rw [ahead_iff] at ha
        unfold lessV at h1 ⊢
        rw [lessC_no] at h1 ⊢
        omega
      · rename_i ha
        rw [if_neg ha]
        exact h1
    · rename_i hl
      exact srch_some hR f _ _ (hi.part hR hx hl)
/-- How many first values there are that go on from some. -/
def nodes : List Ru → Int
  | [] => 1
  | r :: rs => 1 + r.values * nodes rs
theorem nodes_le : ∀ (rs : List Ru), (∀ x ∈ rs, 2 ≤ x.values ∧ x.values ≤ 3) → 1 ≤ nodes rs ∧ nodes rs ≤ 2 * tot rs - 1
  | [], _ => by simp [nodes, tot]
  | r :: rs, h => by
    have ih := nodes_le rs (fun x hx => h x (List.mem_cons_of_mem _ hx))
    have hr := h r List.mem_cons_self
    rw [nodes, tot]
    have h1 : 0 ≤ r.values * nodes rs := Int.mul_nonneg (by omega) (by omega)
    have h2 : r.values * nodes rs ≤ r.values * (2 * tot rs - 1) := Int.mul_le_mul_of_nonneg_left ih.2 (by omega)
    have h3 : r.values * (2 * tot rs - 1) = 2 * (r.values * tot rs) - r.values := by rw [Int.mul_sub, Int.mul_one]; congr 1; rw [Int.mul_left_comm]
    omega
/-- What is left to be popped, at most. -/
def leftOf (p : Pc) (h : List St) : Int := totS (fun x => nodes (p.rules.drop x.vals.length)) h
theorem nodes_at {p : Pc} {k : Nat} {r : Ru} (hr : p.rules[k]? = some r) : nodes (p.rules.drop k) = 1 + r.values * nodes (p.rules.drop (k + 1)) := by
  have h1 := List.getElem?_eq_some_iff.1 hr
  rw [List.drop_eq_getElem_cons h1.1, nodes, h1.2]
theorem nodes_pos {p : Pc} (hR : Right p) (k : Nat) : 1 ≤ nodes (p.rules.drop k) := (nodes_le _ (fun x hx => right_vals hR x (List.mem_of_mem_drop hx))).1
theorem left_full {p : Pc} {h : List St} {x : St} (hR : Right p) (hx : h[0]? = some x) : leftOf p (restL stLess h) ≤ leftOf p h - 1 := by
  unfold leftOf
  rw [tot_rest (lt := stLess) _ h x hx]
  have := nodes_pos hR x.vals.length
  omega
theorem left_part {p : Pc} {wd : Int} {best : List Int} {h : List St} {x : St} (hR : Right p) (hx : h[0]? = some x) (hl : x.vals.length < p.rules.length) : leftOf p (pushK p wd best x.vals (vOf p x.vals.length) 0 (restL stLess h)) ≤ leftOf p h - 1 := by
  obtain ⟨r, er⟩ : ∃ r, p.rules[x.vals.length]? = some r := ⟨_, List.getElem?_eq_getElem hl⟩
  have hv2 := (hR.rules.2 _ r er).1
  have hvo : (vOf p x.vals.length : Int) = r.values := by unfold vOf; rw [er]; simp; omega
  have hp := nodes_pos hR (x.vals.length + 1)
  have h1 := pushK_tot (p := p) (wd := wd) (best := best) (u := x.vals) (fun y => nodes (p.rules.drop y.vals.length)) (nodes (p.rules.drop (x.vals.length + 1))) (by omega) (fun y hy => by rw [hy]; exact Int.le_refl _) (vOf p x.vals.length) 0 (restL stLess h)
  have h2 := tot_rest (lt := stLess) (fun y : St => nodes (p.rules.drop y.vals.length)) h x hx
  have h3 := nodes_at er
  rw [hvo] at h1
  unfold leftOf
  rw [h2] at h1
  omega
theorem srch_room {p : Pc} {wd : Int} (hR : Right p) : ∀ (f : Nat) (h : List St) (best : List Int), SInv p wd h best → leftOf p h ≤ f → (srch p wd f h best).2 = 1
  | f, [], best, _, _ => by cases f <;> rfl
  | 0, y :: ys, best, _, hl => by
    exfalso
    have hx : (y :: ys)[0]? = some y := rfl
    have h1 := left_full hR hx
    have h2 : 0 ≤ leftOf p (restL stLess (y :: ys)) := by
      unfold leftOf
      have : ∀ (xs : List St), 0 ≤ totS (fun x => nodes (p.rules.drop x.vals.length)) xs := by
        intro xs
        induction xs with
        | nil => exact Int.le_refl _
        | cons z zs ih =>
          rw [totS]
          have := nodes_pos hR z.vals.length
          omega
      exact this _
    omega
  | f + 1, y :: ys, best, hi, hl => by
    have hx : (y :: ys)[0]? = some y := rfl
    rw [srch_step hx]
    split
    · rename_i h1
      exact srch_room hR f _ _ (hi.full hR hx h1) (by have := left_full hR hx; omega)
    · rename_i h1
      have hlt : y.vals.length < p.rules.length := by have := (hi.pre y List.mem_cons_self).1; omega
      exact srch_room hR f _ _ (hi.part hR hx h1) (by have := left_part (wd := wd) (best := best) hR hx hlt; omega)
/-- The search begins so. -/
theorem srch_start {p : Pc} {wd : Int} {best : List Int} (hb : TiesHold p best) : SInv p wd [⟨[], 0⟩] best :=
  ⟨hb, fun x hx => by
    have : x = ⟨[], 0⟩ := by simpa using hx
    subst this
    exact ⟨Nat.zero_le _, fun j z y hz => by simp at hz⟩, fun x hx => by
    have : x = ⟨[], 0⟩ := by simpa using hx
    subst this
    unfold mayB
    rw [List.all_eq_true]
    intro t _
    unfold brk
    have : ¬ (0 ≤ t.kid ∧ t.kid < 0) := by omega
    by_cases h0 : 0 ≤ t.kid
    · simp [show ¬ t.kid < 0 by omega]
    · simp [h0], fun v _ => .inr ⟨_, List.mem_cons_self, v, rfl⟩⟩
theorem left_start {p : Pc} (hR : Right p) : leftOf p [⟨[], 0⟩] ≤ 2 * cntOf p - 1 := by
  have h := (nodes_le p.rules (right_vals hR)).2
  rw [cnt_tot hR]
  unfold leftOf
  simp only [totS, List.length_nil, List.drop_zero]
  omega
/-- The whole search. -/
def srchOf (p : Pc) (wd budget : Int) (b0 : List Int) : List Int × Int := srch p wd budget.toNat [⟨[], 0⟩] b0
theorem srchOf_some {p : Pc} {wd budget : Int} {b0 : List Int} (hR : Right p) (hb : TiesHold p b0) : TiesHold p (srchOf p wd budget b0).1 ∧ lessV p wd b0 (srchOf p wd budget b0).1 = false ∧ ((srchOf p wd budget b0).2 = 1 ∨ (srchOf p wd budget b0).2 = 2) := srch_some hR _ _ _ (srch_start hb)
theorem srchOf_best {p : Pc} {wd budget : Int} {b0 : List Int} (hR : Right p) (hb : TiesHold p b0) (h : (srchOf p wd budget b0).2 = 1) : Best p wd (srchOf p wd budget b0).1 := srch_best hR _ _ _ (srch_start hb) h
theorem srchOf_room {p : Pc} {wd budget : Int} {b0 : List Int} (hR : Right p) (hb : TiesHold p b0) (h : 2 * cntOf p - 1 ≤ budget) : (srchOf p wd budget b0).2 = 1 := srch_room hR _ _ _ (srch_start hb) (by have := left_start hR; omega)
theorem srchOf_none {p : Pc} {wd budget : Int} {b0 : List Int} (h : budget ≤ 0) : srchOf p wd budget b0 = (b0, 2) := by
  unfold srchOf
  rw [show budget.toNat = 0 by omega]
  rfl
end Go.Proofs.Ytgaejcljabhijaa
/- What impl.AllSplit and spec.AllSplit answer. -/
namespace Go.Proofs.Ytgaejcljabhijaa
open Go.RowKit

def lessOne (x : Ru) : Int := wrap64 (x.values - 1)
/-- Each rule's greatest value. -/
def allV (p : Pc) : List Int := p.rules.map lessOne
theorem allV_len (p : Pc) : (allV p).length = p.rules.length := by simp [allV]

set_option maxHeartbeats 4000000 in
set_option maxRecDepth 20000 in
theorem iSpl_any (p : Pc) (l : Pl) (w : World) (hn0 : p.rules.length ≤ 1048576) (h : RowsAt 2 ruCells w l.a1 p.rules) :
    Calls Try.prog 107 #[pcV p l] w fun e w' => IntsAns (allV p) 3 w e w' := by
  show Calls _ _ #[.agg #[.int .i64 p.indent, .slice l.a1 p.rules.length l.c1, .slice l.a2 p.chunks.length l.c2, .slice l.a3 p.spans.length l.c3, .slice l.a4 p.ties.length l.c4]] _ _
  obtain ⟨i0, hi, hz0, hz1, hz2⟩ := info_parts infoIntT
  unfold RowsAt at h
  unfold allV
  obtain ⟨xs, hxs⟩ : ∃ xs, xs = p.rules := ⟨_, rfl⟩
  rw [← hxs] at h hn0 ⊢
  obtain ⟨n, hn⟩ : ∃ n, n = xs.length := ⟨_, rfl⟩
  rw [← hn] at h hn0 ⊢
  have HN := hidOf hn
  clear hn hxs
  have HB : ∀ o1 : Obj, Below w.heap.size w (w.alloc o1) := fun o1 => (Below.refl _ _).alloc (Nat.le_refl _) _
  go_enter Try.func107, Try.ntmps107
  go_wp2
  go_loopw [3, 10] (fun v i wr => ∃ (k : Nat) (os : List Int), k ≤ n ∧ i = .int .i64 k ∧ Hid (os.length = k) ∧ Hid (os = (xs.take k).map lessOne) ∧ wr.ownsRow (w.heap.size + 1) 3 1 v k (intVals os) ∧ wr.cell? ⟨w.heap.size, 1, none⟩ = some (.slice l.a1 n l.c1) ∧ w.heap.size < wr.heap.size ∧ Below w.heap.size w wr)
    (fun _ i _ => n - (intOf i).toNat)
  case atStart => exact ⟨0, [], by omega, rfl, hidOf rfl, hidOf rfl, own_none1 w _ _ _, by simp, by simp; omega, ((Below.refl _ w).alloc (Nat.le_refl _) _).alloc (by simp) _⟩
  case round =>
    obtain ⟨k, os, hk, rfl, HOL, HI, hown, hbox, hz, hb⟩ := hrel
    obtain ⟨ao, cv, rfl⟩ := owns_slice hown
    have hsz := hb.size
    clear HB
    by_cases hlt : k < n
    · obtain ⟨x, ex⟩ : ∃ x, xs[k]? = some x := ⟨_, List.getElem?_eq_getElem (by rw [← HN.out]; exact hlt)⟩
      obtain ⟨b1, o1, e1, hb1, hc1⟩ := h (by omega)
      obtain ⟨p0, p1⟩ := ruC (w := wr) (fun j hj => by rw [hb.cell hb1]; exact hc1 k x ex j hj)
      rw [e1] at hbox ⊢
      have HX := hidOf (show os ++ [lessOne x] = (xs.take (k + 1)).map lessOne by rw [List.take_add_one, ex, List.map_append, ← HI.out]; rfl)
      clear ex hc1 h e1
      have hA : (0 : Int) ≤ (k : Int) := by omega
      have hB : (k : Int) < (n : Int) := by omega
      have HY := hidOf (show lessOne x = wrap64 (x.values - 1) from rfl)
      have ho2 := hown.alloc (.cells #[.int .i64 x.values, .int .i64 x.cost] 69)
      have hB2 : Below w.heap.size w (wr.alloc (.cells #[.int .i64 x.values, .int .i64 x.cost] 69)) := hb.alloc hb.size _
      have hs2 := hB2.size
      have hlt2 : w.heap.size < (wr.alloc (.cells #[.int .i64 x.values, .int .i64 x.cost] 69)).heap.size := by simp; omega
      have hbox2 : (wr.alloc (.cells #[.int .i64 x.values, .int .i64 x.cost] 69)).cell? ⟨w.heap.size, 1, none⟩ = some (.slice (some ⟨b1, o1, none⟩) n l.c1) := by rw [World.cell?_of_block (Below.heap_alloc wr _ _ hz)]; exact hbox
      go_wp2_with (at_builtin; refine wpList_append_own _ rfl _ _ 32 rfl (w.heap.size + 1) 3 i0 (.int .i64 0) 1 8 Try.underlying32 hi hz0 hz1 hz2 rfl (by decide) _ _ _ rfl (ho2.alloc _) ⟨wr.heap.size + 1, 0, none⟩ 1 1 [.int .i64 (wrap64 (x.values - 1))] rfl rfl (cell_one_new1 _ _ _ _) (fun x hx => by simp at hx; subst hx; rfl) (by unfold maxLen; omega) (by omega) (by simp; omega) ?_; intro v' w3 hown' hgrow3 hnil3)
      go_roundw
      case rel => exact ⟨k + 1, os ++ [lessOne x], by omega, by go_num, hidOf (by have := HOL.out; simp; omega), HX, by rw [HY.out]; simpa [intVals] using hown', by rw [World.cell?_of_block (hgrow3.block w.heap.size (by simp; omega) (fun e => by have := (ho2.lt _ e.symm).1; omega)), World.cell?_of_block (Below.heap_alloc _ _ _ hlt2)]; exact hbox2, by have := hgrow3.size; simp at this; omega, (hB2.alloc (by omega) _).grown hgrow3 (by simp; omega) (fun q hq => by have := (ho2.lt q hq).1; omega)⟩
      case measure => simp [intOf]; omega
    · go_wp2
      go_ret
      have h3 := HN.out
      have h4 := HI.out
      have h5 : k = n := by omega
      rw [List.take_of_length_le (by omega)] at h4
      rw [h4, h5, h3] at hown
      rw [h5, h3]
      exact ints_mk hb (ownsRow_base (base' := w.heap.size) (by rw [List.length_map]; exact hown) (by omega))

set_option maxHeartbeats 4000000 in
set_option maxRecDepth 20000 in
theorem sSpl_any (p : Pc) (l : Pl) (w : World) (hn0 : p.rules.length ≤ 1048576) (h : RowsAt 2 ruCells w l.a1 p.rules) :
    Calls Try.prog 14 #[pcV p l] w fun e w' => IntsAns (allV p) 3 w e w' := by
  show Calls _ _ #[.agg #[.int .i64 p.indent, .slice l.a1 p.rules.length l.c1, .slice l.a2 p.chunks.length l.c2, .slice l.a3 p.spans.length l.c3, .slice l.a4 p.ties.length l.c4]] _ _
  obtain ⟨i0, hi, hz0, hz1, hz2⟩ := info_parts infoIntT
  unfold RowsAt at h
  unfold allV
  obtain ⟨xs, hxs⟩ : ∃ xs, xs = p.rules := ⟨_, rfl⟩
  rw [← hxs] at h hn0 ⊢
  obtain ⟨n, hn⟩ : ∃ n, n = xs.length := ⟨_, rfl⟩
  rw [← hn] at h hn0 ⊢
  have HN := hidOf hn
  clear hn hxs
  have HB : ∀ o1 : Obj, Below w.heap.size w (w.alloc o1) := fun o1 => (Below.refl _ _).alloc (Nat.le_refl _) _
  go_enter Try.func14, Try.ntmps14
  go_wp2
  go_loopw [3, 4] (fun v i wr => ∃ (k : Nat) (os : List Int), k ≤ n ∧ i = .int .i64 k ∧ Hid (os.length = k) ∧ Hid (os = (xs.take k).map lessOne) ∧ wr.ownsRow (w.heap.size + 1) 3 1 v k (intVals os) ∧ wr.cell? ⟨w.heap.size, 1, none⟩ = some (.slice l.a1 n l.c1) ∧ w.heap.size < wr.heap.size ∧ Below w.heap.size w wr)
    (fun _ i _ => n - (intOf i).toNat)
  case atStart => exact ⟨0, [], by omega, rfl, hidOf rfl, hidOf rfl, own_none1 w _ _ _, by simp, by simp; omega, ((Below.refl _ w).alloc (Nat.le_refl _) _).alloc (by simp) _⟩
  case round =>
    obtain ⟨k, os, hk, rfl, HOL, HI, hown, hbox, hz, hb⟩ := hrel
    obtain ⟨ao, cv, rfl⟩ := owns_slice hown
    have hsz := hb.size
    clear HB
    by_cases hlt : k < n
    · obtain ⟨x, ex⟩ : ∃ x, xs[k]? = some x := ⟨_, List.getElem?_eq_getElem (by rw [← HN.out]; exact hlt)⟩
      obtain ⟨b1, o1, e1, hb1, hc1⟩ := h (by omega)
      obtain ⟨p0, p1⟩ := ruC (w := wr) (fun j hj => by rw [hb.cell hb1]; exact hc1 k x ex j hj)
      rw [e1] at hbox ⊢
      have HX := hidOf (show os ++ [lessOne x] = (xs.take (k + 1)).map lessOne by rw [List.take_add_one, ex, List.map_append, ← HI.out]; rfl)
      clear ex hc1 h e1
      have hA : (0 : Int) ≤ (k : Int) := by omega
      have hB : (k : Int) < (n : Int) := by omega
      have HY := hidOf (show lessOne x = wrap64 (x.values - 1) from rfl)
      have ho2 := hown
      have hB2 : Below w.heap.size w wr := hb
      have hs2 := hB2.size
      have hlt2 : w.heap.size < wr.heap.size := by omega
      have hbox2 : wr.cell? ⟨w.heap.size, 1, none⟩ = some (.slice (some ⟨b1, o1, none⟩) n l.c1) := by exact hbox
      go_wp2_with (at_builtin; refine wpList_append_own _ rfl _ _ 32 rfl (w.heap.size + 1) 3 i0 (.int .i64 0) 1 8 Try.underlying32 hi hz0 hz1 hz2 rfl (by decide) _ _ _ rfl (ho2.alloc _) ⟨wr.heap.size, 0, none⟩ 1 1 [.int .i64 (wrap64 (x.values - 1))] rfl rfl (cell_one_new _ _ _) (fun x hx => by simp at hx; subst hx; rfl) (by unfold maxLen; omega) (by omega) (by simp; omega) ?_; intro v' w3 hown' hgrow3 hnil3)
      go_roundw
      case rel => exact ⟨k + 1, os ++ [lessOne x], by omega, by go_num, hidOf (by have := HOL.out; simp; omega), HX, by rw [HY.out]; simpa [intVals] using hown', by rw [World.cell?_of_block (hgrow3.block w.heap.size (by simp; omega) (fun e => by have := (ho2.lt _ e.symm).1; omega)), World.cell?_of_block (Below.heap_alloc _ _ _ hlt2)]; exact hbox2, by have := hgrow3.size; simp at this; omega, (hB2.alloc (by omega) _).grown hgrow3 (by simp; omega) (fun q hq => by have := (ho2.lt q hq).1; omega)⟩
      case measure => simp [intOf]; omega
    · go_wp2
      go_ret
      have h3 := HN.out
      have h4 := HI.out
      have h5 : k = n := by omega
      rw [List.take_of_length_le (by omega)] at h4
      rw [h4, h5, h3] at hown
      rw [h5, h3]
      exact ints_mk hb (ownsRow_base (base' := w.heap.size) (by rw [List.length_map]; exact hown) (by omega))
end Go.Proofs.Ytgaejcljabhijaa
/- Each rule's greatest value: right values, and every tie of a right piece holds. -/
namespace Go.Proofs.Ytgaejcljabhijaa
open Go.RowKit

theorem wrR_in {n : Int} (h : -9223372036854775808 ≤ n ∧ n ≤ 9223372036854775807) : wrap64 n = n := (IntWalk.i64_left n).symm.trans (IntWalk.i64_in n h)
theorem allR_at {p : Pc} (h : Right p) {j : Nat} {z : Int} (hz : (allV p)[j]? = some z) : ∃ y, p.rules[j]? = some y ∧ z = y.values - 1 ∧ 1 ≤ z := by
  unfold allV at hz
  rw [List.getElem?_map] at hz
  cases hy : p.rules[j]? with
  | none => rw [hy] at hz; cases hz
  | some y =>
    rw [hy] at hz
    have hv := (h.rules.2 j y hy).1
    have e : z = wrap64 (y.values - 1) := by cases hz; rfl
    rw [wrR_in ⟨by omega, by omega⟩] at e
    exact ⟨y, rfl, e, by omega⟩
theorem allR_ok {p : Pc} (h : Right p) : ValOk p (allV p) := by
  refine ⟨allV_len p, fun j z y hz hy => ?_⟩
  obtain ⟨y', hy', e, h1⟩ := allR_at h hz
  rw [hy] at hy'
  cases hy'
  omega
theorem allR_ties {p : Pc} (h : Right p) : TiesHold p (allV p) := by
  refine ⟨allR_ok h, fun j x hx => ?_⟩
  obtain ⟨⟨k1, k2⟩, ⟨u1, u2⟩, -⟩ := h.ties.all j x hx
  have hl := allV_len p
  obtain ⟨z1, e1, s1⟩ := st_of (vs := allV p) k1 (by omega)
  obtain ⟨z2, e2, s2⟩ := st_of (vs := allV p) u1 (by omega)
  obtain ⟨-, -, -, g1⟩ := allR_at h e1
  obtain ⟨-, -, -, g2⟩ := allR_at h e2
  unfold TieOk
  rw [s1, s2, if_pos (by omega), if_pos (by omega)]
  rfl
end Go.Proofs.Ytgaejcljabhijaa
/- A struct of two cells as a result. -/
namespace Go.Proofs.Ytgaejcljabhijaa
open Go.RowKit

/-- Two cells of a result. -/
theorem results_one2 {P : Program} {fn : Func} {p : Tmp} {ty : TypeId} (h : fn.results = #[.cell p ty]) (tmps : Array Value) (w : World) (g : Nat) (c0 c1 : Value) (d : TypeDesc)
    (hp : tmps.getD p undef = .pointer (some ⟨g, 0, none⟩)) (h0 : w.cell? ⟨g, 0, none⟩ = some c0) (h1 : w.cell? ⟨g, 1, none⟩ = some c1)
    (hu : P.underlying ty = some d) (hd : d.isRow = true) (hi : (P.info? ty).map (·.size) = some 2) :
    (results fn tmps).run P w = .ok (.agg #[c0, c1]) w := by
  have hr : w.rangeAt g 0 [c0, c1] := by
    intro j v hv
    match j with
    | 0 => simpa using h0.trans hv
    | 1 => simpa using h1.trans hv
    | j + 2 => simp at hv
  have hp' : tmps[p]?.getD undef = .pointer (some ⟨g, 0, none⟩) := by simpa using hp
  simp [results, h, hp', asAddr, run_loadVar_mid w g 0 ty [c0, c1] d hr hu hd (by simpa using hi)]
end Go.Proofs.Ytgaejcljabhijaa
