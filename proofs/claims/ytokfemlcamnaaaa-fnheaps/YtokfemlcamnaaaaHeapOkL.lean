/- A heap stays one when one more goes up, and when the first is taken out; its first is no more than all others. -/
import Derived.Test.YtokfemlcamnaaaaHeapTot
namespace Go.Proofs.Ytokfemlcamnaaaa

section
variable {α : Type} {lt : α → α → Bool}
/-- What is asked of 'less'. -/
structure Ord (lt : α → α → Bool) : Prop where
  back : ∀ {x y : α}, lt x y = true → lt y x = false
  tr : ∀ {x y z : α}, lt y x = false → lt z y = false → lt z x = false
theorem ltAt_as (h : Ord lt) {xs : List α} {i j : Nat} (hl : ltAt lt xs i j = true) : ltAt lt xs j i = false := by
  obtain ⟨hi, hj⟩ := ltAt_in hl
  rw [ltAt_of (List.getElem?_eq_getElem hi) (List.getElem?_eq_getElem hj)] at hl
  rw [ltAt_of (List.getElem?_eq_getElem hj) (List.getElem?_eq_getElem hi)]
  exact h.back hl
theorem ltAt_none {xs : List α} {i j : Nat} (h : xs.length ≤ j) : ltAt lt xs i j = false := by
  cases e : ltAt lt xs i j with
  | false => rfl
  | true => have := (ltAt_in e).2; omega
theorem ltAt_tr (h : Ord lt) {xs : List α} {i j k : Nat} (hj : j < xs.length) (h1 : ltAt lt xs j i = false) (h2 : ltAt lt xs k j = false) : ltAt lt xs k i = false := by
  by_cases hi : i < xs.length
  · by_cases hk : k < xs.length
    · rw [ltAt_of (List.getElem?_eq_getElem hj) (List.getElem?_eq_getElem hi)] at h1
      rw [ltAt_of (List.getElem?_eq_getElem hk) (List.getElem?_eq_getElem hj)] at h2
      rw [ltAt_of (List.getElem?_eq_getElem hk) (List.getElem?_eq_getElem hi)]
      exact h.tr h1 h2
    · exact ltAt_out (by omega)
  · exact ltAt_none (by omega)
theorem ltAt_swp {xs : List α} {i j : Nat} (hi : i < xs.length) (hj : j < xs.length) (hne : i ≠ j) (k l : Nat) : ltAt lt (swp xs i j) k l = ltAt lt xs (sw i j k) (sw i j l) := by
  unfold ltAt
  rw [swp_at hi hj hne, swp_at hi hj hne]
theorem sw_i (i j : Nat) : sw i j i = j := by unfold sw; simp
theorem sw_j (i j : Nat) : sw i j j = i := by unfold sw; split <;> simp_all
theorem sw_k {i j k : Nat} (h1 : k ≠ i) (h2 : k ≠ j) : sw i j k = k := by unfold sw; rw [if_neg h1, if_neg h2]
theorem par_eq {k i : Nat} (h : 0 < k) : par k = i ↔ k = 2 * i + 1 ∨ k = 2 * i + 2 := by unfold par; omega
/-- All but the one at i is as it should be. -/
structure UpInv (lt : α → α → Bool) (xs : List α) (i : Nat) : Prop where
  one : ∀ k, 0 < k → k ≠ i → ltAt lt xs k (par k) = false
  two : ∀ k, 0 < k → par k = i → 0 < i → ltAt lt xs k (par i) = false
theorem up_heap (h : Ord lt) : ∀ (n i : Nat) (xs : List α), i ≤ n → UpInv lt xs i → ∀ k, 0 < k → ltAt lt (up lt xs i) k (par k) = false
  | n, i, xs, hn, hv => by
    cases hb : (decide (0 < i) && ltAt lt xs i (par i)) with
    | false =>
      rw [up_no hb]
      intro k hk
      by_cases e : k = i
      · subst e
        simpa [hk] using hb
      · exact hv.one k hk e
    | true =>
      have h0 : 0 < i := by simp at hb; exact hb.1
      have hl : ltAt lt xs i (par i) = true := by simp at hb; exact hb.2
      have hp := par_lt h0
      obtain ⟨hi, hpi⟩ := ltAt_in hl
      have hne : i ≠ par i := by omega
      rw [up_yes h0 hl]
      match n, hn with
      | 0, hn => omega
      | n + 1, hn =>
        refine up_heap h n (par i) _ (by omega) ⟨fun k hk hkp => ?_, fun k hk hkp h0p => ?_⟩
        · rw [ltAt_swp hi hpi hne]
          by_cases e : k = i
          · subst e
            rw [sw_i, sw_j]
            exact ltAt_as h hl
          · rw [sw_k e hkp]
            by_cases e1 : par k = i
            · rw [e1, sw_i]
              exact hv.two k hk e1 h0
            · by_cases e2 : par k = par i
              · rw [e2, sw_j]
                exact ltAt_tr h hpi (ltAt_as h hl) (by rw [← e2]; exact hv.one k hk e)
              · rw [sw_k e1 e2]
                exact hv.one k hk e
        · have hpp := par_lt h0p
          rw [ltAt_swp hi hpi hne, sw_k (k := par (par i)) (by omega) (by omega)]
          by_cases e : k = i
          · subst e
            rw [sw_i]
            exact hv.one _ h0p (by omega)
          · have hkk := par_lt hk
            rw [sw_k e (by omega)]
            exact ltAt_tr h hpi (hv.one _ h0p (by omega)) (by rw [← hkp]; exact hv.one k hk e)
theorem heap_push (h : Ord lt) {xs : List α} {x : α} (hx : heapB lt xs = true) : heapB lt (pushL lt xs x) = true := by
  refine heapB_yes fun k hk _ => ?_
  refine up_heap h xs.length xs.length _ (Nat.le_refl _) ⟨fun k hk hne => ?_, fun k hk hp h0 => ?_⟩ k hk
  · by_cases hkl : k < xs.length
    · have hp := par_lt hk
      have := heapB_at hx k hk
      unfold ltAt at this ⊢
      rw [List.getElem?_append_left hkl, List.getElem?_append_left (by omega)]
      exact this
    · exact ltAt_out (by simp; omega)
  · have := par_lt hk
    exact ltAt_out (by simp; omega)
/-- All but those below the one at i is as it should be. -/
structure DnInv (lt : α → α → Bool) (xs : List α) (i : Nat) : Prop where
  one : ∀ k, 0 < k → par k ≠ i → ltAt lt xs k (par k) = false
  two : ∀ k, 0 < k → par k = i → 0 < i → ltAt lt xs k (par i) = false
theorem low_least (h : Ord lt) {xs : List α} {i k : Nat} (hk : 0 < k) (hp : par k = i) (hne : k ≠ low lt xs i) : ltAt lt xs k (low lt xs i) = false := by
  cases hb : ltAt lt xs (2 * i + 2) (2 * i + 1) with
  | true =>
    have e : low lt xs i = 2 * i + 2 := by unfold low; rw [hb]; simp
    rw [e] at hne ⊢
    have e1 : k = 2 * i + 1 := by rcases (par_eq hk).1 hp with h | h <;> omega
    rw [e1]
    exact ltAt_as h hb
  | false =>
    have e : low lt xs i = 2 * i + 1 := by unfold low; rw [hb]; simp
    rw [e] at hne ⊢
    have e1 : k = 2 * i + 2 := by rcases (par_eq hk).1 hp with h | h <;> omega
    rw [e1]
    exact hb
theorem dn_heap (h : Ord lt) : ∀ (n i : Nat) (xs : List α), xs.length - i ≤ n → DnInv lt xs i → ∀ k, 0 < k → ltAt lt (dn lt xs i) k (par k) = false
  | n, i, xs, hn, hv => by
    have hil := low_gt (lt := lt) xs i
    have hpl := low_par (lt := lt) xs i
    cases hb : ltAt lt xs (low lt xs i) i with
    | false =>
      rw [dn_no hb]
      intro k hk
      by_cases e : par k = i
      · by_cases e1 : k = low lt xs i
        · rw [e, e1]
          exact hb
        · rw [e]
          have hle := low_least h hk e e1
          by_cases hl : low lt xs i < xs.length
          · exact ltAt_tr h hl hb hle
          · rcases low_in (lt := lt) xs i with e2 | e2
            · exact ltAt_out (by rcases (par_eq hk).1 e with h | h <;> omega)
            · exfalso
              unfold low at e2
              split at e2
              · rename_i h3
                have := (ltAt_in h3).1
                have : low lt xs i = 2 * i + 2 := by unfold low; rw [if_pos h3]
                omega
              · omega
      · exact hv.one k hk e
    | true =>
      obtain ⟨hl, hi⟩ := ltAt_in hb
      rw [dn_yes hb]
      match n, hn with
      | 0, hn => omega
      | n + 1, hn =>
        refine dn_heap h n _ _ (by rw [swp_len]; omega) ⟨fun k hk hkp => ?_, fun k hk hkp h0 => ?_⟩
        · rw [ltAt_swp hi hl (by omega)]
          by_cases e : k = i
          · have hpi := par_lt hk
            rw [e] at hk hpi ⊢
            rw [sw_i, sw_k (by omega) (by omega)]
            exact hv.two _ (by omega) hpl hk
          · by_cases e1 : k = low lt xs i
            · rw [e1, sw_j, hpl, sw_i]
              exact ltAt_as h hb
            · rw [sw_k e e1]
              by_cases e2 : par k = i
              · rw [e2, sw_i]
                exact low_least h hk e2 e1
              · rw [sw_k e2 hkp]
                exact hv.one k hk e2
        · have hkk := par_lt hk
          rw [ltAt_swp hi hl (by omega), hpl, sw_i, sw_k (by omega) (by omega)]
          have := hv.one k hk (by omega)
          rw [hkp] at this
          exact this
theorem heap_rest (h : Ord lt) {xs : List α} (hx : heapB lt xs = true) : heapB lt (restL lt xs) = true := by
  refine heapB_yes fun k hk _ => ?_
  refine dn_heap h _ 0 _ (Nat.le_refl _) ⟨fun k hk hp => ?_, fun k _ _ h0 => absurd h0 (Nat.lt_irrefl 0)⟩ k hk
  by_cases hl : k < (cutL xs).length
  · have hpk := par_lt hk
    have := heapB_at hx k hk
    have hc := cutL_len xs
    obtain ⟨y, hy⟩ : ∃ y, xs[xs.length - 1]? = some y := ⟨_, List.getElem?_eq_getElem (by omega)⟩
    unfold ltAt at this ⊢
    rw [cutL_of hy, List.getElem?_take, if_pos (by omega), List.getElem?_take, if_pos (by omega), List.getElem?_set_ne (by omega), List.getElem?_set_ne (by omega)]
    exact this
  · exact ltAt_out (by omega)
theorem least_at (h : Ord lt) {xs : List α} (hx : heapB lt xs = true) : ∀ (n k : Nat), k ≤ n → ltAt lt xs k 0 = false
  | n, k, hn => by
    by_cases hk : 0 < k
    · have hp := par_lt hk
      match n, hn with
      | 0, hn => omega
      | n + 1, hn =>
        have ih := least_at h hx n (par k) (by omega)
        by_cases hl : k < xs.length
        · exact ltAt_tr h (by omega) ih (heapB_at hx k hk)
        · exact ltAt_out (by omega)
    · have : k = 0 := by omega
      subst this
      cases hb : ltAt lt xs 0 0 with
      | false => rfl
      | true => have := ltAt_as h hb; rw [hb] at this; cases this
/-- None that is left is less than the first. -/
theorem least_rest (h : Ord lt) {xs : List α} (hx : heapB lt xs = true) {x y : α} (h0 : xs[0]? = some x) (hy : y ∈ restL lt xs) : lt y x = false := by
  obtain ⟨j, _, hj⟩ := rest_mem hy
  have := least_at h hx j j (Nat.le_refl _)
  rw [ltAt_of hj h0] at this
  exact this
end
end Go.Proofs.Ytokfemlcamnaaaa
