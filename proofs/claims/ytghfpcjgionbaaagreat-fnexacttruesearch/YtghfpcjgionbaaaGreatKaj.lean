/- What goes up or down in a heap is neither lost nor made. -/
import Derived.Test.YtghfpcjgionbaaaGreatKaa
import Derived.Test.YtghfpcjgionbaaaGreatBestLib
import Derived.Test.YtghfpcjgionbaaaGreatKag
import Derived.Test.YtghfpcjgionbaaaGreatKab
namespace Go.Proofs.YtghfpcjgionbaaaGreat

section
variable {α : Type} {lt : α → α → Bool} (f : α → Int)
/-- What all of a list come to. -/
def totS : List α → Int
  | [] => 0
  | x :: xs => f x + totS xs
theorem tot_app : ∀ (xs ys : List α), totS f (xs ++ ys) = totS f xs + totS f ys
  | [], ys => by simp [totS]
  | x :: xs, ys => by
    rw [List.cons_append, totS, totS, tot_app xs ys]
    omega
theorem tot_set : ∀ (xs : List α) (i : Nat) (x y : α), xs[i]? = some x → totS f (xs.set i y) = totS f xs - f x + f y
  | [], i, x, y, h => by simp at h
  | z :: xs, 0, x, y, h => by
    have : z = x := by simpa using h
    subst this
    rw [List.set_cons_zero, totS, totS]
    omega
  | z :: xs, i + 1, x, y, h => by
    rw [List.set_cons_succ, totS, totS, tot_set xs i x y (by simpa using h)]
    omega
theorem tot_swp (xs : List α) (i j : Nat) : totS f (swp xs i j) = totS f xs := by
  unfold swp
  split
  · rename_i x y hx hy
    by_cases e : i = j
    · subst e
      rw [hx] at hy
      cases hy
      have hi := (List.getElem?_eq_some_iff.1 hx).1
      rw [tot_set f _ i x x (by rw [List.getElem?_set_self hi]), tot_set f xs i x x hx]
      omega
    · rw [tot_set f _ j y x (by rw [List.getElem?_set_ne e]; exact hy), tot_set f xs i x y hx]
      omega
  · rfl
theorem tot_upF : ∀ (k : Nat) (xs : List α) (i : Nat), totS f (upF lt k xs i) = totS f xs
  | 0, _, _ => rfl
  | k + 1, xs, i => by
    rw [upF]
    split
    · rw [tot_upF k, tot_swp]
    · rfl
theorem tot_dnF : ∀ (k : Nat) (xs : List α) (i : Nat), totS f (dnF lt k xs i) = totS f xs
  | 0, _, _ => rfl
  | k + 1, xs, i => by
    rw [dnF]
    split
    · rw [tot_dnF k, tot_swp]
    · rfl
theorem tot_push (xs : List α) (x : α) : totS f (pushL lt xs x) = totS f xs + f x := by
  unfold pushL up
  rw [tot_upF, tot_app]
  simp [totS]
theorem tot_take (xs : List α) (y : α) (h : xs[xs.length - 1]? = some y) : totS f (xs.take (xs.length - 1)) = totS f xs - f y := by
  have hl := (List.getElem?_eq_some_iff.1 h).1
  have e := tot_app f (xs.take (xs.length - 1)) (xs.drop (xs.length - 1))
  rw [List.take_append_drop, List.drop_eq_getElem_cons hl, List.drop_of_length_le (by omega)] at e
  have e2 : xs[xs.length - 1] = y := by rw [List.getElem?_eq_getElem hl] at h; cases h; rfl
  rw [e2] at e
  simp [totS] at e
  omega
theorem tot_rest (xs : List α) (x : α) (h : xs[0]? = some x) : totS f (restL lt xs) = totS f xs - f x := by
  unfold restL dn
  rw [tot_dnF]
  have h0 := (List.getElem?_eq_some_iff.1 h).1
  obtain ⟨y, hy⟩ : ∃ y, xs[xs.length - 1]? = some y := ⟨_, List.getElem?_eq_getElem (by omega)⟩
  rw [cutL_of hy]
  have hl : (xs.set 0 y).length = xs.length := by simp
  have h2 := tot_take f (xs.set 0 y) y (by
    rw [hl]
    by_cases e : xs.length - 1 = 0
    · rw [e, List.getElem?_set_self (by omega)]
    · rw [List.getElem?_set_ne (by omega)]
      exact hy)
  rw [hl] at h2
  rw [h2, tot_set f xs 0 x y h]
  omega
theorem dnF_mem : ∀ (k : Nat) (xs : List α) (i : Nat) (x : α), x ∈ dnF lt k xs i → x ∈ xs
  | 0, _, _, _, h => h
  | k + 1, xs, i, x, h => by
    rw [dnF] at h
    split at h
    · exact swp_mem (dnF_mem k _ _ x h)
    · exact h
theorem upF_mem : ∀ (k : Nat) (xs : List α) (i : Nat) (x : α), x ∈ upF lt k xs i → x ∈ xs
  | 0, _, _, _, h => h
  | k + 1, xs, i, x, h => by
    rw [upF] at h
    split at h
    · exact swp_mem (upF_mem k _ _ x h)
    · exact h
theorem cut_mem {xs : List α} {x : α} (h : x ∈ cutL xs) : ∃ j, 0 < j ∧ xs[j]? = some x := by
  obtain ⟨i, hi⟩ := List.mem_iff_getElem?.1 h
  have hl := (List.getElem?_eq_some_iff.1 hi).1
  rw [cutL_len] at hl
  obtain ⟨y, hy⟩ : ∃ y, xs[xs.length - 1]? = some y := ⟨_, List.getElem?_eq_getElem (by omega)⟩
  rw [cutL_of hy, List.getElem?_take, if_pos hl] at hi
  by_cases e : i = 0
  · subst e
    rw [List.getElem?_set_self (by omega)] at hi
    cases hi
    exact ⟨xs.length - 1, by omega, hy⟩
  · rw [List.getElem?_set_ne (by omega)] at hi
    exact ⟨i, by omega, hi⟩
theorem rest_mem {xs : List α} {x : α} (h : x ∈ restL lt xs) : ∃ j, 0 < j ∧ xs[j]? = some x := cut_mem (dnF_mem _ _ _ _ h)
end
end Go.Proofs.YtghfpcjgionbaaaGreat
/- What is in a heap stays in it when another one is pushed, and when the first is popped. -/
namespace Go.Proofs.YtghfpcjgionbaaaGreat

section
variable {α : Type} {lt : α → α → Bool}
theorem ind_nonneg (x : α) : ∀ (xs : List α), 0 ≤ totS (fun y => @ite Int (y = x) (Classical.propDecidable _) 1 0) xs
  | [] => Int.le_refl _
  | y :: xs => by
    have := ind_nonneg x xs
    rw [totS]
    split <;> omega
theorem mem_tot (x : α) : ∀ (xs : List α), x ∈ xs ↔ 0 < totS (fun y => @ite Int (y = x) (Classical.propDecidable _) 1 0) xs
  | [] => by simp [totS]
  | y :: xs => by
    have h := ind_nonneg x xs
    have ih := mem_tot x xs
    rw [totS, List.mem_cons]
    by_cases e : y = x
    · rw [if_pos e]
      exact ⟨fun _ => by omega, fun _ => .inl e.symm⟩
    · rw [if_neg e, Int.zero_add, ← ih]
      exact ⟨fun h => h.resolve_left (fun h => e h.symm), fun h => .inr h⟩
theorem mem_push {xs : List α} {x y : α} : y ∈ pushL lt xs x ↔ y ∈ xs ∨ y = x := by
  rw [mem_tot, tot_push, mem_tot y xs]
  have h := ind_nonneg y xs
  by_cases e : x = y
  · rw [if_pos e]
    exact ⟨fun _ => .inr e.symm, fun _ => by omega⟩
  · rw [if_neg e]
    exact ⟨fun h => .inl (by omega), fun h => (h.elim (fun h => by omega) (fun h => absurd h.symm e))⟩
theorem mem_rest {xs : List α} {x y : α} (h0 : xs[0]? = some x) (hy : y ∈ xs) : y = x ∨ y ∈ restL lt xs := by
  by_cases e : x = y
  · exact .inl e.symm
  · right
    rw [mem_tot] at hy ⊢
    rw [tot_rest (lt := lt) _ xs x h0, if_neg e]
    omega
end
end Go.Proofs.YtghfpcjgionbaaaGreat
/- The search by trying, as a plain function: what it tells is the cheapest of all, or no dearer than what it began with. -/
namespace Go.Proofs.YtghfpcjgionbaaaGreat
open Go.RowKit

/-- A tie is broken by the first values. -/
def brk (u : List Int) (x : Ti) : Bool := decide (0 ≤ x.kid) && decide (x.kid < (u.length : Int)) && decide (0 ≤ x.up) && decide (x.up < (u.length : Int)) && decide (0 < u.getD x.kid.toNat 0) && decide (u.getD x.up.toNat 0 = 0)
/-- No tie is broken. -/
def mayB (p : Pc) (u : List Int) : Bool := p.ties.all fun x => !brk u x
/-- One list is ahead of another: it costs less, or the same, and stands ahead. -/
def aheadB (p : Pc) (wd : Int) (u b : List Int) : Bool := lessV p wd u b || (decide (costOver p u wd = costOver p b wd) && decide (costSum p u = costSum p b) && decide (cmpL u b < 0))
/-- These first values are pushed. -/
def goodB (p : Pc) (wd : Int) (best u : List Int) : Bool := mayB p u && !(decide (costOver p best wd = 0) && decide (costSum p best < costSum p u))
/-- The next values, one behind the other. -/
def pushK (p : Pc) (wd : Int) (best u : List Int) : Nat → Nat → List St → List St
  | 0, _, h => h
  | c + 1, k, h => pushK p wd best u c (k + 1) (if goodB p wd best (u ++ [(k : Int)]) = true then pushL stLess h ⟨u ++ [(k : Int)], costSum p (u ++ [(k : Int)])⟩ else h)
/-- How many values the rule has. -/
def vOf (p : Pc) (n : Nat) : Nat := ((p.rules[n]?).map fun r => r.values.toNat).getD 0
/-- The first one of a heap. -/
def hd0 (h : List St) : St := (h[0]?).getD ⟨[], 0⟩
/-- The search: how many may still be popped, the heap, the best so far. -/
def srch (p : Pc) (wd : Int) : Nat → List St → List Int → List Int × Int
  | _, [], best => (best, 1)
  | 0, _ :: _, best => (best, 2)
  | f + 1, y :: ys, best =>
    if (hd0 (y :: ys)).vals.length = p.rules.length then srch p wd f (restL stLess (y :: ys)) (if aheadB p wd (hd0 (y :: ys)).vals best = true then (hd0 (y :: ys)).vals else best)
    else srch p wd f (pushK p wd best (hd0 (y :: ys)).vals (vOf p (hd0 (y :: ys)).vals.length) 0 (restL stLess (y :: ys))) best
theorem pre_in {rs : List Ru} {u : List Int} (h : PreV rs u) (hl : u.length = rs.length) : InV rs u := inV_mk rs u hl h.2
/-- What the first values cost no list that begins with them falls below. -/
theorem vcost_pre : ∀ (rs : List Ru) (u t : List Int), (∀ x ∈ rs, 0 ≤ x.cost) → (∀ z ∈ u ++ t, 0 ≤ z) → vcost rs u ≤ vcost rs (u ++ t)
  | [], _, _, _, _ => by simp [vcost]
  | r :: rs, [], t, hr, hz => by
    rw [List.nil_append]
    have : ∀ (rs : List Ru) (t : List Int), (∀ x ∈ rs, 0 ≤ x.cost) → (∀ z ∈ t, 0 ≤ z) → 0 ≤ vcost rs t := by
      intro rs
      induction rs with
      | nil => intro t _ _; simp [vcost]
      | cons r rs ih =>
        intro t hr hz
        cases t with
        | nil => simp [vcost]
        | cons z t =>
          rw [vcost]
          have h1 := ih t (fun x hx => hr x (List.mem_cons_of_mem _ hx)) (fun y hy => hz y (List.mem_cons_of_mem _ hy))
          have h2 := Int.mul_nonneg (hr r List.mem_cons_self) (hz z List.mem_cons_self)
          omega
    have h := this (r :: rs) t hr (by simpa using hz)
    rw [vcost]
    exact h
  | r :: rs, v :: u, t, hr, hz => by
    rw [List.cons_append, vcost, vcost]
    have := vcost_pre rs u t (fun x hx => hr x (List.mem_cons_of_mem _ hx)) (fun y hy => hz y (List.mem_cons_of_mem _ hy))
    omega
theorem spl_pre {u t : List Int} {x : Ch} (hx : 1 ≤ x.frm) (h : spl u x = true) : spl (u ++ t) x = true := by
  unfold spl at h ⊢
  rw [decide_eq_true_eq] at h ⊢
  by_cases hk : x.rule.toNat < u.length
  · rw [getD_pre hk]
    exact h
  · rw [List.getD_eq_getElem?_getD, List.getElem?_eq_none (by omega)] at h
    simp at h
    omega
theorem snSpl_pre {cs : List Ch} {u t : List Int} {x : Sn} (hc : ∀ (k : Nat) (y : Ch), x.frm.toNat ≤ k → k ≤ x.til.toNat → cs[k]? = some y → 1 ≤ y.frm) (h : snSpl cs u x = true) : snSpl cs (u ++ t) x = true := by
  unfold snSpl at h ⊢
  rw [List.any_eq_true] at h ⊢
  obtain ⟨y, hy, hs⟩ := h
  refine ⟨y, hy, spl_pre ?_ hs⟩
  obtain ⟨j, hj⟩ := List.mem_iff_getElem?.1 hy
  rw [List.getElem?_drop, List.getElem?_take] at hj
  split at hj
  · exact hc (x.frm.toNat + j) y (by omega) (by omega) hj
  · cases hj
theorem scost_pre {cs : List Ch} {u t : List Int} : ∀ (xs : List Sn), (∀ x ∈ xs, 0 ≤ x.cost ∧ ∀ (k : Nat) (y : Ch), x.frm.toNat ≤ k → k ≤ x.til.toNat → cs[k]? = some y → 1 ≤ y.frm) → scost cs u xs ≤ scost cs (u ++ t) xs
  | [], _ => by simp [scost]
  | x :: xs, h => by
    have ih := scost_pre (u := u) (t := t) xs (fun y hy => h y (List.mem_cons_of_mem _ hy))
    have hx := h x List.mem_cons_self
    rw [scost, scost]
    by_cases hs : snSpl cs u x = true
    · rw [if_pos hs, if_pos (snSpl_pre hx.2 hs)]
      omega
    · rw [if_neg hs]
      split <;> omega
theorem sum_pre {p : Pc} (hR : Right p) {u t : List Int} (hz : ∀ z ∈ u ++ t, 0 ≤ z) : costSum p u ≤ costSum p (u ++ t) := by
  unfold costSum
  have h1 := vcost_pre p.rules u t (fun x hx => by
    obtain ⟨j, hj⟩ := List.mem_iff_getElem?.1 hx
    exact (hR.rules.2 j x hj).2.1) hz
  have h2 := scost_pre (cs := p.chunks) (u := u) (t := t) p.spans (fun x hx => by
    obtain ⟨j, hj⟩ := List.mem_iff_getElem?.1 hx
    have hs := hR.spans.all j x hj
    refine ⟨hs.2.2.1, fun k y _ hk hy => ?_⟩
    have h3 := hs.1
    obtain ⟨-, ⟨_, _, h5, _⟩, _⟩ := (hR.chunks.texts k y hy).2 (by omega)
    exact h5)
  omega
/-- A tie that is broken by the first values stays broken. -/
theorem brk_pre {u t : List Int} {x : Ti} (h : brk u x = true) : ¬ TieOk (u ++ t) x := by
  unfold brk at h
  simp only [Bool.and_eq_true, decide_eq_true_eq] at h
  obtain ⟨⟨⟨⟨⟨h1, h2⟩, h3⟩, h4⟩, h5⟩, h6⟩ := h
  intro hT
  unfold TieOk at hT
  have e1 : st (u ++ t) x.kid = 2 := by
    unfold st
    rw [if_pos ⟨h1, by rw [List.length_append]; omega⟩, getD_pre (by omega), if_pos h5]
  have e2 : st (u ++ t) x.up = 1 := by
    unfold st
    rw [if_pos ⟨h3, by rw [List.length_append]; omega⟩, getD_pre (by omega), if_neg (by omega)]
  rw [e1, e2] at hT
  simp [holdB] at hT
theorem may_ties {p : Pc} (hR : Right p) {v : List Int} (hv : InV p.rules v) (h : mayB p v = true) : TiesHold p v := by
  refine ⟨ok_inV hv, fun j x hx => ?_⟩
  unfold mayB at h
  rw [List.all_eq_true] at h
  have hb := h x (List.mem_of_getElem? hx)
  have hl := inV_len _ _ hv
  obtain ⟨⟨k1, k2⟩, ⟨u1, u2⟩, _⟩ := hR.ties.all j x hx
  unfold TieOk
  have hu0 : 0 ≤ v.getD x.up.toNat 0 := by
    rw [List.getD_eq_getElem?_getD]
    cases e : v[x.up.toNat]? with
    | none => simp
    | some z =>
      obtain ⟨y, hy⟩ : ∃ y, p.rules[x.up.toNat]? = some y := ⟨_, List.getElem?_eq_getElem (by omega)⟩
      have := (inV_at _ _ hv _ z y e hy).1
      simpa using this
  unfold brk at hb
  by_cases hk : 0 < v.getD x.kid.toNat 0
  · by_cases hu : 0 < v.getD x.up.toNat 0
    · have e1 : st v x.kid = 2 := by unfold st; rw [if_pos ⟨k1, by omega⟩, if_pos hk]
      have e2 : st v x.up = 2 := by unfold st; rw [if_pos ⟨u1, by omega⟩, if_pos hu]
      rw [e1, e2]
      rfl
    · exfalso
      have : v.getD x.up.toNat 0 = 0 := by omega
      rw [decide_eq_true k1, decide_eq_true u1, decide_eq_true hk, decide_eq_true this, decide_eq_true (show x.kid < (v.length : Int) by omega), decide_eq_true (show x.up < (v.length : Int) by omega)] at hb
      cases hb
  · have e1 : st v x.kid = 1 := by unfold st; rw [if_pos ⟨k1, by omega⟩, if_neg hk]
    have e2 : 1 ≤ st v x.up := by unfold st; rw [if_pos ⟨u1, by omega⟩]; split <;> omega
    rw [e1]
    unfold holdB
    simp [e2]
end Go.Proofs.YtghfpcjgionbaaaGreat
