/- Where the signs of a text stand, as plain lists: they ascend; and where one went. -/
import Derived.Test.YtlpbhhgikgbfhaaDoorSignLib
import Derived.Test.YtlpbhhgikgbfhaaDoorNoteLib
import Derived.Test.YtlpbhhgikgbfhaaDoorIntLib
namespace Go.Proofs.YtlpbhhgikgbfhaaDoor
open Go.RowKit

theorem lef_sub : ∀ (xs : List Sg), (lefF xs).Sublist xs
  | [] => List.Sublist.slnil
  | x :: xs => by
    rw [lefF]
    split
    · exact (lef_sub xs).cons x
    · exact (lef_sub xs).cons_cons x
/-- One behind the other, from a on, ahead of b. -/
def Asc (a b : Nat) (xs : List Sg) : Prop := xs.Pairwise (fun x y => x.place < y.place) ∧ ∀ x ∈ xs, (a : Int) ≤ x.place ∧ x.place < (b : Int)
theorem lexA_asc (t : ByteArray) : ∀ (d k ends : Nat) (pre : List Sg), t.size - k ≤ d → k ≤ t.size → Asc 0 k pre → Asc 0 t.size (lexA t k ends pre).1
  | d, k, ends, pre, hd0, hkt, hp => by
    by_cases hk : k < t.size
    · obtain ⟨d, rfl⟩ : ∃ e, d = e + 1 := ⟨d - 1, by omega⟩
      have up : Asc 0 (k + 1) pre := ⟨hp.1, fun x hx => by have := hp.2 x hx; omega⟩
      by_cases h32 : by8 t k = 32
      · rw [lexA_blank hk h32]
        exact lexA_asc t d (k + 1) ends pre (by omega) (by omega) up
      · by_cases h10 : by8 t k = 10
        · rw [lexA_line hk h10]
          exact lexA_asc t d (k + 1) (ends + 1) pre (by omega) (by omega) up
        · by_cases hn : (hd (t.extract k t.size)).2 = 0
          · rw [lexA_none hk h32 h10 hn]
            exact ⟨List.Pairwise.nil, fun x hx => by cases hx⟩
          · rw [lexA_sign hk h32 h10 hn]
            by_cases hkn : k + (hd (t.extract k t.size)).2 ≤ t.size
            · refine lexA_asc t d _ 0 _ (by omega) hkn ⟨?_, ?_⟩
              · rw [List.pairwise_append]
                refine ⟨hp.1, List.pairwise_singleton _ _, fun x hx y hy => ?_⟩
                obtain rfl := List.mem_singleton.1 hy
                exact (hp.2 x hx).2
              · intro x hx
                rcases List.mem_append.1 hx with hx | hx
                · have := hp.2 x hx
                  omega
                · obtain rfl := List.mem_singleton.1 hx
                  dsimp only
                  omega
            · rw [lexA_end (by omega)]
              refine ⟨?_, ?_⟩
              · rw [List.pairwise_append]
                refine ⟨hp.1, List.pairwise_singleton _ _, fun x hx y hy => ?_⟩
                obtain rfl := List.mem_singleton.1 hy
                exact (hp.2 x hx).2
              · intro x hx
                rcases List.mem_append.1 hx with hx | hx
                · have := hp.2 x hx
                  omega
                · obtain rfl := List.mem_singleton.1 hx
                  dsimp only
                  omega
    · rw [lexA_end hk]
      exact ⟨hp.1, fun x hx => by have := hp.2 x hx; omega⟩
theorem sgn_asc (t : ByteArray) : Asc 0 3000 (sgn t).1 := by
  by_cases h : 3000 < t.size
  · rw [sgn_long h]
    exact ⟨List.Pairwise.nil, fun x hx => by cases hx⟩
  · rw [sgn_short h]
    have := lexA_asc t t.size 0 0 [] (by omega) (Nat.zero_le _) ⟨List.Pairwise.nil, fun x hx => by cases hx⟩
    exact ⟨this.1, fun x hx => by have := this.2 x hx; omega⟩
/-- Where the signs stand. -/
def pls (t : ByteArray) : List Int := (lefF (sgn t).1).map (·.place)
theorem pls_up (t : ByteArray) : (pls t).Pairwise (· < ·) := by
  rw [pls, List.pairwise_map]
  exact (sgn_asc t).1.sublist (lef_sub _)
theorem pls_in (t : ByteArray) : ∀ p ∈ pls t, 0 ≤ p ∧ p < 3000 := by
  intro p hp
  obtain ⟨x, hx, rfl⟩ := List.mem_map.1 hp
  exact (sgn_asc t).2 x ((lef_sub _).subset hx)
theorem up_len : ∀ (xs : List Int) (a b : Int), xs.Pairwise (· < ·) → (∀ x ∈ xs, a ≤ x ∧ x < b) → a ≤ b → (xs.length : Int) ≤ b - a
  | [], a, b, _, _, h => by simp; omega
  | x :: xs, a, b, hp, hi, h => by
    have h1 := hi x (by simp)
    have := up_len xs (x + 1) b (List.pairwise_cons.1 hp).2 (fun y hy => ⟨by have := (List.pairwise_cons.1 hp).1 y hy; omega, (hi y (by simp [hy])).2⟩) (by omega)
    simp only [List.length_cons]
    omega
theorem pls_many (t : ByteArray) : (pls t).length ≤ 3000 := by
  have := up_len (pls t) 0 3000 (pls_up t) (pls_in t) (by omega)
  omega
/-- Of the first k: where the last one that is no later went. -/
def wentF (xs ys : List Int) (at' : Int) : Nat → Int
  | 0 => -1
  | k + 1 => if xs[k]?.getD 0 ≤ at' then ys[k]?.getD 0 else wentF xs ys at' k
def went (xs ys : List Int) (at' : Int) : Int := if xs.length = ys.length then wentF xs ys at' xs.length else -1
theorem count_up : ∀ (xs : List Int) (at' : Int), xs.Pairwise (· < ·) → ∀ i, i < xs.length → (xs[i]?.getD 0 ≤ at' ↔ i < xs.countP (fun x => decide (x ≤ at')))
  | [], _, _, i, h => by simp at h
  | x :: xs, at', hp, i, h => by
    obtain ⟨h1, h2⟩ := List.pairwise_cons.1 hp
    by_cases hx : x ≤ at'
    · rw [List.countP_cons_of_pos (by simpa using hx)]
      cases i with
      | zero => simp [hx]
      | succ i =>
        have := count_up xs at' h2 i (by simpa using h)
        simp only [List.getElem?_cons_succ]
        omega
    · have h0 : List.countP (fun x => decide (x ≤ at')) (x :: xs) = 0 := by
        rw [List.countP_eq_zero]
        intro y hy
        rcases List.mem_cons.1 hy with rfl | hy
        · simpa using hx
        · have := h1 y hy
          simp
          omega
      rw [h0]
      refine ⟨fun h3 => ?_, fun h3 => by omega⟩
      have hm : (x :: xs)[i]?.getD 0 ∈ x :: xs := by
        rw [List.getElem?_eq_getElem h]
        exact List.getElem_mem h
      rw [List.countP_eq_zero] at h0
      exact absurd h3 (by simpa using h0 _ hm)
/-- How many are no later. -/
def passed (xs : List Int) (at' : Int) : Nat := xs.countP (fun x => decide (x ≤ at'))
theorem passed_le (xs : List Int) (at' : Int) : passed xs at' ≤ xs.length := List.countP_le_length
theorem wentF_is {xs ys : List Int} {at' : Int} (hp : xs.Pairwise (· < ·)) : ∀ (d : Nat), passed xs at' + d ≤ xs.length → wentF xs ys at' (passed xs at' + d) = if passed xs at' = 0 then -1 else ys[passed xs at' - 1]?.getD 0
  | 0, h => by
    have hc := count_up xs at' hp
    cases hq : passed xs at' with
    | zero => rfl
    | succ c =>
      rw [Nat.add_zero, wentF, if_pos ((hc c (by have := passed_le xs at'; omega)).2 (by rw [← passed, hq]; omega))]
      simp
  | d + 1, h => by
    rw [← Nat.add_assoc, wentF, if_neg (fun h3 => by have := (count_up xs at' hp _ (by omega)).1 h3; rw [← passed] at this; omega)]
    exact wentF_is hp d (by omega)
theorem went_is {xs ys : List Int} {at' : Int} (hp : xs.Pairwise (· < ·)) (hl : xs.length = ys.length) : went xs ys at' = if passed xs at' = 0 then -1 else ys[passed xs at' - 1]?.getD 0 := by
  rw [went, if_pos hl]
  have h := passed_le xs at'
  have := wentF_is (ys := ys) (at' := at') hp (xs.length - passed xs at') (by omega)
  rwa [show passed xs at' + (xs.length - passed xs at') = xs.length by omega] at this
end Go.Proofs.YtlpbhhgikgbfhaaDoor
