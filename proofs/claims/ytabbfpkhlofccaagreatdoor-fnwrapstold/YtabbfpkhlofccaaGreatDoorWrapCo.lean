/- How ragged lines are, and the least that words can be, as plain functions. -/
import Derived.Test.YtabbfpkhlofccaaGreatDoorWrapLib
namespace Go.Proofs.YtabbfpkhlofccaaGreatDoor
open Go.RowKit

/-- What a line costs. -/
def lrag (n width : Int) (last : Bool) : Int := if width < n then 10000000 else if last then 0 else (if width - n < 200 then (width - n) * (width - n) else 40000)
theorem lrag_ge (n width : Int) (last : Bool) : 0 ≤ lrag n width last := by
  unfold lrag
  split
  · omega
  · split
    · omega
    · split
      · exact Int.mul_nonneg (by omega) (by omega)
      · omega
theorem sq_le {a b : Int} (h0 : 0 ≤ a) (h : a ≤ b) : a * a ≤ b * b := Int.mul_le_mul h h h0 (by omega)
theorem lrag_le (n width : Int) (last : Bool) : lrag n width last ≤ 10000000 := by
  unfold lrag
  split
  · omega
  · split
    · omega
    · split
      · have := sq_le (a := width - n) (b := 200) (by omega) (by omega)
        omega
      · omega
theorem lrag_fits {n width : Int} {last : Bool} (h : n ≤ width) : lrag n width last ≤ 40000 := by
  unfold lrag
  rw [if_neg (by omega)]
  split
  · omega
  · split
    · have := sq_le (a := width - n) (b := 200) (by omega) (by omega)
      omega
    · omega
theorem lrag_long {n width : Int} {last : Bool} (h : width < n) : lrag n width last = 10000000 := by
  unfold lrag
  rw [if_pos h]

/-- What the line from i to e costs. -/
def lc (ws : List ByteArray) (width : Int) (i e : Nat) : Int := lrag ((bg ws e : Int) - (bg ws i : Int) - 1) width (decide (e = ws.length))
theorem lc_ge (ws : List ByteArray) (width : Int) (i e : Nat) : 0 ≤ lc ws width i e := lrag_ge _ _ _
theorem lc_le (ws : List ByteArray) (width : Int) (i e : Nat) : lc ws width i e ≤ 10000000 := lrag_le _ _ _
/-- Costs of all that stands from a word on: the least that there is. -/
def IsC (n : Nat) (r : Nat → Nat → Int) (c : Nat → Int) : Prop :=
  (∀ i, n ≤ i → c i = 0) ∧ ∀ i, i < n → (∃ e, i < e ∧ e ≤ n ∧ c i = r i e + c e) ∧ ∀ e, i < e → e ≤ n → c i ≤ r i e + c e
theorem least_of (f : Nat → Int) (a : Nat) : ∀ d, ∃ e, a ≤ e ∧ e ≤ a + d ∧ ∀ x, a ≤ x → x ≤ a + d → f e ≤ f x
  | 0 => ⟨a, Nat.le_refl _, by omega, fun x h1 h2 => by rw [show x = a by omega]; exact Int.le_refl _⟩
  | d + 1 => by
    obtain ⟨e, h1, h2, h3⟩ := least_of f a d
    by_cases h : f e ≤ f (a + (d + 1))
    · exact ⟨e, h1, by omega, fun x hx1 hx2 => by
        by_cases hx : x = a + (d + 1)
        · rw [hx]; exact h
        · exact h3 x hx1 (by omega)⟩
    · exact ⟨a + (d + 1), by omega, by omega, fun x hx1 hx2 => by
        by_cases hx : x = a + (d + 1)
        · rw [hx]; exact Int.le_refl _
        · have := h3 x hx1 (by omega)
          omega⟩
theorem isC_upto (n : Nat) (r : Nat → Nat → Int) : ∀ k, k ≤ n → ∃ c : Nat → Int, (∀ i, n ≤ i → c i = 0) ∧ ∀ i, n - k ≤ i → i < n → (∃ e, i < e ∧ e ≤ n ∧ c i = r i e + c e) ∧ ∀ e, i < e → e ≤ n → c i ≤ r i e + c e
  | 0, _ => ⟨fun _ => 0, fun _ _ => rfl, fun i h1 h2 => by omega⟩
  | k + 1, hk => by
    obtain ⟨c, h0, h1⟩ := isC_upto n r k (by omega)
    obtain ⟨p, hp⟩ : ∃ p, p = n - (k + 1) := ⟨_, rfl⟩
    obtain ⟨e, he1, he2, he3⟩ := least_of (fun e => r p e + c e) (p + 1) (n - (p + 1))
    refine ⟨fun i => if i = p then r p e + c e else c i, fun i hi => ?_, fun i hi1 hi2 => ?_⟩
    · dsimp only
      rw [if_neg (by omega)]
      exact h0 i hi
    · by_cases hip : i = p
      · subst hip
        constructor
        · refine ⟨e, by omega, by omega, ?_⟩
          dsimp only
          rw [if_pos rfl, if_neg (by omega)]
        · intro x hx1 hx2
          dsimp only
          rw [if_pos rfl, if_neg (by omega)]
          exact he3 x (by omega) (by omega)
      · obtain ⟨⟨e', g1, g2, g3⟩, g4⟩ := h1 i (by omega) hi2
        constructor
        · refine ⟨e', g1, g2, ?_⟩
          dsimp only
          rw [if_neg hip, if_neg (by omega)]
          exact g3
        · intro x hx1 hx2
          dsimp only
          rw [if_neg hip, if_neg (by omega)]
          exact g4 x hx1 hx2
theorem isC_is (n : Nat) (r : Nat → Nat → Int) : ∃ c, IsC n r c := by
  obtain ⟨c, h0, h1⟩ := isC_upto n r n (Nat.le_refl _)
  exact ⟨c, h0, fun i hi => h1 i (by omega) hi⟩
/-- The costs of words. -/
def Costs (ws : List ByteArray) (width : Int) (c : Nat → Int) : Prop := IsC ws.length (lc ws width) c
theorem Costs.ge {ws : List ByteArray} {width : Int} {c : Nat → Int} (h : Costs ws width c) : ∀ d i, ws.length - i ≤ d → 0 ≤ c i
  | 0, i, hd => by rw [h.1 i (by omega)]; exact Int.le_refl _
  | d + 1, i, hd => by
    by_cases hi : i < ws.length
    · obtain ⟨e, h1, h2, h3⟩ := (h.2 i hi).1
      have := h.ge d e (by omega)
      have := lc_ge ws width i e
      omega
    · rw [h.1 i (by omega)]; exact Int.le_refl _
theorem Costs.low {ws : List ByteArray} {width : Int} {c : Nat → Int} (h : Costs ws width c) (i : Nat) : 0 ≤ c i := h.ge _ i (Nat.le_refl _)
theorem Costs.high {ws : List ByteArray} {width : Int} {c : Nat → Int} (h : Costs ws width c) (i : Nat) : c i ≤ 10000000 := by
  by_cases hi : i < ws.length
  · have := (h.2 i hi).2 ws.length hi (Nat.le_refl _)
    have := h.1 ws.length (Nat.le_refl _)
    have := lc_le ws width i ws.length
    omega
  · rw [h.1 i (by omega)]; omega

/-- A line may end ahead of e: the least is to be had so. -/
def bS (ws : List ByteArray) (width : Int) (c : Nat → Int) (i e : Nat) : Bool := decide (lc ws width i e + c e ≤ c i)
def bE (ws : List ByteArray) (width : Int) (c : Nat → Int) (i : Nat) : Nat := en ws.length (bS ws width c i) (i + 1)
theorem bE_adv (ws : List ByteArray) (width : Int) (c : Nat → Int) : Adv ws.length (bE ws width c) := fun i hi => by
  have := en_ge (n := ws.length) (stop := bS ws width c i) (e := i + 1) (by omega)
  unfold bE
  omega
theorem bE_least {ws : List ByteArray} {width : Int} {c : Nat → Int} (h : Costs ws width c) {i : Nat} (hi : i < ws.length) : c i = lc ws width i (bE ws width c i) + c (bE ws width c i) := by
  obtain ⟨h1, h2, h3, h4⟩ := en_spec (n := ws.length) (stop := bS ws width c i) _ (i + 1) rfl (by omega)
  have hle := (h.2 i hi).2 (bE ws width c i) (by unfold bE; omega) (by unfold bE; omega)
  have hge : lc ws width i (bE ws width c i) + c (bE ws width c i) ≤ c i := by
    by_cases hlt : bE ws width c i < ws.length
    · have := h4 hlt
      unfold bS at this
      rw [decide_eq_true_eq] at this
      exact this
    · obtain ⟨e, g1, g2, g3⟩ := (h.2 i hi).1
      have hen : bE ws width c i = ws.length := by
        have : bE ws width c i ≤ ws.length := h2
        omega
      by_cases hel : e < ws.length
      · have := h3 e (by omega) (by show e < bE ws width c i; omega)
        unfold bS at this
        rw [decide_eq_false_iff_not] at this
        omega
      · have : e = bE ws width c i := by omega
        rw [← this]
        omega
  omega
def bestW (ws : List ByteArray) (width : Int) (c : Nat → Int) : List ByteArray := if wsOk ws then lnE ws (bE ws width c) 0 else []

/-- How ragged the first k lines are. -/
def rgK (ls : List ByteArray) (width : Int) : Nat → Int
  | 0 => 0
  | k + 1 => rgK ls width k + lrag ((ls.getD k ByteArray.empty).size : Int) width (decide (k + 1 = ls.length))
def rag (ls : List ByteArray) (width : Int) : Int := rgK ls width (min ls.length 200)
theorem rgK_next {ls : List ByteArray} {width : Int} {k : Nat} {x : ByteArray} (h : ls[k]? = some x) : rgK ls width (k + 1) = rgK ls width k + lrag (x.size : Int) width (decide (k + 1 = ls.length)) := by
  rw [rgK, List.getD_eq_getElem?_getD, h]
  rfl
theorem rgK_bound (ls : List ByteArray) (width : Int) : ∀ k, 0 ≤ rgK ls width k ∧ rgK ls width k ≤ k * 10000000
  | 0 => ⟨Int.le_refl _, by simp [rgK]⟩
  | k + 1 => by
    have ih := rgK_bound ls width k
    have h1 := lrag_ge ((ls.getD k ByteArray.empty).size : Int) width (decide (k + 1 = ls.length))
    have h2 := lrag_le ((ls.getD k ByteArray.empty).size : Int) width (decide (k + 1 = ls.length))
    rw [rgK]
    omega
/-- Along lines. -/
def rgL (width : Int) : List ByteArray → Int
  | [] => 0
  | x :: r => lrag (x.size : Int) width r.isEmpty + rgL width r
theorem rgK_rgL (width : Int) : ∀ (l pre : List ByteArray), rgK (pre ++ l) width (pre.length + l.length) = rgK (pre ++ l) width pre.length + rgL width l
  | [], pre => by simp [rgL]
  | x :: r, pre => by
    have ih := rgK_rgL width r (pre ++ [x])
    have e1 : pre ++ [x] ++ r = pre ++ x :: r := by simp
    rw [e1] at ih
    have e2 : (pre ++ [x]).length = pre.length + 1 := by simp
    rw [e2] at ih
    have hx : (pre ++ x :: r)[pre.length]? = some x := by simp
    have hn := rgK_next (width := width) hx
    have e3 : pre.length + (x :: r).length = pre.length + 1 + r.length := by simp; omega
    have e4 : decide (pre.length + 1 = (pre ++ x :: r).length) = r.isEmpty := by
      rw [Bool.eq_iff_iff, decide_eq_true_eq, List.isEmpty_iff_length_eq_zero]
      simp <;> omega
    rw [e3, ih, hn, e4, rgL]
    omega
theorem rag_rgL {ls : List ByteArray} (width : Int) (h : ls.length ≤ 200) : rag ls width = rgL width ls := by
  unfold rag
  rw [Nat.min_eq_left h]
  have := rgK_rgL width ls []
  simp [rgK] at this
  exact this
/-- A line's cost is what it costs among the lines. -/
theorem rgL_step {ws : List ByteArray} {E : Nat → Nat} (width : Int) (hE : Adv ws.length E) {i : Nat} (hi : i < ws.length) : rgL width (lnE ws E i) = lc ws width i (E i) + rgL width (lnE ws E (E i)) := by
  have h1 := hE i hi
  have h2 := jn_size (ws := ws) h1.1 h1.2
  rw [ln_step hE hi, rgL]
  have hz : (((jn (seg ws i (E i))).size : Nat) : Int) = (bg ws (E i) : Int) - (bg ws i : Int) - 1 := by omega
  have hem : (lnE ws E (E i)).isEmpty = decide (E i = ws.length) := by
    by_cases he : E i < ws.length
    · rw [ln_step hE he, decide_eq_false (by omega)]
      rfl
    · rw [ln_end (by omega), decide_eq_true (by omega)]
      rfl
  rw [hem, hz]
  rfl
/-- The best lines cost the least; no other ones less. -/
theorem rgL_best {ws : List ByteArray} {width : Int} {c : Nat → Int} (h : Costs ws width c) : ∀ d i, ws.length - i ≤ d → rgL width (lnE ws (bE ws width c) i) = c i
  | 0, i, hd => by rw [ln_end (by omega), h.1 i (by omega)]; rfl
  | d + 1, i, hd => by
    by_cases hi : i < ws.length
    · have h1 := bE_adv ws width c i hi
      rw [rgL_step width (bE_adv ws width c) hi, rgL_best h d _ (by omega), ← bE_least h hi]
    · rw [ln_end (by omega), h.1 i (by omega)]; rfl
theorem rgL_any {ws : List ByteArray} {width : Int} {c : Nat → Int} (h : Costs ws width c) {E : Nat → Nat} (hE : Adv ws.length E) : ∀ d i, ws.length - i ≤ d → c i ≤ rgL width (lnE ws E i)
  | 0, i, hd => by rw [ln_end (by omega), h.1 i (by omega)]; exact Int.le_refl _
  | d + 1, i, hd => by
    by_cases hi : i < ws.length
    · have h1 := hE i hi
      have ih := rgL_any h hE d (E i) (by omega)
      have := (h.2 i hi).2 (E i) h1.1 h1.2
      rw [rgL_step width hE hi]
      omega
    · rw [ln_end (by omega), h.1 i (by omega)]; exact Int.le_refl _
end Go.Proofs.YtabbfpkhlofccaaGreatDoor
