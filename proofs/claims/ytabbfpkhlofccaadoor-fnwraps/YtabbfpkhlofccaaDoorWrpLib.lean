/- What lines of words have in common, as plain facts: the words come back; greedy lines are the fewest. -/
import Derived.Test.YtabbfpkhlofccaaDoorWrapCo
import Derived.Test.YtabbfpkhlofccaaDoorDrWd
namespace Go.Proofs.YtabbfpkhlofccaaDoor
open Go.RowKit

/-- Texts one behind the other, a blank behind each. -/
def catB (l : List ByteArray) : ByteArray := l.foldl (fun s x => s ++ x ++ (⟨#[32]⟩ : ByteArray)) ByteArray.empty
def catL (l : List ByteArray) : List UInt8 := (l.map fun x => x.data.toList ++ [32]).flatten
theorem catB_snoc (l : List ByteArray) (x : ByteArray) : catB (l ++ [x]) = catB l ++ x ++ (⟨#[32]⟩ : ByteArray) := by simp [catB, List.foldl_append]
theorem catB_next {l : List ByteArray} {k : Nat} {x : ByteArray} (h : l[k]? = some x) : catB (l.take (k + 1)) = catB (l.take k) ++ x ++ (⟨#[32]⟩ : ByteArray) := by
  rw [List.take_add_one, h]
  exact catB_snoc _ _
theorem catB_data (l : List ByteArray) : (catB l).data.toList = catL l := by
  have h : ∀ (l : List ByteArray) (a : ByteArray), (l.foldl (fun s x => s ++ x ++ (⟨#[32]⟩ : ByteArray)) a).data.toList = a.data.toList ++ catL l := by
    intro l
    induction l with
    | nil => intro a; simp [catL]
    | cons x r ih =>
      intro a
      rw [List.foldl_cons, ih]
      simp [catL]
  have := h l ByteArray.empty
  rw [show (ByteArray.empty).data.toList = [] from rfl, List.nil_append] at this
  exact this
theorem catL_cons (x : ByteArray) (l : List ByteArray) : catL (x :: l) = x.data.toList ++ 32 :: catL l := by simp [catL]
theorem wd_jn {l : List ByteArray} (hok : ∀ x ∈ l, wOk x = true) : wdA [] (jn l).data.toList = l.map (·.data.toList) := by
  have h : ∀ (r : List ByteArray), (∀ x ∈ r, wOk x = true) → ∀ a : ByteArray, wdA [] (r.foldl (fun a y => a ++ (⟨#[32]⟩ : ByteArray) ++ y) a).data.toList = wdA [] a.data.toList ++ r.map (·.data.toList) := by
    intro r
    induction r with
    | nil => intro _ a; simp
    | cons y r ih =>
      intro hr a
      obtain ⟨y1, y2⟩ := wOk_iff.1 (hr y (by simp))
      rw [List.foldl_cons, ih (fun x hx => hr x (by simp [hx]))]
      have e : (a ++ (⟨#[32]⟩ : ByteArray) ++ y).data.toList = a.data.toList ++ 32 :: y.data.toList := by simp
      rw [e, wd_blank, wd_one y2 y1]
      simp
  cases l with
  | nil => rfl
  | cons x r =>
    obtain ⟨x1, x2⟩ := wOk_iff.1 (hok x (by simp))
    have := h r (fun y hy => hok y (by simp [hy])) x
    rw [wd_one x2 x1] at this
    exact this
theorem seg_drop {ws : List ByteArray} {i e : Nat} (hie : i ≤ e) : ws.drop i = seg ws i e ++ ws.drop e := by
  unfold seg
  conv => lhs; rw [← List.take_append_drop e ws]
  by_cases he : e ≤ ws.length
  · rw [List.drop_append_of_le_length (by simp; omega)]
  · rw [List.take_of_length_le (by omega), List.drop_of_length_le (l := ws) (i := e) (by omega)]
    simp
/-- The words of lines, one behind the other, are the words. -/
theorem wd_lines {ws : List ByteArray} {E : Nat → Nat} (hok : ∀ x ∈ ws, wOk x = true) (hE : Adv ws.length E) : ∀ d i, ws.length - i ≤ d → wdA [] (catL (lnE ws E i)) = (ws.drop i).map (·.data.toList)
  | 0, i, hd => by rw [ln_end (by omega), List.drop_of_length_le (by omega)]; rfl
  | d + 1, i, hd => by
    by_cases hi : i < ws.length
    · have h1 := hE i hi
      rw [ln_step hE hi, catL_cons, wd_blank, wd_jn (l := seg ws i (E i)) (fun x hx => hok x (List.mem_of_mem_take (List.mem_of_mem_drop hx))), wd_lines hok hE d (E i) (by omega), seg_drop (ws := ws) (i := i) (e := E i) (by omega), List.map_append]
    · rw [ln_end (by omega), List.drop_of_length_le (by omega)]; rfl
theorem wds_lines {ws : List ByteArray} {E : Nat → Nat} (hok : ∀ x ∈ ws, wOk x = true) (hE : Adv ws.length E) : wds (catB (lnE ws E 0)) = ws := by
  unfold wds bytesOf
  rw [catB_data, wd_lines hok hE _ 0 (Nat.le_refl _), List.drop_zero, List.map_map]
  conv => rhs; rw [← List.map_id ws]
  apply List.map_congr_left
  intro x _
  rfl
/-- A full line fits, or has one word. -/
theorem gE_fits (ws : List ByteArray) (width : Int) {i : Nat} (hi : i < ws.length) : gE ws width i = i + 1 ∨ (bg ws (gE ws width i) : Int) - (bg ws i : Int) - 1 ≤ width := by
  obtain ⟨h1, h2, h3, h4⟩ := en_spec (n := ws.length) (stop := gS ws width i) _ (i + 1) rfl (by omega)
  by_cases h : gE ws width i = i + 1
  · exact .inl h
  · right
    have hg : i + 1 < gE ws width i := by have : i + 1 ≤ gE ws width i := h1; omega
    have := h3 (gE ws width i - 1) (by omega) (by show gE ws width i - 1 < gE ws width i; omega)
    unfold gS at this
    rw [decide_eq_false_iff_not, show gE ws width i - 1 + 1 = gE ws width i by omega] at this
    omega
theorem long_one {ws : List ByteArray} (width : Int) (hok : ∀ x ∈ ws, wOk x = true) : ∀ d i, ws.length - i ≤ d → ∀ x ∈ lnE ws (gE ws width) i, width < (x.size : Int) → (wds x).length ≤ 1
  | 0, i, hd => by rw [ln_end (by omega)]; intro x hx; cases hx
  | d + 1, i, hd => by
    by_cases hi : i < ws.length
    · have h1 := gE_adv ws width i hi
      rw [ln_step (gE_adv ws width) hi]
      intro x hx hw
      rcases List.mem_cons.1 hx with rfl | hx
      · have hs := jn_size (ws := ws) h1.1 h1.2
        rcases gE_fits ws width hi with h | h
        · obtain ⟨y, hy⟩ : ∃ y, ws[i]? = some y := ⟨_, List.getElem?_eq_getElem hi⟩
          rw [h, jn_one hy, wds_ok (hok y (List.mem_of_getElem? hy))]
          simp
        · omega
      · exact long_one width hok d (gE ws width i) (by omega) x hx hw
    · rw [ln_end (by omega)]; intro x hx; cases hx
/-- Where no word is too long, no line is. -/
theorem fits_all {ws : List ByteArray} {width : Int} (hf : ∀ x ∈ ws, (x.size : Int) ≤ width) {i : Nat} (hi : i < ws.length) : (bg ws (gE ws width i) : Int) - (bg ws i : Int) - 1 ≤ width := by
  rcases gE_fits ws width hi with h | h
  · obtain ⟨y, hy⟩ : ∃ y, ws[i]? = some y := ⟨_, List.getElem?_eq_getElem hi⟩
    have := bg_next hy
    have := hf y (List.mem_of_getElem? hy)
    rw [h]
    omega
  · exact h
theorem rg_small {ws : List ByteArray} {width : Int} (hf : ∀ x ∈ ws, (x.size : Int) ≤ width) : ∀ d i, ws.length - i ≤ d → rgL width (lnE ws (gE ws width) i) ≤ d * 40000
  | 0, i, hd => by rw [ln_end (by omega)]; simp [rgL]
  | d + 1, i, hd => by
    by_cases hi : i < ws.length
    · have h1 := gE_adv ws width i hi
      have ih := rg_small hf d (gE ws width i) (by omega)
      have h2 : lc ws width i (gE ws width i) ≤ 40000 := lrag_fits (fits_all hf hi)
      rw [rgL_step width (gE_adv ws width) hi]
      omega
    · rw [ln_end (by omega)]; simp [rgL]; omega
theorem best_fits {ws : List ByteArray} {width : Int} {c : Nat → Int} (hC : Costs ws width c) (hf : ∀ x ∈ ws, (x.size : Int) ≤ width) (hn : ws.length ≤ 60) {i : Nat} (hi : i < ws.length) : (bg ws (bE ws width c i) : Int) - (bg ws i : Int) - 1 ≤ width := by
  have h1 := rgL_any hC (gE_adv ws width) _ i (Nat.le_refl _)
  have h2 := rg_small hf (ws.length - i) i (Nat.le_refl _)
  have h3 := bE_least hC hi
  have h4 := hC.low (bE ws width c i)
  rcases Int.lt_or_le width ((bg ws (bE ws width c i) : Int) - (bg ws i : Int) - 1) with h | h
  · have h5 : lc ws width i (bE ws width c i) = 10000000 := lrag_long h
    omega
  · exact h
theorem fewest {ws : List ByteArray} {width : Int} {E : Nat → Nat} (hE : Adv ws.length E) (hf : ∀ i, i < ws.length → (bg ws (E i) : Int) - (bg ws i : Int) - 1 ≤ width) : ∀ d p i, p ≤ i → ws.length - p ≤ d → (lnE ws (gE ws width) i).length ≤ (lnE ws E p).length
  | 0, p, i, hpi, hd => by rw [ln_end (by omega)]; simp
  | d + 1, p, i, hpi, hd => by
    by_cases hi : i < ws.length
    · have hp : p < ws.length := by omega
      have h1 := hE p hp
      have h2 := gE_adv ws width i hi
      have hge : E p ≤ gE ws width i := by
        rcases Nat.lt_or_ge (gE ws width i) (E p) with h | h
        · obtain ⟨g1, g2, g3, g4⟩ := en_spec (n := ws.length) (stop := gS ws width i) _ (i + 1) rfl (by omega)
          have h7 : width < (bg ws (gE ws width i + 1) : Int) - (bg ws i : Int) - 1 := of_decide_eq_true (g4 (by show gE ws width i < ws.length; omega))
          have h3 := hf p hp
          have h4 := bg_mono (ws := ws) (i := gE ws width i + 1) (e := E p) (by omega)
          have h5 := bg_mono (ws := ws) (i := p) (e := i) hpi
          omega
        · exact h
      have ih := fewest hE hf d (E p) (gE ws width i) hge (by omega)
      rw [ln_step (gE_adv ws width) hi, ln_step hE hp]
      simp only [List.length_cons]
      omega
    · rw [ln_end (by omega)]; simp
/-- Drawn words are right, and short. -/
theorem drawn_ok {ws : List ByteArray} (hl : ws.length ≤ 12) (hm : ∀ x ∈ ws, x ∈ words17) : wsOk ws = true ∧ ∀ k, k ≤ ws.length → bg ws k ≤ 14 * k := by
  refine ⟨?_, ?_⟩
  · unfold wsOk
    rw [Bool.and_eq_true, decide_eq_true_eq, List.all_eq_true]
    exact ⟨by omega, fun x hx => (words17_ok x (hm x hx)).1⟩
  · intro k
    induction k with
    | zero => intro _; rw [bg_zero]; omega
    | succ k ih =>
      intro hk
      obtain ⟨x, hx⟩ : ∃ x, ws[k]? = some x := ⟨_, List.getElem?_eq_getElem (by omega)⟩
      have := (words17_ok x (hm x (List.mem_of_getElem? hx))).2
      have := ih (by omega)
      rw [bg_next hx]
      omega
theorem catB_size {ws : List ByteArray} {E : Nat → Nat} (hE : Adv ws.length E) : ∀ d i, ws.length - i ≤ d → i ≤ ws.length → (catL (lnE ws E i)).length + bg ws i ≤ bg ws ws.length
  | 0, i, hd, hi => by rw [ln_end (by omega), show i = ws.length by omega]; simp [catL]
  | d + 1, i, hd, hi => by
    by_cases hi2 : i < ws.length
    · have h1 := hE i hi2
      have hs := jn_size (ws := ws) h1.1 h1.2
      have ih := catB_size hE d (E i) (by omega) h1.2
      rw [ln_step hE hi2, catL_cons]
      rw [List.length_append, List.length_cons, ← size_list]
      omega
    · rw [ln_end (by omega), show i = ws.length by omega]; simp [catL]
end Go.Proofs.YtabbfpkhlofccaaDoor
