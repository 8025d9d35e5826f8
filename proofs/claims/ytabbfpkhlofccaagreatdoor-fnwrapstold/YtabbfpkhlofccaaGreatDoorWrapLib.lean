/- Words of a text, and lines of words, as plain functions. -/
import Derived.Test.YtabbfpkhlofccaaGreatDoorCutLib
namespace Go.Proofs.YtabbfpkhlofccaaGreatDoor
open Go.RowKit

/-- The words of a text, behind what stands since the last blank. -/
def wdA : List UInt8 → List UInt8 → List (List UInt8)
  | cur, [] => if cur.isEmpty then [] else [cur]
  | cur, b :: r => if b == 32 then (if cur.isEmpty then wdA [] r else cur :: wdA [] r) else wdA (cur ++ [b]) r
def bytesOf (ls : List (List UInt8)) : List ByteArray := ls.map fun l => ⟨l.toArray⟩
def wds (s : ByteArray) : List ByteArray := bytesOf (wdA [] s.data.toList)
theorem wdA_char {cur r : List UInt8} {b : UInt8} (h : b ≠ 32) : wdA cur (b :: r) = wdA (cur ++ [b]) r := by
  rw [wdA, if_neg (by simpa using h)]
theorem wdA_gap (r : List UInt8) : wdA [] (32 :: r) = wdA [] r := by simp [wdA]
theorem wdA_word {cur r : List UInt8} (h : cur ≠ []) : wdA cur (32 :: r) = cur :: wdA [] r := by
  have : cur.isEmpty = false := by cases cur <;> simp_all
  rw [wdA, if_pos (by rfl), this]
  rfl
theorem wdA_nil : wdA [] [] = [] := rfl
theorem wdA_last {cur : List UInt8} (h : cur ≠ []) : wdA cur [] = [cur] := by
  have : cur.isEmpty = false := by cases cur <;> simp_all
  rw [wdA, this]
  rfl
theorem wdA_len : ∀ (l cur : List UInt8), (wdA cur l).length ≤ l.length + 1
  | [], cur => by rw [wdA]; split <;> simp
  | b :: r, cur => by
    have h1 := wdA_len r []
    have h2 := wdA_len r (cur ++ [b])
    rw [wdA]
    split
    · split
      · simp only [List.length_cons]; omega
      · simp only [List.length_cons]; omega
    · simp only [List.length_cons]; omega
theorem wds_len (s : ByteArray) : (wds s).length ≤ s.size + 1 := by
  have := wdA_len s.data.toList []
  unfold wds bytesOf
  simpa using this
/-- Letters that are no blanks stay together. -/
theorem wdA_run : ∀ (x cur r : List UInt8), (32 : UInt8) ∉ x → wdA cur (x ++ r) = wdA (cur ++ x) r
  | [], cur, r, _ => by simp
  | b :: x, cur, r, h => by
    have hb : b ≠ 32 := fun e => h (by simp [e])
    rw [List.cons_append, wdA_char hb, wdA_run x (cur ++ [b]) r (fun m => h (List.mem_cons_of_mem _ m))]
    simp
/-- A word, a blank, and what stands behind it. -/
theorem wd_word {x : List UInt8} (r : List UInt8) (h : (32 : UInt8) ∉ x) (hx : x ≠ []) : wdA [] (x ++ 32 :: r) = x :: wdA [] r := by
  rw [wdA_run x [] _ h, List.nil_append, wdA_word hx]
theorem wd_one {x : List UInt8} (h : (32 : UInt8) ∉ x) (hx : x ≠ []) : wdA [] x = [x] := by
  have := wdA_run x [] [] h
  rw [List.append_nil, List.nil_append, wdA_last hx] at this
  exact this
/-- Behind a blank the words are told anew. -/
theorem wd_blank : ∀ (l cur r : List UInt8), wdA cur (l ++ 32 :: r) = wdA cur l ++ wdA [] r
  | [], cur, r => by
    by_cases h : cur = []
    · subst h
      simp [wdA]
    · rw [List.nil_append, wdA_word h, wdA_last h]
      rfl
  | b :: l, cur, r => by
    by_cases hb : b = 32
    · subst hb
      by_cases h : cur = []
      · subst h
        rw [List.cons_append, wdA_gap, wdA_gap, wd_blank l [] r]
      · rw [List.cons_append, wdA_word h, wdA_word h, wd_blank l [] r]
        rfl
    · rw [List.cons_append, wdA_char hb, wdA_char hb, wd_blank l _ r]
/-- The words of a text, and its blanks, are all of its bytes. -/
theorem wd_sum : ∀ (l cur : List UInt8), ((wdA cur l).map List.length).sum + l.count 32 = cur.length + l.length
  | [], cur => by
    by_cases h : cur = []
    · subst h; rfl
    · rw [wdA_last h]; simp
  | b :: l, cur => by
    by_cases hb : b = 32
    · subst hb
      have ih := wd_sum l []
      by_cases h : cur = []
      · subst h
        rw [wdA_gap, List.count_cons_self]
        simp only [List.length_nil, List.length_cons] at ih ⊢
        omega
      · rw [wdA_word h, List.count_cons_self]
        simp only [List.length_nil, List.length_cons, List.map_cons, List.sum_cons] at ih ⊢
        omega
    · have ih := wd_sum l (cur ++ [b])
      rw [wdA_char hb, List.count_cons_of_ne (by simpa using hb)]
      simp only [List.length_append, List.length_cons, List.length_nil] at ih ⊢
      omega

/-- A right word: not empty, without a blank. -/
def wOk (x : ByteArray) : Bool := decide (x.size ≠ 0) && decide ((32 : UInt8) ∉ x.data.toList)
def wsOk (ws : List ByteArray) : Bool := decide (ws.length ≤ 60) && ws.all wOk
theorem size_list (x : ByteArray) : x.size = x.data.toList.length := by rw [Array.length_toList]; rfl
theorem wOk_iff {x : ByteArray} : wOk x = true ↔ x.data.toList ≠ [] ∧ (32 : UInt8) ∉ x.data.toList := by
  unfold wOk
  rw [Bool.and_eq_true, decide_eq_true_eq, decide_eq_true_eq, size_list]
  refine and_congr ?_ Iff.rfl
  cases x.data.toList <;> simp
theorem wds_ok {x : ByteArray} (h : wOk x = true) : wds x = [x] := by
  obtain ⟨h1, h2⟩ := wOk_iff.1 h
  unfold wds
  rw [wd_one h2 h1]
  rfl
/-- A word is right just where it is its only word. -/
theorem wds_not {x y : ByteArray} (h : wOk x = false) (hx : x.size ≠ 0) (h1 : wds x = [y]) : y.size < x.size := by
  have h2 : (32 : UInt8) ∈ x.data.toList := by
    by_cases hm : (32 : UInt8) ∈ x.data.toList
    · exact hm
    · have : wOk x = true := by unfold wOk; rw [Bool.and_eq_true]; simp [hx, hm]
      rw [this] at h
      cases h
  have hs := wd_sum x.data.toList []
  have hc : 0 < x.data.toList.count 32 := List.count_pos_iff.2 h2
  unfold wds bytesOf at h1
  obtain ⟨z, hz, hzy⟩ := List.map_eq_singleton_iff.1 h1
  rw [hz] at hs
  have hy : y.size = z.length := by rw [← hzy]; simp [ByteArray.size]
  rw [size_list x, hy]
  simp only [List.map_cons, List.map_nil, List.sum_cons, List.sum_nil, List.length_nil] at hs
  omega
/-- Words that are right make a list that is. -/
theorem wsOk_all {ws : List ByteArray} (h : wsOk ws = true) : ws.length ≤ 60 ∧ ∀ x ∈ ws, wOk x = true := by
  unfold wsOk at h
  rw [Bool.and_eq_true, decide_eq_true_eq, List.all_eq_true] at h
  exact h

/-- Words in one line. -/
def jn : List ByteArray → ByteArray
  | [] => ByteArray.empty
  | x :: r => r.foldl (fun a y => a ++ (⟨#[32]⟩ : ByteArray) ++ y) x
def seg (ws : List ByteArray) (i e : Nat) : List ByteArray := (ws.take e).drop i
/-- Where a word would begin, if all stood in one line. -/
def bg (ws : List ByteArray) (i : Nat) : Nat := ((ws.take i).map fun x => x.size + 1).sum
theorem bg_zero (ws : List ByteArray) : bg ws 0 = 0 := by simp [bg]
theorem bg_next {ws : List ByteArray} {i : Nat} {x : ByteArray} (h : ws[i]? = some x) : bg ws (i + 1) = bg ws i + x.size + 1 := by
  unfold bg
  rw [List.take_add_one, h]
  simp
  omega
theorem bg_mono {ws : List ByteArray} {i e : Nat} (h : i ≤ e) : bg ws i ≤ bg ws e := by
  obtain ⟨d, rfl⟩ : ∃ d, e = i + d := ⟨e - i, by omega⟩
  clear h
  induction d with
  | zero => exact Nat.le_refl _
  | succ d ih =>
    rw [show i + (d + 1) = i + d + 1 by omega]
    cases hx : ws[i + d]? with
    | none =>
      have hl := List.getElem?_eq_none_iff.1 hx
      have : bg ws (i + d + 1) = bg ws (i + d) := by
        unfold bg
        rw [List.take_of_length_le (by omega), List.take_of_length_le hl]
      omega
    | some x => rw [bg_next hx]; omega
theorem bg_all (ws : List ByteArray) : bg ws ws.length = (ws.map fun x => x.size + 1).sum := by
  unfold bg
  rw [List.take_length]
theorem seg_more {ws : List ByteArray} {i e : Nat} {x : ByteArray} (hie : i ≤ e) (h : ws[e]? = some x) : seg ws i (e + 1) = seg ws i e ++ [x] := by
  unfold seg
  have he := (List.getElem?_eq_some_iff.1 h).1
  rw [List.take_add_one, h]
  rw [List.drop_append_of_le_length (by simp; omega)]
  rfl
theorem seg_one {ws : List ByteArray} {i : Nat} {x : ByteArray} (h : ws[i]? = some x) : seg ws i (i + 1) = [x] := by
  rw [seg_more (Nat.le_refl _) h]
  have : seg ws i i = [] := by unfold seg; exact List.drop_of_length_le (by simp; omega)
  rw [this]
  rfl
theorem seg_len {ws : List ByteArray} {i e : Nat} (h : e ≤ ws.length) : (seg ws i e).length = e - i := by
  simp [seg]
  omega
theorem seg_at {ws : List ByteArray} {i e j : Nat} {x : ByteArray} (h : (seg ws i e)[j]? = some x) : ws[i + j]? = some x := by
  unfold seg at h
  rw [List.getElem?_drop, List.getElem?_take] at h
  split at h
  · exact h
  · cases h
theorem jn_one {ws : List ByteArray} {i : Nat} {x : ByteArray} (h : ws[i]? = some x) : jn (seg ws i (i + 1)) = x := by
  rw [seg_one h]
  rfl
theorem jn_snoc {l : List ByteArray} {x : ByteArray} (h : l ≠ []) : jn (l ++ [x]) = jn l ++ (⟨#[32]⟩ : ByteArray) ++ x := by
  cases l with
  | nil => exact absurd rfl h
  | cons y r => simp [jn, List.foldl_append]
theorem seg_ne {ws : List ByteArray} {i e : Nat} (h : i < e) (he : e ≤ ws.length) : seg ws i e ≠ [] := by
  intro h0
  have := seg_len (ws := ws) (i := i) he
  rw [h0] at this
  simp at this
  omega
theorem jn_more {ws : List ByteArray} {i e : Nat} {x : ByteArray} (hie : i < e) (h : ws[e]? = some x) : jn (seg ws i (e + 1)) = jn (seg ws i e) ++ (⟨#[32]⟩ : ByteArray) ++ x := by
  have he := (List.getElem?_eq_some_iff.1 h).1
  rw [seg_more (by omega) h, jn_snoc (seg_ne hie (by omega))]
theorem jn_size {ws : List ByteArray} {i : Nat} : ∀ {e : Nat}, i < e → e ≤ ws.length → (jn (seg ws i e)).size + bg ws i + 1 = bg ws e := by
  intro e hie he
  obtain ⟨d, rfl⟩ : ∃ d, e = i + d + 1 := ⟨e - i - 1, by omega⟩
  clear hie
  induction d with
  | zero =>
    have hx : ws[i]? = some (ws[i]'(by omega)) := List.getElem?_eq_getElem (by omega)
    rw [Nat.add_zero, jn_one hx, bg_next hx]
    omega
  | succ d ih =>
    have ih := ih (by omega)
    obtain ⟨x, hx⟩ : ∃ x, ws[i + (d + 1)]? = some x := ⟨_, List.getElem?_eq_getElem (by omega)⟩
    rw [jn_more (by omega) hx, bg_next hx]
    have e1 : (⟨#[32]⟩ : ByteArray).size = 1 := rfl
    rw [ByteArray.size_append, ByteArray.size_append, e1]
    rw [show i + (d + 1) = i + d + 1 by omega]
    omega

/-- The first place from e on that stops, or the end. -/
def enF (stop : Nat → Bool) : Nat → Nat → Nat
  | 0, e => e
  | f + 1, e => if stop e then e else enF stop f (e + 1)
def en (n : Nat) (stop : Nat → Bool) (e : Nat) : Nat := enF stop (n - e) e
theorem en_stop {n e : Nat} {stop : Nat → Bool} (h : e < n) (hs : stop e = true) : en n stop e = e := by
  unfold en
  rw [show n - e = (n - e - 1) + 1 by omega, enF, if_pos hs]
theorem en_go {n e : Nat} {stop : Nat → Bool} (h : e < n) (hs : stop e = false) : en n stop e = en n stop (e + 1) := by
  unfold en
  rw [show n - e = (n - (e + 1)) + 1 by omega, enF, if_neg (by simp [hs])]
theorem en_end {n e : Nat} {stop : Nat → Bool} (h : n ≤ e) : en n stop e = e := by
  unfold en
  rw [show n - e = 0 by omega, enF]
/-- It is no place that is passed by that stops, and the place itself does, but for the end. -/
theorem en_spec {n : Nat} {stop : Nat → Bool} : ∀ (d e : Nat), n - e = d → e ≤ n → e ≤ en n stop e ∧ en n stop e ≤ n ∧ (∀ x, e ≤ x → x < en n stop e → stop x = false) ∧ (en n stop e < n → stop (en n stop e) = true)
  | 0, e, hd, he => by
    have : e = n := by omega
    subst this
    rw [en_end (Nat.le_refl _)]
    exact ⟨Nat.le_refl _, Nat.le_refl _, fun x h1 h2 => by omega, fun h => by omega⟩
  | d + 1, e, hd, he => by
    cases hs : stop e with
    | true =>
      rw [en_stop (by omega) hs]
      exact ⟨Nat.le_refl _, by omega, fun x h1 h2 => by omega, fun _ => hs⟩
    | false =>
      obtain ⟨h1, h2, h3, h4⟩ := en_spec (n := n) (stop := stop) d (e + 1) (by omega) (by omega)
      rw [en_go (by omega) hs]
      refine ⟨by omega, h2, fun x hx1 hx2 => ?_, h4⟩
      by_cases hxe : x = e
      · subst hxe; exact hs
      · exact h3 x (by omega) hx2
theorem en_ge {n e : Nat} {stop : Nat → Bool} (h : e ≤ n) : e ≤ en n stop e ∧ en n stop e ≤ n := by
  have := en_spec (n := n) (stop := stop) _ e rfl h
  exact ⟨this.1, this.2.1⟩

/-- Each line ends behind its first word, and not behind the last one. -/
def Adv (n : Nat) (E : Nat → Nat) : Prop := ∀ i, i < n → i < E i ∧ E i ≤ n
def lnF (ws : List ByteArray) (E : Nat → Nat) : Nat → Nat → List ByteArray
  | 0, _ => []
  | f + 1, i => if i < ws.length then jn (seg ws i (E i)) :: lnF ws E f (E i) else []
/-- The lines from the word i on, the line of i ends ahead of E i. -/
def lnE (ws : List ByteArray) (E : Nat → Nat) (i : Nat) : List ByteArray := lnF ws E (ws.length - i) i
theorem lnF_fuel {ws : List ByteArray} {E : Nat → Nat} (hE : Adv ws.length E) : ∀ (f g i : Nat), ws.length - i ≤ f → ws.length - i ≤ g → lnF ws E f i = lnF ws E g i
  | 0, 0, _, _, _ => rfl
  | 0, g + 1, i, h, _ => by rw [lnF, lnF, if_neg (by omega)]
  | f + 1, 0, i, _, h => by rw [lnF, lnF, if_neg (by omega)]
  | f + 1, g + 1, i, hf, hg => by
    rw [lnF, lnF]
    by_cases hi : i < ws.length
    · have := hE i hi
      rw [if_pos hi, if_pos hi, lnF_fuel hE f g (E i) (by omega) (by omega)]
    · rw [if_neg hi, if_neg hi]
theorem ln_step {ws : List ByteArray} {E : Nat → Nat} (hE : Adv ws.length E) {i : Nat} (hi : i < ws.length) : lnE ws E i = jn (seg ws i (E i)) :: lnE ws E (E i) := by
  have := hE i hi
  unfold lnE
  rw [show ws.length - i = (ws.length - i - 1) + 1 by omega, lnF, if_pos hi, lnF_fuel hE _ (ws.length - E i) (E i) (by omega) (Nat.le_refl _)]
theorem ln_end {ws : List ByteArray} {E : Nat → Nat} {i : Nat} (hi : ws.length ≤ i) : lnE ws E i = [] := by
  unfold lnE
  rw [show ws.length - i = 0 by omega, lnF]
theorem ln_len {ws : List ByteArray} {E : Nat → Nat} (hE : Adv ws.length E) : ∀ (d i : Nat), ws.length - i ≤ d → (lnE ws E i).length ≤ d
  | 0, i, h => by rw [ln_end (by omega)]; simp
  | d + 1, i, h => by
    by_cases hi : i < ws.length
    · have h1 := hE i hi
      have h2 := ln_len hE d (E i) (by omega)
      rw [ln_step hE hi]
      simp only [List.length_cons]
      omega
    · rw [ln_end (by omega)]; simp

/-- A line is full ahead of the word e. -/
def gS (ws : List ByteArray) (width : Int) (i e : Nat) : Bool := decide (width < (bg ws (e + 1) : Int) - (bg ws i : Int) - 1)
def gE (ws : List ByteArray) (width : Int) (i : Nat) : Nat := en ws.length (gS ws width i) (i + 1)
theorem gE_adv (ws : List ByteArray) (width : Int) : Adv ws.length (gE ws width) := fun i hi => by
  have := en_ge (n := ws.length) (stop := gS ws width i) (e := i + 1) (by omega)
  unfold gE
  omega
def greedy (ws : List ByteArray) (width : Int) : List ByteArray := if wsOk ws then lnE ws (gE ws width) 0 else []

/-- What spec.Greedy holds behind k words: lines that are done, and the line of the words from b on. -/
def GInv (ws : List ByteArray) (width : Int) (os : List ByteArray) (line : ByteArray) (k : Nat) : Prop :=
  (k = 0 ∧ os = [] ∧ line = ByteArray.empty) ∨ ∃ b, b < k ∧ os.length ≤ b ∧ line = jn (seg ws b k) ∧ os ++ lnE ws (gE ws width) b = lnE ws (gE ws width) 0 ∧ gE ws width b = en ws.length (gS ws width b) k
theorem ginv_zero (ws : List ByteArray) (width : Int) : GInv ws width [] ByteArray.empty 0 := Or.inl ⟨rfl, rfl, rfl⟩
theorem ginv_first {ws : List ByteArray} {width : Int} {os : List ByteArray} {line x : ByteArray} (h : GInv ws width os line 0) (hx : ws[0]? = some x) : os = [] ∧ GInv ws width [] x 1 := by
  rcases h with ⟨_, ho, _⟩ | ⟨b, hb, _⟩
  · exact ⟨ho, Or.inr ⟨0, by omega, by simp, (jn_one hx).symm, by simp, rfl⟩⟩
  · omega
theorem ginv_size {ws : List ByteArray} {width : Int} {os : List ByteArray} {line : ByteArray} {k : Nat} (h : GInv ws width os line k) (hk : k ≤ ws.length) : line.size ≤ bg ws k ∧ os.length ≤ k := by
  rcases h with ⟨rfl, rfl, rfl⟩ | ⟨b, hb, ho, rfl, _⟩
  · exact ⟨by simp, by simp⟩
  · have := jn_size (ws := ws) hb hk
    omega
theorem ginv_more {ws : List ByteArray} {width : Int} {os : List ByteArray} {line x : ByteArray} {k : Nat} (h : GInv ws width os line k) (h0 : 0 < k) (hx : ws[k]? = some x) (hw : (line.size : Int) + 1 + x.size ≤ width) : GInv ws width os (line ++ (⟨#[32]⟩ : ByteArray) ++ x) (k + 1) := by
  have hk := (List.getElem?_eq_some_iff.1 hx).1
  rcases h with ⟨rfl, _, _⟩ | ⟨b, hb, ho, rfl, h1, h2⟩
  · omega
  · have hs := jn_size (ws := ws) hb (by omega)
    have hn := bg_next hx
    refine Or.inr ⟨b, by omega, ho, (jn_more hb hx).symm, h1, ?_⟩
    rw [h2, en_go hk (by unfold gS; rw [decide_eq_false_iff_not]; omega)]
theorem ginv_line {ws : List ByteArray} {width : Int} {os : List ByteArray} {line x : ByteArray} {k : Nat} (h : GInv ws width os line k) (h0 : 0 < k) (hx : ws[k]? = some x) (hw : width < (line.size : Int) + 1 + x.size) : GInv ws width (os ++ [line]) x (k + 1) := by
  have hk := (List.getElem?_eq_some_iff.1 hx).1
  rcases h with ⟨rfl, _, _⟩ | ⟨b, hb, ho, rfl, h1, h2⟩
  · omega
  · have hs := jn_size (ws := ws) hb (by omega)
    have hn := bg_next hx
    have hE : gE ws width b = k := by rw [h2, en_stop hk (by unfold gS; rw [decide_eq_true_eq]; omega)]
    refine Or.inr ⟨k, by omega, by simp; omega, (jn_one hx).symm, ?_, rfl⟩
    rw [← h1, ln_step (gE_adv ws width) (i := b) (by omega), hE]
    simp
theorem ginv_end {ws : List ByteArray} {width : Int} {os : List ByteArray} {line : ByteArray} {k : Nat} (h : GInv ws width os line k) (h0 : 0 < k) (hk : k = ws.length) : os ++ [line] = lnE ws (gE ws width) 0 := by
  rcases h with ⟨rfl, _, _⟩ | ⟨b, hb, ho, rfl, h1, h2⟩
  · omega
  · rw [en_end (by omega)] at h2
    rw [← h1, ln_step (gE_adv ws width) (i := b) (by omega), h2, ln_end (i := k) (by omega)]
end Go.Proofs.YtabbfpkhlofccaaGreatDoor
