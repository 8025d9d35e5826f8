/- Neat texts in plain words: by their lines, and by their bytes. -/
import Derived.Test.YtlejdjbhbkknlaaLineLib
namespace Go.Proofs.Ytlejdjbhbkknlaa
open Go.RowKit

/-- All bytes in 32 .. 126. -/
def Pln (s : ByteArray) : Prop := ∀ k, k < s.size → 32 ≤ by8 s k ∧ by8 s k ≤ 126
/-- A line of plain bytes without a blank at its end. -/
def OkLn (l : ByteArray) : Prop := Lib.hasSuffix l.data.toList [32] = false ∧ Pln l
/-- An empty line has one behind it that is not. -/
def GapL : List (List UInt8) → Prop
  | [] => True
  | x :: xs => (x = [] → ∃ y ys, xs = y :: ys ∧ y ≠ []) ∧ GapL xs
def gapT : Bool → List UInt8 → Bool
  | _, [] => true
  | st, c :: t => if c = 10 then ((!st || (match t with | [] => false | d :: _ => d != 10)) && gapT true t) else gapT false t
theorem gapT_nl (st : Bool) (t : List UInt8) : gapT st (10 :: t) = ((!st || (match t with | [] => false | d :: _ => d != 10)) && gapT true t) := (gapT.eq_def st (10 :: t)).trans (if_pos rfl)
theorem gapT_other {c : UInt8} (h : c ≠ 10) (st : Bool) (t : List UInt8) : gapT st (c :: t) = gapT false t := (gapT.eq_def st (c :: t)).trans (if_neg h)
theorem linesF_head : ∀ (l cur : List UInt8), cur ≠ [] → ∃ y ys, linesF cur l = y :: ys ∧ y ≠ []
  | [], cur, h => ⟨cur, [], by rw [linesF, if_neg (by simpa using h)], h⟩
  | c :: t, cur, h => by
    by_cases e : c = 10
    · subst e
      exact ⟨cur, _, linesF_nl cur t, h⟩
    · rw [linesF_other e]
      exact linesF_head t (cur ++ [c]) (by simp)
theorem gap_bytes : ∀ (l cur : List UInt8), gapT cur.isEmpty l = true ↔ GapL (linesF cur l)
  | [], cur => by
    rw [linesF]
    by_cases h : cur = []
    · subst h; simp [gapT, GapL]
    · rw [if_neg (by simpa using h)]
      simp [gapT, GapL, h]
  | c :: t, cur => by
    by_cases e : c = 10
    · subst e
      have ih := gap_bytes t []
      rw [gapT_nl, linesF_nl, GapL, ← ih]
      rw [Bool.and_eq_true, show ([] : List UInt8).isEmpty = true from rfl]
      refine and_congr_left fun _ => ?_
      by_cases h : cur = []
      · subst h
        cases t with
        | nil => simp [linesF]
        | cons d u =>
          by_cases hd : d = 10
          · subst hd
            simp [linesF_nl]
          · obtain ⟨y, ys, h1, h2⟩ := linesF_head u [d] (by simp)
            rw [linesF_other hd, List.nil_append, h1]
            simp [hd, h2]
      · simp [h]
    · rw [gapT_other e, linesF_other e]
      have ih := gap_bytes t (cur ++ [c])
      rw [show (cur ++ [c]).isEmpty = false by cases cur <;> rfl] at ih
      exact ih
theorem suffix2 (c : UInt8) (t : List UInt8) : Lib.hasSuffix (c :: t) [10, 10] = (decide (c :: t = [10, 10]) || Lib.hasSuffix t [10, 10]) := by
  unfold Lib.hasSuffix
  rw [Bool.eq_iff_iff, Bool.or_eq_true, decide_eq_true_eq, List.isSuffixOf_iff_suffix, List.isSuffixOf_iff_suffix, List.suffix_cons_iff]
  exact or_congr_left ⟨fun h => h.symm, fun h => h.symm⟩
theorem contains3 (c : UInt8) (t : List UInt8) : Lib.contains (c :: t) [10, 10, 10] = ([10, 10, 10].isPrefixOf (c :: t) || Lib.contains t [10, 10, 10]) := by
  unfold Lib.contains
  have hg := Lib.index_ge t [10, 10, 10]
  rw [Lib.index]
  by_cases h : [10, 10, 10].isPrefixOf (c :: t) = true
  · rw [if_pos h, h]; simp
  · rw [if_neg h]
    rw [Bool.not_eq_true] at h
    rw [h, Bool.false_or]
    by_cases h1 : Lib.index t [10, 10, 10] = -1
    · rw [h1]; simp
    · rw [if_neg (by simpa using h1)]
      rw [Bool.eq_iff_iff, decide_eq_true_eq, decide_eq_true_eq]
      omega
theorem gap_text : ∀ (l : List UInt8), gapT false l = (!Lib.hasSuffix l [10, 10] && !Lib.contains l [10, 10, 10])
  | [] => by decide
  | c :: t => by
    have ih := gap_text t
    rw [suffix2, contains3]
    by_cases e : c = 10
    · subst e
      rw [gapT_nl, Bool.not_false, Bool.true_or, Bool.true_and]
      cases t with
      | nil => decide
      | cons d u =>
        by_cases hd : d = 10
        · subst hd
          rw [gapT_nl] at ih ⊢
          rw [Bool.not_false, Bool.true_or, Bool.true_and] at ih
          rw [ih]
          cases u with
          | nil => simp
          | cons f v =>
            by_cases hf : f = 10
            · subst hf; simp [List.isPrefixOf]
            · have hf2 : (10 == f) = false := by rw [beq_eq_false_iff_ne]; exact fun h => hf h.symm
              simp [List.isPrefixOf, hf, hf2]
        · have hd2 : (10 == d) = false := by rw [beq_eq_false_iff_ne]; exact fun h => hd h.symm
          rw [gapT_other hd, ← gapT_other hd false, ih]
          simp [List.isPrefixOf, hd, hd2]
    · have e2 : (10 == c) = false := by rw [beq_eq_false_iff_ne]; exact fun h => e h.symm
      rw [gapT_other e, ih]
      simp [List.isPrefixOf, e, e2]
/-- Neat, by its lines. -/
def NeatP (s : ByteArray) : Prop := s.size = 0 ∨ (by8 s (s.size - 1) = 10 ∧ by8 s 0 ≠ 10 ∧ ∀ i t, (lns s)[i]? = some t → OkLn t ∧ (t.size = 0 → ∃ u, (lns s)[i + 1]? = some u ∧ u.size ≠ 0))
theorem gapL_at : ∀ (ls : List (List UInt8)), GapL ls ↔ ∀ (i : Nat) (x : List UInt8), ls[i]? = some x → x = [] → ∃ y, ls[i + 1]? = some y ∧ y ≠ []
  | [] => by simp [GapL]
  | a :: as => by
    rw [GapL, gapL_at as]
    constructor
    · rintro ⟨h1, h2⟩ i x hx he
      cases i with
      | zero =>
        simp only [List.getElem?_cons_zero, Option.some.injEq] at hx
        obtain ⟨y, ys, h3, h4⟩ := h1 (hx.trans he)
        exact ⟨y, by rw [h3]; rfl, h4⟩
      | succ i => exact h2 i x (by simpa using hx) he
    · intro h
      refine ⟨fun h1 => ?_, fun i x hx he => ?_⟩
      · obtain ⟨y, h2, h3⟩ := h 0 a rfl h1
        cases as with
        | nil => simp at h2
        | cons b bs => exact ⟨y, bs, by simp at h2; rw [h2], h3⟩
      · simpa using h (i + 1) x (by simpa using hx) he
theorem list_size {l : List UInt8} : (⟨l.toArray⟩ : ByteArray).size = l.length := by simp [ByteArray.size]
theorem suf_last (s : ByteArray) (h : 0 < s.size) (c : UInt8) : Lib.hasSuffix s.data.toList [c] = true ↔ by8 s (s.size - 1) = (c.toNat : Int) := by
  have hl : s.data.toList.length = s.size := by simp
  have hne := list_pos h
  unfold Lib.hasSuffix by8
  rw [List.isSuffixOf_iff_suffix, List.suffix_iff_eq_drop, hl]
  have hd := drop_at s (s.size - 1) (by omega)
  have hd2 : s.data.toList.drop s.size = [] := List.drop_of_length_le (by omega)
  rw [show s.size - 1 + 1 = s.size by omega, hd2] at hd
  rw [show s.size - [c].length = s.size - 1 from rfl, hd]
  constructor
  · intro e
    injection e with e _
    rw [← e]
  · intro e
    have : s.data.toList.getD (s.size - 1) 0 = c := by
      apply UInt8.toNat_inj.1
      omega
    rw [this]
theorem pre_first (s : ByteArray) (h : 0 < s.size) : Lib.hasPrefix s.data.toList [10] = true ↔ by8 s 0 = 10 := by
  have hd := drop_at s 0 h
  rw [List.drop_zero] at hd
  unfold Lib.hasPrefix by8
  rw [hd]
  simp only [List.isPrefixOf, Bool.and_true, beq_iff_eq, List.getD_cons_zero]
  generalize s.data.toList.getD 0 0 = c
  constructor
  · intro e; rw [← e]; rfl
  · intro e
    apply UInt8.toNat_inj.1
    have : c.toNat = 10 := by omega
    rw [this]; rfl
/-- The same by its bytes. -/
theorem neat_iff (s : ByteArray) : NeatP s ↔ ((s.size = 0 ∨ Lib.hasSuffix s.data.toList [10] = true) ∧ (∀ t ∈ lns s, OkLn t) ∧ (Lib.hasPrefix s.data.toList [10] = false ∧ Lib.hasSuffix s.data.toList [10, 10] = false ∧ Lib.contains s.data.toList [10, 10, 10] = false)) := by
  by_cases h0 : s.size = 0
  · have hnil : s.data.toList = [] := List.eq_nil_of_length_eq_zero (by simpa using h0)
    refine ⟨fun _ => ⟨.inl h0, ?_, ?_⟩, fun _ => .inl h0⟩
    · rw [lns_none h0]; simp
    · rw [hnil]; decide
  · have hp : 0 < s.size := by omega
    have hsl := suf_last s hp 10
    have hpf := pre_first s hp
    rw [show (((10 : UInt8).toNat : Nat) : Int) = 10 from rfl] at hsl
    have hpf' : Lib.hasPrefix s.data.toList [10] = false ↔ by8 s 0 ≠ 10 := by rw [← Bool.not_eq_true, hpf]
    rw [hsl, hpf']
    have hgap : by8 s 0 ≠ 10 → ((Lib.hasSuffix s.data.toList [10, 10] = false ∧ Lib.contains s.data.toList [10, 10, 10] = false) ↔ GapL (linesF [] s.data.toList)) := by
      intro hb
      rw [← gap_bytes]
      have hd := drop_at s 0 hp
      rw [List.drop_zero] at hd
      have hc := at_other hb
      have e1 : gapT ([] : List UInt8).isEmpty s.data.toList = gapT false s.data.toList := by
        rw [hd, gapT_other hc, gapT_other hc]
      rw [e1, gap_text]
      simp
    have hidx : GapL (linesF [] s.data.toList) ↔ ∀ (i : Nat) (t : ByteArray), (lns s)[i]? = some t → t.size = 0 → ∃ u : ByteArray, (lns s)[i + 1]? = some u ∧ u.size ≠ 0 := by
      rw [gapL_at]
      unfold lns
      simp only [List.getElem?_map, Option.map_eq_some_iff]
      constructor
      · rintro h i t ⟨x, hx, rfl⟩ ht
        obtain ⟨y, hy, hn⟩ := h i x hx (List.eq_nil_of_length_eq_zero (by rw [list_size] at ht; exact ht))
        exact ⟨_, ⟨y, hy, rfl⟩, by rw [list_size]; exact fun e => hn (List.eq_nil_of_length_eq_zero e)⟩
      · intro h i x hx he
        obtain ⟨u, ⟨y, hy, rfl⟩, hn⟩ := h i _ ⟨x, hx, rfl⟩ (by rw [list_size, he]; rfl)
        exact ⟨y, hy, fun e => hn (by rw [list_size, e]; rfl)⟩
    unfold NeatP
    constructor
    · rintro (h | ⟨h1, h2, h3⟩)
      · exact absurd h h0
      · refine ⟨.inr h1, fun t ht => ?_, h2, (hgap h2).2 (hidx.2 fun i t hi => (h3 i t hi).2)⟩
        obtain ⟨i, hi⟩ := List.mem_iff_getElem?.1 ht
        exact (h3 i t hi).1
    · rintro ⟨h1, h2, h3, h4⟩
      refine .inr ⟨h1.resolve_left h0, h3, fun i t hi => ⟨h2 t (List.mem_of_getElem? hi), ?_⟩⟩
      exact hidx.1 ((hgap h3).1 h4) i t hi
/-- Nothing is cut off where no blank stands at the end. -/
theorem trim_same (s : ByteArray) : trimB s = s ↔ Lib.hasSuffix s.data.toList [32] = false := by
  by_cases h0 : s.size = 0
  · have hnil : s.data.toList = [] := List.eq_nil_of_length_eq_zero (by simpa using h0)
    have h1 := trimB_size s
    constructor
    · intro _; rw [hnil]; decide
    · intro _
      apply ByteArray.ext
      apply Array.ext'
      have e1 : (trimB s).data.toList = [] := List.eq_nil_of_length_eq_zero (by have : (trimB s).data.toList.length = (trimB s).size := by simp
                                                                                omega)
      rw [e1, hnil]
  · have hp : 0 < s.size := by omega
    rw [← Bool.not_eq_true, suf_last s hp 32]
    constructor
    · intro e h
      have h32 : by8 s (s.size - 1) = 32 := h
      -- cut at the least place behind which all are blanks: shorter
      have hcut : ∃ n, n ≤ s.size - 1 ∧ (∀ j, n ≤ j → j < s.size → by8 s j = 32) ∧ (0 < n → by8 s (n - 1) ≠ 32) := by
        have key : ∀ m, m ≤ s.size - 1 → (∀ j, m ≤ j → j < s.size → by8 s j = 32) → ∃ n, n ≤ s.size - 1 ∧ (∀ j, n ≤ j → j < s.size → by8 s j = 32) ∧ (0 < n → by8 s (n - 1) ≠ 32) := by
          intro m
          induction m with
          | zero => exact fun h1 h2 => ⟨0, h1, h2, fun h => by omega⟩
          | succ m ih =>
            intro h1 h2
            by_cases hm : by8 s m = 32
            · exact ih (by omega) fun j hj hj2 => by
                by_cases hjm : j = m
                · subst hjm; exact hm
                · exact h2 j (by omega) hj2
            · exact ⟨m + 1, h1, h2, fun _ => by simpa using hm⟩
        exact key (s.size - 1) (Nat.le_refl _) fun j h1 h2 => by
          have : j = s.size - 1 := by omega
          subst this; exact h32
      obtain ⟨n, h1, h2, h3⟩ := hcut
      have h4 := trimB_is (by omega) h2 h3
      rw [e] at h4
      have h5 := congrArg ByteArray.size h4
      rw [ByteArray.size_extract] at h5
      omega
    · intro h
      have h4 := trimB_is (s := s) (n := s.size) (Nat.le_refl _) (fun j h1 h2 => by omega) (fun _ e => h e)
      rw [← h4]
      simp
end Go.Proofs.Ytlejdjbhbkknlaa
