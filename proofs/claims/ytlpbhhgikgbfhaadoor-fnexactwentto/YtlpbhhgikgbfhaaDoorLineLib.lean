/- Plain facts on the lines of a text: cut, joined again, and where a byte stands. -/
import Derived.Test.YtlpbhhgikgbfhaaDoorCutLib
import Derived.Lib.IndexMore
import Derived.Lib.LastIndexByte
import Derived.Lib.TrimByte
import Derived.Lib.Bytealg
namespace Go.Proofs.YtlpbhhgikgbfhaaDoor

theorem str_none (s : ByteArray) : s.toList.isEmpty = decide (s.size = 0) := by
  rw [Bool.eq_iff_iff, List.isEmpty_iff_length_eq_zero, decide_eq_true_eq, ByteArray.toList_eq]
  simp
/-- The lines of what follows, with what has come of the line at hand. -/
def linesF : List UInt8 → List UInt8 → List (List UInt8)
  | cur, [] => if cur.isEmpty then [] else [cur]
  | cur, c :: t => if c = 10 then cur :: linesF [] t else linesF (cur ++ [c]) t
def lns (s : ByteArray) : List ByteArray := (linesF [] s.data.toList).map fun l => ⟨l.toArray⟩

theorem linesF_nl (cur t : List UInt8) : linesF cur (10 :: t) = cur :: linesF [] t := by rw [linesF, if_pos rfl]
theorem linesF_other {c : UInt8} (h : c ≠ 10) (cur t : List UInt8) : linesF cur (c :: t) = linesF (cur ++ [c]) t := by rw [linesF, if_neg h]

theorem linesF_len : ∀ (l cur : List UInt8), (linesF cur l).length ≤ l.length + 1
  | [], cur => by rw [linesF]; split <;> simp
  | c :: t, cur => by
    rw [linesF]
    split
    · have := linesF_len t []; simp; omega
    · have := linesF_len t (cur ++ [c]); simp; omega
theorem linesF_size : ∀ (l cur : List UInt8), ∀ p ∈ linesF cur l, p.length ≤ cur.length + l.length
  | [], cur, p, hp => by
    rw [linesF] at hp
    split at hp
    · simp at hp
    · simp at hp; subst hp; simp
  | c :: t, cur, p, hp => by
    rw [linesF] at hp
    split at hp
    · rcases List.mem_cons.1 hp with rfl | hp
      · simp
      · have := linesF_size t [] p hp
        simp at *
        omega
    · have := linesF_size t (cur ++ [c]) p hp
      simp at *
      omega
theorem lns_many (s : ByteArray) : (lns s).length ≤ s.size + 1 := by
  have := linesF_len s.data.toList []
  have hs : s.data.toList.length = s.size := by simp
  unfold lns
  rw [List.length_map]
  omega
theorem lns_size {s t : ByteArray} (h : t ∈ lns s) : t.size ≤ s.size := by
  obtain ⟨l, hl, rfl⟩ := List.mem_map.1 h
  have := linesF_size s.data.toList [] l hl
  have hs : s.data.toList.length = s.size := by simp
  have ht : (⟨l.toArray⟩ : ByteArray).size = l.length := by simp [ByteArray.size]
  rw [ht]
  simp at this
  omega

/-- How far the lines have come, when place i is next and the line at hand begins at b. -/
def LInv (s : ByteArray) (os : List ByteArray) (b i : Nat) : Prop :=
  i ≤ s.size ∧ b ≤ i ∧ lists os ++ linesF ((s.data.toList.take i).drop b) (s.data.toList.drop i) = linesF [] s.data.toList
theorem linv_zero (s : ByteArray) : LInv s [] 0 0 := ⟨Nat.zero_le _, Nat.le_refl _, by simp [lists]⟩
theorem at_ten {s : ByteArray} {i : Nat} (h : by8 s i = 10) : s.data.toList.getD i 0 = 10 := by
  unfold by8 at h
  generalize s.data.toList.getD i 0 = c at *
  apply UInt8.toNat_inj.1
  have : c.toNat = 10 := by omega
  rw [this]; rfl
theorem at_other {s : ByteArray} {i : Nat} (h : by8 s i ≠ 10) : s.data.toList.getD i 0 ≠ 10 := by
  intro e
  apply h
  unfold by8
  rw [e]; rfl
theorem linv_char {s : ByteArray} {os : List ByteArray} {b i : Nat} (h : LInv s os b i) (hi : i < s.size) (h2 : by8 s i ≠ 10) : LInv s os b (i + 1) := by
  obtain ⟨_, h3, h4⟩ := h
  refine ⟨by omega, by omega, ?_⟩
  rw [drop_at s i hi, linesF_other (at_other h2)] at h4
  rw [cut_more s b i h3 hi]
  exact h4
theorem linv_line {s : ByteArray} {os : List ByteArray} {b i : Nat} (h : LInv s os b i) (hi : i < s.size) (h2 : by8 s i = 10) : LInv s (os ++ [s.extract b i]) (i + 1) (i + 1) := by
  obtain ⟨_, h3, h4⟩ := h
  refine ⟨by omega, by omega, ?_⟩
  rw [drop_at s i hi, at_ten h2, linesF_nl] at h4
  rw [cut_none, ← h4]
  simp [lists, ByteArray.data_extract, List.take_drop, Nat.add_sub_cancel' h3]
theorem linv_end {s : ByteArray} {os : List ByteArray} {b : Nat} (h : LInv s os b s.size) (hb : s.size ≤ b) : os = lns s := by
  obtain ⟨_, h3, h4⟩ := h
  have : b = s.size := by omega
  subst this
  rw [cut_none, List.drop_of_length_le (by simp)] at h4
  exact lists_inj (by simpa [linesF] using h4)
theorem linv_last {s : ByteArray} {os : List ByteArray} {b : Nat} (h : LInv s os b s.size) (hb : b < s.size) : os ++ [s.extract b s.size] = lns s := by
  obtain ⟨_, h3, h4⟩ := h
  refine lists_inj ?_
  rw [← h4, List.drop_of_length_le (l := s.data.toList) (by simp), linesF, if_neg (by rw [cut_empty (Nat.le_refl _)]; simp; omega)]
  simp [lists, ByteArray.data_extract]
  rw [List.take_of_length_le (by simp), List.take_of_length_le (by simp)]

/-- A text cut at its first line end. -/
theorem cut_other {c : UInt8} (h : c ≠ 10) (t : List UInt8) : (Lib.cut (c :: t) [10]).1 = c :: (Lib.cut t [10]).1 ∧ (Lib.cut (c :: t) [10]).2.1 = (Lib.cut t [10]).2.1 := by
  have hi : Lib.index (c :: t) [10] = if Lib.index t [10] == -1 then -1 else Lib.index t [10] + 1 := by
    rw [Lib.index, if_neg (by simp [List.isPrefixOf]; exact fun e => h e.symm)]
  have hg := Lib.index_ge t [10]
  unfold Lib.cut
  rw [hi]
  by_cases h1 : Lib.index t [10] = -1
  · rw [h1]; simp
  · have h0 : 0 ≤ Lib.index t [10] := by omega
    obtain ⟨n, hn⟩ := Int.eq_ofNat_of_zero_le h0
    rw [hn]
    have hb : (((n : Nat) : Int) == -1) = false := by rw [beq_eq_false_iff_ne]; omega
    rw [hb]
    have h0' : (0 : Int) ≤ (n : Int) + 1 := by omega
    have hn1 : ((n : Int) + 1).toNat = n + 1 := by omega
    simp [h0', hn1]
theorem cut_nl (t : List UInt8) : (Lib.cut (10 :: t) [10]).1 = [] ∧ (Lib.cut (10 :: t) [10]).2.1 = t := by
  have hi : Lib.index (10 :: t) [10] = 0 := by rw [Lib.index, if_pos (by simp [List.isPrefixOf])]
  unfold Lib.cut
  rw [hi]
  simp
theorem linesF_cut : ∀ (l cur : List UInt8), cur ++ l ≠ [] → linesF cur l = (cur ++ (Lib.cut l [10]).1) :: linesF [] (Lib.cut l [10]).2.1
  | [], cur, h => by
    have hc : cur ≠ [] := by simpa using h
    have h1 : Lib.cut [] [10] = ([], [], false) := by decide
    rw [h1, linesF, if_neg (by simpa using hc)]
    simp [linesF]
  | c :: t, cur, h => by
    by_cases e : c = 10
    · subst e
      rw [linesF_nl, (cut_nl t).1, (cut_nl t).2, List.append_nil]
    · rw [linesF_other e, (cut_other e t).1, (cut_other e t).2, linesF_cut t (cur ++ [c]) (by simp)]
      simp
theorem cut_shorter (l : List UInt8) (h : l ≠ []) : (Lib.cut l [10]).2.1.length < l.length := by
  induction l with
  | nil => exact absurd rfl h
  | cons c t ih =>
    by_cases e : c = 10
    · subst e
      rw [(cut_nl t).2]; simp
    · rw [(cut_other e t).2]
      by_cases ht : t = []
      · subst ht
        have h1 : Lib.cut [] [10] = ([], [], false) := by decide
        rw [h1]; simp
      · have := ih ht
        simp; omega

/-- What strings.Cut hands back at a line end. -/
def cutA (s : ByteArray) : ByteArray := ⟨(Lib.cut s.data.toList [10]).1.toArray⟩
def cutB (s : ByteArray) : ByteArray := ⟨(Lib.cut s.data.toList [10]).2.1.toArray⟩
def cutF (s : ByteArray) : Bool := (Lib.cut s.data.toList [10]).2.2
theorem list_pos {s : ByteArray} (h : 0 < s.size) : s.data.toList ≠ [] := by
  intro e
  have : s.data.toList.length = s.size := by simp
  rw [e] at this
  simp at this
  omega
theorem lns_cut {s : ByteArray} (h : 0 < s.size) : lns s = cutA s :: lns (cutB s) := by
  unfold lns
  rw [linesF_cut s.data.toList [] (by simpa using list_pos h)]
  simp [cutA, cutB]
theorem lns_none {s : ByteArray} (h : s.size = 0) : lns s = [] := by
  have : s.data.toList = [] := List.eq_nil_of_length_eq_zero (by simpa using h)
  unfold lns
  rw [this]
  simp [linesF]
theorem cutB_size {s : ByteArray} (h : 0 < s.size) : (cutB s).size < s.size := by
  have := cut_shorter s.data.toList (list_pos h)
  have h1 : s.data.toList.length = s.size := by simp
  have h2 : (cutB s).size = (Lib.cut s.data.toList [10]).2.1.length := by simp [cutB, ByteArray.size]
  omega
theorem cutA_size {s : ByteArray} (h : 0 < s.size) : (cutA s).size ≤ s.size := lns_size (by rw [lns_cut h]; simp)

/-- Each line and the byte 10. -/
def joinL : List (List UInt8) → List UInt8
  | [] => []
  | l :: ls => l ++ 10 :: joinL ls
def joins (ss : List ByteArray) : ByteArray := ⟨(joinL (lists ss)).toArray⟩
theorem joinL_snoc (ls : List (List UInt8)) (l : List UInt8) : joinL (ls ++ [l]) = joinL ls ++ l ++ [10] := by
  induction ls with
  | nil => simp [joinL]
  | cons x xs ih => simp [joinL, ih]
theorem joinL_app (a b : List (List UInt8)) : joinL (a ++ b) = joinL a ++ joinL b := by
  induction a with
  | nil => simp [joinL]
  | cons x xs ih => simp [joinL, ih]
theorem joins_size (ss : List ByteArray) : (joins ss).size = (joinL (lists ss)).length := by simp [joins, ByteArray.size]
theorem joins_snoc (ss : List ByteArray) (t : ByteArray) : joins (ss ++ [t]) = (joins ss ++ t) ++ ⟨#[10]⟩ := by
  apply ByteArray.ext
  have h : lists (ss ++ [t]) = lists ss ++ [t.data.toList] := by simp [lists]
  unfold joins
  rw [h, joinL_snoc]
  simp
theorem joins_take (ss : List ByteArray) (k : Nat) : (joins (ss.take k)).size ≤ (joins ss).size := by
  have h : lists ss = lists (ss.take k) ++ lists (ss.drop k) := by
    unfold lists
    rw [← List.map_append, List.take_append_drop]
  rw [joins_size, joins_size, h, joinL_app]
  simp
theorem joins_next {ss : List ByteArray} {k : Nat} {t : ByteArray} (h : ss[k]? = some t) : joins (ss.take (k + 1)) = (joins (ss.take k) ++ t) ++ ⟨#[10]⟩ := by
  rw [List.take_add_one, h]
  exact joins_snoc _ _
theorem joins_room {ss : List ByteArray} {k : Nat} {t : ByteArray} (h : ss[k]? = some t) : (joins (ss.take k)).size + t.size + 1 ≤ (joins ss).size := by
  have h1 := joins_take ss (k + 1)
  rw [joins_next h] at h1
  simp at h1
  have h2 : (⟨#[10]⟩ : ByteArray).size = 1 := rfl
  omega
theorem joins_many (ss : List ByteArray) : ss.length ≤ (joins ss).size := by
  rw [joins_size]
  have h : ∀ ls : List (List UInt8), ls.length ≤ (joinL ls).length := by
    intro ls
    induction ls with
    | nil => simp
    | cons x xs ih => simp [joinL]; omega
  have := h (lists ss)
  simpa [lists] using this
theorem joinL_cut : ∀ (l cur : List UInt8), joinL (linesF cur l) = cur ++ l ∨ joinL (linesF cur l) = cur ++ l ++ [10]
  | [], cur => by
    rw [linesF]
    split
    · rename_i h; left; simp at h; subst h; simp [joinL]
    · right; simp [joinL]
  | c :: t, cur => by
    by_cases e : c = 10
    · subst e
      rw [linesF_nl, joinL]
      rcases joinL_cut t [] with h | h
      · left; rw [h]; simp
      · right; rw [h]; simp
    · rw [linesF_other e]
      rcases joinL_cut t (cur ++ [c]) with h | h
      · left; rw [h]; simp
      · right; rw [h]; simp
theorem linesF_plain : ∀ (x cur t : List UInt8), 10 ∉ x → linesF cur (x ++ 10 :: t) = (cur ++ x) :: linesF [] t
  | [], cur, t, _ => by rw [List.nil_append, linesF_nl, List.append_nil]
  | c :: x, cur, t, h => by
    have hc : c ≠ 10 := fun e => h (by rw [e]; simp)
    rw [List.cons_append, linesF_other hc, linesF_plain x (cur ++ [c]) t (fun e => h (by simp [e]))]
    simp
theorem lines_join : ∀ (ls : List (List UInt8)), (∀ x ∈ ls, 10 ∉ x) → linesF [] (joinL ls) = ls
  | [], _ => by simp [joinL, linesF]
  | x :: ls, h => by
    rw [joinL, linesF_plain x [] _ (h x (by simp)), lines_join ls (fun y hy => h y (by simp [hy]))]
    simp
theorem lines_none : ∀ (l cur : List UInt8), 10 ∉ cur → ∀ x ∈ linesF cur l, 10 ∉ x
  | [], cur, hc, x, hx => by
    rw [linesF] at hx
    split at hx
    · simp at hx
    · simp at hx; subst hx; exact hc
  | c :: t, cur, hc, x, hx => by
    by_cases e : c = 10
    · subst e
      rw [linesF_nl] at hx
      rcases List.mem_cons.1 hx with rfl | hx
      · exact hc
      · exact lines_none t [] (by simp) x hx
    · rw [linesF_other e] at hx
      exact lines_none t (cur ++ [c]) (by simp [hc]; exact fun e' => e e'.symm) x hx
theorem lists_map (ls : List (List UInt8)) : lists (ls.map fun l => ⟨l.toArray⟩) = ls := by
  unfold lists
  rw [List.map_map]
  conv => rhs; rw [← List.map_id ls]
  exact List.map_congr_left fun l _ => by simp
theorem lists_lns (s : ByteArray) : lists (lns s) = linesF [] s.data.toList := lists_map _
theorem joins_lns (s : ByteArray) : joins (lns s) = s ∨ (joins (lns s)).data.toList = s.data.toList ++ [10] := by
  unfold joins
  rw [lists_lns]
  rcases joinL_cut s.data.toList [] with h | h
  · left; rw [h]; apply ByteArray.ext; simp
  · right; rw [h]; simp
theorem lns_joins (s : ByteArray) : lns (joins (lns s)) = lns s := by
  have h : linesF [] (joins (lns s)).data.toList = linesF [] s.data.toList := by
    unfold joins
    rw [lists_lns]
    exact lines_join _ (lines_none _ _ (by simp))
  unfold lns at h ⊢
  rw [h]

/-- The line and the column behind so many bytes. -/
def lineN (l : List UInt8) : Nat := l.count 10
def colN (l : List UInt8) : Nat := l.foldl (fun c b => if b = 10 then 1 else c + 1) 1
theorem take_at (s : ByteArray) (i : Nat) (h : i < s.size) : s.data.toList.take (i + 1) = s.data.toList.take i ++ [s.data.toList.getD i 0] := by
  have := cut_more s 0 i (Nat.zero_le _) h
  simpa using this
theorem place_nl {s : ByteArray} {i : Nat} (h : i < s.size) (h2 : by8 s i = 10) : lineN (s.data.toList.take (i + 1)) = lineN (s.data.toList.take i) + 1 ∧ colN (s.data.toList.take (i + 1)) = 1 := by
  rw [take_at s i h, at_ten h2]
  exact ⟨by simp [lineN, List.count_append], by simp [colN, List.foldl_append]⟩
theorem place_other {s : ByteArray} {i : Nat} (h : i < s.size) (h2 : by8 s i ≠ 10) : lineN (s.data.toList.take (i + 1)) = lineN (s.data.toList.take i) ∧ colN (s.data.toList.take (i + 1)) = colN (s.data.toList.take i) + 1 := by
  rw [take_at s i h]
  have := at_other h2
  generalize s.data.toList.getD i 0 = c at this
  exact ⟨by simp [lineN, List.count_append, this], by simp [colN, List.foldl_append, this]⟩
theorem lineN_le (l : List UInt8) : lineN l ≤ l.length := List.count_le_length
theorem colN_le (s : ByteArray) : ∀ i, i ≤ s.size → colN (s.data.toList.take i) ≤ i + 1
  | 0, _ => by simp [colN]
  | i + 1, h => by
    have ih := colN_le s i (by omega)
    by_cases e : by8 s i = 10
    · rw [(place_nl (by omega) e).2]; omega
    · rw [(place_other (by omega) e).2]; omega
theorem by8_bang (s : ByteArray) (k : Nat) (h : k < s.size) : ((s.data[k]!).toNat : Int) = by8 s k := by
  unfold by8
  have h' : k < s.data.size := h
  rw [getElem!_pos s.data k h', List.getD_eq_getElem?_getD, List.getElem?_eq_getElem (by simpa using h)]
  simp
theorem lastIdx_col (s : ByteArray) : ∀ k : Nat, k ≤ s.size → (k : Int) - Lib.lastIdx s 10 k = colN (s.data.toList.take k)
  | 0, _ => by simp [Lib.lastIdx, colN]
  | k + 1, h => by
    have ih := lastIdx_col s k (by omega)
    have hb := by8_bang s k (by omega)
    by_cases e : by8 s k = 10
    · rw [Lib.lastIdx_hit s 10 k (by rw [hb]; exact e), (place_nl (by omega) e).2]; omega
    · rw [Lib.lastIdx_miss s 10 k (by rw [hb]; exact e), (place_other (by omega) e).2]; omega

/-- Where a line begins. -/
def beginL : Nat → List (List UInt8) → Nat
  | 0, _ => 0
  | _ + 1, [] => 0
  | k + 1, l :: ls => l.length + 1 + beginL k ls
theorem begin_at : ∀ (l cur : List UInt8) (k : Nat), k ≤ l.length →
    beginL (lineN (l.take k)) (linesF cur l) + (l.take k).foldl (fun c b => if b = 10 then 1 else c + 1) (cur.length + 1) = cur.length + k + 1 ∧ lineN (l.take k) ≤ (linesF cur l).length
  | l, cur, 0, _ => by simp [lineN, beginL]
  | [], cur, k + 1, h => by simp at h
  | c :: t, cur, k + 1, h => by
    have h' : k ≤ t.length := by simpa using h
    by_cases e : c = 10
    · subst e
      have ih := begin_at t [] k h'
      rw [linesF_nl]
      have hl : lineN ((10 :: t).take (k + 1)) = lineN (t.take k) + 1 := by simp [lineN]
      rw [hl, beginL]
      simp at ih ⊢
      omega
    · have ih := begin_at t (cur ++ [c]) k h'
      rw [linesF_other e]
      have hl : lineN ((c :: t).take (k + 1)) = lineN (t.take k) := by simp [lineN, e]
      rw [hl]
      simp [e] at ih ⊢
      omega
theorem beginL_succ : ∀ (k : Nat) (ls : List (List UInt8)) (l : List UInt8), ls[k]? = some l → beginL (k + 1) ls = beginL k ls + l.length + 1
  | 0, [], l, h => by simp at h
  | 0, x :: ls, l, h => by simp at h; subst h; simp [beginL]
  | k + 1, [], l, h => by simp at h
  | k + 1, x :: ls, l, h => by
    have := beginL_succ k ls l (by simpa using h)
    rw [beginL, this, beginL]
    omega

/-- The length of the longest. -/
def widest (ss : List ByteArray) : Nat := ss.foldl (fun n s => max n s.size) 0
theorem widest_snoc (ss : List ByteArray) (s : ByteArray) : widest (ss ++ [s]) = max (widest ss) s.size := by simp [widest, List.foldl_append]
theorem widest_le {ss : List ByteArray} {n : Nat} (h : ∀ s ∈ ss, s.size ≤ n) : widest ss ≤ n := by
  unfold widest
  have : ∀ (l : List ByteArray) (a : Nat), a ≤ n → (∀ s ∈ l, s.size ≤ n) → l.foldl (fun n s => max n s.size) a ≤ n := by
    intro l
    induction l with
    | nil => intro a ha _; exact ha
    | cons x xs ih => intro a ha hl; exact ih _ (Nat.max_le.2 ⟨ha, hl x (by simp)⟩) (fun s hs => hl s (by simp [hs]))
  exact this ss 0 (Nat.zero_le _) h

/-- Without blanks at the end. -/
def trimB (s : ByteArray) : ByteArray := ⟨(Lib.trimRightB s.data.toList 32).toArray⟩
theorem trimB_size (s : ByteArray) : (trimB s).size ≤ s.size := by
  have h : (Lib.trimRightB s.data.toList 32).length ≤ s.data.toList.length := by
    unfold Lib.trimRightB
    rw [List.length_reverse]
    have := (List.dropWhile_suffix (fun x : UInt8 => x == 32) (l := s.data.toList.reverse)).length_le
    simpa using this
  have hs : s.data.toList.length = s.size := by simp
  have ht : (trimB s).size = (Lib.trimRightB s.data.toList 32).length := by simp [trimB, ByteArray.size]
  omega
theorem trimB_is {s : ByteArray} {n : Nat} (hn : n ≤ s.size) (h1 : ∀ j, n ≤ j → j < s.size → by8 s j = 32) (h2 : 0 < n → by8 s (n - 1) ≠ 32) : s.extract 0 n = trimB s := by
  unfold trimB
  rw [Lib.trimRightB_take s.data.toList 32 n (by simpa using hn) ?_ ?_]
  · apply ByteArray.ext
    rw [ByteArray.data_extract, ← Array.toList_inj, Array.toList_extract]
    simp [List.extract]
  · intro j b hj hb
    have hjs := (List.getElem?_eq_some_iff.1 hb).1
    have := h1 j hj (by simpa using hjs)
    unfold by8 at this
    rw [List.getD_eq_getElem?_getD, hb] at this
    apply UInt8.toNat_inj.1
    have h3 : b.toNat = 32 := by simp at this; omega
    rw [h3]; rfl
  · intro b h0 hb e
    subst e
    apply h2 h0
    unfold by8
    rw [List.getD_eq_getElem?_getD, hb]
    rfl
theorem trimB_more (s : ByteArray) (t : ByteArray) (h : t.data.toList = s.data.toList ++ [32, 32]) : trimB t = trimB s := by
  unfold trimB Lib.trimRightB
  rw [h]
  simp
end Go.Proofs.YtlpbhhgikgbfhaaDoor
