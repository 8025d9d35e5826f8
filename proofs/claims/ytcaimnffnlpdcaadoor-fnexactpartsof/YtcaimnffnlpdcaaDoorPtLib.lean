/- Plain facts on the parts of a line between blanks. -/
import Derived.Test.YtcaimnffnlpdcaaDoorLib
import Derived.Lib.Fields
namespace Go.Proofs.YtcaimnffnlpdcaaDoor

def Plain (s : ByteArray) (k : Nat) : Prop := ∀ j, j < k → 32 ≤ by8 s j ∧ by8 s j ≤ 126
theorem plain_succ {s : ByteArray} {k : Nat} (h : Plain s k) (h1 : 32 ≤ by8 s k) (h2 : by8 s k ≤ 126) : Plain s (k + 1) := by
  intro j hj
  by_cases e : j = k
  · subst e; exact ⟨h1, h2⟩
  · exact h j (by omega)
/-- The parts. -/
def pf (s : ByteArray) : List ByteArray := (Lib.fields s.data.toList).map fun l => ⟨l.toArray⟩
def lists (os : List ByteArray) : List (List UInt8) := os.map fun o => o.data.toList
theorem lists_inj {os : List ByteArray} {ls : List (List UInt8)} (h : lists os = ls) : os = ls.map fun l => ⟨l.toArray⟩ := by
  subst h
  unfold lists
  rw [List.map_map]
  conv => lhs; rw [← List.map_id os]
  apply List.map_congr_left
  intro o _
  apply ByteArray.ext
  simp
theorem drop_at (s : ByteArray) (i : Nat) (h : i < s.size) : s.data.toList.drop i = s.data.toList.getD i 0 :: s.data.toList.drop (i + 1) := by
  have h' : i < s.data.toList.length := by simpa using h
  rw [List.drop_eq_getElem_cons h', List.getD_eq_getElem?_getD, List.getElem?_eq_getElem h']
  rfl
theorem cut_more (s : ByteArray) (b i : Nat) (hb : b ≤ i) (h : i < s.size) : (s.data.toList.take (i + 1)).drop b = (s.data.toList.take i).drop b ++ [s.data.toList.getD i 0] := by
  have h' : i < s.data.toList.length := by simpa using h
  rw [List.take_succ_eq_append_getElem h', List.drop_append_of_le_length (by simp; omega), List.getD_eq_getElem?_getD, List.getElem?_eq_getElem h']
  rfl
theorem cut_none (s : ByteArray) (i : Nat) : (s.data.toList.take i).drop i = [] := List.drop_of_length_le (by simp; omega)
theorem cut_empty {s : ByteArray} {b i : Nat} (hi : i ≤ s.size) : ((s.data.toList.take i).drop b).isEmpty = decide (i ≤ b) := by
  rw [Bool.eq_iff_iff, List.isEmpty_iff_length_eq_zero, decide_eq_true_eq]
  simp
  omega
/-- How far the parts have come, when place i is next and the part at hand begins at b. -/
def PInv (s : ByteArray) (os : List ByteArray) (b i : Nat) : Prop :=
  (i ≤ s.size ∧ b ≤ i ∧ lists os ++ Lib.fieldsGo ((s.data.toList.take i).drop b) (s.data.toList.drop i) = Lib.fields s.data.toList) ∨ (i = s.size + 1 ∧ lists os = Lib.fields s.data.toList)
theorem pinv_zero (s : ByteArray) : PInv s [] 0 0 := Or.inl ⟨Nat.zero_le _, Nat.le_refl _, by simp [lists, Lib.fields]⟩
theorem isSp_not {s : ByteArray} {i : Nat} (h1 : 32 ≤ by8 s i) (h : by8 s i ≠ 32) : Lib.isSp (s.data.toList.getD i 0) = false := by
  unfold by8 at *
  generalize s.data.toList.getD i 0 = c at *
  have hc : c.toNat ≠ 32 ∧ 32 ≤ c.toNat := by omega
  have hne : ∀ d : UInt8, d.toNat ≤ 32 → (c == d) = false := fun d hd => by
    rw [beq_eq_false_iff_ne]
    intro e
    subst e
    omega
  unfold Lib.isSp
  rw [hne 9 (by decide), hne 10 (by decide), hne 11 (by decide), hne 12 (by decide), hne 13 (by decide), hne 32 (by decide)]
  rfl
theorem isSp_yes {s : ByteArray} {i : Nat} (h : by8 s i = 32) : Lib.isSp (s.data.toList.getD i 0) = true := by
  unfold by8 at *
  have : s.data.toList.getD i 0 = 32 := by
    apply UInt8.toNat.inj
    show (s.data.toList.getD i 0).toNat = 32
    omega
  rw [this]
  rfl
theorem pinv_char {s : ByteArray} {os : List ByteArray} {b i : Nat} (h : PInv s os b i) (hi : i < s.size) (h1 : 32 ≤ by8 s i) (h2 : by8 s i ≠ 32) : PInv s os b (i + 1) := by
  rcases h with ⟨_, hb, e⟩ | ⟨e, _⟩
  · refine Or.inl ⟨by omega, by omega, ?_⟩
    rw [← e, drop_at s i hi, Lib.fieldsGo, isSp_not h1 h2, cut_more s b i hb hi]
    rfl
  · omega
theorem pinv_blank {s : ByteArray} {os : List ByteArray} {b i : Nat} (h : PInv s os b i) (hi : i < s.size) (h2 : by8 s i = 32) (hbi : i ≤ b) : PInv s os (i + 1) (i + 1) := by
  rcases h with ⟨hs, hb, e⟩ | ⟨e, _⟩
  · refine Or.inl ⟨by omega, by omega, ?_⟩
    rw [← e, drop_at s i hi, Lib.fieldsGo, isSp_yes h2, cut_none, cut_empty hs]
    simp [hbi]
  · omega
theorem pinv_part {s : ByteArray} {os : List ByteArray} {b i : Nat} (h : PInv s os b i) (hi : i < s.size) (h2 : by8 s i = 32) (hbi : b < i) : PInv s (os ++ [s.extract b i]) (i + 1) (i + 1) := by
  rcases h with ⟨hs, hb, e⟩ | ⟨e, _⟩
  · refine Or.inl ⟨by omega, by omega, ?_⟩
    rw [← e, drop_at s i hi, Lib.fieldsGo, isSp_yes h2, cut_none, cut_empty hs]
    simp [lists, ByteArray.data_extract, Array.toList_extract, show ¬ i ≤ b by omega, List.drop_take]
  · omega
theorem pinv_end {s : ByteArray} {os : List ByteArray} {b : Nat} (h : PInv s os b s.size) (hbi : s.size ≤ b) : PInv s os (s.size + 1) (s.size + 1) := by
  rcases h with ⟨hs, hb, e⟩ | ⟨e, _⟩
  · refine Or.inr ⟨rfl, ?_⟩
    have hd : s.data.toList.drop s.size = [] := List.drop_of_length_le (by simp)
    rw [← e, hd, Lib.fieldsGo, cut_empty hs]
    simp [hbi]
  · omega
theorem pinv_endpart {s : ByteArray} {os : List ByteArray} {b : Nat} (h : PInv s os b s.size) (hbi : b < s.size) : PInv s (os ++ [s.extract b s.size]) (s.size + 1) (s.size + 1) := by
  rcases h with ⟨hs, hb, e⟩ | ⟨e, _⟩
  · refine Or.inr ⟨rfl, ?_⟩
    have hd : s.data.toList.drop s.size = [] := List.drop_of_length_le (by simp)
    rw [← e, hd, Lib.fieldsGo, cut_empty hs]
    simp [lists, ByteArray.data_extract, Array.toList_extract, show ¬ s.size ≤ b by omega, List.drop_take]
  · omega
theorem pinv_done {s : ByteArray} {os : List ByteArray} {b i : Nat} (h : PInv s os b i) (hi : s.size < i) : os = pf s := by
  rcases h with ⟨hs, _⟩ | ⟨_, e⟩
  · omega
  · exact lists_inj e
/-- A line is taken. -/
def POk (s : ByteArray) : Prop := s.size ≤ 600 ∧ Plain s s.size ∧ (pf s).length ≤ 10
end Go.Proofs.YtcaimnffnlpdcaaDoor
