/- How the words of a text are told from its bytes, one by one; and pieces between blanks. -/
import Derived.Test.YtabbfpkhlofccaaGreatDoorWrapLib
import Derived.Lib.SplitLaws
import Derived.Lib.Join
namespace Go.Proofs.YtabbfpkhlofccaaGreatDoor
open Go.RowKit

theorem str_nothing (s : ByteArray) : s.toList.isEmpty = decide (s.size = 0) := by
  rw [Bool.eq_iff_iff, List.isEmpty_iff_length_eq_zero, decide_eq_true_eq, ByteArray.toList_eq, Array.length_toList]
  rfl
theorem by8_blank (s : ByteArray) (k : Nat) : by8 s k = 32 ↔ s.data.toList.getD k 0 = 32 := by
  unfold by8
  constructor
  · intro h
    have : (s.data.toList.getD k 0).toNat = 32 := by omega
    exact UInt8.toNat_inj.1 (by rw [this]; rfl)
  · intro h
    rw [h]
    rfl
theorem ext_cut (s : ByteArray) (b k : Nat) : s.extract b k = ⟨((s.data.toList.take k).drop b).toArray⟩ := by
  apply ByteArray.ext
  apply Array.toList_inj.1
  rw [ByteArray.data_extract, Array.toList_extract]
  simp [List.extract, List.drop_take]
def WA (s : ByteArray) (os : List ByteArray) (cur : List UInt8) (k : Nat) : Prop := os ++ bytesOf (wdA cur (s.data.toList.drop k)) = wds s
theorem wa_zero (s : ByteArray) : WA s [] [] 0 := rfl
theorem wa_gap {s : ByteArray} {os : List ByteArray} {k : Nat} (h : WA s os [] k) (hk : k < s.size) (hb : by8 s k = 32) : WA s os [] (k + 1) := by
  unfold WA at h ⊢
  rw [drop_at s k hk, (by8_blank s k).1 hb, wdA_gap] at h
  exact h
theorem wa_char {s : ByteArray} {os : List ByteArray} {b k : Nat} (h : WA s os ((s.data.toList.take k).drop b) k) (hbk : b ≤ k) (hk : k < s.size) (hb : by8 s k ≠ 32) : WA s os ((s.data.toList.take (k + 1)).drop b) (k + 1) := by
  unfold WA at h ⊢
  rw [drop_at s k hk, wdA_char (fun e => hb ((by8_blank s k).2 e)), ← cut_more s b k hbk hk] at h
  exact h
theorem wa_begin {s : ByteArray} {os : List ByteArray} {k : Nat} (h : WA s os [] k) (hk : k < s.size) (hb : by8 s k ≠ 32) : WA s os ((s.data.toList.take (k + 1)).drop k) (k + 1) :=
  wa_char (by rw [cut_none]; exact h) (Nat.le_refl _) hk hb
theorem cut_ne {s : ByteArray} {b k : Nat} (hbk : b < k) (hk : k ≤ s.size) : (s.data.toList.take k).drop b ≠ [] := by
  intro h
  have := congrArg List.length h
  rw [size_list] at hk
  rw [List.length_drop, List.length_take, Nat.min_eq_left hk] at this
  simp only [List.length_nil] at this
  omega
theorem wa_word {s : ByteArray} {os : List ByteArray} {b k : Nat} (h : WA s os ((s.data.toList.take k).drop b) k) (hbk : b < k) (hk : k < s.size) (hb : by8 s k = 32) : WA s (os ++ [s.extract b k]) [] (k + 1) := by
  unfold WA at h ⊢
  rw [drop_at s k hk, (by8_blank s k).1 hb, wdA_word (cut_ne hbk (by omega))] at h
  rw [← h, ext_cut]
  simp [bytesOf]
theorem wa_last {s : ByteArray} {os : List ByteArray} {b k : Nat} (h : WA s os ((s.data.toList.take k).drop b) k) (hbk : b < k) (hk : k = s.size) : WA s (os ++ [s.extract b k]) [] (k + 1) := by
  unfold WA at h ⊢
  rw [List.drop_of_length_le (l := s.data.toList) (i := k) (by rw [hk, size_list]; exact Nat.le_refl _), wdA_last (cut_ne hbk (by omega))] at h
  rw [← h, ext_cut, List.drop_of_length_le (l := s.data.toList) (i := k + 1) (by rw [hk, size_list]; omega)]
  simp [bytesOf, wdA_nil]
theorem wa_none {s : ByteArray} {os : List ByteArray} {k : Nat} (h : WA s os [] k) (hk : k = s.size) : WA s os [] (k + 1) := by
  unfold WA at h ⊢
  rw [List.drop_of_length_le (by rw [hk, size_list]; exact Nat.le_refl _)] at h
  rw [List.drop_of_length_le (by rw [hk, size_list]; omega)]
  exact h
theorem wa_end {s : ByteArray} {os : List ByteArray} {k : Nat} (h : WA s os [] k) (hk : s.size < k) : os = wds s := by
  unfold WA at h
  rw [List.drop_of_length_le (by rw [← size_list]; omega), wdA_nil] at h
  simpa [bytesOf] using h
theorem has_blank (l : List UInt8) : decide (0 ≤ Lib.indexByte l 32) = decide ((32 : UInt8) ∈ l) := by
  rw [Bool.eq_iff_iff, decide_eq_true_eq, decide_eq_true_eq]
  constructor
  · intro h
    obtain ⟨o, ho⟩ : ∃ o : Nat, Lib.indexByte l 32 = o := ⟨(Lib.indexByte l 32).toNat, by omega⟩
    exact List.mem_of_getElem? (Lib.indexByte_some ho).1
  · intro h
    have := Lib.indexByte_ge l 32
    rcases Int.lt_or_le (Lib.indexByte l 32) 0 with h1 | h1
    · obtain ⟨i, hi⟩ := List.mem_iff_getElem?.1 h
      exact absurd hi (Lib.indexByte_none (by omega) i)
    · exact h1

/-- What is not empty of the pieces between blanks are the words. -/
def full (x : ByteArray) : Bool := decide (x.size ≠ 0)
theorem splitK_words : ∀ (k : Nat) (s : List UInt8), s.count 32 = k → (Lib.splitK [32] 0 k s).filter (fun l => !l.isEmpty) = wdA [] s
  | 0, s, h => by
    have hm : (32 : UInt8) ∉ s := fun m => by have := List.count_pos_iff.2 m; omega
    rw [Lib.splitK]
    by_cases hs : s = []
    · subst hs; rfl
    · rw [wd_one hm hs]
      cases s <;> simp_all
  | k + 1, s, h => by
    have hm : (32 : UInt8) ∈ s := List.count_pos_iff.1 (by omega)
    have h0 : (0 : Int) ≤ Lib.indexByte s 32 := by
      have := has_blank s
      rw [decide_eq_true hm, decide_eq_true_eq] at this
      exact this
    obtain ⟨o, ho⟩ : ∃ o : Nat, Lib.indexByte s 32 = o := ⟨(Lib.indexByte s 32).toNat, by omega⟩
    obtain ⟨hat, hbef⟩ := Lib.indexByte_some ho
    have hlt : o < s.length := (List.getElem?_eq_some_iff.1 hat).1
    have hsp : s = s.take o ++ 32 :: s.drop (o + 1) := by
      have e := List.drop_eq_getElem_cons hlt
      have e2 : s[o] = 32 := (List.getElem?_eq_some_iff.1 hat).2
      rw [e2] at e
      rw [← e, List.take_append_drop]
    have hno : (32 : UInt8) ∉ s.take o := fun m => by
      obtain ⟨i, hi⟩ := List.mem_iff_getElem?.1 m
      rw [List.getElem?_take] at hi
      split at hi
      · exact hbef i (by assumption) hi
      · cases hi
    rw [Lib.splitK, Lib.index_one, ho, if_neg (by simp), Int.toNat_natCast]
    have hc : (s.drop (o + 1)).count 32 = k := by
      rw [hsp, List.count_append, List.count_cons_self, List.count_eq_zero_of_not_mem hno] at h
      omega
    have ih := splitK_words k (s.drop (o + 1)) hc
    rw [Nat.add_zero, List.length_singleton, List.filter_cons, ih]
    conv => rhs; rw [hsp]
    by_cases he : s.take o = []
    · rw [he, List.nil_append, wdA_gap]
      rfl
    · rw [wd_word _ hno he]
      cases hx : s.take o
      · exact absurd hx he
      · rfl
theorem split_words (s : ByteArray) : (Lib.splitB ⟨#[32]⟩ 0 (Lib.countB s ⟨#[32]⟩) s).filter full = wds s := by
  have hc : Lib.countB s ⟨#[32]⟩ = s.data.toList.count 32 := Lib.count_one 32 s.data.toList
  have h := splitK_words _ s.data.toList hc.symm
  have hd := Lib.splitB_data ⟨#[32]⟩ 0 (Lib.countB s ⟨#[32]⟩) s
  rw [show (⟨#[32]⟩ : ByteArray).data.toList = [32] from rfl] at hd
  rw [← hd, List.filter_map] at h
  unfold wds bytesOf
  rw [← h, List.map_map]
  have hf : ((fun l : List UInt8 => !l.isEmpty) ∘ fun x : ByteArray => x.data.toList) = full := by
    funext x
    unfold full
    rw [size_list]
    cases hx : x.data.toList <;> simp [hx]
  rw [hf]
  conv => lhs; rw [← List.map_id (List.filter full _)]
  apply List.map_congr_left
  intro x _
  rfl
/-- What strings.Join makes of words. -/
theorem join_jn : ∀ (l : List ByteArray), (⟨(Lib.join (l.map (·.data.toList)) [32]).toArray⟩ : ByteArray) = jn l
  | [] => rfl
  | x :: r => by
    apply ByteArray.ext
    apply Array.toList_inj.1
    show Lib.join ((x :: r).map (·.data.toList)) [32] = _
    rw [List.map_cons, Lib.join_cons]
    have h : ∀ (r : List ByteArray) (a : ByteArray), (r.foldl (fun a y => a ++ (⟨#[32]⟩ : ByteArray) ++ y) a).data.toList = a.data.toList ++ Lib.joinTail [32] (r.map (·.data.toList)) := by
      intro r
      induction r with
      | nil => intro a; simp [Lib.joinTail]
      | cons y r ih =>
        intro a
        rw [List.foldl_cons, ih]
        simp [Lib.joinTail]
    exact (h r x).symm
theorem join_len (l : List ByteArray) : (Lib.join (l.map (·.data.toList)) [32]).length = (jn l).size := by
  rw [← join_jn l]
  rfl
end Go.Proofs.YtabbfpkhlofccaaGreatDoor
