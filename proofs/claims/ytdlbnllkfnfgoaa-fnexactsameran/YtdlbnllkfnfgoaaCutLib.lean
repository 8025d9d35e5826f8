/- Plain facts on pieces of a text. -/
import Derived.Test.YtdlbnllkfnfgoaaLib
namespace Go.Proofs.Ytdlbnllkfnfgoaa
open Go.RowKit

def strVals (ss : List ByteArray) : List Value := ss.map Value.string
/-- A list of texts, in memory of its own. -/
def StrsAns (ss : List ByteArray) (e0 : Nat) (w : World) (e : Ending) (w' : World) : Prop :=
  Below w.heap.size w w' ∧ ∃ v, e = .returned v ∧ w'.ownsRow w.heap.size e0 1 v ss.length (strVals ss)
def lists (os : List ByteArray) : List (List UInt8) := os.map fun o => o.data.toList
theorem lists_inj {os : List ByteArray} {ls : List (List UInt8)} (h : lists os = ls) : os = ls.map fun l => ⟨l.toArray⟩ := by
  subst h
  unfold lists
  rw [List.map_map]
  conv => lhs; rw [← List.map_id os]
  apply List.map_congr_left
  intro o _
  apply ByteArray.ext
  simp
theorem drop_at (s : ByteArray) (i : Nat) (h : i < s.size) : s.data.toList.drop i = s.data.toList.getD i 0 :: s.data.toList.drop (i + 1) := by
  have h' : i < s.data.toList.length := by simpa using h
  rw [List.drop_eq_getElem_cons h', List.getD_eq_getElem?_getD, List.getElem?_eq_getElem h']
  rfl
theorem cut_more (s : ByteArray) (b i : Nat) (hb : b ≤ i) (h : i < s.size) : (s.data.toList.take (i + 1)).drop b = (s.data.toList.take i).drop b ++ [s.data.toList.getD i 0] := by
  have h' : i < s.data.toList.length := by simpa using h
  rw [List.take_succ_eq_append_getElem h', List.drop_append_of_le_length (by simp; omega), List.getD_eq_getElem?_getD, List.getElem?_eq_getElem h']
  rfl
theorem cut_none (s : ByteArray) (i : Nat) : (s.data.toList.take i).drop i = [] := List.drop_of_length_le (by simp; omega)
theorem cut_empty {s : ByteArray} {b i : Nat} (hi : i ≤ s.size) : ((s.data.toList.take i).drop b).isEmpty = decide (i ≤ b) := by
  rw [Bool.eq_iff_iff, List.isEmpty_iff_length_eq_zero, decide_eq_true_eq]
  simp
  omega
theorem owns_at {w : World} {base e size n c : Nat} {ao : Option Addr} {xs : List Value} (h : w.ownsRow base e size (.slice ao n c) n xs) (hn : 0 < n) : ∃ g, ao = some ⟨g, 0, none⟩ := by
  rcases h.2 with ⟨_, e⟩ | ⟨g, cap, cur, e, _⟩
  · omega
  · injection e with e1
    exact ⟨g, e1⟩
end Go.Proofs.Ytdlbnllkfnfgoaa
