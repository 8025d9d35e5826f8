/- Cells: a name and its number; in memory. -/
import Derived.Test.YtdlbnllkfnfgoaaProg
import Derived.Test.YtdlbnllkfnfgoaaRowLib
namespace Go.Proofs.Ytdlbnllkfnfgoaa
open Go.RowKit

/-- A cell: a name and its number. -/
structure Cel where
  name : ByteArray
  num : Int
def cNum (s : ByteArray) : List Cel → Option Int
  | [] => none
  | c :: cs => if c.name.toList == s.toList then some c.num else cNum s cs
def cPut (s : ByteArray) (n : Int) : List Cel → List Cel
  | [] => [⟨s, n⟩]
  | c :: cs => if c.name.toList == s.toList then ⟨c.name, n⟩ :: cs else c :: cPut s n cs
theorem put_len {s : ByteArray} {n : Int} : ∀ (cs : List Cel), cs.length ≤ (cPut s n cs).length ∧ (cPut s n cs).length ≤ cs.length + 1
  | [] => by simp [cPut]
  | d :: cs => by
    have := put_len (s := s) (n := n) cs
    unfold cPut
    split <;> simp <;> omega
abbrev tCel : Nat := 44
def celCells (c : Cel) : List Value := [.string c.name, .int .i64 c.num]
theorem celCells_len (c : Cel) : (celCells c).length = 2 := rfl
theorem celCells_one (c : Cel) : ∀ u ∈ celCells c, u.oneCell' = true := fun u hu => by
  simp [celCells] at hu
  rcases hu with rfl | rfl <;> rfl
theorem num_no {s : ByteArray} {cs : List Cel} {k : Nat} {c : Cel} (h : cs[k]? = some c) (hn : (c.name.toList == s.toList) = false) : cNum s (cs.drop k) = cNum s (cs.drop (k + 1)) := by
  rw [List.drop_eq_getElem?_toList_append, h]
  simp [cNum, hn]
theorem num_yes {s : ByteArray} {cs : List Cel} {k : Nat} {c : Cel} (h : cs[k]? = some c) (hn : (c.name.toList == s.toList) = true) : cNum s (cs.drop k) = some c.num := by
  rw [List.drop_eq_getElem?_toList_append, h]
  simp [cNum, hn]
theorem cel_at {w : World} {a : Option Addr} {cs : List Cel} {k : Nat} {c : Cel} (h : RowsAt 2 celCells w a cs) (hc : cs[k]? = some c) : ∃ b o, a = some ⟨b, o, none⟩ ∧ b < w.heap.size ∧ w.cell? ⟨b, o + k * 2, none⟩ = some (.string c.name) ∧ w.cell? ⟨b, o + k * 2 + 1, none⟩ = some (.int .i64 c.num) := by
  have hk := (List.getElem?_eq_some_iff.1 hc).1
  obtain ⟨b, o, ha, hb, hA⟩ := h (by omega)
  exact ⟨b, o, ha, hb, hA k c hc 0 (by omega), hA k c hc 1 (by omega)⟩
theorem put_split {s : ByteArray} {n : Int} : ∀ {cs : List Cel} {k : Nat} {c : Cel}, cs[k]? = some c → (∀ (j : Nat) (d : Cel), j < k → cs[j]? = some d → (d.name.toList == s.toList) = false) → (c.name.toList == s.toList) = true → cPut s n cs = cs.set k ⟨c.name, n⟩
  | [], k, c, h, _, _ => by simp at h
  | d :: cs, 0, c, h, _, hy => by
    obtain rfl : d = c := by simpa using h
    rw [cPut, if_pos hy]
    rfl
  | d :: cs, k + 1, c, h, hA, hy => by
    have h0 := hA 0 d (by omega) rfl
    rw [cPut, if_neg (by rw [h0]; exact Bool.false_ne_true), put_split (by simpa using h) (fun j e hj he => hA (j + 1) e (by omega) (by simpa using he)) hy]
    rfl
theorem put_end {s : ByteArray} {n : Int} : ∀ {cs : List Cel}, (∀ (j : Nat) (d : Cel), cs[j]? = some d → (d.name.toList == s.toList) = false) → cPut s n cs = cs ++ [⟨s, n⟩]
  | [], _ => rfl
  | d :: cs, hA => by
    have h0 := hA 0 d rfl
    rw [cPut, if_neg (by rw [h0]; exact Bool.false_ne_true), put_end (fun j e he => hA (j + 1) e (by simpa using he))]
    rfl
theorem cels_set : ∀ (cs : List Cel) (k : Nat) (c : Cel) (n : Int), cs[k]? = some c → (rowVals celCells cs).set (k * 2 + 1) (.int .i64 n) = rowVals celCells (cs.set k ⟨c.name, n⟩)
  | [], k, c, n, h => by simp at h
  | d :: cs, 0, c, n, h => by
    obtain rfl : d = c := by simpa using h
    rfl
  | d :: cs, k + 1, c, n, h => by
    have ih := cels_set cs k c n (by simpa using h)
    rw [show rowVals celCells (d :: cs) = .string d.name :: .int .i64 d.num :: rowVals celCells cs from rfl, show (k + 1) * 2 + 1 = (k * 2 + 1) + 1 + 1 by omega, List.set_cons_succ, List.set_cons_succ, ih]
    rfl
theorem cel_new (w : World) (c : Cel) (T : TypeId) : ∀ j u, (celCells c)[j]? = some u → (w.alloc (.cells #[.string c.name, .int .i64 c.num] T)).cell? ((⟨w.heap.size, 0, none⟩ : Addr).add j) = some u := by
  intro j u hu
  have hj : j < 2 := by have := (List.getElem?_eq_some_iff.1 hu).1; simpa [celCells] using this
  match j, hj with
  | 0, _ => simp [celCells] at hu; subst hu; simp [Addr.add]
  | 1, _ => simp [celCells] at hu; subst hu; simp [Addr.add]
end Go.Proofs.Ytdlbnllkfnfgoaa
