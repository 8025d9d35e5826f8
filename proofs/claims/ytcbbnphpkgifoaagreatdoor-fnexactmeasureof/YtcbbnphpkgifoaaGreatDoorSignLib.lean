/- Plain facts on the signs of a source: spans of bytes of one kind, the sign that a text begins with, and the signs of a whole text. -/
import Derived.Test.YtcbbnphpkgifoaaGreatDoorKab
import Derived.Test.YtcbbnphpkgifoaaGreatDoorKaa
namespace Go.Proofs.YtcbbnphpkgifoaaGreatDoor
open Go.RowKit
theorem bytes_ext (t : ByteArray) (a b : Nat) : (t.extract a b).data.toList = (t.data.toList.take b).drop a := by
 rw [ByteArray.data_extract, Array.toList_extract]
 simp [List.extract, List.drop_take]
theorem by8_ext {t : ByteArray} {a b j : Nat} (h : a + j < b) : by8 (t.extract a b) j = by8 t (a + j) := by
 unfold by8
 rw [bytes_ext, List.getD_eq_getElem?_getD, List.getElem?_drop, List.getElem?_take, if_pos h, ← List.getD_eq_getElem?_getD]
theorem rest_bytes (t : ByteArray) (a : Nat) : (t.extract a t.size).data.toList = t.data.toList.drop a := by
 rw [bytes_ext, List.take_of_length_le (by simp)]
theorem by8_rest (t : ByteArray) (a j : Nat) : by8 (t.extract a t.size) j = by8 t (a + j) := by
 unfold by8
 rw [rest_bytes, List.getD_eq_getElem?_getD, List.getElem?_drop, ← List.getD_eq_getElem?_getD]
theorem by8_past {t : ByteArray} {k : Nat} (h : t.size ≤ k) : by8 t k = 0 := by
 unfold by8
 rw [List.getD_eq_getElem?_getD, List.getElem?_eq_none (by simpa using h)]
 rfl
theorem rest_size (t : ByteArray) (a : Nat) : (t.extract a t.size).size = t.size - a := by simp
theorem str_ext {a b : ByteArray} (h : a.data.toList = b.data.toList) : a = b := ByteArray.ext (Array.ext' h)
theorem ext_rest {t : ByteArray} {a i j : Nat} : (t.extract a t.size).extract i j = t.extract (a + i) (min (a + j) t.size) := by
 apply str_ext
 rw [bytes_ext, rest_bytes, bytes_ext, List.take_drop, List.drop_drop]
 congr 1
 rw [List.take_eq_take_iff]
 simp
def spn (p : Int → Bool) (s : ByteArray) (k : Nat) : Nat := ((s.data.toList.drop k).takeWhile fun u => p (u.toNat : Int)).length
theorem spn_yes {p : Int → Bool} {s : ByteArray} {k : Nat} (hk : k < s.size) (h : p (by8 s k) = true) : spn p s k = spn p s (k + 1) + 1 := by
 unfold spn
 rw [drop_at s k hk, List.takeWhile_cons_of_pos (p := fun u : UInt8 => p (u.toNat : Int)) h, List.length_cons]
theorem spn_no {p : Int → Bool} {s : ByteArray} {k : Nat} (hk : k < s.size) (h : p (by8 s k) = false) : spn p s k = 0 := by
 unfold spn
 rw [drop_at s k hk, List.takeWhile_cons_of_neg (by rw [show p (((s.data.toList.getD k 0).toNat : Nat) : Int) = false from h]; simp)]
 rfl
theorem spn_past {p : Int → Bool} {s : ByteArray} {k : Nat} (hk : s.size ≤ k) : spn p s k = 0 := by
 unfold spn
 rw [List.drop_of_length_le (by simpa using hk)]
 rfl
theorem spn_rest (p : Int → Bool) (t : ByteArray) (a k : Nat) : spn p (t.extract a t.size) k = spn p t (a + k) := by
 unfold spn
 rw [rest_bytes, List.drop_drop]
theorem spn_is {p : Int → Bool} {s : ByteArray} : ∀ (n k : Nat), k + n ≤ s.size → (∀ j, j < n → p (by8 s (k + j)) = true) → (k + n < s.size → p (by8 s (k + n)) = false) → spn p s k = n
 | 0, k, hk, _, h2 => by
  rcases Nat.lt_or_ge k s.size with h | h
  ·exact spn_no h (h2 (by omega))
  ·exact spn_past h
 | n + 1, k, hk, h1, h2 => by
  rw [spn_yes (by omega) (by simpa using h1 0 (by omega)), spn_is n (k + 1) (by omega) (fun j hj => by have := h1 (j + 1) (by omega); rw [show k + 1 + j = k + (j + 1) by omega]; exact this) (fun h => by have := h2 (by omega); rw [show k + 1 + n = k + (n + 1) by omega]; exact this)]
theorem spn_facts {p : Int → Bool} {s : ByteArray} : ∀ (d k : Nat), s.size - k = d → k ≤ s.size → k + spn p s k ≤ s.size ∧ (∀ j, j < spn p s k → p (by8 s (k + j)) = true) ∧ (k + spn p s k < s.size → p (by8 s (k + spn p s k)) = false)
 | 0, k, hd, hk => by
  rw [spn_past (by omega)]
  exact ⟨by omega, fun j hj => by omega, fun h => by omega⟩
 | d + 1, k, hd, hk => by
  cases hp : p (by8 s k)
  ·rw [spn_no (by omega) hp]
   exact ⟨by omega, fun j hj => by omega, fun _ => hp⟩
  ·obtain ⟨h1, h2, h3⟩ := spn_facts (p := p) (s := s) d (k + 1) (by omega) (by omega)
   rw [spn_yes (by omega) hp]
   refine ⟨by omega, fun j hj => ?_, fun h => ?_⟩
   ·cases j with
    | zero => exact hp
    | succ j => rw [show k + (j + 1) = k + 1 + j by omega]; exact h2 j (by omega)
   ·rw [show k + (spn p s (k + 1) + 1) = k + 1 + spn p s (k + 1) by omega]
    exact h3 (by omega)
theorem spn_le {p : Int → Bool} {s : ByteArray} {k : Nat} (hk : k ≤ s.size) : k + spn p s k ≤ s.size := (spn_facts _ k rfl hk).1
theorem spn_all {p : Int → Bool} {s : ByteArray} {k : Nat} (hk : k ≤ s.size) : ∀ j, j < spn p s k → p (by8 s (k + j)) = true := (spn_facts _ k rfl hk).2.1
theorem spn_end {p : Int → Bool} {s : ByteArray} {k : Nat} (hk : k ≤ s.size) (h : k + spn p s k < s.size) : p (by8 s (k + spn p s k)) = false := (spn_facts _ k rfl hk).2.2 h
theorem spn_pos {p : Int → Bool} {s : ByteArray} {k : Nat} (hk : k < s.size) : (0 < spn p s k) ↔ p (by8 s k) = true := by
 cases h : p (by8 s k)
 ·rw [spn_no hk h]; simp
 ·rw [spn_yes hk h]; simp
def figB (b : Int) : Bool := decide (48 ≤ b) && decide (b ≤ 57)
def firB (b : Int) : Bool := (decide (97 ≤ b) && decide (b ≤ 122)) || (decide (65 ≤ b) && decide (b ≤ 90)) || (b == 95)
def namB (b : Int) : Bool := firB b || figB b
def plaB (b : Int) : Bool := decide (32 ≤ b) && decide (b ≤ 126)
def texB (b : Int) : Bool := plaB b && (b != 39)
def gapB (b : Int) : Bool := (b == 32) || (b == 10)
theorem trimB_has (s : ByteArray) : ∃ m, m ≤ s.size ∧ trimB s = s.extract 0 m ∧ (trimB s).size = m ∧ ∀ j, m ≤ j → j < s.size → by8 s j = 32 := by
 have H : ∀ k, k ≤ s.size → (∀ j, k ≤ j → j < s.size → by8 s j = 32) → ∃ m, m ≤ s.size ∧ s.extract 0 m = trimB s ∧ ∀ j, m ≤ j → j < s.size → by8 s j = 32 := by
  intro k
  induction k with
  | zero => exact fun hk h => ⟨0, hk, trimB_is hk h (fun h => by omega), h⟩
  | succ k ih =>
   intro hk h
   by_cases e : by8 s k = 32
   ·exact ih (by omega) (fun j h1 h2 => by
     by_cases e' : j = k
     ·subst e'; exact e
     ·exact h j (by omega) h2)
   ·exact ⟨k + 1, hk, trimB_is hk h (fun _ => by simpa using e), h⟩
 obtain ⟨m, h1, h2, h3⟩ := H s.size (Nat.le_refl _) (fun j h1 h2 => by omega)
 refine ⟨m, h1, h2.symm, ?_, h3⟩
 rw [← h2]
 simp
 omega
def capN (m n : Nat) : Nat := if m < n then 0 else n
def qtSz (r : ByteArray) : Nat := if 1 + spn texB r 1 < r.size ∧ by8 r (1 + spn texB r 1) = 39 then 1 + spn texB r 1 + 1 else 0
def ntSz (r : ByteArray) : Nat := if spn plaB r 0 < r.size ∧ by8 r (spn plaB r 0) ≠ 10 then 0 else (trimB (r.extract 0 (spn plaB r 0))).size
def mkSz (r : ByteArray) : Nat := if 2 ≤ r.size ∧ mkIs (r.data.toList.take 2) = true then 2 else if 1 ≤ r.size ∧ mkIs (r.data.toList.take 1) = true then 1 else 0
def hd (r : ByteArray) : Int × Nat :=
 if figB (by8 r 0) = true then (2, capN 12 (spn figB r 0))
 else if firB (by8 r 0) = true then (1, capN 30 (spn namB r 0))
 else if by8 r 0 = 39 then (3, qtSz r)
 else if by8 r 0 = 47 ∧ by8 r 1 = 47 then (5, ntSz r)
 else (4, mkSz r)
theorem hd_fig {r : ByteArray} (h : figB (by8 r 0) = true) : hd r = (2, capN 12 (spn figB r 0)) := by unfold hd; rw [if_pos h]
theorem hd_nam {r : ByteArray} (h : figB (by8 r 0) = false) (h2 : firB (by8 r 0) = true) : hd r = (1, capN 30 (spn namB r 0)) := by unfold hd; rw [if_neg (by rw [h]; decide), if_pos h2]
theorem hd_qt {r : ByteArray} (h : figB (by8 r 0) = false) (h2 : firB (by8 r 0) = false) (h3 : by8 r 0 = 39) : hd r = (3, qtSz r) := by unfold hd; rw [if_neg (by rw [h]; decide), if_neg (by rw [h2]; decide), if_pos h3]
theorem hd_nt {r : ByteArray} (h4 : by8 r 0 = 47 ∧ by8 r 1 = 47) : hd r = (5, ntSz r) := by
 unfold hd; rw [h4.1, if_neg (by decide), if_neg (by decide), if_neg (by decide), if_pos ⟨rfl, h4.2⟩]
theorem hd_mk {r : ByteArray} (h : figB (by8 r 0) = false) (h2 : firB (by8 r 0) = false) (h3 : by8 r 0 ≠ 39) (h4 : ¬ (by8 r 0 = 47 ∧ by8 r 1 = 47)) : hd r = (4, mkSz r) := by
 unfold hd; rw [if_neg (by rw [h]; decide), if_neg (by rw [h2]; decide), if_neg h3, if_neg h4]
theorem capN_le (m n : Nat) : capN m n ≤ n := by unfold capN; split <;> omega
theorem hd_le (r : ByteArray) : (hd r).2 ≤ r.size := by
 unfold hd
 split
 ·exact Nat.le_trans (capN_le _ _) (by have := spn_le (p := figB) (s := r) (k := 0) (Nat.zero_le _); omega)
 ·split
  ·exact Nat.le_trans (capN_le _ _) (by have := spn_le (p := namB) (s := r) (k := 0) (Nat.zero_le _); omega)
  ·split
   ·unfold qtSz
    split
    ·show 1 + spn texB r 1 + 1 ≤ r.size
     omega
    ·exact Nat.zero_le _
   ·split
    ·unfold ntSz
     split
     ·exact Nat.zero_le _
     ·have h1 := trimB_size (r.extract 0 (spn plaB r 0))
      have h2 := spn_le (p := plaB) (s := r) (k := 0) (Nat.zero_le _)
      simp at h1
      show (trimB _).size ≤ r.size
      omega
    ·unfold mkSz
     split
     ·show 2 ≤ r.size
      omega
     ·split
      ·show 1 ≤ r.size
       omega
      ·exact Nat.zero_le _
def lexF (t : ByteArray) : Nat → Nat → Nat → List Sg → List Sg × Nat × Bool
 | 0, _, _, pre => (pre, 0, true)
 | f + 1, k, ends, pre =>
  if k < t.size then
   if by8 t k = 32 then lexF t f (k + 1) ends pre
   else if by8 t k = 10 then lexF t f (k + 1) (ends + 1) pre
   else if (hd (t.extract k t.size)).2 = 0 then ([], k, false)
   else lexF t f (k + (hd (t.extract k t.size)).2) 0 (pre ++ [⟨(hd (t.extract k t.size)).1, t.extract k (k + (hd (t.extract k t.size)).2), k, decide (1 < ends)⟩])
  else (pre, 0, true)
theorem lexF_end (t : ByteArray) (f k ends : Nat) (pre : List Sg) (h : ¬ k < t.size) : lexF t f k ends pre = (pre, 0, true) := by
 cases f with
 | zero => rfl
 | succ f => rw [lexF, if_neg h]
theorem lexF_fuel (t : ByteArray) : ∀ (f g k ends : Nat) (pre : List Sg), t.size - k ≤ f → t.size - k ≤ g → lexF t f k ends pre = lexF t g k ends pre
 | 0, g, k, ends, pre, hf, _ => by
  rw [lexF_end t 0 k ends pre (by omega), lexF_end t g k ends pre (by omega)]
 | f + 1, 0, k, ends, pre, _, hg => by
  rw [lexF_end t 0 k ends pre (by omega), lexF_end t (f + 1) k ends pre (by omega)]
 | f + 1, g + 1, k, ends, pre, hf, hg => by
  by_cases hk : k < t.size
  ·rw [lexF, lexF, if_pos hk, if_pos hk]
   by_cases h32 : by8 t k = 32
   ·rw [if_pos h32, if_pos h32]
    exact lexF_fuel t f g (k + 1) ends pre (by omega) (by omega)
   ·rw [if_neg h32, if_neg h32]
    by_cases h10 : by8 t k = 10
    ·rw [if_pos h10, if_pos h10]
     exact lexF_fuel t f g (k + 1) (ends + 1) pre (by omega) (by omega)
    ·rw [if_neg h10, if_neg h10]
     by_cases hn : (hd (t.extract k t.size)).2 = 0
     ·rw [if_pos hn, if_pos hn]
     ·rw [if_neg hn, if_neg hn]
      exact lexF_fuel t f g _ 0 _ (by omega) (by omega)
  ·rw [lexF_end t (f + 1) k ends pre hk, lexF_end t (g + 1) k ends pre hk]
def lexA (t : ByteArray) (k ends : Nat) (pre : List Sg) : List Sg × Nat × Bool := lexF t (t.size - k) k ends pre
theorem lexA_end {t : ByteArray} {k ends : Nat} {pre : List Sg} (h : ¬ k < t.size) : lexA t k ends pre = (pre, 0, true) := lexF_end t _ k ends pre h
theorem lexA_fuel {t : ByteArray} {f k ends : Nat} {pre : List Sg} (h : t.size - k ≤ f) : lexF t f k ends pre = lexA t k ends pre := lexF_fuel t f _ k ends pre h (Nat.le_refl _)
theorem lexA_more {t : ByteArray} {k ends : Nat} {pre : List Sg} (h : k < t.size) : lexA t k ends pre = lexF t (t.size - k - 1 + 1) k ends pre := by
 rw [show t.size - k - 1 + 1 = t.size - k by omega]
 rfl
theorem lexA_blank {t : ByteArray} {k ends : Nat} {pre : List Sg} (h : k < t.size) (hb : by8 t k = 32) : lexA t k ends pre = lexA t (k + 1) ends pre := by
 rw [lexA_more h, lexF, if_pos h, if_pos hb, lexA_fuel (by omega)]
theorem lexA_line {t : ByteArray} {k ends : Nat} {pre : List Sg} (h : k < t.size) (hb : by8 t k = 10) : lexA t k ends pre = lexA t (k + 1) (ends + 1) pre := by
 rw [lexA_more h, lexF, if_pos h, if_neg (by omega), if_pos hb, lexA_fuel (by omega)]
theorem lexA_none {t : ByteArray} {k ends : Nat} {pre : List Sg} (h : k < t.size) (h1 : by8 t k ≠ 32) (h2 : by8 t k ≠ 10) (hn : (hd (t.extract k t.size)).2 = 0) : lexA t k ends pre = ([], k, false) := by
 rw [lexA_more h, lexF, if_pos h, if_neg h1, if_neg h2, if_pos hn]
theorem lexA_sign {t : ByteArray} {k ends : Nat} {pre : List Sg} (h : k < t.size) (h1 : by8 t k ≠ 32) (h2 : by8 t k ≠ 10) (hn : (hd (t.extract k t.size)).2 ≠ 0) :
  lexA t k ends pre = lexA t (k + (hd (t.extract k t.size)).2) 0 (pre ++ [⟨(hd (t.extract k t.size)).1, t.extract k (k + (hd (t.extract k t.size)).2), k, decide (1 < ends)⟩]) := by
 rw [lexA_more h, lexF, if_pos h, if_neg h1, if_neg h2, if_neg hn, lexA_fuel (by omega)]
theorem lexA_blanks {t : ByteArray} {ends : Nat} {pre : List Sg} : ∀ (n k : Nat), k + n ≤ t.size → (∀ j, j < n → by8 t (k + j) = 32) → lexA t k ends pre = lexA t (k + n) ends pre
 | 0, k, _, _ => rfl
 | n + 1, k, hk, h => by
  rw [lexA_blank (by omega) (by simpa using h 0 (by omega)), lexA_blanks n (k + 1) (by omega) (fun j hj => by rw [show k + 1 + j = k + (j + 1) by omega]; exact h (j + 1) (by omega)), show k + 1 + n = k + (n + 1) by omega]
def lend (t : ByteArray) (k n : Nat) : Nat := Lib.countByte (t.extract k (k + n)).data.toList 10
theorem lexA_gap {t : ByteArray} {pre : List Sg} : ∀ (n k ends : Nat), k + n ≤ t.size → (∀ j, j < n → gapB (by8 t (k + j)) = true) → lexA t k ends pre = lexA t (k + n) (ends + lend t k n) pre
 | 0, k, ends, _, _ => by
  have : lend t k 0 = 0 := by
   unfold lend Lib.countByte
   rw [bytes_ext]
   simp
  rw [this]
  rfl
 | n + 1, k, ends, hk, h => by
  have hs : lend t k (n + 1) = lend t (k + 1) n + (if by8 t k = 10 then 1 else 0) := by
   unfold lend Lib.countByte
   rw [bytes_ext, bytes_ext, List.drop_take, List.drop_take, show k + (n + 1) - k = n + 1 by omega, show k + 1 + n - (k + 1) = n by omega, drop_at t k (by omega), List.take_succ_cons, List.count_cons]
   congr 1
   unfold by8
   generalize t.data.toList.getD k 0 = u
   by_cases e : u = 10
   ·subst e; rfl
   ·have e2 : ¬ ((u.toNat : Int) = 10) := fun x => by
     have h10 : u.toNat = 10 := by omega
     exact e (UInt8.toNat_inj.1 (by rw [h10]; rfl))
    rw [if_neg (by simpa using e), if_neg e2]
  have h0 : gapB (by8 t k) = true := by simpa using h 0 (by omega)
  have ih := fun e => lexA_gap (t := t) (pre := pre) n (k + 1) e (by omega) (fun j hj => by rw [show k + 1 + j = k + (j + 1) by omega]; exact h (j + 1) (by omega))
  unfold gapB at h0
  by_cases e : by8 t k = 10
  ·rw [lexA_line (by omega) e, ih, hs, if_pos e, show k + 1 + n = k + (n + 1) by omega, show ends + 1 + lend t (k + 1) n = ends + (lend t (k + 1) n + 1) by omega]
  ·have e3 : by8 t k = 32 := by simpa [e] using h0
   rw [lexA_blank (by omega) e3, ih, hs, if_neg e, show k + 1 + n = k + (n + 1) by omega]
   rfl
def sgn (t : ByteArray) : List Sg × Nat × Bool := if 3000 < t.size then ([], 3000, false) else lexA t 0 0 []
theorem sgn_long {t : ByteArray} (h : 3000 < t.size) : sgn t = ([], 3000, false) := by unfold sgn; rw [if_pos h]
theorem sgn_short {t : ByteArray} (h : ¬ 3000 < t.size) : sgn t = lexA t 0 0 [] := by unfold sgn; rw [if_neg h]
def SgnAns (t : ByteArray) (T : Nat) (w : World) (e : Ending) (w' : World) : Prop :=
 Below w.heap.size w w' ∧ ∃ v, e = .returned (.tuple #[v, .int .i64 (sgn t).2.1, .bool (sgn t).2.2]) ∧ w'.ownsRow w.heap.size T 4 v (sgn t).1.length (sgVals (sgn t).1)
theorem SgnAns.mk {t : ByteArray} {T : Nat} {w w' : World} {v : Value} {l : List Sg} {p : Nat} {b : Bool} {q : Int} (hr : sgn t = (l, p, b)) (hq : q = (p : Int)) (hb : Below w.heap.size w w') (ho : w'.ownsRow w.heap.size T 4 v l.length (sgVals l)) :
  SgnAns t T w (.returned (.tuple #[v, .int .i64 q, .bool b])) w' := by
 refine ⟨hb, v, ?_, ?_⟩
 ·rw [hr, hq]
 ·rw [hr]; exact ho
theorem cells_new (w : World) (c : Array Value) (T : Nat) : ∀ j u, c.toList[j]? = some u → (w.alloc (.cells c T)).cell? ((⟨w.heap.size, 0, none⟩ : Addr).add j) = some u := by
 intro j u h
 have e : (⟨w.heap.size, 0, none⟩ : Addr).add j = ⟨w.heap.size, j, none⟩ := by unfold Addr.add; split <;> simp_all
 rw [e, World.cell?_alloc_new]
 simpa using h
theorem cells_new2 (w : World) (o : Obj) (c : Array Value) (T : Nat) : ∀ j u, c.toList[j]? = some u → ((w.alloc o).alloc (.cells c T)).cell? ((⟨w.heap.size + 1, 0, none⟩ : Addr).add j) = some u := by
 intro j u h
 have e : (⟨w.heap.size + 1, 0, none⟩ : Addr).add j = ⟨w.heap.size + 1, j, none⟩ := by unfold Addr.add; split <;> simp_all
 rw [e, World.cell?_alloc2_new]
 simpa using h
theorem sgCells_one (x : Sg) : ∀ u ∈ sgCells x, u.oneCell' = true := by
 intro u hu
 simp [sgCells] at hu
 rcases hu with rfl | rfl | rfl | rfl <;> rfl
end Go.Proofs.YtcbbnphpkgifoaaGreatDoor
