/- Plain facts for the specification's way of reading: lists that begin with what is there already; names in brackets of which one is a key word. -/
import Derived.Test.YtcbbnphpkgifoaaGreatDoorRdLib
import Derived.Test.YtcbbnphpkgifoaaGreatDoorKaa
import Derived.Lib.IndexMore
import Derived.Lib.LastIndexByte
import Derived.Lib.TrimByte
import Derived.Lib.Bytealg
import Derived.Maps.OwnOps
import Derived.Maps.OwnSet
import Derived.Maps.Views
import Derived.StringKeys
namespace Go.Proofs.YtcbbnphpkgifoaaGreatDoor
open Go.RowKit
section
variable {xs : List Sg}
theorem bnd_asc {α β γ : Type} (x : Rs α) (f : α → Ps → Rs β) (k : β → Ps → Rs γ) : bnd (bnd x f) k = bnd x fun a s => bnd (f a s) k := by
 match x with
 | none => rfl
 | some none => rfl
 | some (some (_, _)) => rfl
theorem bnd_ext {α β : Type} (x : Rs α) {f k : α → Ps → Rs β} (h : ∀ a s, f a s = k a s) : bnd x f = bnd x k := by
 match x with
 | none => rfl
 | some none => rfl
 | some (some (a, s)) => exact h a s
theorem listed_cons (one : Ps → Rs Nat) (en : ByteArray) (c : Int) : ∀ (f : Nat) (ks : List Int) (s : Ps), listedP xs one en f (c :: ks) s = bnd (listedP xs one en f ks s) fun l s1 => yes (c :: l) s1
 | 0, _, _ => rfl
 | f + 1, ks, s => by
  unfold listedP
  by_cases h : txt xs s.p = en
  ·rw [if_pos h, if_pos h]
   rfl
  ·rw [if_neg h, if_neg h, bnd_asc]
   refine bnd_ext _ fun k s1 => ?_
   by_cases h1 : txt xs s1.p = (⟨#[44]⟩ : ByteArray)
   ·rw [if_pos h1, if_pos h1, List.cons_append, listed_cons one en c f]
   ·rw [if_neg h1, if_neg h1, bnd_asc]
    rfl
theorem call_as (O : Bool → Ps → Rs Nat) (c : Nat) (s : Ps) (h : txt xs s.p = (⟨#[40]⟩ : ByteArray)) : callP xs O c s = bnd (listedP xs (O true) (⟨#[41]⟩ : ByteArray) (lim xs) [(c : Int)] s.next) fun ks s2 => addP 5 ByteArray.empty ks s2 := by
 unfold callP wantP
 rw [if_pos h, bnd_yes, listed_cons, bnd_asc]
 rfl
end
end Go.Proofs.YtcbbnphpkgifoaaGreatDoor
namespace Go.Proofs.YtcbbnphpkgifoaaGreatDoor
theorem str_none (s : ByteArray) : s.toList.isEmpty = decide (s.size = 0) := by
 rw [Bool.eq_iff_iff, List.isEmpty_iff_length_eq_zero, decide_eq_true_eq, ByteArray.toList_eq]
 simp
def linesF : List UInt8 → List UInt8 → List (List UInt8)
 | cur, [] => if cur.isEmpty then [] else [cur]
 | cur, c :: t => if c = 10 then cur :: linesF [] t else linesF (cur ++ [c]) t
def lns (s : ByteArray) : List ByteArray := (linesF [] s.data.toList).map fun l => ⟨l.toArray⟩
theorem linesF_nl (cur t : List UInt8) : linesF cur (10 :: t) = cur :: linesF [] t := by rw [linesF, if_pos rfl]
theorem linesF_other {c : UInt8} (h : c ≠ 10) (cur t : List UInt8) : linesF cur (c :: t) = linesF (cur ++ [c]) t := by rw [linesF, if_neg h]
theorem linesF_len : ∀ (l cur : List UInt8), (linesF cur l).length ≤ l.length + 1
 | [], cur => by rw [linesF]; split <;> simp
 | c :: t, cur => by
  rw [linesF]
  split
  ·have := linesF_len t []; simp; omega
  ·have := linesF_len t (cur ++ [c]); simp; omega
theorem linesF_size : ∀ (l cur : List UInt8), ∀ p ∈ linesF cur l, p.length ≤ cur.length + l.length
 | [], cur, p, hp => by
  rw [linesF] at hp
  split at hp
  ·simp at hp
  ·simp at hp; subst hp; simp
 | c :: t, cur, p, hp => by
  rw [linesF] at hp
  split at hp
  ·rcases List.mem_cons.1 hp with rfl | hp
   ·simp
   ·have := linesF_size t [] p hp
    simp at *
    omega
  ·have := linesF_size t (cur ++ [c]) p hp
   simp at *
   omega
theorem lns_many (s : ByteArray) : (lns s).length ≤ s.size + 1 := by
 have := linesF_len s.data.toList []
 have hs : s.data.toList.length = s.size := by simp
 unfold lns
 rw [List.length_map]
 omega
theorem lns_size {s t : ByteArray} (h : t ∈ lns s) : t.size ≤ s.size := by
 obtain ⟨l, hl, rfl⟩ := List.mem_map.1 h
 have := linesF_size s.data.toList [] l hl
 have hs : s.data.toList.length = s.size := by simp
 have ht : (⟨l.toArray⟩ : ByteArray).size = l.length := by simp [ByteArray.size]
 rw [ht]
 simp at this
 omega
def LInv (s : ByteArray) (os : List ByteArray) (b i : Nat) : Prop :=
 i ≤ s.size ∧ b ≤ i ∧ lists os ++ linesF ((s.data.toList.take i).drop b) (s.data.toList.drop i) = linesF [] s.data.toList
theorem linv_zero (s : ByteArray) : LInv s [] 0 0 := ⟨Nat.zero_le _, Nat.le_refl _, by simp [lists]⟩
theorem at_ten {s : ByteArray} {i : Nat} (h : by8 s i = 10) : s.data.toList.getD i 0 = 10 := by
 unfold by8 at h
 generalize s.data.toList.getD i 0 = c at *
 apply UInt8.toNat_inj.1
 have : c.toNat = 10 := by omega
 rw [this]; rfl
theorem at_other {s : ByteArray} {i : Nat} (h : by8 s i ≠ 10) : s.data.toList.getD i 0 ≠ 10 := by
 intro e
 apply h
 unfold by8
 rw [e]; rfl
theorem linv_char {s : ByteArray} {os : List ByteArray} {b i : Nat} (h : LInv s os b i) (hi : i < s.size) (h2 : by8 s i ≠ 10) : LInv s os b (i + 1) := by
 obtain ⟨_, h3, h4⟩ := h
 refine ⟨by omega, by omega, ?_⟩
 rw [drop_at s i hi, linesF_other (at_other h2)] at h4
 rw [cut_more s b i h3 hi]
 exact h4
theorem linv_line {s : ByteArray} {os : List ByteArray} {b i : Nat} (h : LInv s os b i) (hi : i < s.size) (h2 : by8 s i = 10) : LInv s (os ++ [s.extract b i]) (i + 1) (i + 1) := by
 obtain ⟨_, h3, h4⟩ := h
 refine ⟨by omega, by omega, ?_⟩
 rw [drop_at s i hi, at_ten h2, linesF_nl] at h4
 rw [cut_none, ← h4]
 simp [lists, ByteArray.data_extract, List.take_drop, Nat.add_sub_cancel' h3]
theorem linv_end {s : ByteArray} {os : List ByteArray} {b : Nat} (h : LInv s os b s.size) (hb : s.size ≤ b) : os = lns s := by
 obtain ⟨_, h3, h4⟩ := h
 have : b = s.size := by omega
 subst this
 rw [cut_none, List.drop_of_length_le (by simp)] at h4
 exact lists_inj (by simpa [linesF] using h4)
theorem linv_last {s : ByteArray} {os : List ByteArray} {b : Nat} (h : LInv s os b s.size) (hb : b < s.size) : os ++ [s.extract b s.size] = lns s := by
 obtain ⟨_, h3, h4⟩ := h
 refine lists_inj ?_
 rw [← h4, List.drop_of_length_le (l := s.data.toList) (by simp), linesF, if_neg (by rw [cut_empty (Nat.le_refl _)]; simp; omega)]
 simp [lists, ByteArray.data_extract]
 rw [List.take_of_length_le (by simp), List.take_of_length_le (by simp)]
theorem cut_other {c : UInt8} (h : c ≠ 10) (t : List UInt8) : (Lib.cut (c :: t) [10]).1 = c :: (Lib.cut t [10]).1 ∧ (Lib.cut (c :: t) [10]).2.1 = (Lib.cut t [10]).2.1 := by
 have hi : Lib.index (c :: t) [10] = if Lib.index t [10] == -1 then -1 else Lib.index t [10] + 1 := by
  rw [Lib.index, if_neg (by simp [List.isPrefixOf]; exact fun e => h e.symm)]
 have hg := Lib.index_ge t [10]
 unfold Lib.cut
 rw [hi]
 by_cases h1 : Lib.index t [10] = -1
 ·rw [h1]; simp
 ·have h0 : 0 ≤ Lib.index t [10] := by omega
  obtain ⟨n, hn⟩ := Int.eq_ofNat_of_zero_le h0
  rw [hn]
  have hb : (((n : Nat) : Int) == -1) = false := by rw [beq_eq_false_iff_ne]; omega
  rw [hb]
  have h0' : (0 : Int) ≤ (n : Int) + 1 := by omega
  have hn1 : ((n : Int) + 1).toNat = n + 1 := by omega
  simp [h0', hn1]
theorem cut_nl (t : List UInt8) : (Lib.cut (10 :: t) [10]).1 = [] ∧ (Lib.cut (10 :: t) [10]).2.1 = t := by
 have hi : Lib.index (10 :: t) [10] = 0 := by rw [Lib.index, if_pos (by simp [List.isPrefixOf])]
 unfold Lib.cut
 rw [hi]
 simp
theorem linesF_cut : ∀ (l cur : List UInt8), cur ++ l ≠ [] → linesF cur l = (cur ++ (Lib.cut l [10]).1) :: linesF [] (Lib.cut l [10]).2.1
 | [], cur, h => by
  have hc : cur ≠ [] := by simpa using h
  have h1 : Lib.cut [] [10] = ([], [], false) := by decide
  rw [h1, linesF, if_neg (by simpa using hc)]
  simp [linesF]
 | c :: t, cur, h => by
  by_cases e : c = 10
  ·subst e
   rw [linesF_nl, (cut_nl t).1, (cut_nl t).2, List.append_nil]
  ·rw [linesF_other e, (cut_other e t).1, (cut_other e t).2, linesF_cut t (cur ++ [c]) (by simp)]
   simp
theorem cut_shorter (l : List UInt8) (h : l ≠ []) : (Lib.cut l [10]).2.1.length < l.length := by
 induction l with
 | nil => exact absurd rfl h
 | cons c t ih =>
  by_cases e : c = 10
  ·subst e
   rw [(cut_nl t).2]; simp
  ·rw [(cut_other e t).2]
   by_cases ht : t = []
   ·subst ht
    have h1 : Lib.cut [] [10] = ([], [], false) := by decide
    rw [h1]; simp
   ·have := ih ht
    simp; omega
def cutA (s : ByteArray) : ByteArray := ⟨(Lib.cut s.data.toList [10]).1.toArray⟩
def cutB (s : ByteArray) : ByteArray := ⟨(Lib.cut s.data.toList [10]).2.1.toArray⟩
def cutF (s : ByteArray) : Bool := (Lib.cut s.data.toList [10]).2.2
theorem list_pos {s : ByteArray} (h : 0 < s.size) : s.data.toList ≠ [] := by
 intro e
 have : s.data.toList.length = s.size := by simp
 rw [e] at this
 simp at this
 omega
theorem lns_cut {s : ByteArray} (h : 0 < s.size) : lns s = cutA s :: lns (cutB s) := by
 unfold lns
 rw [linesF_cut s.data.toList [] (by simpa using list_pos h)]
 simp [cutA, cutB]
theorem lns_none {s : ByteArray} (h : s.size = 0) : lns s = [] := by
 have : s.data.toList = [] := List.eq_nil_of_length_eq_zero (by simpa using h)
 unfold lns
 rw [this]
 simp [linesF]
theorem cutB_size {s : ByteArray} (h : 0 < s.size) : (cutB s).size < s.size := by
 have := cut_shorter s.data.toList (list_pos h)
 have h1 : s.data.toList.length = s.size := by simp
 have h2 : (cutB s).size = (Lib.cut s.data.toList [10]).2.1.length := by simp [cutB, ByteArray.size]
 omega
theorem cutA_size {s : ByteArray} (h : 0 < s.size) : (cutA s).size ≤ s.size := lns_size (by rw [lns_cut h]; simp)
def widest (ss : List ByteArray) : Nat := ss.foldl (fun n s => max n s.size) 0
theorem widest_snoc (ss : List ByteArray) (s : ByteArray) : widest (ss ++ [s]) = max (widest ss) s.size := by simp [widest, List.foldl_append]
theorem widest_le {ss : List ByteArray} {n : Nat} (h : ∀ s ∈ ss, s.size ≤ n) : widest ss ≤ n := by
 unfold widest
 have : ∀ (l : List ByteArray) (a : Nat), a ≤ n → (∀ s ∈ l, s.size ≤ n) → l.foldl (fun n s => max n s.size) a ≤ n := by
  intro l
  induction l with
  | nil => intro a ha _; exact ha
  | cons x xs ih => intro a ha hl; exact ih _ (Nat.max_le.2 ⟨ha, hl x (by simp)⟩) (fun s hs => hl s (by simp [hs]))
 exact this ss 0 (Nat.zero_le _) h
def trimB (s : ByteArray) : ByteArray := ⟨(Lib.trimRightB s.data.toList 32).toArray⟩
theorem trimB_size (s : ByteArray) : (trimB s).size ≤ s.size := by
 have h : (Lib.trimRightB s.data.toList 32).length ≤ s.data.toList.length := by
  unfold Lib.trimRightB
  rw [List.length_reverse]
  have := (List.dropWhile_suffix (fun x : UInt8 => x == 32) (l := s.data.toList.reverse)).length_le
  simpa using this
 have hs : s.data.toList.length = s.size := by simp
 have ht : (trimB s).size = (Lib.trimRightB s.data.toList 32).length := by simp [trimB, ByteArray.size]
 omega
theorem trimB_is {s : ByteArray} {n : Nat} (hn : n ≤ s.size) (h1 : ∀ j, n ≤ j → j < s.size → by8 s j = 32) (h2 : 0 < n → by8 s (n - 1) ≠ 32) : s.extract 0 n = trimB s := by
 unfold trimB
 rw [Lib.trimRightB_take s.data.toList 32 n (by simpa using hn) ?_ ?_]
 ·apply ByteArray.ext
  rw [ByteArray.data_extract, ← Array.toList_inj, Array.toList_extract]
  simp [List.extract]
 ·intro j b hj hb
  have hjs := (List.getElem?_eq_some_iff.1 hb).1
  have := h1 j hj (by simpa using hjs)
  unfold by8 at this
  rw [List.getD_eq_getElem?_getD, hb] at this
  apply UInt8.toNat_inj.1
  have h3 : b.toNat = 32 := by simp at this; omega
  rw [h3]; rfl
 ·intro b h0 hb e
  subst e
  apply h2 h0
  unfold by8
  rw [List.getD_eq_getElem?_getD, hb]
  rfl
end Go.Proofs.YtcbbnphpkgifoaaGreatDoor
namespace Go.Proofs.YtcbbnphpkgifoaaGreatDoor
open Go.RowKit Go.Maps Go.WideMaps
def mkPs : List (List UInt8 × Int) := [([38, 38], 2), ([124, 124], 2), ([61, 61], 2), ([61, 62], 2), ([46, 46], 2), ([40], 1), ([41], 1), ([123], 1), ([125], 1), ([91], 1), ([93], 1), ([59], 1), ([44], 1), ([46], 1), ([61], 1), ([43], 1), ([45], 1), ([42], 1), ([60], 1), ([63], 1), ([58], 1)]
def ofPs (ps : List (List UInt8 × Int)) (z : Int) (l : List UInt8) : Int := ps.foldl (fun acc p => if l = p.1 then p.2 else acc) z
def mkAt (l : List UInt8) : Int := ofPs mkPs 0 l
def mkIs (l : List UInt8) : Bool := mkPs.any fun p => p.1 == l
theorem ofPs_pos (l : List UInt8) : ∀ (ps : List (List UInt8 × Int)) (z : Int), (∀ p ∈ ps, 0 < p.2) → (0 < ofPs ps z l ↔ 0 < z ∨ (ps.any fun p => p.1 == l) = true)
 | [], z, _ => by simp [ofPs]
 | p :: ps, z, h => by
  have h0 := h p (by simp)
  have ih := ofPs_pos l ps (if l = p.1 then p.2 else z) (fun q hq => h q (by simp [hq]))
  rw [show ofPs (p :: ps) z l = ofPs ps (if l = p.1 then p.2 else z) l from rfl, ih]
  by_cases e : l = p.1
  ·subst e; simp [h0]
  ·have e' : ¬ p.1 = l := fun x => e x.symm
   simp [e, e']
theorem mkAt_pos (l : List UInt8) : (0 < mkAt l) ↔ mkIs l = true := by
 have := ofPs_pos l mkPs 0 (by decide)
 simpa [mkAt, mkIs] using this
def putPs (ps : List (List UInt8 × Int)) (D : DataW Unit) : DataW Unit := ps.foldl (fun D p => D.put (.string p.1) (.lit (.int .i64 p.2))) D
theorem putPs_at (l : List UInt8) : ∀ (ps : List (List UInt8 × Int)) (D : DataW Unit) (z : Int), IsMap D → D.atKey (.string l) (.lit (.int .i64 0)) = .lit (.int .i64 z) → (putPs ps D).atKey (.string l) (.lit (.int .i64 0)) = .lit (.int .i64 (ofPs ps z l))
 | [], D, z, _, h => h
 | p :: ps, D, z, hm, h => by
  show (putPs ps (D.put (.string p.1) (.lit (.int .i64 p.2)))).atKey _ _ = .lit (.int .i64 (ofPs ps (if l = p.1 then p.2 else z) l))
  refine putPs_at l ps _ _ (hm.put _ _) ?_
  by_cases e : l = p.1
  ·subst e
   rw [if_pos rfl]
   exact atKey_put_same hm (by trivial) _ _
  ·rw [if_neg e, atKey_put_other (by simpa using e)]
   exact h
def MkMap (P : Program) (w : World) (k e b : Nat) : Prop := ∃ (n : Nat) (D : DataW Unit), w.ownsMap P k (plainElem P e) b n D ∧ ∀ l, D.atKey (.string l) (.lit (.int .i64 0)) = .lit (.int .i64 (mkAt l))
theorem MkMap.below {P : Program} {w w' : World} {k e b : Nat} (h : MkMap P w k e b) (hb : Below w.heap.size w w') : MkMap P w' k e b := by
 obtain ⟨n, D, ho, ha⟩ := h
 exact ⟨n, D, ho.kept (grownBy_of_below hb none) (by simp), ha⟩
theorem MkMap.kept {P : Program} {w w' : World} {k e b : Nat} {row : Option Nat} (h : MkMap P w k e b) (hg : w.grownBy w' row) (hne : some b ≠ row) : MkMap P w' k e b := by
 obtain ⟨n, D, ho, ha⟩ := h
 exact ⟨n, D, ho.kept hg hne, ha⟩
theorem insStep {P : Program} (w : World) {ops : Array Oper} {rest : List Oper} {o : Oper} {a : Act} {Q : Exit → Act → World → Prop}
  (hg : o.guard = none) (m x v : Operand) (t : TypeId) (hop : o.op = Op.insert t m x v)
  (k e : TypeId) (K : Keyed P k) (ht : P.underlying t = some (.map k e)) (he : P.underlying e = some (.int .i64)) (hks : P.underlying k = some .string) (base b n : Nat) (D : DataW Unit) (w0 : World) (hbb : base ≤ b)
  (hm : a.eval m = .map (some b)) (hown : w.ownsMap P k (plainElem P e) b n D ∧ Below base w0 w) (hn : n < 1000) (s : ByteArray) (i : Int) (hx : a.eval x = .string s) (hv : a.eval v = .int .i64 i) (hs : s.size ≤ 1000) (hi : 0 ≤ i ∧ i ≤ 1000)
  (hK : ∀ w', (w'.ownsMap P k (plainElem P e) b (n + 1) (D.put (.string s.data.toList) (.lit (.int .i64 i))) ∧ Below base w0 w') → wpList P ops Q rest (a.put o.dst undef) w') :
  wpList P ops Q (o :: rest) a w := by
 have hwf : (Lit.int .i64 i).wf = true := WalkArith.wf_i64 (by omega)
 refine wpList_plain hg fun K' hK' => ?_
 obtain ⟨w', hrun, r1, r2⟩ := hown.1.update K ht (by unfold maxLen; omega) (keyOf_string_mk hks (show s.size ≤ maxLen by unfold maxLen; omega)) (plainElem_int he hwf)
 unfold Oper.wp
 simp [execOp, hop, hm, hx, hv, hrun, Result.andThen]
 exact hK' _ _ (hK w' ⟨r1, hown.2.grown r2 (Nat.le_trans hbb (Nat.le_of_lt hown.1.lt)) (fun j hj => by cases hj; exact hbb)⟩)
end Go.Proofs.YtcbbnphpkgifoaaGreatDoor
