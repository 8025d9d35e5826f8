/- Right trees in plain words: nodes whose texts are right already. -/
import Derived.Test.YtabbfpkhlofccaaGreatDoorRdIv
import Derived.Test.YtabbfpkhlofccaaGreatDoorProg
import Derived.Test.YtabbfpkhlofccaaGreatDoorKac
import Derived.Laws.OwnMore
namespace Go.Proofs.YtabbfpkhlofccaaGreatDoor
open Go.RowKit

def ValK (k : Int) : Prop := 1 ≤ k ∧ k ≤ 11
def StepK (k : Int) : Prop := (12 ≤ k ∧ k ≤ 17) ∨ k = 19
def MembK (k : Int) : Prop := k = 12 ∨ k = 20 ∨ k = 19
/-- How many Kids a node of a kind may have. -/
def CntK (k : Int) (n : Nat) : Prop :=
  if k = 4 ∨ k = 18 ∨ k = 21 ∨ k = 22 then n ≤ 12
  else if k = 5 ∨ k = 9 ∨ k = 20 then 1 ≤ n ∧ n ≤ 12
  else if k = 6 ∨ k = 11 ∨ k = 13 ∨ k = 14 then n = 1
  else if k = 7 ∨ k = 10 then 2 ≤ n ∧ n ≤ 12
  else if k = 8 then n = 3
  else if k = 12 ∨ k = 15 then n ≤ 1
  else if k = 16 then 2 ≤ n ∧ n ≤ 3
  else if k = 17 then n = 2
  else n = 0
/-- What a kid must be: 1 a value, 2 a name, 3 a call of a name, 4 a block, 5 a statement, 6 a member of a class, 7 of a file. -/
def roleK (k : Int) (i n : Nat) : Nat :=
  if k = 9 then (if i + 1 < n then 2 else 1)
  else if k = 20 then (if i + 1 < n then 2 else 4)
  else if k = 10 then (if 0 < i then 3 else 1)
  else if k = 16 ∨ k = 17 then (if 0 < i then 4 else 1)
  else if k = 18 then 5
  else if k = 21 then 6
  else if k = 22 then 7
  else 1
def CallK (ns : List Nd) (y : Nd) : Prop := y.kind = 5 → ∃ z : Int, y.kids[0]? = some z ∧ 0 ≤ z ∧ z < (ns.length : Int)
def nameCall (ns : List Nd) (y : Nd) : Prop := y.kind = 5 ∧ ∃ (z : Int) (u : Nd), y.kids[0]? = some z ∧ ns[z.toNat]? = some u ∧ u.kind = 1
def RoleP (ns : List Nd) (y : Nd) (r : Nat) : Prop :=
  match r with
  | 1 => ValK y.kind
  | 2 => y.kind = 1
  | 3 => nameCall ns y
  | 4 => y.kind = 18
  | 5 => StepK y.kind
  | 6 => MembK y.kind
  | _ => MembK y.kind ∨ y.kind = 21
structure NodeP (ns : List Nd) (k : Nat) (x : Nd) : Prop where
  kind : 1 ≤ x.kind ∧ x.kind ≤ 22
  cnt : CntK x.kind x.kids.length
  blank : x.blank = true → StepK x.kind ∨ x.kind = 20 ∨ x.kind = 21
  place : ∀ (i : Nat) (z : Int), x.kids[i]? = some z → 0 ≤ z ∧ z < (k : Int)
  once : ∀ (i j : Nat) (z : Int), i < j → x.kids[i]? = some z → x.kids[j]? = some z → False
  fits : ∀ (i : Nat) (z : Int) (y : Nd), x.kids[i]? = some z → ns[z.toNat]? = some y → CallK ns y ∧ RoleP ns y (roleK x.kind i x.kids.length)
theorem cnt_12 {k : Int} {n : Nat} (h : CntK k n) : n ≤ 12 := by
  unfold CntK at h
  split at h
  · exact h
  split at h
  · exact h.2
  split at h
  · omega
  split at h
  · exact h.2
  split at h
  · omega
  split at h
  · omega
  split at h
  · omega
  split at h <;> omega
/-- The deepest of the Kids. -/
def maxD (ds : List Nat) : List Int → Nat
  | [] => 0
  | z :: zs => max (ds.getD z.toNat 0) (maxD ds zs)
theorem maxD_snoc (ds : List Nat) (zs : List Int) (z : Int) : maxD ds (zs ++ [z]) = max (maxD ds zs) (ds.getD z.toNat 0) := by
  induction zs with
  | nil => simp [maxD]
  | cons a tl ih =>
    simp only [List.cons_append, maxD, ih]
    omega
/-- The depths of the first nodes. -/
def Deeps (ns : List Nd) : Nat → List Nat → Prop
  | 0, ds => ds = []
  | k + 1, ds => ∃ (ds' : List Nat) (x : Nd), Deeps ns k ds' ∧ ns[k]? = some x ∧ NodeP ns k x ∧ maxD ds' x.kids < 14 ∧ ds = ds' ++ [maxD ds' x.kids + 1]
theorem deeps_len {ns : List Nd} : ∀ {k : Nat} {ds : List Nat}, Deeps ns k ds → ds.length = k
  | 0, _, h => by rw [h]; rfl
  | k + 1, _, ⟨ds', x, h1, _, _, _, h5⟩ => by rw [h5]; simp [deeps_len h1]
theorem deeps_one {ns : List Nd} : ∀ {k : Nat} {ds ds' : List Nat}, Deeps ns k ds → Deeps ns k ds' → ds = ds'
  | 0, _, _, h1, h2 => h1.trans h2.symm
  | k + 1, _, _, ⟨a, x, h1, h2, _, _, h5⟩, ⟨b, y, g1, g2, _, _, g5⟩ => by
    have e := deeps_one h1 g1
    rw [h2] at g2
    injection g2 with g2
    rw [h5, g5, e, g2]
theorem deeps_le {ns : List Nd} : ∀ {k : Nat} {ds : List Nat}, Deeps ns k ds → ∀ d ∈ ds, 1 ≤ d ∧ d ≤ 14
  | 0, _, h, d, hd => by rw [h] at hd; cases hd
  | k + 1, _, ⟨ds', x, h1, _, _, h4, h5⟩, d, hd => by
    rw [h5] at hd
    rcases List.mem_append.1 hd with h6 | h6
    · exact deeps_le h1 d h6
    · have : d = maxD ds' x.kids + 1 := by simpa using h6
      omega
def HasD (ns : List Nd) (k : Nat) : Prop := ∃ ds, Deeps ns k ds
theorem hasD_less {ns : List Nd} : ∀ {k : Nat}, HasD ns (k + 1) → HasD ns k
  | _, ⟨_, ds', _, h1, _⟩ => ⟨ds', h1⟩
theorem hasD_le {ns : List Nd} {j : Nat} : ∀ {k : Nat}, HasD ns k → j ≤ k → HasD ns j
  | 0, h, hj => by rw [show j = 0 by omega]; exact h
  | k + 1, h, hj => by
    rcases Nat.lt_or_ge j (k + 1) with h1 | h1
    · exact hasD_le (hasD_less h) (by omega)
    · rw [show j = k + 1 by omega]; exact h
/-- How often a place is among numbers. -/
def occ (i : Nat) : List Int → Nat
  | [] => 0
  | z :: zs => (if z = (i : Int) then 1 else 0) + occ i zs
theorem occ_snoc (i : Nat) (zs : List Int) (z : Int) : occ i (zs ++ [z]) = occ i zs + (if z = (i : Int) then 1 else 0) := by
  induction zs with
  | nil => simp [occ]
  | cons a tl ih => simp only [List.cons_append, occ, ih]; omega
theorem occ_le (i : Nat) : ∀ (zs : List Int), occ i zs ≤ zs.length
  | [] => Nat.le_refl _
  | z :: zs => by
    have := occ_le i zs
    simp only [occ, List.length_cons]
    split <;> omega
/-- How often a place is a kid of the first nodes. -/
def occs (i : Nat) : List Nd → Nat
  | [] => 0
  | x :: xs => occ i x.kids + occs i xs
theorem occs_snoc (i : Nat) (xs : List Nd) (x : Nd) : occs i (xs ++ [x]) = occs i xs + occ i x.kids := by
  induction xs with
  | nil => simp [occs]
  | cons a tl ih => simp only [List.cons_append, occs, ih]; omega
theorem occs_le (i : Nat) : ∀ (xs : List Nd), (∀ x ∈ xs, x.kids.length ≤ 12) → occs i xs ≤ 12 * xs.length
  | [], _ => Nat.le_refl _
  | x :: xs, h => by
    have h1 := occs_le i xs (fun y hy => h y (List.mem_cons_of_mem _ hy))
    have h2 := occ_le i x.kids
    have h3 := h x List.mem_cons_self
    simp only [occs, List.length_cons]
    omega
structure TreeP (ns : List Nd) : Prop where
  least : 1 ≤ ns.length
  most : ns.length ≤ 300
  last : ∃ x, ns[ns.length - 1]? = some x ∧ x.kind = 22
  deep : HasD ns ns.length
  used : ∀ i, i + 1 < ns.length → occs i ns = 1
theorem hasD_node {ns : List Nd} {k j : Nat} {x : Nd} (h : HasD ns k) (hj : j < k) (hx : ns[j]? = some x) : NodeP ns j x := by
  obtain ⟨ds, ds', y, h1, h2, h3, _⟩ := hasD_le h (show j + 1 ≤ k from hj)
  rw [hx] at h2
  injection h2 with h2
  rw [h2]
  exact h3
end Go.Proofs.YtabbfpkhlofccaaGreatDoor
/- What spec.l04Marks and spec.MarkOk answer. -/
namespace Go.Proofs.YtabbfpkhlofccaaGreatDoor
open Go.RowKit

/-- The marks as texts. -/
def mkStrs : List ByteArray := mkPs.map fun p => ⟨p.1.toArray⟩
theorem mkStrs_len : mkStrs.length = 21 := rfl
theorem mkStrs_cells : (#[.string ⟨#[38, 38]⟩, .string ⟨#[124, 124]⟩, .string ⟨#[61, 61]⟩, .string ⟨#[61, 62]⟩, .string ⟨#[46, 46]⟩, .string ⟨#[40]⟩, .string ⟨#[41]⟩, .string ⟨#[123]⟩, .string ⟨#[125]⟩, .string ⟨#[91]⟩, .string ⟨#[93]⟩, .string ⟨#[59]⟩, .string ⟨#[44]⟩, .string ⟨#[46]⟩, .string ⟨#[61]⟩, .string ⟨#[43]⟩, .string ⟨#[45]⟩, .string ⟨#[42]⟩, .string ⟨#[60]⟩, .string ⟨#[63]⟩, .string ⟨#[58]⟩] : Array Value).toList = strVals mkStrs := rfl

set_option maxHeartbeats 1600000 in
theorem sMarks_any (w : World) : Calls Tryz.prog 140 #[] w fun e w' => StrsAns mkStrs 9 w e w' := by
  go_enter Tryz.func140, Tryz.ntmps140
  go_wp2
  go_ret
  refine ⟨(Below.refl _ _).alloc (Nat.le_refl _) _, _, rfl, ?_⟩
  exact ⟨rfl, .inr ⟨w.heap.size, 21, _, rfl, Nat.le_refl _, heap_alloc_new w _, by decide, by decide, rfl, by rw [List.take_of_length_le (by decide)]; exact mkStrs_cells⟩⟩
theorem mkIs_at {l : List UInt8} {k : Nat} {t : ByteArray} (h : mkStrs[k]? = some t) (he : t.toList = l) : mkIs l = true := by
  subst he
  obtain ⟨hk, e⟩ := List.getElem?_eq_some_iff.1 h
  unfold mkIs
  rw [List.any_eq_true]
  simp [mkStrs] at e hk
  refine ⟨mkPs[k], List.getElem_mem _, ?_⟩
  rw [← e]
  simp [ByteArray.toList_eq]
theorem mkIs_not {l : List UInt8} (h : ∀ (k : Nat) (t : ByteArray), mkStrs[k]? = some t → t.toList ≠ l) : mkIs l = false := by
  unfold mkIs
  rw [List.any_eq_false]
  intro p hp he
  obtain ⟨k, hk, e⟩ := List.getElem_of_mem hp
  refine h k ⟨p.1.toArray⟩ ?_ ?_
  · simp [mkStrs, hk, e]
  · simpa [ByteArray.toList_eq] using he
end Go.Proofs.YtabbfpkhlofccaaGreatDoor
