/- Small facts that the proofs of this seat share: what a row of bytes that the call owns reads as when it is turned into a string, and plain facts on numbers and lists. -/
import Derived.WalkKit
import Derived.WalkSpells
import Derived.BigQuiet
import Derived.Laws.BytesArg
import Derived.Laws.OwnMore
import Derived.Maps.AppendAt
import Derived.Test.YtcbbnphpkgifoaaGreatDoorProg
namespace Go.Proofs.YtcbbnphpkgifoaaGreatDoor
open Go.RowKit
theorem owns_slice {w : World} {base e size : Nat} {v : Value} {n : Nat} {xs : List Value} (h : w.ownsRow base e size v n xs) : ∃ (ao : Option Addr) (c : Nat), v = .slice ao n c := by
 rcases h.2 with ⟨rfl, rfl⟩ | ⟨g, cap, cur, rfl, _⟩
 ·exact ⟨none, 0, rfl⟩
 ·exact ⟨_, _, rfl⟩
theorem hidOf {p : Prop} (h : p) : Hid p := h
theorem ret_str {a b : ByteArray} (h : a = b) : Ending.returned (.string a) = .returned (.string b) := by rw [h]
theorem ret_int {k : IntKind} {a b : Int} (h : a = b) : Ending.returned (.int k a) = .returned (.int k b) := by rw [h]
theorem ret_bool {a b : Bool} (h : a = b) : Ending.returned (.bool a) = .returned (.bool b) := by rw [h]
theorem ownsRow_base {w : World} {base base' : Nat} {e size : Nat} {v : Value} {n : Nat} {xs : List Value} (h : w.ownsRow base e size v n xs) (hb : base' ≤ base) : w.ownsRow base' e size v n xs := by
 refine ⟨h.1, ?_⟩
 rcases h.2 with h | ⟨g, cap, cur, h1, h2, h3⟩
 ·exact .inl h
 ·exact .inr ⟨g, cap, cur, h1, Nat.le_trans hb h2, h3⟩
def by8 (s : ByteArray) (k : Nat) : Int := ((s.data.toList.getD k 0).toNat : Int)
theorem by8_at (s : ByteArray) : ∀ (k : Nat) (h : k < s.size), ((s[k]'h).toNat : Int) = by8 s k := fun k h => by
 unfold by8
 have h' : k < s.data.toList.length := by simpa using h
 rw [List.getD_eq_getElem?_getD, List.getElem?_eq_getElem h']
 rfl
theorem by8_range (s : ByteArray) (k : Nat) : 0 ≤ by8 s k ∧ by8 s k ≤ 255 := by
 unfold by8
 have := (s.data.toList.getD k 0).toNat_lt
 omega
theorem str_beq (a b : ByteArray) : (a.toList == b.toList) = decide (a = b) := by
 rw [Bool.eq_iff_iff]
 simp only [beq_iff_eq, decide_eq_true_eq, ByteArray.toList_eq]
 exact ⟨fun h => ByteArray.ext (Array.ext' h), fun h => by rw [h]⟩
theorem str_slice {P : Program} (t : Nat) (s : ByteArray) (a b : Nat) (i j : Int) (ht : P.underlying t = some .string) (hi : i = a) (hj : j = b) (h1 : a ≤ b) (h2 : b ≤ s.size) :
  ∀ wx : World, (Instr.slice t (.string s) (some (.int .i64 i)) (some (.int .i64 j)) none).run P wx = .ok (.string (s.extract a b)) wx := by
 intro wx
 rw [run_slice_string_if (P := P) (w := wx) t s .i64 .i64 i j ht, if_pos (by omega), if_pos (by omega), hi, hj]
 rfl
theorem str_to {P : Program} (t : Nat) (s : ByteArray) (b : Nat) (j : Int) (ht : P.underlying t = some .string) (hj : j = b) (h2 : b ≤ s.size) :
  ∀ wx : World, (Instr.slice t (.string s) none (some (.int .i64 j)) none).run P wx = .ok (.string (s.extract 0 b)) wx := by
 intro wx
 rw [run_slice_string_to_if (P := P) (w := wx) t s .i64 j ht, if_pos (by omega), hj]
 rfl
theorem str_from {P : Program} (t : Nat) (s : ByteArray) (a : Nat) (i : Int) (ht : P.underlying t = some .string) (hi : i = a) (h2 : a ≤ s.size) :
  ∀ wx : World, (Instr.slice t (.string s) (some (.int .i64 i)) none none).run P wx = .ok (.string (s.extract a s.size)) wx := by
 intro wx
 rw [run_slice_string_from_if (P := P) (w := wx) t s .i64 i ht, if_pos (by omega), hi]
 rfl
theorem owns_below {w w' : World} {base e size : Nat} {v : Value} {n : Nat} {xs : List Value} (h : w.ownsRow base e size v n xs) (hb : Below w.heap.size w w') : w'.ownsRow base e size v n xs := by
 refine ⟨h.1, ?_⟩
 rcases h.2 with h | ⟨g, cap, cur, h1, h2, h3, h4⟩
 ·exact .inl h
 ·refine .inr ⟨g, cap, cur, h1, h2, ?_, h4⟩
  rw [hb.block g (Array.getElem?_eq_some_iff.1 h3).1]
  exact h3
theorem grownBy_of_below {w w' : World} (h : Below w.heap.size w w') (row : Option Nat) : w.grownBy w' row := ⟨h.os, h.tape, h.output, h.size, fun k hk _ => h.block k hk⟩
theorem grownBy_trans {a b c : World} {row : Option Nat} (h1 : a.grownBy b row) (h2 : b.grownBy c row) : a.grownBy c row :=
 ⟨h2.os.trans h1.os, h2.tape.trans h1.tape, h2.output.trans h1.output, Nat.le_trans h1.size h2.size, fun k hk hr => (h2.block k (Nat.lt_of_lt_of_le hk h1.size) hr).trans (h1.block k hk hr)⟩
theorem bel_drewN {B : Nat} {a w : World} (h : Below B a w) (n : Nat) : Below B a (w.drewN n) := ⟨h.os, h.tape, h.output, h.size, h.block⟩
theorem below_drewN (w : World) (n : Nat) : Below w.heap.size w (w.drewN n) := ⟨rfl, rfl, rfl, Nat.le_refl _, fun _ _ => rfl⟩
def strVals (ss : List ByteArray) : List Value := ss.map Value.string
def StrsAns (ss : List ByteArray) (e0 : Nat) (w : World) (e : Ending) (w' : World) : Prop :=
 Below w.heap.size w w' ∧ ∃ v, e = .returned v ∧ w'.ownsRow w.heap.size e0 1 v ss.length (strVals ss)
def lists (os : List ByteArray) : List (List UInt8) := os.map fun o => o.data.toList
theorem lists_inj {os : List ByteArray} {ls : List (List UInt8)} (h : lists os = ls) : os = ls.map fun l => ⟨l.toArray⟩ := by
 subst h
 unfold lists
 rw [List.map_map]
 conv => lhs; rw [← List.map_id os]
 apply List.map_congr_left
 intro o _
 apply ByteArray.ext
 simp
theorem drop_at (s : ByteArray) (i : Nat) (h : i < s.size) : s.data.toList.drop i = s.data.toList.getD i 0 :: s.data.toList.drop (i + 1) := by
 have h' : i < s.data.toList.length := by simpa using h
 rw [List.drop_eq_getElem_cons h', List.getD_eq_getElem?_getD, List.getElem?_eq_getElem h']
 rfl
theorem cut_more (s : ByteArray) (b i : Nat) (hb : b ≤ i) (h : i < s.size) : (s.data.toList.take (i + 1)).drop b = (s.data.toList.take i).drop b ++ [s.data.toList.getD i 0] := by
 have h' : i < s.data.toList.length := by simpa using h
 rw [List.take_succ_eq_append_getElem h', List.drop_append_of_le_length (by simp; omega), List.getD_eq_getElem?_getD, List.getElem?_eq_getElem h']
 rfl
theorem cut_none (s : ByteArray) (i : Nat) : (s.data.toList.take i).drop i = [] := List.drop_of_length_le (by simp; omega)
theorem cut_empty {s : ByteArray} {b i : Nat} (hi : i ≤ s.size) : ((s.data.toList.take i).drop b).isEmpty = decide (i ≤ b) := by
 rw [Bool.eq_iff_iff, List.isEmpty_iff_length_eq_zero, decide_eq_true_eq]
 simp
 omega
theorem owns_at {w : World} {base e size n c : Nat} {ao : Option Addr} {xs : List Value} (h : w.ownsRow base e size (.slice ao n c) n xs) (hn : 0 < n) : ∃ g, ao = some ⟨g, 0, none⟩ := by
 rcases h.2 with ⟨_, e⟩ | ⟨g, cap, cur, e, _⟩
 ·omega
 ·injection e with e1
  exact ⟨g, e1⟩
def KidsAt (w : World) (a : Option Addr) (ks : List Int) : Prop :=
 0 < ks.length → ∃ b off, a = some ⟨b, off, none⟩ ∧ b < w.heap.size ∧ ∀ j z, ks[j]? = some z → w.cell? ⟨b, off + j, none⟩ = some (.int .i64 z)
def intVals (ks : List Int) : List Value := ks.map (Value.int .i64)
theorem intVals_len (ks : List Int) : (intVals ks).length = ks.length := by simp [intVals]
theorem KidsAt.of_own {w : World} {base e n c : Nat} {a : Option Addr} {ks : List Int} (h : w.ownsRow base e 1 (.slice a n c) n (intVals ks)) : KidsAt w a ks := by
 have hl : ks.length = n := by have := h.1; simp [intVals] at this; omega
 intro hn
 obtain ⟨g, rfl⟩ := owns_at h (by omega)
 refine ⟨g, 0, rfl, (h.lt g rfl).2, fun j z hz => ?_⟩
 have hj : j < ks.length := (List.getElem?_eq_some_iff.1 hz).1
 rw [Nat.zero_add, h.cellAt j (by omega)]
 simp [intVals, hz]
def rowVals {α : Type} (cells : α → List Value) (xs : List α) : List Value := xs.flatMap cells
theorem rowVals_app {α : Type} (cells : α → List Value) (xs ys : List α) : rowVals cells (xs ++ ys) = rowVals cells xs ++ rowVals cells ys := by simp [rowVals]
theorem rowVals_one {α : Type} (cells : α → List Value) (x : α) : rowVals cells [x] = cells x := by simp [rowVals]
theorem rowVals_at {α : Type} {cells : α → List Value} {s : Nat} (hs : ∀ x, (cells x).length = s) : ∀ (xs : List α) (k : Nat) (x : α), xs[k]? = some x → ∀ j, j < s → (rowVals cells xs)[k * s + j]? = (cells x)[j]?
 | [], k, x, h, _, _ => by simp at h
 | y :: xs, 0, x, h, j, hj => by
  have e : y = x := by simpa using h
  subst e
  rw [show rowVals cells (y :: xs) = cells y ++ rowVals cells xs from rfl, Nat.zero_mul, Nat.zero_add, List.getElem?_append_left (by rw [hs]; omega)]
 | y :: xs, k + 1, x, h, j, hj => by
  have ih := rowVals_at hs xs k x (by simpa using h) j hj
  rw [show rowVals cells (y :: xs) = cells y ++ rowVals cells xs from rfl, Nat.succ_mul, List.getElem?_append_right (by rw [hs]; omega), hs, show k * s + s + j - s = k * s + j by omega]
  exact ih
structure Nd where
 kind : Int
 text : ByteArray
 kids : List Int
 blank : Bool
structure Np where
 nd : Nd
 a : Option Addr
 c : Nat
def npCells (q : Np) : List Value := [.int .i64 q.nd.kind, .string q.nd.text, .slice q.a q.nd.kids.length q.c, .bool q.nd.blank]
theorem npCells_len (q : Np) : (npCells q).length = 4 := rfl
theorem npCells_one (q : Np) : ∀ u ∈ npCells q, u.oneCell' = true := fun u hu => by
 simp [npCells] at hu
 rcases hu with rfl | rfl | rfl | rfl <;> rfl
structure Nds (w : World) (B : Nat) (a : Option Addr) (c : Nat) (qs : List Np) : Prop where
 row : w.ownsRow B 59 4 (.slice a qs.length c) qs.length (rowVals npCells qs)
 each : ∀ q ∈ qs, w.ownsRow B 3 1 (.slice q.a q.nd.kids.length q.c) q.nd.kids.length (intVals q.nd.kids)
theorem Nds.below {w w' : World} {B : Nat} {a : Option Addr} {c : Nat} {qs : List Np} (h : Nds w B a c qs) (hb : Below w.heap.size w w') : Nds w' B a c qs := ⟨owns_below h.row hb, fun q hq => owns_below (h.each q hq) hb⟩
theorem np4 {w : World} {b o : Nat} {q : Np} (h : ∀ j, j < 4 → w.cell? ⟨b, o + j, none⟩ = (npCells q)[j]?) :
  w.cell? ⟨b, o, none⟩ = some (.int .i64 q.nd.kind) ∧ w.cell? ⟨b, o + 1, none⟩ = some (.string q.nd.text) ∧ w.cell? ⟨b, o + 2, none⟩ = some (.slice q.a q.nd.kids.length q.c) ∧ w.cell? ⟨b, o + 3, none⟩ = some (.bool q.nd.blank) :=
 ⟨h 0 (by omega), h 1 (by omega), h 2 (by omega), h 3 (by omega)⟩
structure Sg where
 kind : Int
 text : ByteArray
 place : Int
 blank : Bool
def sgCells (x : Sg) : List Value := [.int .i64 x.kind, .string x.text, .int .i64 x.place, .bool x.blank]
def sgVals (xs : List Sg) : List Value := xs.flatMap sgCells
theorem sgCells_len (x : Sg) : (sgCells x).length = 4 := rfl
theorem sgVals_app (xs ys : List Sg) : sgVals (xs ++ ys) = sgVals xs ++ sgVals ys := by simp [sgVals]
theorem sgVals_at : ∀ (xs : List Sg) (k : Nat) (x : Sg), xs[k]? = some x → ∀ j, j < 4 → (sgVals xs)[k * 4 + j]? = (sgCells x)[j]?
 | [], k, x, h, _, _ => by simp at h
 | y :: xs, 0, x, h, j, hj => by
  have e : y = x := by simpa using h
  subst e
  rw [show sgVals (y :: xs) = sgCells y ++ sgVals xs from rfl, List.getElem?_append_left (by rw [sgCells_len]; omega)]
  congr 1
  omega
 | y :: xs, k + 1, x, h, j, hj => by
  have ih := sgVals_at xs k x (by simpa using h) j hj
  rw [show sgVals (y :: xs) = sgCells y ++ sgVals xs from rfl, List.getElem?_append_right (by rw [sgCells_len]; omega), sgCells_len, show (k + 1) * 4 + j - 4 = k * 4 + j by omega]
  exact ih
set_option maxHeartbeats 1600000
def kw (s : ByteArray) : Bool := (s.toList == [99, 108, 97, 115, 115]) || (s.toList == [118, 97, 114]) || (s.toList == [105, 102]) || (s.toList == [101, 108, 115, 101]) || (s.toList == [119, 104, 105, 108, 101]) || (s.toList == [114, 101, 116, 117, 114, 110])
theorem iKey_any (s : ByteArray) (w : World) : Calls Tryz.prog 271 #[.string s] w fun e w' => e = .returned (.bool (kw s)) ∧ w' = w := by
 go_enter Tryz.func271, Tryz.ntmps271
 go_wp2
 all_goals go_ret
 all_goals exact ⟨ret_bool (by simp_all [kw]), rfl⟩
theorem sKey_any (s : ByteArray) (w : World) : Calls Tryz.prog 137 #[.string s] w fun e w' => e = .returned (.bool (kw s)) ∧ w' = w := by
 go_enter Tryz.func137, Tryz.ntmps137
 go_wp2
 all_goals go_ret
 all_goals exact ⟨ret_bool (by simp_all [kw]), rfl⟩
end Go.Proofs.YtcbbnphpkgifoaaGreatDoor
