/- Small facts that the proofs of this seat share: what a row of bytes that the call owns reads as when it is turned into a string, and plain facts on numbers and lists. -/
import Derived.WalkKit
import Derived.WalkSpells
import Derived.BigQuiet
import Derived.Laws.BytesArg
import Derived.Test.YtdlpepmdjbmmmaaGreatDoorProg
import Derived.Deep.QuietTactic
import Derived.Laws.OwnMore
import Derived.Maps.AppendAt
namespace Go.Proofs.YtdlpepmdjbmmmaaGreatDoor
open Go.RowKit

theorem owns_slice {w : World} {base e size : Nat} {v : Value} {n : Nat} {xs : List Value} (h : w.ownsRow base e size v n xs) : ∃ (ao : Option Addr) (c : Nat), v = .slice ao n c := by
 rcases h.2 with ⟨rfl, rfl⟩ | ⟨g, cap, cur, rfl, _⟩
 ·exact ⟨none, 0, rfl⟩
 ·exact ⟨_, _, rfl⟩
theorem hidOf {p : Prop} (h : p) : Hid p := h
theorem ret_str {a b : ByteArray} (h : a = b) : Ending.returned (.string a) = .returned (.string b) := by rw [h]
theorem ret_int {k : IntKind} {a b : Int} (h : a = b) : Ending.returned (.int k a) = .returned (.int k b) := by rw [h]
theorem ret_bool {a b : Bool} (h : a = b) : Ending.returned (.bool a) = .returned (.bool b) := by rw [h]

/-- An owned row stays owned below a base that is less. -/
theorem ownsRow_base {w : World} {base base' : Nat} {e size : Nat} {v : Value} {n : Nat} {xs : List Value} (h : w.ownsRow base e size v n xs) (hb : base' ≤ base) : w.ownsRow base' e size v n xs := by
 refine ⟨h.1, ?_⟩
 rcases h.2 with h | ⟨g, cap, cur, h1, h2, h3⟩
 ·exact .inl h
 ·exact .inr ⟨g, cap, cur, h1, Nat.le_trans hb h2, h3⟩

/-- Byte number k of a string as a number, 0 behind its end. -/
def by8 (s : ByteArray) (k : Nat) : Int := ((s.data.toList.getD k 0).toNat : Int)
theorem by8_at (s : ByteArray) : ∀ (k : Nat) (h : k < s.size), ((s[k]'h).toNat : Int) = by8 s k := fun k h => by
 unfold by8
 have h' : k < s.data.toList.length := by simpa using h
 rw [List.getD_eq_getElem?_getD, List.getElem?_eq_getElem h']
 rfl
theorem by8_range (s : ByteArray) (k : Nat) : 0 ≤ by8 s k ∧ by8 s k ≤ 255 := by
 unfold by8
 have := (s.data.toList.getD k 0).toNat_lt
 omega
theorem str_beq (a b : ByteArray) : (a.toList == b.toList) = decide (a = b) := by
 rw [Bool.eq_iff_iff]
 simp only [beq_iff_eq, decide_eq_true_eq, ByteArray.toList_eq]
 exact ⟨fun h => ByteArray.ext (Array.ext' h), fun h => by rw [h]⟩
theorem str_same {a b : ByteArray} (h : a = b) : (a.toList == b.toList) = true := by rw [str_beq]; simpa using h
/-- A string's piece: its bounds hold. -/
theorem str_slice {P : Program} (t : Nat) (s : ByteArray) (a b : Nat) (i j : Int) (ht : P.underlying t = some .string) (hi : i = a) (hj : j = b) (h1 : a ≤ b) (h2 : b ≤ s.size) :
  ∀ wx : World, (Instr.slice t (.string s) (some (.int .i64 i)) (some (.int .i64 j)) none).run P wx = .ok (.string (s.extract a b)) wx := by
 intro wx
 rw [run_slice_string_if (P := P) (w := wx) t s .i64 .i64 i j ht, if_pos (by omega), if_pos (by omega), hi, hj]
 rfl

/-- A string's first piece, and its last one. -/
theorem str_to {P : Program} (t : Nat) (s : ByteArray) (b : Nat) (j : Int) (ht : P.underlying t = some .string) (hj : j = b) (h2 : b ≤ s.size) :
  ∀ wx : World, (Instr.slice t (.string s) none (some (.int .i64 j)) none).run P wx = .ok (.string (s.extract 0 b)) wx := by
 intro wx
 rw [run_slice_string_to_if (P := P) (w := wx) t s .i64 j ht, if_pos (by omega), hj]
 rfl
theorem str_from {P : Program} (t : Nat) (s : ByteArray) (a : Nat) (i : Int) (ht : P.underlying t = some .string) (hi : i = a) (h2 : a ≤ s.size) :
  ∀ wx : World, (Instr.slice t (.string s) (some (.int .i64 i)) none none).run P wx = .ok (.string (s.extract a s.size)) wx := by
 intro wx
 rw [run_slice_string_from_if (P := P) (w := wx) t s .i64 i ht, if_pos (by omega), hi]
 rfl
/-- A row that is owned stays owned where nothing that was there has turned. -/
theorem owns_below {w w' : World} {base e size : Nat} {v : Value} {n : Nat} {xs : List Value} (h : w.ownsRow base e size v n xs) (hb : Below w.heap.size w w') : w'.ownsRow base e size v n xs := by
 refine ⟨h.1, ?_⟩
 rcases h.2 with h | ⟨g, cap, cur, h1, h2, h3, h4⟩
 ·exact .inl h
 ·refine .inr ⟨g, cap, cur, h1, h2, ?_, h4⟩
  rw [hb.block g (Array.getElem?_eq_some_iff.1 h3).1]
  exact h3
theorem grownBy_of_below {w w' : World} (h : Below w.heap.size w w') (row : Option Nat) : w.grownBy w' row := ⟨h.os, h.tape, h.output, h.size, fun k hk _ => h.block k hk⟩
theorem bel_drewN {B : Nat} {a w : World} (h : Below B a w) (n : Nat) : Below B a (w.drewN n) := ⟨h.os, h.tape, h.output, h.size, h.block⟩
theorem below_drewN (w : World) (n : Nat) : Below w.heap.size w (w.drewN n) := ⟨rfl, rfl, rfl, Nat.le_refl _, fun _ _ => rfl⟩
end Go.Proofs.YtdlpepmdjbmmmaaGreatDoor
/- Plain facts on pieces of a text. -/
namespace Go.Proofs.YtdlpepmdjbmmmaaGreatDoor
open Go.RowKit

def strVals (ss : List ByteArray) : List Value := ss.map Value.string
/-- A list of texts, in memory of its own. -/
def StrsAns (ss : List ByteArray) (e0 : Nat) (w : World) (e : Ending) (w' : World) : Prop :=
 Below w.heap.size w w' ∧ ∃ v, e = .returned v ∧ w'.ownsRow w.heap.size e0 1 v ss.length (strVals ss)
theorem drop_at (s : ByteArray) (i : Nat) (h : i < s.size) : s.data.toList.drop i = s.data.toList.getD i 0 :: s.data.toList.drop (i + 1) := by
 have h' : i < s.data.toList.length := by simpa using h
 rw [List.drop_eq_getElem_cons h', List.getD_eq_getElem?_getD, List.getElem?_eq_getElem h']
 rfl
theorem owns_at {w : World} {base e size n c : Nat} {ao : Option Addr} {xs : List Value} (h : w.ownsRow base e size (.slice ao n c) n xs) (hn : 0 < n) : ∃ g, ao = some ⟨g, 0, none⟩ := by
 rcases h.2 with ⟨_, e⟩ | ⟨g, cap, cur, e, _⟩
 ·omega
 ·injection e with e1
  exact ⟨g, e1⟩
end Go.Proofs.YtdlpepmdjbmmmaaGreatDoor
/- Lists of texts held against each other: spec.l16Notes and slices.Equal. -/
namespace Go.Proofs.YtdlpepmdjbmmmaaGreatDoor
open Go.RowKit

/-- Texts in memory. -/
def StAt (w : World) (v : Value) (ls : List ByteArray) : Prop :=
 ∃ (a : Option Addr) (c : Nat), v = .slice a ls.length c ∧ (0 < ls.length → ∃ b off, a = some ⟨b, off, none⟩ ∧ b < w.heap.size ∧ ∀ k t, ls[k]? = some t → w.cell? ⟨b, off + k, none⟩ = some (.string t))
theorem StAt.below {w w' : World} {v : Value} {ls : List ByteArray} (h : StAt w v ls) (hb : Below w.heap.size w w') : StAt w' v ls := by
 obtain ⟨a, c, rfl, h⟩ := h
 refine ⟨a, c, rfl, fun hn => ?_⟩
 obtain ⟨b, off, ha, hlt, hcs⟩ := h hn
 exact ⟨b, off, ha, Nat.lt_of_lt_of_le hlt hb.size, fun k t ht => (hb.cell (p := ⟨b, off + k, none⟩) hlt).trans (hcs k t ht)⟩
theorem StAt.of_own {w : World} {b n : Nat} {v : Value} {ss : List ByteArray} (h : w.ownsRow b 9 1 v n (strVals ss)) : StAt w v ss := by
 have hl : ss.length = n := by have := h.1; simpa [strVals] using this
 rcases h.2 with ⟨rfl, h0⟩ | ⟨g, cap, cur, rfl, h2, h3, h4⟩
 ·exact ⟨none, 0, by rw [hl, h0], fun h => by omega⟩
 ·refine ⟨some ⟨g, 0, none⟩, cap, by rw [hl], fun hn => ⟨g, 0, rfl, (h.lt g rfl).2, fun k t ht => ?_⟩⟩
  have hk := (List.getElem?_eq_some_iff.1 ht).1
  rw [Nat.zero_add, h.cellAt k (by omega)]
  simp [strVals, ht]

set_option maxHeartbeats 3000000 in
theorem sNotesEq (v1 v2 : Value) (xs ys : List ByteArray) (w : World) (hx : xs.length ≤ 4611686018427387904) (hy : ys.length ≤ 4611686018427387904) (h1 : StAt w v1 xs) (h2 : StAt w v2 ys) :
  Calls Tryz.prog 10 #[v1, v2] w fun e w' => e = .returned (.bool (decide (xs = ys))) ∧ ∃ q, w' = w.drewN q := by
 obtain ⟨a1, c1, rfl, h1⟩ := h1
 obtain ⟨a2, c2, rfl, h2⟩ := h2
 obtain ⟨n, hn⟩ : ∃ n, n = xs.length := ⟨_, rfl⟩
 obtain ⟨m, hm⟩ : ∃ m, m = ys.length := ⟨_, rfl⟩
 rw [← hn] at h1 hx
 rw [← hm] at h2 hy
 rw [← hn, ← hm]
 have HN := hidOf hn
 have HM := hidOf hm
 clear hn hm
 by_cases hnm : n = m
 ·subst hnm
  go_enter Tryz.func10, Tryz.ntmps10
  go_wp2
  go_loopw [5] (fun i wr => ∃ (k q : Nat), k ≤ n ∧ i = .int .i64 k ∧ wr = w.drewN q ∧ Hid (xs.take k = ys.take k)) (fun i _ => n - (intOf i).toNat)
  case atStart => exact ⟨0, 0, Nat.zero_le _, rfl, rfl, hidOf rfl⟩
  case round =>
   obtain ⟨k, q, hk, rfl, rfl, HE⟩ := hrel
   by_cases hlt : k < n
   ·obtain ⟨x, ex⟩ : ∃ x, xs[k]? = some x := ⟨_, List.getElem?_eq_getElem (by rw [← HN.out]; exact hlt)⟩
    obtain ⟨y, ey⟩ : ∃ y, ys[k]? = some y := ⟨_, List.getElem?_eq_getElem (by rw [← HM.out]; exact hlt)⟩
    obtain ⟨b1, o1, rfl, hb1, hc1⟩ := h1 (by omega)
    obtain ⟨b2, o2, rfl, hb2, hc2⟩ := h2 (by omega)
    have p1 := hc1 k x ex
    have p2 := hc2 k y ey
    have HX := hidOf ex
    have HY := hidOf ey
    clear ex ey hc1 hc2 h1 h2
    have hA : (0 : Int) ≤ (k : Int) := by omega
    have hB : (k : Int) < (n : Int) := by omega
    by_cases hxy : x = y
    ·have he : (x.toList == y.toList) = true := str_same hxy
     have HXY := hidOf hxy
     clear hxy
     go_wp2
     go_quiet (fail)
     go_wp2
     go_roundw
     case rel => exact ⟨k + 1, q + nq, by omega, by go_num, rfl, hidOf (by rw [List.take_add_one, List.take_add_one, HX.out, HY.out, HE.out, HXY.out])⟩
     case measure => simp [intOf]; omega
    ·have he : (x.toList == y.toList) = false := by rw [str_beq, decide_eq_false hxy]
     have HXY := hidOf hxy
     clear hxy
     go_wp2
     go_quiet (fail)
     go_wp2
     go_ret
     refine ⟨ret_bool (decide_eq_false (fun e => ?_)).symm, q + nq, by rw [World.drewN_drewN]⟩
     have e1 := HX.out
     rw [e, HY.out] at e1
     exact HXY.out (Option.some.inj e1).symm
   ·go_wp2
    go_ret
    refine ⟨ret_bool (decide_eq_true ?_).symm, q, rfl⟩
    have e1 := HE.out
    rw [List.take_of_length_le (by rw [← HN.out]; omega), List.take_of_length_le (by rw [← HM.out]; omega)] at e1
    exact e1
 ·have hd : decide (xs = ys) = false := decide_eq_false (fun e => hnm (by rw [HN.out, HM.out, e]))
  rw [hd]
  have hne : ((n : Int) == (m : Int)) = false := by rw [beq_eq_false_iff_ne]; omega
  clear hd h1 h2
  go_enter Tryz.func10, Tryz.ntmps10
  go_wp2
  go_ret
  exact ⟨rfl, 0, rfl⟩

set_option maxHeartbeats 3000000 in
theorem iNotesEq (v1 v2 : Value) (xs ys : List ByteArray) (w : World) (hx : xs.length ≤ 4611686018427387904) (hy : ys.length ≤ 4611686018427387904) (h1 : StAt w v1 xs) (h2 : StAt w v2 ys) :
  Calls Tryz.prog 54 #[v1, v2] w fun e w' => e = .returned (.bool (decide (xs = ys))) ∧ ∃ q, w' = w.drewN q := by
 obtain ⟨a1, c1, rfl, h1⟩ := h1
 obtain ⟨a2, c2, rfl, h2⟩ := h2
 obtain ⟨n, hn⟩ : ∃ n, n = xs.length := ⟨_, rfl⟩
 obtain ⟨m, hm⟩ : ∃ m, m = ys.length := ⟨_, rfl⟩
 rw [← hn] at h1 hx
 rw [← hm] at h2 hy
 rw [← hn, ← hm]
 have HN := hidOf hn
 have HM := hidOf hm
 clear hn hm
 by_cases hnm : n = m
 ·subst hnm
  go_enter Tryz.func54, Tryz.ntmps54
  go_wp2
  go_loopw [5, 13] (fun _ i wr => ∃ (k q : Nat), k ≤ n ∧ i = .int .i64 k ∧ wr = w.drewN q ∧ Hid (xs.take k = ys.take k)) (fun _ i _ => n - (intOf i).toNat)
  case atStart => exact ⟨0, 0, Nat.zero_le _, rfl, rfl, hidOf rfl⟩
  case round =>
   obtain ⟨k, q, hk, rfl, rfl, HE⟩ := hrel
   by_cases hlt : k < n
   ·obtain ⟨x, ex⟩ : ∃ x, xs[k]? = some x := ⟨_, List.getElem?_eq_getElem (by rw [← HN.out]; exact hlt)⟩
    obtain ⟨y, ey⟩ : ∃ y, ys[k]? = some y := ⟨_, List.getElem?_eq_getElem (by rw [← HM.out]; exact hlt)⟩
    obtain ⟨b1, o1, rfl, hb1, hc1⟩ := h1 (by omega)
    obtain ⟨b2, o2, rfl, hb2, hc2⟩ := h2 (by omega)
    have p1 := hc1 k x ex
    have p2 := hc2 k y ey
    have HX := hidOf ex
    have HY := hidOf ey
    clear ex ey hc1 hc2 h1 h2
    have hA : (0 : Int) ≤ (k : Int) := by omega
    have hB : (k : Int) < (n : Int) := by omega
    by_cases hxy : x = y
    ·have he : (x.toList == y.toList) = true := str_same hxy
     have HXY := hidOf hxy
     clear hxy
     go_wp2
     go_quiet (fail)
     go_wp2
     go_roundw
     case rel => exact ⟨k + 1, q + nq, by omega, by go_num, rfl, hidOf (by rw [List.take_add_one, List.take_add_one, HX.out, HY.out, HE.out, HXY.out])⟩
     case measure => simp [intOf]; omega
    ·have he : (x.toList == y.toList) = false := by rw [str_beq, decide_eq_false hxy]
     have HXY := hidOf hxy
     clear hxy
     go_wp2
     go_quiet (fail)
     go_wp2
     go_ret
     refine ⟨ret_bool (decide_eq_false (fun e => ?_)).symm, q + nq, by rw [World.drewN_drewN]⟩
     have e1 := HX.out
     rw [e, HY.out] at e1
     exact HXY.out (Option.some.inj e1).symm
   ·go_wp2
    go_ret
    refine ⟨ret_bool (decide_eq_true ?_).symm, q, rfl⟩
    have e1 := HE.out
    rw [List.take_of_length_le (by rw [← HN.out]; omega), List.take_of_length_le (by rw [← HM.out]; omega)] at e1
    exact e1
 ·have hd : decide (xs = ys) = false := decide_eq_false (fun e => hnm (by rw [HN.out, HM.out, e]))
  rw [hd]
  have hne : ((n : Int) == (m : Int)) = false := by rw [beq_eq_false_iff_ne]; omega
  clear hd h1 h2
  go_enter Tryz.func54, Tryz.ntmps54
  go_wp2
  go_ret
  exact ⟨rfl, 0, rfl⟩
end Go.Proofs.YtdlpepmdjbmmmaaGreatDoor
/- Lists of numbers in memory. (NdLib, ToNd, EqNd, OpenNd bear elder copies of parts of this.) -/
namespace Go.Proofs.YtdlpepmdjbmmmaaGreatDoor
open Go.RowKit

/-- A list of numbers that lies in memory, at a place. -/
def KidsAt (w : World) (a : Option Addr) (ks : List Int) : Prop :=
 0 < ks.length → ∃ b off, a = some ⟨b, off, none⟩ ∧ b < w.heap.size ∧ ∀ j z, ks[j]? = some z → w.cell? ⟨b, off + j, none⟩ = some (.int .i64 z)
theorem KidsAt.below {w w' : World} {a : Option Addr} {ks : List Int} {B : Nat} (h : KidsAt w a ks) (hb : Below B w w') (hB : w.heap.size ≤ B) : KidsAt w' a ks := by
 intro hn
 obtain ⟨b, off, ha, hlt, hc⟩ := h hn
 exact ⟨b, off, ha, Nat.lt_of_lt_of_le hlt hb.size, fun j z hz => by rw [hb.cell (Nat.lt_of_lt_of_le hlt hB)]; exact hc j z hz⟩
def intVals (ks : List Int) : List Value := ks.map (Value.int .i64)
theorem intVals_len (ks : List Int) : (intVals ks).length = ks.length := by simp [intVals]
theorem KidsAt.of_own {w : World} {base e n c : Nat} {a : Option Addr} {ks : List Int} (h : w.ownsRow base e 1 (.slice a n c) n (intVals ks)) : KidsAt w a ks := by
 have hl : ks.length = n := by have := h.1; simp [intVals] at this; omega
 intro hn
 obtain ⟨g, rfl⟩ := owns_at h (by omega)
 refine ⟨g, 0, rfl, (h.lt g rfl).2, fun j z hz => ?_⟩
 have hj : j < ks.length := (List.getElem?_eq_some_iff.1 hz).1
 rw [Nat.zero_add, h.cellAt j (by omega)]
 simp [intVals, hz]
end Go.Proofs.YtdlpepmdjbmmmaaGreatDoor
/- Lists of structs of a few cells each, in memory: the rows, what lies in them, and how one more is laid. -/
namespace Go.Proofs.YtdlpepmdjbmmmaaGreatDoor
open Go.RowKit

/-- The cells of a list of structs, one behind the other. -/
def rowVals {α : Type} (cells : α → List Value) (xs : List α) : List Value := xs.flatMap cells
theorem rowVals_app {α : Type} (cells : α → List Value) (xs ys : List α) : rowVals cells (xs ++ ys) = rowVals cells xs ++ rowVals cells ys := by simp [rowVals]
theorem rowVals_one {α : Type} (cells : α → List Value) (x : α) : rowVals cells [x] = cells x := by simp [rowVals]
theorem rowVals_at {α : Type} {cells : α → List Value} {s : Nat} (hs : ∀ x, (cells x).length = s) : ∀ (xs : List α) (k : Nat) (x : α), xs[k]? = some x → ∀ j, j < s → (rowVals cells xs)[k * s + j]? = (cells x)[j]?
 | [], k, x, h, _, _ => by simp at h
 | y :: xs, 0, x, h, j, hj => by
  have e : y = x := by simpa using h
  subst e
  rw [show rowVals cells (y :: xs) = cells y ++ rowVals cells xs from rfl, Nat.zero_mul, Nat.zero_add, List.getElem?_append_left (by rw [hs]; omega)]
 | y :: xs, k + 1, x, h, j, hj => by
  have ih := rowVals_at hs xs k x (by simpa using h) j hj
  rw [show rowVals cells (y :: xs) = cells y ++ rowVals cells xs from rfl, Nat.succ_mul, List.getElem?_append_right (by rw [hs]; omega), hs, show k * s + s + j - s = k * s + j by omega]
  exact ih
end Go.Proofs.YtdlpepmdjbmmmaaGreatDoor
/- Nodes as plain records, and lists of them in memory of their own. (NdLib bears elder copies of parts of this, beside lists of numbers of its own: not both in one text.) -/
namespace Go.Proofs.YtdlpepmdjbmmmaaGreatDoor
open Go.RowKit

/-- A node: what it holds, its Kids as plain numbers. -/
structure Nd where
 kind : Int
 text : ByteArray
 kids : List Int
 blank : Bool
/-- A node whose Kids lie at a place. -/
structure Np where
 nd : Nd
 a : Option Addr
 c : Nat
def npCells (q : Np) : List Value := [.int .i64 q.nd.kind, .string q.nd.text, .slice q.a q.nd.kids.length q.c, .bool q.nd.blank]
theorem npCells_len (q : Np) : (npCells q).length = 4 := rfl
theorem npCells_one (q : Np) : ∀ u ∈ npCells q, u.oneCell' = true := fun u hu => by
 simp [npCells] at hu
 rcases hu with rfl | rfl | rfl | rfl <;> rfl
/-- Nodes in memory of their own: the list, the Kids of each. -/
structure Nds (w : World) (B : Nat) (a : Option Addr) (c : Nat) (qs : List Np) : Prop where
 row : w.ownsRow B 55 4 (.slice a qs.length c) qs.length (rowVals npCells qs)
 each : ∀ q ∈ qs, w.ownsRow B 3 1 (.slice q.a q.nd.kids.length q.c) q.nd.kids.length (intVals q.nd.kids)
theorem Nds.below {w w' : World} {B : Nat} {a : Option Addr} {c : Nat} {qs : List Np} (h : Nds w B a c qs) (hb : Below w.heap.size w w') : Nds w' B a c qs := ⟨owns_below h.row hb, fun q hq => owns_below (h.each q hq) hb⟩
theorem np4 {w : World} {b o : Nat} {q : Np} (h : ∀ j, j < 4 → w.cell? ⟨b, o + j, none⟩ = (npCells q)[j]?) :
  w.cell? ⟨b, o, none⟩ = some (.int .i64 q.nd.kind) ∧ w.cell? ⟨b, o + 1, none⟩ = some (.string q.nd.text) ∧ w.cell? ⟨b, o + 2, none⟩ = some (.slice q.a q.nd.kids.length q.c) ∧ w.cell? ⟨b, o + 3, none⟩ = some (.bool q.nd.blank) :=
 ⟨h 0 (by omega), h 1 (by omega), h 2 (by omega), h 3 (by omega)⟩
end Go.Proofs.YtdlpepmdjbmmmaaGreatDoor
/- Signs as plain records, and a list of them in memory. -/
namespace Go.Proofs.YtdlpepmdjbmmmaaGreatDoor
open Go.RowKit

/-- A sign: what its four cells hold. -/
structure Sg where
 kind : Int
 text : ByteArray
 place : Int
 blank : Bool
def sgCells (x : Sg) : List Value := [.int .i64 x.kind, .string x.text, .int .i64 x.place, .bool x.blank]
def sgVals (xs : List Sg) : List Value := xs.flatMap sgCells
theorem sgCells_len (x : Sg) : (sgCells x).length = 4 := rfl
theorem sgVals_len : ∀ (xs : List Sg), (sgVals xs).length = xs.length * 4
 | [] => rfl
 | x :: xs => by
  rw [show sgVals (x :: xs) = sgCells x ++ sgVals xs from rfl, List.length_append, sgVals_len xs, sgCells_len, List.length_cons]
  omega
theorem sgVals_app (xs ys : List Sg) : sgVals (xs ++ ys) = sgVals xs ++ sgVals ys := by simp [sgVals]
theorem sgVals_at : ∀ (xs : List Sg) (k : Nat) (x : Sg), xs[k]? = some x → ∀ j, j < 4 → (sgVals xs)[k * 4 + j]? = (sgCells x)[j]?
 | [], k, x, h, _, _ => by simp at h
 | y :: xs, 0, x, h, j, hj => by
  have e : y = x := by simpa using h
  subst e
  rw [show sgVals (y :: xs) = sgCells y ++ sgVals xs from rfl, List.getElem?_append_left (by rw [sgCells_len]; omega)]
  congr 1
  omega
 | y :: xs, k + 1, x, h, j, hj => by
  have ih := sgVals_at xs k x (by simpa using h) j hj
  rw [show sgVals (y :: xs) = sgCells y ++ sgVals xs from rfl, List.getElem?_append_right (by rw [sgCells_len]; omega), sgCells_len, show (k + 1) * 4 + j - 4 = k * 4 + j by omega]
  exact ih
/-- A list of signs that lies in memory: n of them, at a place. -/
def SgsAt (w : World) (v : Value) (xs : List Sg) : Prop :=
 ∃ (a : Option Addr) (c : Nat), v = .slice a xs.length c ∧ (0 < xs.length → ∃ b off, a = some ⟨b, off, none⟩ ∧ b < w.heap.size ∧ ∀ k x, xs[k]? = some x → ∀ j, j < 4 → w.cell? ⟨b, off + k * 4 + j, none⟩ = (sgCells x)[j]?)
theorem SgsAt.below {w w' : World} {v : Value} {xs : List Sg} (h : SgsAt w v xs) (hb : Below w.heap.size w w') : SgsAt w' v xs := by
 obtain ⟨a, c, rfl, h⟩ := h
 refine ⟨a, c, rfl, fun hn => ?_⟩
 obtain ⟨b, off, ha, hlt, hc⟩ := h hn
 exact ⟨b, off, ha, Nat.lt_of_lt_of_le hlt hb.size, fun k x hx j hj => by rw [hb.cell hlt]; exact hc k x hx j hj⟩
theorem SgsAt.of_own {w : World} {base e : Nat} {v : Value} {n : Nat} {xs : List Sg} (h : w.ownsRow base e 4 v n (sgVals xs)) : SgsAt w v xs := by
 have hl : xs.length = n := by have := h.1; rw [sgVals_len] at this; omega
 obtain ⟨a, c, rfl⟩ := owns_slice h
 subst hl
 refine ⟨a, c, rfl, fun hn => ?_⟩
 obtain ⟨g, rfl⟩ := owns_at h hn
 refine ⟨g, 0, rfl, (h.lt g rfl).2, fun k x hx j hj => ?_⟩
 have hk : k < xs.length := (List.getElem?_eq_some_iff.1 hx).1
 rw [Nat.zero_add]
 rw [h.cellAt (k * 4 + j) (by omega)]
 exact sgVals_at xs k x hx j hj
/-- The four cells of one sign of the list. -/
theorem cells4 {w : World} {b o : Nat} {x : Sg} (h : ∀ j, j < 4 → w.cell? ⟨b, o + j, none⟩ = (sgCells x)[j]?) :
  w.cell? ⟨b, o, none⟩ = some (.int .i64 x.kind) ∧ w.cell? ⟨b, o + 1, none⟩ = some (.string x.text) ∧ w.cell? ⟨b, o + 2, none⟩ = some (.int .i64 x.place) ∧ w.cell? ⟨b, o + 3, none⟩ = some (.bool x.blank) :=
 ⟨h 0 (by omega), h 1 (by omega), h 2 (by omega), h 3 (by omega)⟩
/-- A list of signs, in memory of its own. -/
def SgsAns (xs : List Sg) (e0 : Nat) (w : World) (e : Ending) (w' : World) : Prop :=
 Below w.heap.size w w' ∧ ∃ v, e = .returned v ∧ w'.ownsRow w.heap.size e0 4 v xs.length (sgVals xs)
/-- Same kind, same text. -/
def same2 (x y : Sg) : Bool := (x.kind == y.kind) && (x.text.toList == y.text.toList)
def sameAll : List Sg → List Sg → Bool
 | [], [] => true
 | x :: xs, y :: ys => same2 x y && sameAll xs ys
 | _, _ => false
theorem sameAll_len : ∀ {xs ys : List Sg}, xs.length ≠ ys.length → sameAll xs ys = false
 | [], [], h => by simp at h
 | [], _ :: _, _ => rfl
 | _ :: _, [], _ => rfl
 | x :: xs, y :: ys, h => by
  rw [sameAll, sameAll_len (fun e => h (by simp [e])), Bool.and_false]
theorem sameAll_not : ∀ {xs ys : List Sg} (k : Nat) {x y : Sg}, xs[k]? = some x → ys[k]? = some y → same2 x y = false → sameAll xs ys = false
 | [], _, k, _, _, h, _, _ => by simp at h
 | _ :: _, [], k, _, _, _, h, _ => by simp at h
 | x :: xs, y :: ys, 0, _, _, h1, h2, h3 => by
  obtain rfl : x = _ := by simpa using h1
  obtain rfl : y = _ := by simpa using h2
  rw [sameAll, h3, Bool.false_and]
 | x :: xs, y :: ys, k + 1, _, _, h1, h2, h3 => by
  rw [sameAll, sameAll_not k (by simpa using h1) (by simpa using h2) h3, Bool.and_false]
theorem sameAll_yes : ∀ {xs ys : List Sg}, xs.length = ys.length → (∀ (k : Nat) (x y : Sg), xs[k]? = some x → ys[k]? = some y → same2 x y = true) → sameAll xs ys = true
 | [], [], _, _ => rfl
 | [], _ :: _, h, _ => by simp at h
 | _ :: _, [], h, _ => by simp at h
 | x :: xs, y :: ys, h, hA => by
  rw [sameAll, hA 0 x y rfl rfl, sameAll_yes (by simpa using h) (fun k a b h1 h2 => hA (k + 1) a b (by simpa using h1) (by simpa using h2)), Bool.and_true]
end Go.Proofs.YtdlpepmdjbmmmaaGreatDoor
/- What spec.KeyWord and impl.KeyWord answer. -/
namespace Go.Proofs.YtdlpepmdjbmmmaaGreatDoor
open Go.RowKit

/-- The words that are no names. -/
def kw (s : ByteArray) : Bool := (s.toList == [99, 108, 97, 115, 115]) || (s.toList == [118, 97, 114]) || (s.toList == [105, 102]) || (s.toList == [101, 108, 115, 101]) || (s.toList == [119, 104, 105, 108, 101]) || (s.toList == [114, 101, 116, 117, 114, 110])

set_option maxHeartbeats 1600000 in
theorem iKey_any (s : ByteArray) (w : World) : Calls Tryz.prog 160 #[.string s] w fun e w' => e = .returned (.bool (kw s)) ∧ w' = w := by
 go_enter Tryz.func160, Tryz.ntmps160
 go_wp2
 all_goals go_ret
 all_goals exact ⟨ret_bool (by simp_all [kw]), rfl⟩

set_option maxHeartbeats 1600000 in
theorem sKey_any (s : ByteArray) (w : World) : Calls Tryz.prog 56 #[.string s] w fun e w' => e = .returned (.bool (kw s)) ∧ w' = w := by
 go_enter Tryz.func56, Tryz.ntmps56
 go_wp2
 all_goals go_ret
 all_goals exact ⟨ret_bool (by simp_all [kw]), rfl⟩
end Go.Proofs.YtdlpepmdjbmmmaaGreatDoor
