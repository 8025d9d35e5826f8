/- Texts of notes, and a list of signs without each comma ahead of a closing bracket, as plain functions. -/
import Derived.Test.YtdlpepmdjbmmmaaGreatDoorKaa
import Derived.Test.YtdlpepmdjbmmmaaGreatDoorKag
import Derived.Lib.AppendIntMem
import Derived.WalkKit
import Derived.BigQuiet
import Derived.Deep.QuietTactic
import Derived.Laws.OwnMore
import Derived.Test.YtdlpepmdjbmmmaaGreatDoorProg
import Derived.Deep.RegionWith
import Derived.Deep.RegionHeld3
namespace Go.Proofs.YtdlpepmdjbmmmaaGreatDoor
open Go.RowKit

/-- The texts of notes, in order. -/
def nts : List Sg → List ByteArray
 | [] => []
 | x :: xs => if (x.kind == 5) = true then x.text :: nts xs else nts xs
theorem nts_len : ∀ (xs : List Sg), (nts xs).length ≤ xs.length
 | [] => Nat.le_refl _
 | x :: xs => by
  have := nts_len xs
  unfold nts
  split <;> simp <;> omega
theorem drop_sg {xs : List Sg} {k : Nat} {x : Sg} (h : xs[k]? = some x) : xs.drop k = x :: xs.drop (k + 1) := by
 obtain ⟨hk, e⟩ := List.getElem?_eq_some_iff.1 h
 rw [List.drop_eq_getElem_cons hk, e]
theorem nts_yes {xs : List Sg} {k : Nat} {x : Sg} {pre : List ByteArray} (h : xs[k]? = some x) (hk : (x.kind == 5) = true) (hp : pre ++ nts (xs.drop k) = nts xs) : (pre ++ [x.text]) ++ nts (xs.drop (k + 1)) = nts xs := by
 rw [← hp, drop_sg h, nts, if_pos hk, List.append_assoc]
 rfl
theorem nts_no {xs : List Sg} {k : Nat} {x : Sg} {pre : List ByteArray} (h : xs[k]? = some x) (hk : (x.kind == 5) = false) (hp : pre ++ nts (xs.drop k) = nts xs) : pre ++ nts (xs.drop (k + 1)) = nts xs := by
 rw [← hp, drop_sg h, nts, if_neg (by rw [hk]; simp)]
theorem nts_end {xs : List Sg} {k : Nat} {pre : List ByteArray} (h : xs.length ≤ k) (hp : pre ++ nts (xs.drop k) = nts xs) : nts xs = pre := by
 rw [← hp, List.drop_of_length_le h]
 simp [nts]

/-- A comma; a bracket that closes. -/
def isSep (x : Sg) : Bool := (x.kind == 4) && (x.text.toList == [44])
def isShut (x : Sg) : Bool := (x.kind == 4) && ((x.text.toList == [41]) || (x.text.toList == [93]))
def shutAt (xs : List Sg) (k : Nat) : Bool := match xs[k]? with | some y => isShut y | none => false
def lefF : List Sg → List Sg
 | [] => []
 | x :: xs => if (isSep x && shutAt xs 0) = true then lefF xs else x :: lefF xs
theorem lef_len : ∀ (xs : List Sg), (lefF xs).length ≤ xs.length
 | [] => Nat.le_refl _
 | x :: xs => by
  have := lef_len xs
  unfold lefF
  split <;> simp <;> omega
theorem shut_drop (xs : List Sg) (k : Nat) : shutAt (xs.drop k) 0 = shutAt xs k := by unfold shutAt; rw [List.getElem?_drop, Nat.add_zero]
theorem lef_out {xs : List Sg} {k : Nat} {x : Sg} {pre : List Sg} (h : xs[k]? = some x) (hs : isSep x = true) (hk : shutAt xs (k + 1) = true) (hp : pre ++ lefF (xs.drop k) = lefF xs) : pre ++ lefF (xs.drop (k + 1)) = lefF xs := by
 rw [← hp, drop_sg h, lefF, if_pos (by rw [shut_drop, hs, hk]; rfl)]
theorem lef_in {xs : List Sg} {k : Nat} {x : Sg} {pre : List Sg} (h : xs[k]? = some x) (hk : (isSep x && shutAt xs (k + 1)) = false) (hp : pre ++ lefF (xs.drop k) = lefF xs) : (pre ++ [x]) ++ lefF (xs.drop (k + 1)) = lefF xs := by
 rw [← hp, drop_sg h, lefF, if_neg (by rw [shut_drop, hk]; simp), List.append_assoc]
 rfl
theorem lef_end {xs : List Sg} {k : Nat} {pre : List Sg} (h : xs.length ≤ k) (hp : pre ++ lefF (xs.drop k) = lefF xs) : lefF xs = pre := by
 rw [← hp, List.drop_of_length_le h]
 simp [lefF]
end Go.Proofs.YtdlpepmdjbmmmaaGreatDoor
/- What impl.NotesIn answers. -/
namespace Go.Proofs.YtdlpepmdjbmmmaaGreatDoor
open Go.RowKit

theorem infoStrI : (Tryz.prog.info? 9).map (fun i => (i.zero, i.size, i.bytes)) = some (some (.string ByteArray.empty), 1, 16) := by kernel_rfl
theorem nt_clone (s : ByteArray) (w : World) (h : s.size ≤ 4194304) :
  Calls Tryz.prog 50 #[.string s] w fun e w' => e = .returned (.string s) ∧ Below w.heap.size w w' := by
 go_enter Tryz.func50, Tryz.ntmps50
 go_wp2_with fail
 refine (Tryz.stringslite_Clone s _ (by omega)).mono ?_
 rintro e w1 ⟨rfl, hb⟩
 go_wp2
 go_ret
 exact ⟨rfl, hb⟩

set_option maxHeartbeats 4000000 in
set_option maxRecDepth 20000 in
theorem iNotes_any (v : Value) (xs : List Sg) (w : World) (hn0 : xs.length ≤ 1048576) (hx : ∀ (j : Nat) (x : Sg), xs[j]? = some x → x.text.size ≤ 1048576) (hT : SgsAt w v xs) :
  Calls Tryz.prog 55 #[v] w fun e w' => StrsAns (nts xs) 9 w e w' := by
 obtain ⟨i0, hi, hz0, hz1, hz2⟩ := info_parts infoStrI
 obtain ⟨a, c, rfl, h⟩ := hT
 obtain ⟨n, hn⟩ : ∃ n, n = xs.length := ⟨_, rfl⟩
 rw [← hn] at h hn0 ⊢
 have HN := hidOf hn
 have HX := hidOf hx
 clear hn hx
 go_enter Tryz.func55, Tryz.ntmps55
 go_wp2
 go_loopw [3, 9] (fun v i wr => ∃ (k : Nat) (os : List ByteArray), k ≤ n ∧ i = .int .i64 k ∧ os.length ≤ k ∧ Hid (os ++ nts (xs.drop k) = nts xs) ∧ wr.ownsRow w.heap.size 9 1 v os.length (strVals os) ∧ Below w.heap.size w wr)
  (fun _ i _ => n - (intOf i).toNat)
 case atStart => exact ⟨0, [], by omega, rfl, by simp, rfl, World.ownsRow_made w #[] 0 (Nat.le_refl _) (by decide) rfl, (Below.refl _ w).alloc (Nat.le_refl _) _⟩
 case round =>
  obtain ⟨k, os, hk, rfl, hol, HI, hown, hb⟩ := hrel
  obtain ⟨ao, cv, rfl⟩ := owns_slice hown
  have hsz := hb.size
  by_cases hlt : k < n
  ·obtain ⟨x, ex⟩ : ∃ x, xs[k]? = some x := ⟨_, List.getElem?_eq_getElem (by rw [← HN.out]; exact hlt)⟩
   obtain ⟨b1, o1, rfl, hb1, hc1⟩ := h (by omega)
   obtain ⟨p0, p1, p2, p3⟩ := cells4 (w := wr) (fun j hj => by rw [hb.cell hb1]; exact hc1 k x ex j hj)
   have hxt := HX.out k x ex
   have EX := hidOf ex
   clear ex hc1 h
   have hA : (0 : Int) ≤ (k : Int) := by omega
   have hB : (k : Int) < (n : Int) := by omega
   cases h5 : (x.kind == 5)
   ·go_wp2
    go_roundw
    case rel => exact ⟨k + 1, os, by omega, by go_num, by omega, hidOf (nts_no EX.out h5 HI.out), hown.alloc _, hb.alloc (by omega) _⟩
    case measure => simp [intOf]; omega
   ·go_wp2_with fail
    refine (nt_clone x.text _ (by omega)).mono ?_
    rintro e w2 ⟨rfl, hb2⟩
    have hB2 := (hb.alloc hb.size (.cells #[.int .i64 x.kind, .string x.text, .int .i64 x.place, .bool x.blank] 52)).trans (hb2.mono (by simp; omega))
    have ho2 := owns_below (hown.alloc (.cells #[.int .i64 x.kind, .string x.text, .int .i64 x.place, .bool x.blank] 52)) hb2
    have hs2 := hB2.size
    clear hown
    go_wp2_with (at_builtin; refine wpList_append_own _ rfl _ _ 32 rfl w.heap.size 9 i0 (.string ByteArray.empty) 1 16 Tryz.underlying32 hi hz0 hz1 hz2 rfl (by decide) _ _ _ rfl (ho2.alloc _) ⟨w2.heap.size, 0, none⟩ 1 1 [.string x.text] rfl rfl (cell_one_new _ _ _) (fun x hx => by simp at hx; subst hx; rfl) (by unfold maxLen; omega) (by omega) (by simp; omega) ?_; intro v' w3 hown' hgrow3 hnil3)
    go_roundw
    case rel => exact ⟨k + 1, os ++ [x.text], by omega, by go_num, by simp; omega, hidOf (nts_yes EX.out h5 HI.out), by simpa [strVals] using hown', (hB2.alloc (by omega) _).grown hgrow3 (by simp; omega) (fun q hq => (ho2.lt q hq).1)⟩
    case measure => simp [intOf]; omega
  ·go_wp2
   go_ret
   have := HN.out
   exact ⟨hb, _, rfl, by rw [nts_end (by omega) HI.out]; exact hown⟩
end Go.Proofs.YtdlpepmdjbmmmaaGreatDoor
/- What impl.SameSigns answers. -/
namespace Go.Proofs.YtdlpepmdjbmmmaaGreatDoor
open Go.RowKit

set_option maxHeartbeats 1600000 in
theorem same2_any (x y : Sg) (w : World) :
  Calls Tryz.prog 97 #[.agg #[.int .i64 x.kind, .string x.text, .int .i64 x.place, .bool x.blank], .agg #[.int .i64 y.kind, .string y.text, .int .i64 y.place, .bool y.blank]] w fun e w' => e = .returned (.bool (same2 x y)) ∧ Below w.heap.size w w' := by
 cases hk : (x.kind == y.kind)
 all_goals go_enter Tryz.func97, Tryz.ntmps97
 all_goals go_wp2
 all_goals go_ret
 all_goals exact ⟨ret_bool (by simp [same2, hk]), ((Below.refl _ _).alloc (Nat.le_refl _) _).alloc (by simp) _⟩

set_option maxHeartbeats 1600000 in
theorem eqFunc_any (v1 v2 : Value) (xs ys : List Sg) (w : World) (hx0 : xs.length ≤ 4611686018427387904) (hy : ys.length ≤ 4611686018427387904) (h1 : SgsAt w v1 xs) (h2 : SgsAt w v2 ys) :
  Calls Tryz.prog 96 #[v1, v2, .func (.func 97) #[] #[]] w fun e w' => e = .returned (.bool (sameAll xs ys)) ∧ Below w.heap.size w w' := by
 obtain ⟨a1, c1, rfl, h1⟩ := h1
 obtain ⟨a2, c2, rfl, h2⟩ := h2
 have hx := hx0
 clear hx0
 by_cases hl : xs.length = ys.length
 ·rw [← hl] at h2
  rw [← hl] at hy
  obtain ⟨n, hn⟩ : ∃ n, n = xs.length := ⟨_, rfl⟩
  rw [← hn] at h1 h2 hx hy
  rw [← hl, ← hn]
  have HN := hidOf hn
  have HL := hidOf hl
  clear hn hl
  go_enter Tryz.func96, Tryz.ntmps96
  go_wp2
  go_loopw [17] (fun i wr => ∃ k : Nat, k ≤ n ∧ i = .int .i64 k ∧ Below w.heap.size w wr ∧ Hid (∀ (j : Nat) (x y : Sg), j < k → xs[j]? = some x → ys[j]? = some y → same2 x y = true)) (fun i _ => n - (intOf i).toNat)
  case atStart => exact ⟨0, Nat.zero_le _, rfl, Below.refl _ _, hidOf fun j x y h => by omega⟩
  case round =>
   obtain ⟨k, hk, rfl, hb, HA⟩ := hrel
   by_cases hlt : k < n
   ·obtain ⟨x, ex⟩ : ∃ x, xs[k]? = some x := ⟨_, List.getElem?_eq_getElem (by rw [← HN.out]; exact hlt)⟩
    obtain ⟨y, ey⟩ : ∃ y, ys[k]? = some y := ⟨_, List.getElem?_eq_getElem (by rw [← HL.out, ← HN.out]; exact hlt)⟩
    obtain ⟨b1, o1, rfl, hb1, hc1⟩ := h1 (by omega)
    obtain ⟨b2, o2, rfl, hb2, hc2⟩ := h2 (by omega)
    obtain ⟨p0, p1, p2, p3⟩ := cells4 (w := wr) (fun j hj => by rw [hb.cell hb1]; exact hc1 k x ex j hj)
    have hq := fun ob : Obj => cells4 (w := wr.alloc ob) (b := b2) (o := o2 + k * 4) (x := y) (fun j hj => by rw [(hb.alloc hb.size ob).cell hb2]; exact hc2 k y ey j hj)
    have q0 := fun ob => (hq ob).1
    have q1 := fun ob => (hq ob).2.1
    have q2 := fun ob => (hq ob).2.2.1
    have q3 := fun ob => (hq ob).2.2.2
    have EX := hidOf ex
    have EY := hidOf ey
    clear ex ey hc1 hc2 hq h1 h2
    have hA : (0 : Int) ≤ (k : Int) := by omega
    have hB : (k : Int) < (n : Int) := by omega
    go_wp2_with fail
    refine (same2_any x y _).mono ?_
    cases hS : same2 x y
    ·rintro e w1 ⟨rfl, hb1⟩
     have hB1 := ((hb.alloc hb.size (.cells #[.int .i64 x.kind, .string x.text, .int .i64 x.place, .bool x.blank] 52)).alloc (by have := hb.size; simp; omega) (.cells #[.int .i64 y.kind, .string y.text, .int .i64 y.place, .bool y.blank] 52)).trans (hb1.mono (by have := hb.size; simp; omega))
     go_wp2
     go_ret
     exact ⟨ret_bool (sameAll_not k EX.out EY.out hS).symm, hB1⟩
    ·rintro e w1 ⟨rfl, hb1⟩
     have hB1 := ((hb.alloc hb.size (.cells #[.int .i64 x.kind, .string x.text, .int .i64 x.place, .bool x.blank] 52)).alloc (by have := hb.size; simp; omega) (.cells #[.int .i64 y.kind, .string y.text, .int .i64 y.place, .bool y.blank] 52)).trans (hb1.mono (by have := hb.size; simp; omega))
     go_wp2
     go_roundw
     case rel => exact ⟨k + 1, by omega, by go_num, hB1, hidOf fun j x' y' h1 h2 h3 => by
      by_cases e : j = k
      ·subst e
       have e1 := EX.out
       have e2 := EY.out
       rw [h2] at e1
       rw [h3] at e2
       cases e1
       cases e2
       exact hS
      ·exact HA.out j x' y' (by omega) h2 h3⟩
     case measure => simp [intOf]; omega
   ·go_wp2
    go_ret
    exact ⟨ret_bool (sameAll_yes HL.out (fun j x y h2 h3 => HA.out j x y (by have := (List.getElem?_eq_some_iff.1 h2).1; rw [← HN.out] at this; omega) h2 h3)).symm, hb⟩
 ·have hne : ((xs.length : Int) == (ys.length : Int)) = false := by rw [beq_eq_false_iff_ne]; omega
  have HL := hidOf hl
  clear hl h1 h2
  go_enter Tryz.func96, Tryz.ntmps96
  go_wp2
  go_ret
  exact ⟨ret_bool (sameAll_len HL.out).symm, Below.refl _ _⟩

set_option maxHeartbeats 1600000 in
theorem iSame_any (v1 v2 : Value) (xs ys : List Sg) (w : World) (hx : xs.length ≤ 4611686018427387904) (hy : ys.length ≤ 4611686018427387904) (h1 : SgsAt w v1 xs) (h2 : SgsAt w v2 ys) :
  Calls Tryz.prog 78 #[v1, v2] w fun e w' => e = .returned (.bool (sameAll xs ys)) ∧ Below w.heap.size w w' := by
 have hE := eqFunc_any v1 v2 xs ys w hx hy h1 h2
 obtain ⟨a1, c1, rfl, h1⟩ := h1
 obtain ⟨a2, c2, rfl, h2⟩ := h2
 clear h1 h2
 go_enter Tryz.func78, Tryz.ntmps78
 go_wp2_with fail
 refine hE.mono ?_
 rintro e w1 ⟨rfl, hb1⟩
 go_wp2
 go_ret
 exact ⟨rfl, hb1⟩
end Go.Proofs.YtdlpepmdjbmmmaaGreatDoor
/- What spec.SameSigns answers. -/
namespace Go.Proofs.YtdlpepmdjbmmmaaGreatDoor
open Go.RowKit

set_option maxHeartbeats 4000000 in
theorem sSame_any (v1 v2 : Value) (xs ys : List Sg) (w : World) (hx0 : xs.length ≤ 4611686018427387904) (hy : ys.length ≤ 4611686018427387904) (h1 : SgsAt w v1 xs) (h2 : SgsAt w v2 ys) :
  Calls Tryz.prog 21 #[v1, v2] w fun e w' => e = .returned (.bool (sameAll xs ys)) ∧ Below w.heap.size w w' := by
 obtain ⟨a1, c1, rfl, h1⟩ := h1
 obtain ⟨a2, c2, rfl, h2⟩ := h2
 have hx := hx0
 clear hx0
 by_cases hl : xs.length = ys.length
 ·rw [← hl] at h2
  rw [← hl] at hy
  obtain ⟨n, hn⟩ : ∃ n, n = xs.length := ⟨_, rfl⟩
  rw [← hn] at h1 h2 hx hy
  rw [← hl, ← hn]
  have HN := hidOf hn
  have HL := hidOf hl
  clear hn hl
  go_enter Tryz.func21, Tryz.ntmps21
  go_wp2
  go_loopw [5] (fun i wr => ∃ k q : Nat, k ≤ n ∧ i = .int .i64 k ∧ wr = w.drewN q ∧ Hid (∀ (j : Nat) (x y : Sg), j < k → xs[j]? = some x → ys[j]? = some y → same2 x y = true)) (fun i _ => n - (intOf i).toNat)
  case atStart => exact ⟨0, 0, Nat.zero_le _, rfl, rfl, hidOf fun j x y h => by omega⟩
  case round =>
   obtain ⟨k, q, hk, rfl, rfl, HA⟩ := hrel
   by_cases hlt : k < n
   ·obtain ⟨x, ex⟩ : ∃ x, xs[k]? = some x := ⟨_, List.getElem?_eq_getElem (by rw [← HN.out]; exact hlt)⟩
    obtain ⟨y, ey⟩ : ∃ y, ys[k]? = some y := ⟨_, List.getElem?_eq_getElem (by rw [← HL.out, ← HN.out]; exact hlt)⟩
    obtain ⟨b1, o1, rfl, hb1, hc1⟩ := h1 (by omega)
    obtain ⟨b2, o2, rfl, hb2, hc2⟩ := h2 (by omega)
    obtain ⟨p0, p1, p2, p3⟩ := cells4 (w := w) (fun j hj => hc1 k x ex j hj)
    obtain ⟨q0, q1, q2, q3⟩ := cells4 (w := w) (fun j hj => hc2 k y ey j hj)
    have EX := hidOf ex
    have EY := hidOf ey
    clear ex ey hc1 hc2 h1 h2 p2 p3 q2 q3
    have hA : (0 : Int) ≤ (k : Int) := by omega
    have hB : (k : Int) < (n : Int) := by omega
    cases hk1 : (x.kind == y.kind)
    ·have hm1 : (x.kind != y.kind) = true := by simp [bne, hk1]
     go_wp2
     go_quiet (fail)
     go_wp2
     go_ret
     exact ⟨ret_bool (sameAll_not k EX.out EY.out (by simp [same2, hk1])).symm, bel_drewN (below_drewN _ _) _⟩
    ·have hm1 : (x.kind != y.kind) = false := by simp [bne, hk1]
     cases hk2 : (x.text.toList == y.text.toList)
     ·have hm2 : (x.text.toList != y.text.toList) = true := by simp [bne, hk2]
      go_wp2
      go_quiet (fail)
      go_wp2
      go_ret
      exact ⟨ret_bool (sameAll_not k EX.out EY.out (by simp [same2, hk1, hk2])).symm, bel_drewN (below_drewN _ _) _⟩
     ·have hm2 : (x.text.toList != y.text.toList) = false := by simp [bne, hk2]
      go_wp2
      go_quiet (fail)
      go_wp2
      go_roundw
      case rel => exact ⟨k + 1, q + nq, by omega, by go_num, rfl, hidOf fun j x' y' h1 h2 h3 => by
       by_cases e : j = k
       ·subst e
        have e1 := EX.out
        have e2 := EY.out
        rw [h2] at e1
        rw [h3] at e2
        cases e1
        cases e2
        simp [same2, hk1, hk2]
       ·exact HA.out j x' y' (by omega) h2 h3⟩
      case measure => simp [intOf]; omega
   ·go_wp2
    go_ret
    exact ⟨ret_bool (sameAll_yes HL.out (fun j x y h2 h3 => HA.out j x y (by have := (List.getElem?_eq_some_iff.1 h2).1; rw [← HN.out] at this; omega) h2 h3)).symm, below_drewN _ _⟩
 ·have hne : ((xs.length : Int) == (ys.length : Int)) = false := by rw [beq_eq_false_iff_ne]; omega
  have HL := hidOf hl
  clear hl h1 h2
  go_enter Tryz.func21, Tryz.ntmps21
  go_wp2
  go_ret
  exact ⟨ret_bool (sameAll_len HL.out).symm, Below.refl _ _⟩
end Go.Proofs.YtdlpepmdjbmmmaaGreatDoor
/- What impl.isMark, impl.closesAt and impl.withoutEnds answer. -/
namespace Go.Proofs.YtdlpepmdjbmmmaaGreatDoor
open Go.RowKit

theorem infoSgL : (Tryz.prog.info? 52).map (fun i => (i.zero, i.size, i.bytes)) = some (some (.agg #[.int .i64 0, .string ByteArray.empty, .int .i64 0, .bool false]), 4, 40) := by kernel_rfl
def isMk (x : Sg) (t : ByteArray) : Bool := (x.kind == 4) && (x.text.toList == t.toList)

set_option maxHeartbeats 1600000 in
theorem isMark_any (x : Sg) (t : ByteArray) (w : World) :
  Calls Tryz.prog 98 #[.agg #[.int .i64 x.kind, .string x.text, .int .i64 x.place, .bool x.blank], .string t] w fun e w' => e = .returned (.bool (isMk x t)) ∧ Below w.heap.size w w' := by
 cases hk : (x.kind == 4)
 all_goals go_enter Tryz.func98, Tryz.ntmps98
 all_goals go_wp2
 all_goals go_ret
 all_goals exact ⟨ret_bool (by simp [isMk, hk]), (Below.refl _ _).alloc (Nat.le_refl _) _⟩

theorem isMk_shut (y : Sg) : isShut y = (isMk y ⟨#[41]⟩ || isMk y ⟨#[93]⟩) := by
 unfold isShut isMk
 rw [show (⟨#[41]⟩ : ByteArray).toList = [41] by rw [ByteArray.toList_eq], show (⟨#[93]⟩ : ByteArray).toList = [93] by rw [ByteArray.toList_eq]]
 cases (y.kind == 4) <;> simp
theorem isMk_sep (y : Sg) : isSep y = isMk y ⟨#[44]⟩ := by
 unfold isSep isMk
 rw [show (⟨#[44]⟩ : ByteArray).toList = [44] by rw [ByteArray.toList_eq]]

set_option maxHeartbeats 4000000 in
theorem closes_any (v : Value) (xs : List Sg) (i : Nat) (w : World) (hn0 : xs.length ≤ 1048576) (hi : i ≤ 1048577) (hT : SgsAt w v xs) :
  Calls Tryz.prog 99 #[v, .int .i64 i] w fun e w' => e = .returned (.bool (shutAt xs i)) ∧ Below w.heap.size w w' := by
 obtain ⟨a, c, rfl, h⟩ := hT
 by_cases hlt : i < xs.length
 ·obtain ⟨y, ey⟩ : ∃ y, xs[i]? = some y := ⟨_, List.getElem?_eq_getElem hlt⟩
  obtain ⟨b1, o1, rfl, hb1, hc1⟩ := h (by omega)
  have hs : shutAt xs i = (isMk y ⟨#[41]⟩ || isMk y ⟨#[93]⟩) := by unfold shutAt; rw [ey]; exact isMk_shut y
  have hq : ∀ wr : World, Below w.heap.size w wr → wr.cell? ⟨b1, o1 + i * 4, none⟩ = some (.int .i64 y.kind) ∧ wr.cell? ⟨b1, o1 + i * 4 + 1, none⟩ = some (.string y.text) ∧ wr.cell? ⟨b1, o1 + i * 4 + 2, none⟩ = some (.int .i64 y.place) ∧ wr.cell? ⟨b1, o1 + i * 4 + 3, none⟩ = some (.bool y.blank) := fun wr hb => cells4 (w := wr) (fun j hj => by rw [hb.cell hb1]; exact hc1 i y ey j hj)
  obtain ⟨p0, p1, p2, p3⟩ := hq w (Below.refl _ _)
  rw [hs]
  have HQ := hidOf hq
  clear ey hc1 h hs hq
  have hA : (0 : Int) ≤ (i : Int) := by omega
  have hB : (i : Int) < (xs.length : Int) := by omega
  clear HQ
  cases hk : (y.kind == 4) <;> cases h1 : (y.text.toList == [41]) <;> cases h2 : (y.text.toList == [93])
  all_goals go_enter Tryz.func99, Tryz.ntmps99
  all_goals go_wp2
  all_goals go_ret
  all_goals refine ⟨ret_bool ?_, ?_⟩
  all_goals first
   | exact (Below.refl _ _).alloc (Nat.le_refl _) _
   | exact ((Below.refl _ _).alloc (Nat.le_refl _) _).alloc (by simp) _
   | skip
  all_goals simp_all [isMk, ByteArray.toList_eq]
 ·have hs : shutAt xs i = false := by unfold shutAt; rw [List.getElem?_eq_none (by omega)]
  rw [hs]
  clear h hs
  have hB : ¬ ((i : Int) < (xs.length : Int)) := by omega
  go_enter Tryz.func99, Tryz.ntmps99
  go_wp2
  go_ret
  exact ⟨rfl, Below.refl _ _⟩
end Go.Proofs.YtdlpepmdjbmmmaaGreatDoor
/- What impl.withoutEnds answers. -/
namespace Go.Proofs.YtdlpepmdjbmmmaaGreatDoor
open Go.RowKit

theorem cells_newJ (w : World) (c : Array Value) (T : Nat) : ∀ j u, c.toList[j]? = some u → (w.alloc (.cells c T)).cell? ((⟨w.heap.size, 0, none⟩ : Addr).add j) = some u := by
 intro j u h
 have e : (⟨w.heap.size, 0, none⟩ : Addr).add j = ⟨w.heap.size, j, none⟩ := by unfold Addr.add; split <;> simp_all
 rw [e, World.cell?_alloc_new]
 simpa using h
theorem sgCells_oneJ (x : Sg) : ∀ u ∈ sgCells x, u.oneCell' = true := by
 intro u hu
 simp [sgCells] at hu
 rcases hu with rfl | rfl | rfl | rfl <;> rfl
/-- The four cells of a sign that was boxed, later on. -/
theorem boxed4 {w w' : World} {x : Sg} {T : Nat} (hb : Below (w.heap.size + 1) (w.alloc (.cells #[.int .i64 x.kind, .string x.text, .int .i64 x.place, .bool x.blank] T)) w') :
  w'.cell? ⟨w.heap.size, 0, none⟩ = some (.int .i64 x.kind) ∧ w'.cell? ⟨w.heap.size, 1, none⟩ = some (.string x.text) ∧ w'.cell? ⟨w.heap.size, 2, none⟩ = some (.int .i64 x.place) ∧ w'.cell? ⟨w.heap.size, 3, none⟩ = some (.bool x.blank) := by
 refine ⟨?_, ?_, ?_, ?_⟩ <;> rw [hb.cell (by simp), World.cell?_alloc_new] <;> rfl

set_option maxHeartbeats 4000000 in
set_option maxRecDepth 20000 in
theorem iLef_any (v : Value) (xs : List Sg) (w : World) (hn0 : xs.length ≤ 1048576) (hT : SgsAt w v xs) :
  Calls Tryz.prog 79 #[v] w fun e w' => SgsAns (lefF xs) 52 w e w' := by
 obtain ⟨i0, hi, hz0, hz1, hz2⟩ := info_parts infoSgL
 have hT0 := hT
 obtain ⟨a, c, rfl, h⟩ := hT
 obtain ⟨n, hn⟩ : ∃ n, n = xs.length := ⟨_, rfl⟩
 rw [← hn] at h hT0 hn0 ⊢
 have HN := hidOf hn
 have HT := hidOf hT0
 clear hT0 hn
 go_enter Tryz.func79, Tryz.ntmps79
 go_wp2
 go_loopw [3, 9] (fun v i wr => ∃ (k : Nat) (os : List Sg), k ≤ n ∧ i = .int .i64 k ∧ os.length ≤ k ∧ Hid (os ++ lefF (xs.drop k) = lefF xs) ∧ wr.ownsRow w.heap.size 52 4 v os.length (sgVals os) ∧ Below w.heap.size w wr)
  (fun _ i _ => n - (intOf i).toNat)
 case atStart => exact ⟨0, [], by omega, rfl, by simp, rfl, World.ownsRow_made w #[] 0 (Nat.le_refl _) (by decide) rfl, (Below.refl _ w).alloc (Nat.le_refl _) _⟩
 case round =>
  obtain ⟨k, os, hk, rfl, hol, HI, hown, hb⟩ := hrel
  obtain ⟨ao, cv, rfl⟩ := owns_slice hown
  have hsz := hb.size
  by_cases hlt : k < n
  ·obtain ⟨x, ex⟩ : ∃ x, xs[k]? = some x := ⟨_, List.getElem?_eq_getElem (by rw [← HN.out]; exact hlt)⟩
   obtain ⟨b1, o1, rfl, hb1, hc1⟩ := h (by omega)
   obtain ⟨p0, p1, p2, p3⟩ := cells4 (w := wr) (fun j hj => by rw [hb.cell hb1]; exact hc1 k x ex j hj)
   have EX := hidOf ex
   clear ex hc1 h
   have hA : (0 : Int) ≤ (k : Int) := by omega
   have hB : (k : Int) < (n : Int) := by omega
   have hsep := isMk_sep x
   go_wp2_with fail
   refine (isMark_any x ⟨#[44]⟩ _).mono ?_
   rw [← hsep]
   rintro e w2 ⟨rfl, hb2⟩
   rw [World.size_alloc] at hb2
   obtain ⟨r0, r1, r2, r3⟩ := boxed4 hb2
   have hB2 := (hb.alloc hb.size (.cells #[.int .i64 x.kind, .string x.text, .int .i64 x.place, .bool x.blank] 52)).trans (hb2.mono (by omega))
   have ho2 := owns_below (hown.alloc (.cells #[.int .i64 x.kind, .string x.text, .int .i64 x.place, .bool x.blank] 52)) (by rw [World.size_alloc]; exact hb2)
   have hs2 := hB2.size
   have hs3 := hb2.size
   rw [World.size_alloc] at hs3
   clear hown hsep p0 p1 p2 p3
   cases hS : isSep x
   ·go_wp2_with (at_builtin; refine wpList_append_own _ rfl _ _ 27 rfl w.heap.size 52 i0 _ 4 40 Tryz.underlying27 hi hz0 hz1 hz2 rfl (by decide) (.slice ao os.length cv) os.length (sgVals os) rfl (ho2.alloc _) ⟨w2.heap.size, 0, none⟩ 1 1 (sgCells x) rfl rfl (cells_newJ _ _ _) (sgCells_oneJ _) (by unfold maxLen; omega) (by omega) (by simp; omega) ?_; intro v' w5 hown' hgrow5 hnil5)
    clear hnil5
    go_roundw
    case rel => exact ⟨k + 1, os ++ [x], by omega, by go_num, by simp; omega, hidOf (lef_in EX.out (by rw [hS]; rfl) HI.out), by rw [List.length_append, sgVals_app]; exact hown', (hB2.alloc (by omega) _).grown hgrow5 (by simp; omega) (fun q hq => (ho2.lt q hq).1)⟩
    case measure => simp [intOf]; omega
   ·go_wp2_with fail
    rw [show ((k : Int) + 1) = ((k + 1 : Nat) : Int) by omega]
    refine (closes_any _ xs (k + 1) _ (by rw [← HN.out]; omega) (by omega) (HT.out.below hB2)).mono ?_
    rintro e w3 ⟨rfl, hb3⟩
    have hb3' := hb3.mono (show wr.heap.size + 1 ≤ w2.heap.size by omega)
    obtain ⟨r0, r1, r2, r3⟩ := boxed4 (hb2.trans hb3')
    have hB3 := hB2.trans (hb3.mono hs2)
    have ho3 := owns_below ho2 hb3
    have hs3' := hB3.size
    clear ho2
    cases hC : shutAt xs (k + 1)
    ·go_wp2_with (at_builtin; refine wpList_append_own _ rfl _ _ 27 rfl w.heap.size 52 i0 _ 4 40 Tryz.underlying27 hi hz0 hz1 hz2 rfl (by decide) (.slice ao os.length cv) os.length (sgVals os) rfl (ho3.alloc _) ⟨w3.heap.size, 0, none⟩ 1 1 (sgCells x) rfl rfl (cells_newJ _ _ _) (sgCells_oneJ _) (by unfold maxLen; omega) (by omega) (by simp; omega) ?_; intro v' w5 hown' hgrow5 hnil5)
     clear hnil5
     go_roundw
     case rel => exact ⟨k + 1, os ++ [x], by omega, by go_num, by simp; omega, hidOf (lef_in EX.out (by rw [hC, Bool.and_false]) HI.out), by rw [List.length_append, sgVals_app]; exact hown', (hB3.alloc (by omega) _).grown hgrow5 (by simp; omega) (fun q hq => (ho3.lt q hq).1)⟩
     case measure => simp [intOf]; omega
    ·go_wp2
     go_roundw
     case rel => exact ⟨k + 1, os, by omega, by go_num, by omega, hidOf (lef_out EX.out hS hC HI.out), ho3, hB3⟩
     case measure => simp [intOf]; omega
  ·go_wp2
   go_ret
   exact ⟨hb, _, rfl, by rw [lef_end (by have := HN.out; omega) HI.out]; exact hown⟩
end Go.Proofs.YtdlpepmdjbmmmaaGreatDoor
