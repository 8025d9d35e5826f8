/- What spec.l07Left answers. -/
import Derived.Test.YtdlpepmdjbmmmaaGreatDoorKay
import Derived.Test.YtdlpepmdjbmmmaaGreatDoorKaa
import Derived.Deep.RegionLaw
import Derived.Test.YtdlpepmdjbmmmaaGreatDoorKaw
import Derived.Test.YtdlpepmdjbmmmaaGreatDoorKax
import Derived.Test.YtdlpepmdjbmmmaaGreatDoorKaf
import Derived.Test.YtdlpepmdjbmmmaaGreatDoorKau
import Derived.Deep.RegionHeld3
import Derived.Laws.EntriesVeiled
namespace Go.Proofs.YtdlpepmdjbmmmaaGreatDoor
open Go.RowKit

theorem shut_none {xs : List Sg} {k : Nat} (h : xs.length ≤ k) : shutAt xs k = false := by unfold shutAt; rw [List.getElem?_eq_none h]
theorem shut_some {xs : List Sg} {k : Nat} {y : Sg} (h : xs[k]? = some y) : shutAt xs k = isShut y := by unfold shutAt; rw [h]

set_option maxHeartbeats 8000000 in
set_option maxRecDepth 20000 in
theorem sLef_any (v : Value) (xs : List Sg) (w : World) (hn0 : xs.length ≤ 1048576) (hT : SgsAt w v xs) :
  Calls Tryz.prog 22 #[v] w fun e w' => SgsAns (lefF xs) 52 w e w' := by
 obtain ⟨i0, hi, hz0, hz1, hz2⟩ := info_parts infoSgL
 obtain ⟨a, c, rfl, h⟩ := hT
 obtain ⟨n, hn⟩ : ∃ n, n = xs.length := ⟨_, rfl⟩
 rw [← hn] at h hn0 ⊢
 have HN := hidOf hn
 clear hn
 go_enter Tryz.func22, Tryz.ntmps22
 go_wp2
 go_loopw [3, 4] (fun v i wr => ∃ (k : Nat) (os : List Sg), k ≤ n ∧ i = .int .i64 k ∧ os.length ≤ k ∧ Hid (os ++ lefF (xs.drop k) = lefF xs) ∧ wr.ownsRow w.heap.size 52 4 v os.length (sgVals os) ∧ Below w.heap.size w wr)
  (fun _ i _ => n - (intOf i).toNat)
 case atStart => exact ⟨0, [], by omega, rfl, by simp, rfl, World.ownsRow_made w #[] 0 (Nat.le_refl _) (by decide) rfl, (Below.refl _ w).alloc (Nat.le_refl _) _⟩
 case round =>
  obtain ⟨k, os, hk, rfl, hol, HI, hown, hb⟩ := hrel
  obtain ⟨ao, cv, rfl⟩ := owns_slice hown
  have hsz := hb.size
  by_cases hlt : k < n
  ·obtain ⟨x, ex⟩ : ∃ x, xs[k]? = some x := ⟨_, List.getElem?_eq_getElem (by rw [← HN.out]; exact hlt)⟩
   obtain ⟨b1, o1, rfl, hb1, hc1⟩ := h (by omega)
   obtain ⟨p0, p1, p2, p3⟩ := cells4 (w := wr) (fun j hj => by rw [hb.cell hb1]; exact hc1 k x ex j hj)
   have EX := hidOf ex
   have HC := hidOf hc1
   clear ex hc1 h
   have hA : (0 : Int) ≤ (k : Int) := by omega
   have hB : (k : Int) < (n : Int) := by omega
   cases h4 : (x.kind == 4)
   ·go_wp2_with (at_builtin; refine wpList_append_own _ rfl _ _ 27 rfl w.heap.size 52 i0 _ 4 40 Tryz.underlying27 hi hz0 hz1 hz2 rfl (by decide) (.slice ao os.length cv) os.length (sgVals os) rfl (hown.alloc _) ⟨wr.heap.size, 0, none⟩ 1 1 (sgCells x) rfl rfl (cells_newJ _ _ _) (sgCells_oneJ _) (by unfold maxLen; omega) (by omega) (by simp; omega) ?_; intro v' w5 hown' hgrow5 hnil5)
    clear hnil5
    go_roundw
    case rel => exact ⟨k + 1, os ++ [x], by omega, by go_num, by simp; omega, hidOf (lef_in EX.out (by simp [isSep, h4]) HI.out), by rw [List.length_append, sgVals_app]; exact hown', (hb.alloc (by omega) _).grown hgrow5 (by simp; omega) (fun q hq => (hown.lt q hq).1)⟩
    case measure => simp [intOf]; omega
   ·cases h44 : (x.text.toList == [44])
    ·go_wp2_with (at_builtin; refine wpList_append_own _ rfl _ _ 27 rfl w.heap.size 52 i0 _ 4 40 Tryz.underlying27 hi hz0 hz1 hz2 rfl (by decide) (.slice ao os.length cv) os.length (sgVals os) rfl (hown.alloc _) ⟨wr.heap.size, 0, none⟩ 1 1 (sgCells x) rfl rfl (cells_newJ _ _ _) (sgCells_oneJ _) (by unfold maxLen; omega) (by omega) (by simp; omega) ?_; intro v' w5 hown' hgrow5 hnil5)
     clear hnil5
     go_roundw
     case rel => exact ⟨k + 1, os ++ [x], by omega, by go_num, by simp; omega, hidOf (lef_in EX.out (by simp [isSep, h44]) HI.out), by rw [List.length_append, sgVals_app]; exact hown', (hb.alloc (by omega) _).grown hgrow5 (by simp; omega) (fun q hq => (hown.lt q hq).1)⟩
     case measure => simp [intOf]; omega
    ·by_cases hl1 : k + 1 < n
     ·obtain ⟨y, ey⟩ : ∃ y, xs[k + 1]? = some y := ⟨_, List.getElem?_eq_getElem (by rw [← HN.out]; exact hl1)⟩
      obtain ⟨q0, q1, q2, q3⟩ := cells4 (w := wr) (fun j hj => by rw [hb.cell hb1]; exact HC.out (k + 1) y ey j hj)
      have EY := hidOf (shut_some ey)
      clear ey q2 q3
      have hA1 : (0 : Int) ≤ (k : Int) + 1 := by omega
      have hB1 : (k : Int) + 1 < (n : Int) := by omega
      cases g4 : (y.kind == 4)
      ·go_wp2_with (at_builtin; refine wpList_append_own _ rfl _ _ 27 rfl w.heap.size 52 i0 _ 4 40 Tryz.underlying27 hi hz0 hz1 hz2 rfl (by decide) (.slice ao os.length cv) os.length (sgVals os) rfl (hown.alloc _) ⟨wr.heap.size, 0, none⟩ 1 1 (sgCells x) rfl rfl (cells_newJ _ _ _) (sgCells_oneJ _) (by unfold maxLen; omega) (by omega) (by simp; omega) ?_; intro v' w5 hown' hgrow5 hnil5)
       clear hnil5
       go_roundw
       case rel => exact ⟨k + 1, os ++ [x], by omega, by go_num, by simp; omega, hidOf (lef_in EX.out (by rw [EY.out]; simp [isShut, g4]) HI.out), by rw [List.length_append, sgVals_app]; exact hown', (hb.alloc (by omega) _).grown hgrow5 (by simp; omega) (fun q hq => (hown.lt q hq).1)⟩
       case measure => simp [intOf]; omega
      ·cases g41 : (y.text.toList == [41])
       ·cases g93 : (y.text.toList == [93])
        ·go_wp2_with (at_builtin; refine wpList_append_own _ rfl _ _ 27 rfl w.heap.size 52 i0 _ 4 40 Tryz.underlying27 hi hz0 hz1 hz2 rfl (by decide) (.slice ao os.length cv) os.length (sgVals os) rfl (hown.alloc _) ⟨wr.heap.size, 0, none⟩ 1 1 (sgCells x) rfl rfl (cells_newJ _ _ _) (sgCells_oneJ _) (by unfold maxLen; omega) (by omega) (by simp; omega) ?_; intro v' w5 hown' hgrow5 hnil5)
         clear hnil5
         go_roundw
         case rel => exact ⟨k + 1, os ++ [x], by omega, by go_num, by simp; omega, hidOf (lef_in EX.out (by rw [EY.out]; simp [isShut, g41, g93]) HI.out), by rw [List.length_append, sgVals_app]; exact hown', (hb.alloc (by omega) _).grown hgrow5 (by simp; omega) (fun q hq => (hown.lt q hq).1)⟩
         case measure => simp [intOf]; omega
        ·go_wp2
         go_roundw
         case rel => exact ⟨k + 1, os, by omega, by go_num, by omega, hidOf (lef_out EX.out (by simp [isSep, h4, h44]) (by rw [EY.out]; simp [isShut, g4, g41, g93]) HI.out), hown, hb⟩
         case measure => simp [intOf]; omega
       ·go_wp2
        go_roundw
        case rel => exact ⟨k + 1, os, by omega, by go_num, by omega, hidOf (lef_out EX.out (by simp [isSep, h4, h44]) (by rw [EY.out]; simp [isShut, g4, g41]) HI.out), hown, hb⟩
        case measure => simp [intOf]; omega
     ·have hB1 : ¬ ((k : Int) + 1 < (n : Int)) := by omega
      go_wp2_with (at_builtin; refine wpList_append_own _ rfl _ _ 27 rfl w.heap.size 52 i0 _ 4 40 Tryz.underlying27 hi hz0 hz1 hz2 rfl (by decide) (.slice ao os.length cv) os.length (sgVals os) rfl (hown.alloc _) ⟨wr.heap.size, 0, none⟩ 1 1 (sgCells x) rfl rfl (cells_newJ _ _ _) (sgCells_oneJ _) (by unfold maxLen; omega) (by omega) (by simp; omega) ?_; intro v' w5 hown' hgrow5 hnil5)
      clear hnil5
      go_roundw
      case rel => exact ⟨k + 1, os ++ [x], by omega, by go_num, by simp; omega, hidOf (lef_in EX.out (by rw [shut_none (by have := HN.out; omega), Bool.and_false]) HI.out), by rw [List.length_append, sgVals_app]; exact hown', (hb.alloc (by omega) _).grown hgrow5 (by simp; omega) (fun q hq => (hown.lt q hq).1)⟩
      case measure => simp [intOf]; omega
  ·go_wp2
   go_ret
   exact ⟨hb, _, rfl, by rw [lef_end (by have := HN.out; omega) HI.out]; exact hown⟩
end Go.Proofs.YtdlpepmdjbmmmaaGreatDoor
/- What impl.SameWords and spec.SameWords answer. -/
namespace Go.Proofs.YtdlpepmdjbmmmaaGreatDoor
open Go.RowKit

theorem SgsAns.at {xs : List Sg} {e0 : Nat} {w : World} {e : Ending} {w' : World} (h : SgsAns xs e0 w e w') : ∃ a c, e = .returned (.slice a xs.length c) ∧ SgsAt w' (.slice a xs.length c) xs ∧ Below w.heap.size w w' := by
 obtain ⟨hb, v, rfl, ho⟩ := h
 obtain ⟨a, c, rfl⟩ := owns_slice ho
 exact ⟨a, c, rfl, .of_own ho, hb⟩
def sameW (xs ys : List Sg) : Bool := sameAll (lefF xs) (lefF ys)

set_option maxHeartbeats 4000000 in
theorem iWords_any (v1 v2 : Value) (xs ys : List Sg) (w : World) (hx : xs.length ≤ 1048576) (hy : ys.length ≤ 1048576) (h1 : SgsAt w v1 xs) (h2 : SgsAt w v2 ys) :
  Calls Tryz.prog 53 #[v1, v2] w fun e w' => e = .returned (.bool (sameW xs ys)) ∧ Below w.heap.size w w' := by
 have l1 := lef_len xs
 have l2 := lef_len ys
 have k1 := h1
 have k2 := h2
 obtain ⟨a1, c1, rfl, -⟩ := h1
 obtain ⟨a2, c2, rfl, -⟩ := h2
 go_enter Tryz.func53, Tryz.ntmps53
 go_wp2_with fail
 refine (iLef_any _ xs _ hx k1).mono ?_
 intro e w1 h1
 obtain ⟨a3, c3, rfl, A1, hb1⟩ := h1.at
 clear h1
 go_wp2_with fail
 refine (iLef_any _ ys _ hy (k2.below hb1)).mono ?_
 intro e w2 h2
 obtain ⟨a4, c4, rfl, A2, hb2⟩ := h2.at
 clear h2
 have B2 := hb1.trans (hb2.mono hb1.size)
 go_wp2_with fail
 refine (iSame_any _ _ (lefF xs) (lefF ys) _ (by omega) (by omega) (A1.below hb2) A2).mono ?_
 rintro e w3 ⟨rfl, hb3⟩
 go_wp2
 go_ret
 exact ⟨rfl, B2.trans (hb3.mono B2.size)⟩

set_option maxHeartbeats 4000000 in
theorem sWords_any (v1 v2 : Value) (xs ys : List Sg) (w : World) (hx : xs.length ≤ 1048576) (hy : ys.length ≤ 1048576) (h1 : SgsAt w v1 xs) (h2 : SgsAt w v2 ys) :
  Calls Tryz.prog 9 #[v1, v2] w fun e w' => e = .returned (.bool (sameW xs ys)) ∧ Below w.heap.size w w' := by
 have l1 := lef_len xs
 have l2 := lef_len ys
 have k1 := h1
 have k2 := h2
 obtain ⟨a1, c1, rfl, -⟩ := h1
 obtain ⟨a2, c2, rfl, -⟩ := h2
 go_enter Tryz.func9, Tryz.ntmps9
 go_wp2_with fail
 refine (sLef_any _ xs _ hx k1).mono ?_
 intro e w1 h1
 obtain ⟨a3, c3, rfl, A1, hb1⟩ := h1.at
 clear h1
 go_wp2_with fail
 refine (sLef_any _ ys _ hy (k2.below hb1)).mono ?_
 intro e w2 h2
 obtain ⟨a4, c4, rfl, A2, hb2⟩ := h2.at
 clear h2
 have B2 := hb1.trans (hb2.mono hb1.size)
 go_wp2_with fail
 refine (sSame_any _ _ (lefF xs) (lefF ys) _ (by omega) (by omega) (A1.below hb2) A2).mono ?_
 rintro e w3 ⟨rfl, hb3⟩
 go_wp2
 go_ret
 exact ⟨rfl, B2.trans (hb3.mono B2.size)⟩
end Go.Proofs.YtdlpepmdjbmmmaaGreatDoor
/- A call of a Go function as one step of a region that draws its order. -/
namespace Go.Proofs.YtdlpepmdjbmmmaaGreatDoor
open Go.RowKit

end Go.Proofs.YtdlpepmdjbmmmaaGreatDoor
/- A source held against what has become of it: impl.readingOf and the three truths. -/
namespace Go.Proofs.YtdlpepmdjbmmmaaGreatDoor
open Go.RowKit

/-- What a source is read as, in memory. -/
structure Rdg (w : World) (t : ByteArray) (na : Option Addr) (nl nc : Nat) (sa : Option Addr) (sl sc : Nat) : Prop where
 nodes : NdsAt w (.slice na nl nc) (nodesOf t)
 signs : SgsAt w (.slice sa sl sc) (sgn t).1
theorem Rdg.below {w w' : World} {t : ByteArray} {na : Option Addr} {nl nc : Nat} {sa : Option Addr} {sl sc : Nat} (h : Rdg w t na nl nc sa sl sc) (hb : Below w.heap.size w w') : Rdg w' t na nl nc sa sl sc := ⟨h.nodes.below hb, h.signs.below hb⟩
/-- A source that is read has few nodes, each of few Kids. -/
theorem read_few {t : ByteArray} (h : ReadOk t) : (nodesOf t).length ≤ 300 ∧ KidsFew (nodesOf t) := by
 obtain ⟨_, k, s, h2, h3⟩ := h
 rw [nodesOf_yes h2]
 refine ⟨h3.most, fun x hx => ?_⟩
 obtain ⟨j, hj⟩ := List.mem_iff_getElem?.1 hx
 have := cnt_12 (hasD_node h3.deep (List.getElem?_eq_some_iff.1 hj).1 hj).cnt
 omega
theorem sgn_few (t : ByteArray) : (sgn t).1.length ≤ 3000 ∧ ∀ (j : Nat) (x : Sg), (sgn t).1[j]? = some x → x.text.size ≤ 1048576 :=
 ⟨(sgn_ok t).2, fun _ x hx => by have := ((sgn_ok t).1 x (List.mem_of_getElem? hx)).few; omega⟩
/-- An answer of readingOf. -/
def RgAns (t : ByteArray) (w : World) (e : Ending) (w' : World) : Prop :=
 Below w.heap.size w w' ∧ ∃ (na : Option Addr) (nl nc : Nat) (sa : Option Addr) (sl sc : Nat) (b : Bool), e = .returned (.tuple #[.agg #[.slice na nl nc, .slice sa sl sc], .bool b]) ∧ (b = true ↔ ReadOk t) ∧ (b = true → Rdg w' t na nl nc sa sl sc)
theorem two_setR {w W : World} {g : Nat} {T : TypeId} {a b : Value} (k l : Value) (hb : Below w.heap.size w W) (hg : w.heap.size ≤ g) (hf : W.heap[g]? = some (.cells #[a, b] T (0, 0))) :
  ((W.setCell ⟨g, 0, none⟩ k).setCell ⟨g, 1, none⟩ l).heap[g]? = some (.cells #[k, l] T (0, 0)) ∧ Below w.heap.size w ((W.setCell ⟨g, 0, none⟩ k).setCell ⟨g, 1, none⟩ l) := by
 have s1 := heap_setCell_same W g 0 _ _ k hf
 have s2 := heap_setCell_same _ g 1 _ _ l s1
 refine ⟨by simpa using s2, ?_⟩
 exact (hb.setCell (by simpa using hg) _).setCell (by simpa using hg) _
theorem two_grownR (w : World) (R : Nat) (u v : Value) : w.grownBy ((w.setCell ⟨R, 0, none⟩ u).setCell ⟨R, 1, none⟩ v) (some R) :=
 ⟨rfl, rfl, rfl, by simp, fun k _ hk => (heap_setCell_other _ ⟨R, 1, none⟩ k _ (fun e => hk (by simp [e]))).trans (heap_setCell_other _ ⟨R, 0, none⟩ k _ (fun e => hk (by simp [e])))⟩

set_option maxHeartbeats 4000000 in
theorem iReading_any (t : ByteArray) (w : World) (hs : t.size ≤ 4194304) : Calls Tryz.prog 12 #[.string t] w (RgAns t w) := by
 go_enter Tryz.func12, Tryz.ntmps12
 go_wp2_with fail
 refine (iRead_any t _ hs).mono ?_
 rintro e w1 ⟨na, nc, qs, pl, b, rfl, hN, hb1, hB, hT, hE⟩
 have hs1 := hb1.size
 have F1 : w1.heap[w.heap.size]? = some (.cells #[.slice none 0 0, .slice none 0 0] 35 (0, 0)) := (hb1.block _ (by simp)).trans (heap_alloc_new w _)
 have hB1 : Below w.heap.size w w1 := ((Below.refl _ w).alloc (Nat.le_refl _) _).trans (hb1.mono (by simp))
 have HB := hidOf hB
 clear hB
 cases b
 ·have HF := hidOf (show ¬ ReadOk t from fun h => by have := HB.out.2 h; cases this)
  have c0 : w1.cell? ⟨w.heap.size, 0, none⟩ = some (.slice none 0 0) := cell_of_row w1 _ 0 _ _ _ F1
  have c1 : w1.cell? ⟨w.heap.size, 1, none⟩ = some (.slice none 0 0) := cell_of_row w1 _ 1 _ _ _ F1
  have f0 := frozen_of_row w1 _ 0 _ _ F1
  have f1 := frozen_of_row w1 _ 1 _ _ F1
  have HR := hidOf (two_setR (.slice none 0 0) (.slice none 0 0) hB1 (Nat.le_refl _) F1)
  clear F1 hN hb1 hT hE
  go_wp2
  have t0 := cell_of_row _ w.heap.size 0 _ _ _ HR.out.1
  have t1 := cell_of_row _ w.heap.size 1 _ _ _ HR.out.1
  refine bodyPost_ret (v := .tuple #[.agg #[.slice none 0 0, .slice none 0 0], .bool false]) (by simp [results, Tryz.results12, go_sem, t0, t1]) rfl ?_
  exact ⟨HR.out.2, none, 0, 0, none, 0, 0, false, rfl, ⟨(fun e => by cases e), fun h => absurd h HF.out⟩, fun e => by cases e⟩
 ·have hR : ReadOk t := HB.out.1 rfl
  have HRK := hidOf hR
  have hTq := hT rfl
  have HQ := hidOf hTq
  clear hR hT hE hTq HB
  go_wp2_with fail
  refine (iSigns_any t w1 hs).mono ?_
  rintro e w2 ⟨hb2, v, rfl, ho⟩
  obtain ⟨sa, sc, rfl⟩ := owns_slice ho
  have hlt : w.heap.size < w1.heap.size := by simp at hs1; omega
  have F2 := (hb2.block _ hlt).trans F1
  have hB2 := hB1.trans (hb2.mono hB1.size)
  have hs2 := hb2.size
  have c0 : w2.cell? ⟨w.heap.size, 0, none⟩ = some (.slice none 0 0) := cell_of_row w2 _ 0 _ _ _ F2
  have c1 : w2.cell? ⟨w.heap.size, 1, none⟩ = some (.slice none 0 0) := cell_of_row w2 _ 1 _ _ _ F2
  have f0 := frozen_of_row w2 _ 0 _ _ F2
  have f1 := frozen_of_row w2 _ 1 _ _ F2
  have HR := hidOf (two_setR (.slice na qs.length nc) (.slice sa (sgn t).1.length sc) hB2 (Nat.le_refl _) F2)
  have G := two_grownR w2 w.heap.size (.slice na qs.length nc) (.slice sa (sgn t).1.length sc)
  have HD : Hid (Rdg ((w2.setCell ⟨w.heap.size, 0, none⟩ (.slice na qs.length nc)).setCell ⟨w.heap.size, 1, none⟩ (.slice sa (sgn t).1.length sc)) t na qs.length nc sa (sgn t).1.length sc) := by
   have hN2 := hN.below hb2
   have hN3 : Nds ((w2.setCell ⟨w.heap.size, 0, none⟩ (.slice na qs.length nc)).setCell ⟨w.heap.size, 1, none⟩ (.slice sa (sgn t).1.length sc)) (w.alloc (.cells #[.slice none 0 0, .slice none 0 0] 35)).heap.size na nc qs := by
    refine ⟨World.ownsRow.kept hN2.row G ?_, fun q hq => World.ownsRow.kept (hN2.each q hq) G ?_⟩
    ·cases hv : (Value.slice na qs.length nc).ownBlock with
     | none => exact .inl rfl
     | some g => right; intro e; have e := Option.some.inj e; have := (hN2.row.lt g hv).1; simp at this; omega
    ·cases hv : (Value.slice q.a q.nd.kids.length q.c).ownBlock with
     | none => exact .inl rfl
     | some g => right; intro e; have e := Option.some.inj e; have := ((hN2.each q hq).lt g hv).1; simp at this; omega
   have hA3 := hN3.at
   rw [HQ.out] at hA3
   refine hidOf ⟨hA3, SgsAt.of_own (World.ownsRow.kept ho G ?_)⟩
   cases hv : (Value.slice sa (sgn t).1.length sc).ownBlock with
   | none => exact .inl rfl
   | some g => right; intro e; have e := Option.some.inj e; have := (ho.lt g hv).1; omega
  clear F1 F2 hN hb1 hb2 ho G
  go_wp2
  have t0 := cell_of_row _ w.heap.size 0 _ _ _ HR.out.1
  have t1 := cell_of_row _ w.heap.size 1 _ _ _ HR.out.1
  refine bodyPost_ret (v := .tuple #[.agg #[.slice na qs.length nc, .slice sa (sgn t).1.length sc], .bool true]) (by simp [results, Tryz.results12, go_sem, t0, t1]) rfl ?_
  exact ⟨HR.out.2, na, qs.length, nc, sa, (sgn t).1.length, sc, true, rfl, ⟨fun _ => HRK.out, fun _ => rfl⟩, fun _ => HD.out⟩

/-- A source and what has become of it, as a value. -/
abbrev rwV (na : Option Addr) (nl nc : Nat) (sa : Option Addr) (sl sc : Nat) (nb : Option Addr) (ml mc : Nat) (sb : Option Addr) (rl rc : Nat) : Value := .agg #[.slice na nl nc, .slice sa sl sc, .slice nb ml mc, .slice sb rl rc]
section
variable (t u : ByteArray) (na : Option Addr) (nl nc : Nat) (sa : Option Addr) (sl sc : Nat) (nb : Option Addr) (ml mc : Nat) (sb : Option Addr) (rl rc : Nat)
set_option maxHeartbeats 3000000 in
theorem iKTree (w : World) (h1 : ReadOk t) (h2 : ReadOk u) (d1 : Rdg w t na nl nc sa sl sc) (d2 : Rdg w u nb ml mc sb rl rc) :
  Calls Tryz.prog 25 #[rwV na nl nc sa sl sc nb ml mc sb rl rc] w fun e w' => e = .returned (.bool (sameNds (nodesOf t) (nodesOf u))) ∧ Below w.heap.size w w' := by
 have hb0 : Below w.heap.size w (w.alloc (.cells #[.slice na nl nc, .slice sa sl sc, .slice nb ml mc, .slice sb rl rc] 40)) := (Below.refl _ w).alloc (Nat.le_refl _) _
 have q := iTreeSame_any _ _ (nodesOf t) (nodesOf u) _ (by have := (read_few h1).1; omega) (by have := (read_few h2).1; omega) (read_few h1).2 (read_few h2).2 (d1.nodes.below hb0) (d2.nodes.below hb0)
 clear d1 d2 h1 h2
 go_enter Tryz.func25, Tryz.ntmps25
 go_wp2_with fail
 refine q.mono ?_
 rintro e w1 ⟨rfl, hb1⟩
 go_wp2
 go_ret
 exact ⟨rfl, hb0.trans (hb1.mono (by simp))⟩
set_option maxHeartbeats 3000000 in
theorem iKWords (w : World) (d1 : Rdg w t na nl nc sa sl sc) (d2 : Rdg w u nb ml mc sb rl rc) :
  Calls Tryz.prog 26 #[rwV na nl nc sa sl sc nb ml mc sb rl rc] w fun e w' => e = .returned (.bool (sameW (sgn t).1 (sgn u).1)) ∧ Below w.heap.size w w' := by
 have hb0 : Below w.heap.size w (w.alloc (.cells #[.slice na nl nc, .slice sa sl sc, .slice nb ml mc, .slice sb rl rc] 40)) := (Below.refl _ w).alloc (Nat.le_refl _) _
 have q := iWords_any _ _ (sgn t).1 (sgn u).1 _ (by have := (sgn_few t).1; omega) (by have := (sgn_few u).1; omega) (d1.signs.below hb0) (d2.signs.below hb0)
 clear d1 d2
 go_enter Tryz.func26, Tryz.ntmps26
 go_wp2_with fail
 refine q.mono ?_
 rintro e w1 ⟨rfl, hb1⟩
 go_wp2
 go_ret
 exact ⟨rfl, hb0.trans (hb1.mono (by simp))⟩
end
end Go.Proofs.YtdlpepmdjbmmmaaGreatDoor
