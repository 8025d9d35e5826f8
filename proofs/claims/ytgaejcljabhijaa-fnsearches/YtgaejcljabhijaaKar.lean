/- A piece that was drawn, in memory; a right piece is drawn. -/
import Derived.Test.YtgaejcljabhijaaDrAny
import Derived.Test.YtgaejcljabhijaaDrawK
import Derived.Test.YtgaejcljabhijaaCntI
import Derived.Deep.RegionWith
import Derived.Test.YtgaejcljabhijaaProg
import Derived.Test.YtgaejcljabhijaaIntLib
import Derived.BigQuiet
import Derived.Deep.QuietTactic
import Derived.Test.YtgaejcljabhijaaKao
import Derived.Test.YtgaejcljabhijaaBestS
import Derived.Test.YtgaejcljabhijaaKaq
import Derived.Test.YtgaejcljabhijaaKak
namespace Go.Proofs.Ytgaejcljabhijaa
open Go.RowKit

/-- A piece that was drawn; what will be told lies in block R. -/
structure RX (w0 : World) (R : Nat) (w : World) (p : Pc) (l : Pl) : Prop where
  bel : Below w0.heap.size w0 w
  res : w.heap[R]? = some (.cells noCells 29 (0, 0))
  new : w0.heap.size ≤ R
  own : Own4 w0.heap.size w p l

section
variable {w0 : World} {R : Nat} {w w' : World} {p : Pc} {l : Pl}
theorem RX.cells (h : RX w0 R w p l) : w.cell? ⟨R, 0, none⟩ = some (.int .i64 0) ∧ w.cell? ⟨R, 1, none⟩ = some (.slice none 0 0) ∧ w.cell? ⟨R, 2, none⟩ = some (.slice none 0 0) ∧ w.cell? ⟨R, 3, none⟩ = some (.slice none 0 0) ∧ w.cell? ⟨R, 4, none⟩ = some (.slice none 0 0) :=
  ⟨cell_of_row w _ 0 _ _ _ h.res, cell_of_row w _ 1 _ _ _ h.res, cell_of_row w _ 2 _ _ _ h.res, cell_of_row w _ 3 _ _ _ h.res, cell_of_row w _ 4 _ _ _ h.res⟩
theorem RX.frozen (h : RX w0 R w p l) : ∀ j, w.frozen? ⟨R, j, none⟩ = false := fun j => frozen_of_row w R j _ _ h.res
theorem RX.lt (h : RX w0 R w p l) : R < w.heap.size := (Array.getElem?_eq_some_iff.1 h.res).1
theorem RX.alloc (h : RX w0 R w p l) (o : Obj) : RX w0 R (w.alloc o) p l :=
  ⟨h.bel.alloc h.bel.size _, (Below.heap_alloc w o R h.lt).trans h.res, h.new, h.own.kept (World.grownBy_alloc w o none) (fun k e => by cases e)⟩
theorem five (Q : World → Prop) (R : Nat) (hs : ∀ u j v, Q u → Q (u.setCell ⟨R, j, none⟩ v)) (h : Q w) (v0 v1 v2 v3 v4 : Value) : Q (((((w.setCell ⟨R, 0, none⟩ v0).setCell ⟨R, 1, none⟩ v1).setCell ⟨R, 2, none⟩ v2).setCell ⟨R, 3, none⟩ v3).setCell ⟨R, 4, none⟩ v4) :=
  hs _ _ _ (hs _ _ _ (hs _ _ _ (hs _ _ _ (hs _ _ _ h))))
theorem bel_set {B : Nat} (h : Below B w0 w) (q : Addr) (v : Value) (hq : B ≤ q.block) (hB : B ≤ w.heap.size) : Below B w0 (w.setCell q v) := h.grown (set_grown w q v) hB (fun k e => by cases e; exact hq)
/-- What is told is written. -/
theorem RX.fin (h : RX w0 R w p l) (v0 v1 v2 v3 v4 : Value) : Own4 w0.heap.size (((((w.setCell ⟨R, 0, none⟩ v0).setCell ⟨R, 1, none⟩ v1).setCell ⟨R, 2, none⟩ v2).setCell ⟨R, 3, none⟩ v3).setCell ⟨R, 4, none⟩ v4) p l ∧ Below w0.heap.size w0 (((((w.setCell ⟨R, 0, none⟩ v0).setCell ⟨R, 1, none⟩ v1).setCell ⟨R, 2, none⟩ v2).setCell ⟨R, 3, none⟩ v3).setCell ⟨R, 4, none⟩ v4) := by
  refine five (fun u => Own4 w0.heap.size u p l ∧ Below w0.heap.size w0 u) R (fun u j v hu => ?_) ⟨h.own, h.bel⟩ v0 v1 v2 v3 v4
  exact ⟨hu.1.kept (set_grown u ⟨R, j, none⟩ v) (fun k e => by cases e; exact ⟨far_box h.own.o1 h.res (by decide), far_box h.own.o2 h.res (by decide), far_box h.own.o3 h.res (by decide), far_box h.own.o4 h.res (by decide)⟩), bel_set hu.2 _ _ h.new hu.2.size⟩
/-- The values beside it stay. -/
theorem RX.finVals (h : RX w0 R w p l) {b e n : Nat} {u : Value} {xs : List Value} (hv : w.ownsRow b e 1 u n xs) (he : e ≠ 29) (v0 v1 v2 v3 v4 : Value) : (((((w.setCell ⟨R, 0, none⟩ v0).setCell ⟨R, 1, none⟩ v1).setCell ⟨R, 2, none⟩ v2).setCell ⟨R, 3, none⟩ v3).setCell ⟨R, 4, none⟩ v4).ownsRow b e 1 u n xs :=
  five (fun y => y.ownsRow b e 1 u n xs) R (fun y j v hy => kept_ob hy (set_grown y ⟨R, j, none⟩ v) (fun k e' => by cases e'; exact far_box hv h.res he)) hv v0 v1 v2 v3 v4
theorem res_new {w1 : World} (hb : Below (w.alloc (.cells noCells 29)).heap.size (w.alloc (.cells noCells 29)) w1) : w1.heap[w.heap.size]? = some (.cells noCells 29 (0, 0)) ∧ Below w.heap.size w w1 ∧ w.heap.size + 1 ≤ w1.heap.size := by
  have hs := hb.size
  rw [size_alloc1] at hs
  exact ⟨(hb.block _ (by simp)).trans (heap_alloc_new w _), ((Below.refl _ w).alloc (Nat.le_refl _) _).trans (hb.mono (by simp)), hs⟩
/-- Behind a new cursor and a draw by it. -/
theorem rx_of {w1 w2 : World} {blk : Nat} (hb : Below (w.alloc (.cells noCells 29)).heap.size (w.alloc (.cells noCells 29)) w1) (hk : (w.alloc (.cells noCells 29)).heap.size ≤ blk) (hg : w1.grownBy w2 (some blk)) (ho : Own4 w1.heap.size w2 p l) : RX w w.heap.size w2 p l := by
  obtain ⟨h1, h2, h3⟩ := res_new hb
  rw [size_alloc1] at hk
  exact ⟨h2.grown hg (by omega) (fun k e => by cases e; omega), (hg.block _ (by omega) (fun e => by have := Option.some.inj e; omega)).trans h1, Nat.le_refl _, ho.base (by omega)⟩
end

theorem code_alloc {base : Nat} {w : World} {a : Option Addr} {len : Nat} (hc : CodeAt base w a len) (hb : base ≤ w.heap.size) (o : Obj) : CodeAt base (w.alloc o) a len := hc.below (((Below.refl _ w).alloc (Nat.le_refl _) o).mono hb)

def DpAns (Q : Pc → Prop) (w : World) (e : Ending) (w' : World) : Prop := ∃ (p : Pc) (l : Pl), e = .returned (pcV p l) ∧ Q p ∧ Own4 w.heap.size w' p l ∧ Below w.heap.size w w'
theorem dp_mk {Q : Pc → Prop} {w w' : World} {p : Pc} {l : Pl} (hq : Q p) (h : Own4 w.heap.size w' p l ∧ Below w.heap.size w w') : DpAns Q w (.returned (pcV p l)) w' := ⟨p, l, rfl, hq, h⟩

set_option maxHeartbeats 1600000 in
set_option maxRecDepth 20000 in
theorem drawPiece_any (base : Nat) (w : World) (a : Option Addr) (len cap : Nat) (hc : CodeAt base w a len) (hb : base ≤ w.heap.size) :
    Calls Try.prog 7 #[.slice a len cap] w fun e w' => DpAns Drawn w e w' := by
  have HC := hidOf hc
  clear hc
  go_enter Try.func7, Try.ntmps7
  go_wp2_with fail
  refine (new_any base _ a len cap (code_alloc HC.out hb _) (by simp; omega)).mono ?_
  rintro e w1 ⟨blk, rfl, hbk, hc1, hb1⟩
  have H1 := hidOf (And.intro hc1 (And.intro hb1 hbk))
  clear hc1 hb1 hbk
  go_wp2_with fail
  refine (piece_any base w1 blk a len cap H1.out.1).mono ?_
  rintro e w2 ⟨p, l, rfl, hD, ho, -, hg2⟩
  have X := rx_of H1.out.2.1 H1.out.2.2 hg2 ho
  have HD := hidOf hD
  clear hD ho hg2 H1
  obtain ⟨r0, r1, r2, r3, r4⟩ := X.cells
  have rf0 := X.frozen 0
  have rf1 := X.frozen 1
  have rf2 := X.frozen 2
  have rf3 := X.frozen 3
  have rf4 := X.frozen 4
  go_wp2
  refine bodyPost_ret (v := pcV p l) (by simp [results, Try.results7, go_sem, r0, r1, r2, r3, r4]) rfl (dp_mk HD.out (X.fin _ _ _ _ _))
end Go.Proofs.Ytgaejcljabhijaa
/- A piece and values that were drawn. -/
namespace Go.Proofs.Ytgaejcljabhijaa
open Go.RowKit

theorem rx_pair {w w2 : World} {p : Pc} {l : Pl} (hb : Below (w.alloc (.cells noCells 29)).heap.size (w.alloc (.cells noCells 29)) w2) (ho : Own4 (w.alloc (.cells noCells 29)).heap.size w2 p l) : RX w w.heap.size w2 p l := by
  obtain ⟨h1, h2, h3⟩ := res_new hb
  exact ⟨h2, h1, Nat.le_refl _, ho.base (by simp)⟩

end Go.Proofs.Ytgaejcljabhijaa
/- What spec.DrawSearch draws. -/
namespace Go.Proofs.Ytgaejcljabhijaa
open Go.RowKit

/-- Some piece, a width and a budget. -/
def PsAns (w : World) (e : Ending) (w' : World) : Prop :=
  ∃ (p : Pc) (l : Pl) (y m : Int), e = .returned (.tuple #[pcV p l, .int .i64 y, .int .i64 m]) ∧ Fit p ∧ (-1 ≤ m ∧ m ≤ 10000) ∧ Own4 w.heap.size w' p l ∧ Below w.heap.size w w'
theorem ps_mk {w w' : World} {p : Pc} {l : Pl} {y m : Int} (h1 : Fit p) (h2 : -1 ≤ m ∧ m ≤ 10000) (h3 : Own4 w.heap.size w' p l ∧ Below w.heap.size w w') : PsAns w (.returned (.tuple #[pcV p l, .int .i64 y, .int .i64 m])) w' := ⟨p, l, y, m, rfl, h1, h2, h3⟩

set_option maxHeartbeats 4000000 in
set_option maxRecDepth 20000 in
theorem drawSe_any (base : Nat) (w : World) (a : Option Addr) (len cap : Nat) (hc : CodeAt base w a len) (hb : base ≤ w.heap.size) :
    Calls Try.prog 15 #[.slice a len cap] w fun e w' => PsAns w e w' := by
  have HC := hidOf hc
  clear hc
  go_enter Try.func15, Try.ntmps15
  go_wp2_with fail
  refine (new_any base _ a len cap (code_alloc HC.out hb _) (by simp; omega)).mono ?_
  rintro e w1 ⟨blk, rfl, hbk, hc1, hb1⟩
  have H1 := hidOf (And.intro hc1 (And.intro hb1 hbk))
  clear hc1 hb1 hbk
  go_wp2_with fail
  refine (pickInt_in base _ blk a len cap w1.heap.size 5 5 [10, 20, 30, 60, -1] (H1.out.1.kept (World.grownBy_alloc w1 _ none) (fun k e => by cases e)) (by omega) (by omega) rfl (by have := H1.out.1.lt; omega) (by simp) (fun j _ => intCells_at w1 _ _ [10, 20, 30, 60, -1] rfl j)).mono ?_
  rintro e w2 ⟨y, hy, rfl, hc2, hg2⟩
  have H2 : Hid (Below (w.alloc (.cells noCells 29)).heap.size (w.alloc (.cells noCells 29)) w2) := (H1.out.2.1.alloc H1.out.2.1.size _).grown hg2 (by have := H1.out.2.1.size; simp at this; simp; omega) (fun k e => by cases e; exact H1.out.2.2)
  have H3 := hidOf H1.out.2.2
  have HC2 := hidOf hc2
  clear hg2 H1 hy hc2
  go_wp2_with fail
  refine (pickInt_in base _ blk a len cap w2.heap.size 6 6 [10000, 10000, 5, 1, 0, -1] (HC2.out.kept (World.grownBy_alloc w2 _ none) (fun k e => by cases e)) (by omega) (by omega) rfl (by have := HC2.out.lt; omega) (by simp) (fun j _ => intCells_at w2 _ _ [10000, 10000, 5, 1, 0, -1] rfl j)).mono ?_
  rintro e w2b ⟨m, hm, rfl, hc3, hg3⟩
  have hm2 : Hid (-1 ≤ m ∧ m ≤ 10000) := hidOf (by
    simp only [List.mem_cons, List.not_mem_nil, or_false] at hm
    omega)
  have H2b : Hid (Below (w.alloc (.cells noCells 29)).heap.size (w.alloc (.cells noCells 29)) w2b) := (H2.out.alloc H2.out.size _).grown hg3 (by have := H2.out.size; simp at this; simp; omega) (fun k e => by cases e; exact H3.out)
  clear hg3 H2 hm HC2
  go_wp2_with fail
  refine (anyp_any base w2b blk a len cap hc3).mono ?_
  rintro e w3 ⟨p, l, rfl, hD, ho, -, hg3⟩
  have X := rx_of H2b.out H3.out hg3 ho
  have HD := hidOf hD
  clear hD ho hg3 H2b H3 hc3
  obtain ⟨r0, r1, r2, r3, r4⟩ := X.cells
  have rf0 := X.frozen 0
  have rf1 := X.frozen 1
  have rf2 := X.frozen 2
  have rf3 := X.frozen 3
  have rf4 := X.frozen 4
  go_wp2
  refine bodyPost_ret (v := .tuple #[pcV p l, .int .i64 y, .int .i64 m]) (by simp [results, Try.results15, go_sem, r0, r1, r2, r3, r4]) rfl (ps_mk HD.out hm2.out (X.fin _ _ _ _ _))
end Go.Proofs.Ytgaejcljabhijaa
/- What spec.DrawWidth draws. -/
namespace Go.Proofs.Ytgaejcljabhijaa
open Go.RowKit

set_option maxHeartbeats 1600000 in
set_option maxRecDepth 20000 in
theorem drawWid_any (base : Nat) (w : World) (a : Option Addr) (len cap : Nat) (hc : CodeAt base w a len) (hb : base ≤ w.heap.size) :
    Calls Try.prog 8 #[.slice a len cap] w fun e w' => ∃ y : Int, 10 ≤ y ∧ y ≤ 80 ∧ e = .returned (.int .i64 y) ∧ Below w.heap.size w w' := by
  have HC := hidOf hc
  clear hc
  go_enter Try.func8, Try.ntmps8
  go_wp2_with fail
  refine (new_any base _ a len cap HC.out hb).mono ?_
  rintro e w1 ⟨blk, rfl, hbk, hc1, hb1⟩
  have H1 := hidOf (And.intro hc1 (And.intro hb1 hbk))
  clear hc1 hb1 hbk
  go_wp2_with fail
  refine (pickInt_in base _ blk a len cap w1.heap.size 6 6 [10, 20, 30, 40, 60, 80] (H1.out.1.kept (World.grownBy_alloc w1 _ none) (fun k e => by cases e)) (by omega) (by omega) rfl (by have := H1.out.1.lt; omega) (by simp) (fun j _ => intCells_at w1 _ _ [10, 20, 30, 40, 60, 80] rfl j)).mono ?_
  rintro e w2 ⟨y, hy, rfl, hc2, hg2⟩
  have H2 : Hid (Below w.heap.size w w2) := (H1.out.2.1.alloc H1.out.2.1.size _).grown hg2 (by have := H1.out.2.1.size; simp; omega) (fun k e => by cases e; exact H1.out.2.2)
  have hy2 : 10 ≤ y ∧ y ≤ 80 := by
    simp only [List.mem_cons, List.not_mem_nil, or_false] at hy
    omega
  clear hc2 hg2 hy
  go_wp2
  go_ret
  exact ⟨y, hy2.1, hy2.2, rfl, H2.out⟩

end Go.Proofs.Ytgaejcljabhijaa
/- Drawn places: twelve numbers below ten thousand, in memory of their own. -/
namespace Go.Proofs.Ytgaejcljabhijaa
open Go.RowKit

theorem infoInt : (Try.prog.info? 3).map (fun i => (i.zero, i.size, i.bytes)) = some (some (.int .i64 0), 1, 8) := by kernel_rfl
/-- Twelve drawn numbers, as a row of its own. -/
def PlAns (base : Nat) (w : World) (e : Ending) (w' : World) : Prop :=
  ∃ (v : Value) (zs : List Int), zs.length = 12 ∧ (∀ z ∈ zs, 0 ≤ z ∧ z < 10000) ∧ e = .returned v ∧ w'.ownsRow w.heap.size 3 1 v 12 (zs.map (Value.int .i64)) ∧ Below base w w'
theorem pl_mk {base : Nat} {w w' : World} {v : Value} {zs : List Int} (hl : zs.length = 12) (hz : ∀ z ∈ zs, 0 ≤ z ∧ z < 10000) (ho : w'.ownsRow w.heap.size 3 1 v 12 (zs.map (Value.int .i64))) (hb : Below base w w') : PlAns base w (.returned v) w' := ⟨v, zs, hl, hz, rfl, ho, hb⟩
set_option maxHeartbeats 1600000 in
set_option maxRecDepth 20000 in
theorem places_any (base : Nat) (w : World) (a : Option Addr) (len cap : Nat) (hc : CodeAt base w a len) (hb : base ≤ w.heap.size) :
    Calls Try.prog 12 #[.slice a len cap] w fun e w' => PlAns base w e w' := by
  obtain ⟨i0, hi, hz0, hz1, hz2⟩ := info_parts infoInt
  have HC := hidOf hc
  clear hc
  go_enter Try.func12, Try.ntmps12
  go_wp2_with fail
  refine (new_any base _ a len cap HC.out hb).mono ?_
  rintro e w1 ⟨blk, rfl, hbk, hc1, hb1⟩
  have H1 := hidOf (And.intro hc1 hb1)
  have hs1 := hb1.size
  clear hc1 hb1
  go_wp2_with fail
  refine (byte_any base _ blk a len cap H1.out.1).mono ?_
  rintro e w2 ⟨x, hx, rfl, hc2, hg2⟩
  have hs2 := hg2.size
  have hbl := hc2.lt
  have H2 : Hid (Cur base w2 blk a len cap ∧ Below base w w2) := ⟨hc2, (H1.out.2.mono hb).grown hg2 (by omega) (fun k hk => by cases hk; omega)⟩
  clear hc2 hg2
  go_wp2
  go_loopw [4, 5] (fun v i wr => ∃ (k : Nat) (zs : List Int), k ≤ 12 ∧ i = .int .i64 k ∧ Hid (zs.length = k ∧ ∀ z ∈ zs, 0 ≤ z ∧ z < 10000) ∧ wr.ownsRow w2.heap.size 3 1 v k (zs.map (Value.int .i64)) ∧ Hid (Cur base wr blk a len cap ∧ Below base w wr) ∧ w2.heap.size ≤ wr.heap.size) (fun _ i _ => 12 - (intOf i).toNat)
  case atStart => exact ⟨0, [], Nat.zero_le _, rfl, ⟨rfl, fun z hz => by cases hz⟩, World.ownsRow_made w2 #[] 0 (Nat.le_refl _) (by decide) rfl, ⟨H2.out.1.kept (World.grownBy_alloc w2 _ none) (fun k hk => by cases hk), H2.out.2.alloc (by omega) _⟩, by simp⟩
  case round =>
    obtain ⟨k, zs, hk, rfl, HL, hown, HI, hsz⟩ := hrel
    by_cases hlt : k < 12
    · go_wp2_with fail
      refine (below_any base _ blk a len cap 10000 HI.out.1 (by omega) (by omega)).mono ?_
      rintro e w3 ⟨y, hy, rfl, hc3, hg3⟩
      have hown3 := hown.kept hg3 (by
        cases hv : u4.ownBlock with
        | none => exact Or.inl rfl
        | some g => right; intro e; have := (hown.lt g hv).1; cases e; omega)
      have hs3 := hg3.size
      have hrow : ∀ k, u4.ownBlock = some k → w2.heap.size ≤ k := fun k hk => (hown.lt k hk).1
      have H3 : Hid (Cur base w3 blk a len cap ∧ Below base w w3) := ⟨hc3, HI.out.2.grown hg3 (by omega) (fun k hk => by cases hk; omega)⟩
      clear hc3 hg3
      go_wp2_with (at_builtin; refine wpList_append_own _ rfl _ _ 32 rfl w2.heap.size 3 i0 (.int .i64 0) 1 8 Try.underlying32 hi hz0 hz1 hz2 rfl (by decide) _ _ _ rfl (hown3.alloc _) ⟨w3.heap.size, 0, none⟩ 1 1 [.int .i64 (y : Int)] rfl rfl (cell_one_new _ _ _) (fun x hx => by simp at hx; subst hx; rfl) (by unfold maxLen; omega) (by omega) (by simp; omega) ?_; intro v' w4 hown' hgrow4 hnil4)
      go_roundw
      case rel =>
        have hca := H3.out.1.kept (World.grownBy_alloc w3 (.cells #[.int .i64 (y : Int)] 3) none) (fun k hk => by cases hk)
        refine ⟨k + 1, zs ++ [(y : Int)], by omega, by go_num, ⟨by simp [HL.out.1], fun z hz => ?_⟩, by simpa using hown', ⟨hca.kept hgrow4 (fun k hk => ⟨by have := hrow k hk; omega, by have := hrow k hk; omega⟩), (H3.out.2.alloc (by omega) _).grown hgrow4 (by simp; omega) (fun k hk => by have := hrow k hk; omega)⟩, by have := hgrow4.size; simp at this; omega⟩
        rcases List.mem_append.1 hz with h | h
        · exact HL.out.2 z h
        · simp at h; omega
      case measure => simp [intOf]; omega
    · have hk12 : k = 12 := by omega
      have HK := hidOf hk12
      clear hk12
      go_wp2
      go_ret
      have e := HK.out
      subst e
      exact pl_mk HL.out.1 HL.out.2 (ownsRow_base hown (by omega)) HI.out.2

def DTAns (base : Nat) (w : World) (n : Nat) (e : Ending) (w' : World) : Prop := ∃ t : ByteArray, t.size ≤ n ∧ e = .returned (.string t) ∧ Below base w w'
theorem dt_mk {base : Nat} {w w' : World} {n : Nat} {t : ByteArray} (ht : t.size ≤ n) (hb : Below base w w') : DTAns base w n (.returned (.string t)) w' := ⟨t, ht, rfl, hb⟩
end Go.Proofs.Ytgaejcljabhijaa
/- What spec.CountOf answers. -/
namespace Go.Proofs.Ytgaejcljabhijaa
open Go.RowKit

set_option maxHeartbeats 1600000 in
set_option maxRecDepth 20000 in
theorem sCnt_any (p : Pc) (l : Pl) (w : World) (hn0 : p.rules.length ≤ 1048576) (hp : RowsAt 2 ruCells w l.a1 p.rules) :
    Calls Try.prog 10 #[pcV p l] w fun e w' => e = .returned (.int .i64 (cntOf p)) ∧ Below w.heap.size w w' := by
  show Calls _ _ #[.agg #[.int .i64 p.indent, .slice l.a1 p.rules.length l.c1, .slice l.a2 p.chunks.length l.c2, .slice l.a3 p.spans.length l.c3, .slice l.a4 p.ties.length l.c4]] _ _
  unfold RowsAt at hp
  obtain ⟨u, hu⟩ : ∃ u, u = cntOf p := ⟨_, rfl⟩
  rw [← hu]
  unfold cntOf at hu
  have HU := hidOf hu
  obtain ⟨xs, hxs⟩ : ∃ xs, xs = p.rules := ⟨_, rfl⟩
  rw [← hxs] at hp HU hn0 ⊢
  obtain ⟨n, hn⟩ : ∃ n, n = xs.length := ⟨_, rfl⟩
  rw [← hn] at hp hn0 ⊢
  have HN := hidOf hn
  clear hn hu hxs
  have HB : ∀ o1 : Obj, Below w.heap.size w (w.alloc o1) := fun o1 => (Below.refl _ _).alloc (Nat.le_refl _) _
  go_enter Try.func10, Try.ntmps10
  go_wp2
  go_loop [3, 4] (fun q i => ∃ (k : Nat) (c : Int), k ≤ n ∧ k ≤ 8 ∧ q = .int .i64 c ∧ i = .int .i64 k ∧ 0 ≤ c ∧ Hid (c ≤ pow3 k) ∧ Hid (prod c ((xs.take 8).drop k) = u)) (fun _ i => 8 - (intOf i).toNat)
  case atStart => exact ⟨0, 1, Nat.zero_le _, Nat.zero_le _, rfl, rfl, by omega, hidOf (by simp [pow3]), hidOf HU.out.symm⟩
  case round =>
    obtain ⟨k, c, hkn, hk8, rfl, rfl, hc0, HC, HQ⟩ := hrel
    by_cases hlt : k < n ∧ k < 8
    · obtain ⟨x, ex⟩ : ∃ x, xs[k]? = some x := ⟨_, List.getElem?_eq_getElem (by rw [← HN.out]; exact hlt.1)⟩
      obtain ⟨b1, o1, e1, hb1, hc1⟩ := hp (by omega)
      have p01 := fun ob : Obj => ruC (w := w.alloc ob) (fun j hj => by rw [(HB ob).cell hb1]; exact hc1 k x ex j hj)
      have p0 := fun ob => (p01 ob).1
      have hA : (0 : Int) ≤ (k : Int) := by omega
      have hB : (k : Int) < (n : Int) := by omega
      have hB8 : (k : Int) < 8 := by omega
      have HP := hidOf (prod_at hlt.2 ex c)
      have hc6 := pow3_8 hk8 HC.out
      rw [e1]
      clear ex hc1 hp hlt p01 e1
      by_cases hv : 2 ≤ x.values ∧ x.values ≤ 3
      · have hin := fun W => sIn_any x.values 2 3 W
        rw [inB_yes hv.1 hv.2] at hin
        have hm := mul_bd hc0 HC.out hv
        have hm6 := pow3_8 (by omega) hm.2
        have hm0 := hm.1
        have HM := hidOf hm.2
        have HV := hidOf hv
        clear hm hv
        go_wp2_with fail
        refine (hin _).mono ?_
        rintro e w1 ⟨rfl, rfl⟩
        go_wp2
        go_round
        case rel => exact ⟨k + 1, c * x.values, by omega, by omega, rfl, by go_num, hm0, HM, hidOf (by rw [← HQ.out, HP.out, if_pos HV.out])⟩
        case measure => simp [intOf]; omega
      · have hin := fun W => sIn_any x.values 2 3 W
        rw [inB_no hv] at hin
        have HV := hidOf hv
        clear hv
        go_wp2_with fail
        refine (hin _).mono ?_
        rintro e w1 ⟨rfl, rfl⟩
        go_wp2
        go_ret
        exact ⟨ret_int (by rw [← HQ.out, HP.out, if_neg HV.out]), HB _⟩
    · have HE := hidOf (prod_end (xs := xs) (k := k) (by rw [← HN.out]; omega) c)
      by_cases hl2 : k < n
      · have hB : (k : Int) < (n : Int) := by omega
        have hB8 : ¬ (k : Int) < 8 := by omega
        clear hlt
        go_wp2
        go_ret
        exact ⟨ret_int (by rw [← HQ.out, HE.out]), HB _⟩
      · have hB : ¬ (k : Int) < (n : Int) := by omega
        clear hlt
        go_wp2
        go_ret
        exact ⟨ret_int (by rw [← HQ.out, HE.out]), HB _⟩
end Go.Proofs.Ytgaejcljabhijaa
/- What laws.sameInts answers. -/
namespace Go.Proofs.Ytgaejcljabhijaa
open Go.RowKit

set_option maxHeartbeats 1600000 in
theorem sameInts_any (a1 a2 : Option Addr) (c1 c2 : Nat) (ks : List Int) (w : World) (hx0 : ks.length ≤ 4611686018427387904) (h1 : KidsAt w a1 ks) (h2 : KidsAt w a2 ks) :
    Calls Try.prog 17 #[.slice a1 ks.length c1, .slice a2 ks.length c2] w fun e w' => e = .returned (.bool true) ∧ Below w.heap.size w w' := by
  have hx := hx0
  clear hx0
  unfold KidsAt at h1 h2
  obtain ⟨n, hn⟩ : ∃ n, n = ks.length := ⟨_, rfl⟩
  rw [← hn] at h1 h2 hx
  rw [← hn]
  have HN := hidOf hn
  clear hn
  have hne : ((n : Int) != (n : Int)) = false := by simp
  go_enter Try.func17, Try.ntmps17
  go_wp2
  go_loopw [5] (fun i wr => ∃ k q : Nat, k ≤ n ∧ i = .int .i64 k ∧ wr = w.drewN q) (fun i _ => n - (intOf i).toNat)
  case atStart => exact ⟨0, 0, Nat.zero_le _, rfl, rfl⟩
  case round =>
    obtain ⟨k, q, hk, rfl, rfl⟩ := hrel
    by_cases hlt : k < n
    · obtain ⟨x, ex⟩ : ∃ x, ks[k]? = some x := ⟨_, List.getElem?_eq_getElem (by rw [← HN.out]; exact hlt)⟩
      obtain ⟨b1, o1, rfl, hb1, hc1⟩ := h1 (by omega)
      obtain ⟨b2, o2, rfl, hb2, hc2⟩ := h2 (by omega)
      have p0 := hc1 k x ex
      have q0 := hc2 k x ex
      clear ex hc1 hc2 h1 h2
      have hm1 : (x != x) = false := by simp
      have hA : (0 : Int) ≤ (k : Int) := by omega
      have hB : (k : Int) < (n : Int) := by omega
      go_wp2
      go_quiet (fail)
      go_wp2
      go_roundw
      case rel => exact ⟨k + 1, q + nq, by omega, by go_num, rfl⟩
      case measure => simp [intOf]; omega
    · go_wp2
      go_ret
      exact ⟨rfl, below_drewN _ _⟩
end Go.Proofs.Ytgaejcljabhijaa
/- What the law on searches holds over many worlds. -/
namespace Go.Proofs.Ytgaejcljabhijaa
open Go.RowKit

/-- A drawn piece, what was found, the cheapest and what that costs, what was found with little room, what all split costs; what both sides tell of another piece. -/
structure ZS (w0 W : World) (pb : Nat) (p : Pc) (l : Pl) (av ab : Option Addr) (bs : List Int) (cb : Nat) (o s : Int) (aw : Option Addr) (ws : List Int) (db : Nat) (o3 s3 : Int) (a1 a2 : Option Addr) (ks : List Int) : Prop where
  bel : Below w0.heap.size w0 W
  P : Pb W pb p l
  V : KidsAt W av bs
  B : KidsAt W ab bs
  C : Cb W cb o s
  Wk : KidsAt W aw ws
  D : Cb W db o3 s3
  K1 : KidsAt W a1 ks
  K2 : KidsAt W a2 ks
theorem ZS.below {w0 W W' : World} {pb : Nat} {p : Pc} {l : Pl} {av ab : Option Addr} {bs : List Int} {cb : Nat} {o s : Int} {aw : Option Addr} {ws : List Int} {db : Nat} {o3 s3 : Int} {a1 a2 : Option Addr} {ks : List Int} (h : ZS w0 W pb p l av ab bs cb o s aw ws db o3 s3 a1 a2 ks) (hb : Below W.heap.size W W') : ZS w0 W' pb p l av ab bs cb o s aw ws db o3 s3 a1 a2 ks :=
  ⟨h.bel.trans (hb.mono h.bel.size), h.P.below hb, h.V.below hb (Nat.le_refl _), h.B.below hb (Nat.le_refl _), h.C.below hb, h.Wk.below hb (Nat.le_refl _), h.D.below hb, h.K1.below hb (Nat.le_refl _), h.K2.below hb (Nat.le_refl _)⟩
theorem cnt_le {p : Pc} (h : Right p) : 0 ≤ cntOf p ∧ 2 * cntOf p ≤ 13122 := by
  have h1 := left_le h
  rw [cnt_tot h] at h1 ⊢
  have := (tot_le p.rules (right_vals h)).1
  omega
end Go.Proofs.Ytgaejcljabhijaa
