/- What the drawing functions of the specification do, as far as the laws on drawn inputs need it: they return, in range, and write into their own cursor alone. -/
import Derived.Test.YtgaejcljabhijaaChecked
import Derived.Test.YtgaejcljabhijaaLib
import Derived.BigQuiet
import Derived.Deep.QuietTactic
namespace Go.Proofs.Ytgaejcljabhijaa
open Go.RowKit

theorem and_mask (x : Int) (m : Nat) (hm : m < 9223372036854775808) : 0 ≤ bits .and .i64 x (m : Int) ∧ bits .and .i64 x (m : Int) ≤ m := by
  have h1 : (BitVec.ofInt 64 x &&& BitVec.ofInt 64 (m : Int)).toNat ≤ m := by
    rw [BitVec.toNat_and]
    refine Nat.le_trans Nat.and_le_right ?_
    simp
    omega
  show 0 ≤ IntKind.i64.wrap (((BitVec.ofInt 64 x &&& BitVec.ofInt 64 (m : Int)).toNat : Nat) : Int) ∧ IntKind.i64.wrap (((BitVec.ofInt 64 x &&& BitVec.ofInt 64 (m : Int)).toNat : Nat) : Int) ≤ m
  rw [IntWalk.i64_in _ ⟨by omega, by omega⟩]
  omega
theorem and_255 (x : Int) : 0 ≤ bits .and .i64 x 255 ∧ bits .and .i64 x 255 ≤ 255 := and_mask x 255 (by omega)
theorem and_30 (x : Int) : 0 ≤ bits .and .i64 x 1073741823 ∧ bits .and .i64 x 1073741823 ≤ 1073741823 := and_mask x 1073741823 (by omega)

/-- The code's bytes lie in old memory. -/
def CodeAt (base : Nat) (w : World) (a : Option Addr) (len : Nat) : Prop :=
  len ≤ 1048576 ∧ (0 < len → ∃ b off, a = some ⟨b, off, none⟩ ∧ b < base ∧ ∀ i, i < len → ∃ z : Int, 0 ≤ z ∧ z ≤ 255 ∧ w.cell? ⟨b, off + i, none⟩ = some (.int .u8 z))
theorem CodeAt.below {base : Nat} {w w' : World} {a : Option Addr} {len : Nat} (h : CodeAt base w a len) (hb : Below base w w') : CodeAt base w' a len := by
  refine ⟨h.1, fun hl => ?_⟩
  obtain ⟨b, off, ha, hbb, hc⟩ := h.2 hl
  refine ⟨b, off, ha, hbb, fun i hi => ?_⟩
  obtain ⟨z, h0, h1, h2⟩ := hc i hi
  exact ⟨z, h0, h1, by rw [hb.cell hbb]; exact h2⟩
/-- A cursor over the code. -/
structure Cur (base : Nat) (w : World) (blk : Nat) (a : Option Addr) (len cap : Nat) : Prop where
  own : base ≤ blk
  code : CodeAt base w a len
  block : ∃ (i : Nat) (h : Int), i ≤ len ∧ w.heap[blk]? = some (.cells #[.slice a len cap, .int .i64 i, .int .i64 h] 114 (0, 0))
def ByAns (base : Nat) (w : World) (blk : Nat) (a : Option Addr) (len cap : Nat) (e : Ending) (w' : World) : Prop :=
  ∃ x : Nat, x ≤ 255 ∧ e = .returned (.int .i64 x) ∧ Cur base w' blk a len cap ∧ w.grownBy w' (some blk)

theorem heap_cells {w : World} {blk t : Nat} {x y z : Value} (h : w.heap[blk]? = some (.cells #[x, y, z] t (0, 0))) :
    w.cell? ⟨blk, 0, none⟩ = some x ∧ w.cell? ⟨blk, 1, none⟩ = some y ∧ w.cell? ⟨blk, 2, none⟩ = some z ∧ w.frozen? ⟨blk, 1, none⟩ = false ∧ w.frozen? ⟨blk, 2, none⟩ = false := by
  refine ⟨?_, ?_, ?_, ?_, ?_⟩
  · rw [cell_of_row w blk 0 _ t (0, 0) h]; rfl
  · rw [cell_of_row w blk 1 _ t (0, 0) h]; rfl
  · rw [cell_of_row w blk 2 _ t (0, 0) h]; rfl
  · exact frozen_of_row w blk 1 _ t h
  · exact frozen_of_row w blk 2 _ t h

theorem cur_one {base : Nat} {w : World} {blk : Nat} {a : Option Addr} {len cap i : Nat} {h : Int} (hc : Cur base w blk a len cap) (hi : i ≤ len)
    (hblk : w.heap[blk]? = some (.cells #[.slice a len cap, .int .i64 i, .int .i64 h] 114 (0, 0))) (H : Int) (q : Nat) :
    Cur base ((w.setCell ⟨blk, 2, none⟩ (.int .i64 H)).drewN q) blk a len cap ∧ w.grownBy ((w.setCell ⟨blk, 2, none⟩ (.int .i64 H)).drewN q) (some blk) := by
  have e1 := heap_setCell_same w blk 2 _ 114 (.int .i64 H) hblk
  have hg : w.grownBy ((w.setCell ⟨blk, 2, none⟩ (.int .i64 H)).drewN q) (some blk) := ⟨rfl, rfl, rfl, by show w.heap.size ≤ (w.setCell ⟨blk, 2, none⟩ (.int .i64 H)).heap.size; simp, fun k _ hk => heap_setCell_other w ⟨blk, 2, none⟩ k (.int .i64 H) (fun e => hk (by simp [e]))⟩
  exact ⟨⟨hc.own, hc.code.below ((Below.refl base w).grown hg (by have := (Array.getElem?_eq_some_iff.1 hblk).1; have := hc.own; omega) (fun k hk => by cases hk; exact hc.own)), i, H, hi, e1⟩, hg⟩
theorem cur_two {base : Nat} {w : World} {blk : Nat} {a : Option Addr} {len cap i : Nat} {h : Int} (hc : Cur base w blk a len cap)
    (hblk : w.heap[blk]? = some (.cells #[.slice a len cap, .int .i64 i, .int .i64 h] 114 (0, 0))) (H : Int) (hi : i < len) (q : Nat) :
    Cur base (((w.setCell ⟨blk, 2, none⟩ (.int .i64 H)).setCell ⟨blk, 1, none⟩ (.int .i64 ((i : Int) + 1))).drewN q) blk a len cap ∧ w.grownBy (((w.setCell ⟨blk, 2, none⟩ (.int .i64 H)).setCell ⟨blk, 1, none⟩ (.int .i64 ((i : Int) + 1))).drewN q) (some blk) := by
  have e1 := heap_setCell_same w blk 2 _ 114 (.int .i64 H) hblk
  have e2 := heap_setCell_same (w.setCell ⟨blk, 2, none⟩ (.int .i64 H)) blk 1 _ 114 (.int .i64 ((i : Int) + 1)) e1
  have hg : w.grownBy (((w.setCell ⟨blk, 2, none⟩ (.int .i64 H)).setCell ⟨blk, 1, none⟩ (.int .i64 ((i : Int) + 1))).drewN q) (some blk) :=
    ⟨rfl, rfl, rfl, by show w.heap.size ≤ ((w.setCell ⟨blk, 2, none⟩ (.int .i64 H)).setCell ⟨blk, 1, none⟩ (.int .i64 ((i : Int) + 1))).heap.size; simp, fun k _ hk => by
      show ((w.setCell ⟨blk, 2, none⟩ (.int .i64 H)).setCell ⟨blk, 1, none⟩ (.int .i64 ((i : Int) + 1))).heap[k]? = _
      rw [heap_setCell_other _ ⟨blk, 1, none⟩ k _ (fun e => hk (by simp [e])), heap_setCell_other w ⟨blk, 2, none⟩ k _ (fun e => hk (by simp [e]))]⟩
  exact ⟨⟨hc.own, hc.code.below ((Below.refl base w).grown hg (by have := (Array.getElem?_eq_some_iff.1 hblk).1; have := hc.own; omega) (fun k hk => by cases hk; exact hc.own)), i + 1, H, hi, e2⟩, hg⟩
theorem by_mk {base : Nat} {w w' : World} {blk : Nat} {a : Option Addr} {len cap : Nat} {v : Int} (h : 0 ≤ v ∧ v ≤ 255) (hc : Cur base w' blk a len cap ∧ w.grownBy w' (some blk)) : ByAns base w blk a len cap (.returned (.int .i64 v)) w' := by
  obtain ⟨n, rfl⟩ := Int.eq_ofNat_of_zero_le h.1
  exact ⟨n, by omega, rfl, hc.1, hc.2⟩

set_option maxHeartbeats 1600000 in
set_option maxRecDepth 20000 in
theorem byte_any (base : Nat) (w : World) (blk : Nat) (a : Option Addr) (len cap : Nat) (hc : Cur base w blk a len cap) :
    Calls Try.prog 40 #[.pointer (some ⟨blk, 0, none⟩)] w fun e w' => ByAns base w blk a len cap e w' := by
  obtain ⟨i, h, hi, hblk⟩ := hc.block
  obtain ⟨c0, c1, c2, f1, f2⟩ := heap_cells hblk
  have hcode := hc.code
  have hlen := hcode.1
  have HB := hidOf hblk
  have HC := hidOf hc
  by_cases hil : i < len
  · obtain ⟨b, off, ha, hbb, hz⟩ := hcode.2 (by omega)
    obtain ⟨z, hz0, hz1, hzc⟩ := hz i hil
    have hne : b ≠ blk := by have := hc.own; omega
    have hzc' : ∀ v, (w.setCell ⟨blk, 2, none⟩ v).cell? ⟨b, off + i, none⟩ = some (.int .u8 z) := fun v => by
      rw [World.cell?_of_block (Below.heap_setCell w ⟨blk, 2, none⟩ v b hne)]
      exact hzc
    subst ha
    have hA : (0 : Int) ≤ (i : Int) := by omega
    have hB : (i : Int) < (len : Int) := by omega
    clear hblk hc hcode hz hne hbb
    go_enter Try.func40, Try.ntmps40
    go_wp2
    go_quiet (fail)
    go_wp2
    go_quiet (fail)
    go_wp2
    go_quiet (fail)
    go_wp2
    go_ret
    exact by_mk (and_255 _) (cur_two HC.out HB.out _ hil _)
  · clear hblk hc hcode
    have hB : ¬ (i : Int) < (len : Int) := by omega
    go_enter Try.func40, Try.ntmps40
    go_wp2
    go_quiet (fail)
    go_wp2
    go_quiet (fail)
    go_wp2
    go_ret
    refine by_mk (and_255 _) ?_
    rw [World.drewN_drewN]
    exact cur_one HC.out hi HB.out _ _

theorem grown_two {a b c : World} {row : Option Nat} (h1 : a.grownBy b row) (h2 : b.grownBy c row) : a.grownBy c row :=
  ⟨h2.os.trans h1.os, h2.tape.trans h1.tape, h2.output.trans h1.output, Nat.le_trans h1.size h2.size, fun k hk hr => (h2.block k (Nat.lt_of_lt_of_le hk h1.size) hr).trans (h1.block k hk hr)⟩
/-- A drawn number below n. -/
def BeAns (base : Nat) (w : World) (blk : Nat) (a : Option Addr) (len cap : Nat) (n : Int) (e : Ending) (w' : World) : Prop :=
  ∃ x : Nat, (x : Int) < n ∧ e = .returned (.int .i64 x) ∧ Cur base w' blk a len cap ∧ w.grownBy w' (some blk)
theorem be_mk {base : Nat} {w w' : World} {blk : Nat} {a : Option Addr} {len cap : Nat} {n v : Int} (h : 0 ≤ v ∧ v < n) (hc : Cur base w' blk a len cap) (hg : w.grownBy w' (some blk)) : BeAns base w blk a len cap n (.returned (.int .i64 v)) w' := by
  obtain ⟨x, rfl⟩ := Int.eq_ofNat_of_zero_le h.1
  exact ⟨x, h.2, rfl, hc, hg⟩
set_option maxHeartbeats 1600000 in
set_option maxRecDepth 20000 in
theorem below_any (base : Nat) (w : World) (blk : Nat) (a : Option Addr) (len cap : Nat) (n : Int) (hc : Cur base w blk a len cap) (h0 : 0 < n) (h1 : n ≤ 2147483648) :
    Calls Try.prog 41 #[.pointer (some ⟨blk, 0, none⟩), .int .i64 n] w fun e w' => BeAns base w blk a len cap n e w' := by
  have HC := hidOf hc
  clear hc
  by_cases hn : n ≤ 256
  · go_enter Try.func41, Try.ntmps41
    go_wp2_with fail
    refine (byte_any base _ blk a len cap HC.out).mono ?_
    rintro e w1 ⟨x, hx, rfl, hc1, hg1⟩
    have H1 := hidOf (And.intro hc1 hg1)
    clear hc1 hg1
    have hnz : (n == 0) = false := beq_eq_false_iff_ne.2 (by omega)
    go_wp2
    go_ret
    exact be_mk ⟨Int.emod_nonneg _ (by omega), Int.emod_lt_of_pos _ h0⟩ H1.out.1 H1.out.2
  · have hnz : (n == 0) = false := beq_eq_false_iff_ne.2 (by omega)
    go_enter Try.func41, Try.ntmps41
    go_wp2_with fail
    refine (byte_any base _ blk a len cap HC.out).mono ?_
    rintro e w1 ⟨x1, hx1, rfl, hc1, hg1⟩
    have H1 := hidOf (And.intro hc1 hg1)
    clear hc1 hg1
    go_wp2_with fail
    refine (byte_any base _ blk a len cap H1.out.1).mono ?_
    rintro e w2 ⟨x2, hx2, rfl, hc2, hg2⟩
    have H2 := hidOf (And.intro hc2 (grown_two H1.out.2 hg2))
    clear hc2 hg2
    go_wp2_with fail
    refine (byte_any base _ blk a len cap H2.out.1).mono ?_
    rintro e w3 ⟨x3, hx3, rfl, hc3, hg3⟩
    have H3 := hidOf (And.intro hc3 (grown_two H2.out.2 hg3))
    clear hc3 hg3
    go_wp2_with fail
    refine (byte_any base _ blk a len cap H3.out.1).mono ?_
    rintro e w4 ⟨x4, hx4, rfl, hc4, hg4⟩
    have H4 := hidOf (And.intro hc4 (grown_two H3.out.2 hg4))
    clear hc4 hg4
    go_wp2
    go_ret
    exact be_mk ⟨Int.emod_nonneg _ (by omega), Int.emod_lt_of_pos _ h0⟩ H4.out.1 H4.out.2

/-- A cursor is made over the code. -/
def NewAns (base : Nat) (w : World) (a : Option Addr) (len cap : Nat) (e : Ending) (w' : World) : Prop :=
  ∃ blk, e = .returned (.pointer (some ⟨blk, 0, none⟩)) ∧ w.heap.size ≤ blk ∧ Cur base w' blk a len cap ∧ Below w.heap.size w w'
set_option maxHeartbeats 1600000 in
set_option maxRecDepth 20000 in
theorem new_any (base : Nat) (w : World) (a : Option Addr) (len cap : Nat) (hc : CodeAt base w a len) (hb : base ≤ w.heap.size) :
    Calls Try.prog 32 #[.slice a len cap] w fun e w' => NewAns base w a len cap e w' := by
  have hlen := hc.1
  have HC := hidOf hc
  clear hc
  go_enter Try.func32, Try.ntmps32
  go_wp2
  go_loop [3, 4] (fun h i => ∃ (k : Nat) (H : Int), k ≤ len ∧ i = .int .i64 k ∧ h = .int .i64 H ∧ 0 ≤ H ∧ H ≤ 1073741823) (fun _ i => len - (intOf i).toNat)
  case atStart => exact ⟨0, _, Nat.zero_le _, rfl, rfl, by omega, by omega⟩
  case round =>
    obtain ⟨k, H, hk, rfl, rfl, hH0, hH1⟩ := hrel
    have fin : ∀ H : Int, NewAns base w a len cap (.returned (.pointer (some ⟨w.heap.size, 0, none⟩))) (w.alloc (.cells #[.slice a len cap, .int .i64 0, .int .i64 H] 114)) := fun H =>
      ⟨w.heap.size, rfl, Nat.le_refl _, ⟨hb, HC.out.below (((Below.refl _ w).alloc (Nat.le_refl _) _).mono hb), 0, H, Nat.zero_le _, heap_alloc_new w _⟩, (Below.refl _ w).alloc (Nat.le_refl _) _⟩
    have FIN := hidOf fin
    clear fin
    by_cases hlt : k < len
    · obtain ⟨b, off, ha, hbb, hz⟩ := HC.out.2 (by omega)
      obtain ⟨z, hz0, hz1, hzc⟩ := hz k hlt
      have hA : (0 : Int) ≤ (k : Int) := by omega
      have hB : (k : Int) < (len : Int) := by omega
      subst ha
      clear hz
      by_cases h4 : k < 4000
      · have hand := and_30 (H * 131 + z + 7)
        go_wp2
        go_round
        case rel => exact ⟨k + 1, _, by omega, by go_num, rfl, hand.1, hand.2⟩
        case measure => simp [intOf]; omega
      · go_wp2
        go_ret
        exact FIN.out H
    · go_wp2
      go_ret
      exact FIN.out H
end Go.Proofs.Ytgaejcljabhijaa
