/- What spec.l11Heap and spec.l11Any draw: lists of few states, in memory of their own; the first is a heap. -/
import Derived.Test.YtokfemlcamnaaaaDrSt
import Derived.Test.YtokfemlcamnaaaaPuS
import Derived.Test.YtokfemlcamnaaaaHeapOkL
namespace Go.Proofs.Ytokfemlcamnaaaa
open Go.RowKit

theorem spOrd : Ord spLess := ⟨fun h => stLess_as h, fun h1 h2 => stLess_tr h1 h2⟩
/-- All are drawn states. -/
def Smalls (ps : List Sp) : Prop := ∀ p ∈ ps, Small p.st
theorem Smalls.few {ps : List Sp} (h : Smalls ps) : Few ps := fun p hp => by have := (h p hp).1; omega
theorem Smalls.push {ps : List Sp} {x : Sp} (h : Smalls ps) (hx : Small x.st) : Smalls (pushL spLess ps x) := fun p hp => by
  rcases List.mem_append.1 (upF_mem _ _ _ _ hp) with h1 | h1
  · exact h p h1
  · have : p = x := by simpa using h1
    subst this
    exact hx
theorem Smalls.app {ps : List Sp} {x : Sp} (h : Smalls ps) (hx : Small x.st) : Smalls (ps ++ [x]) := fun p hp => by
  rcases List.mem_append.1 hp with h1 | h1
  · exact h p h1
  · have : p = x := by simpa using h1
    subst this
    exact hx
theorem Cur.below {base : Nat} {w w' : World} {blk : Nat} {a : Option Addr} {len cap : Nat} {B : Nat} (h : Cur base w blk a len cap) (hb : Below B w w') (hB : blk < B) : Cur base w' blk a len cap := by
  obtain ⟨i, H, hi, hbl⟩ := h.block
  have := h.own
  refine ⟨h.own, h.code.below (hb.mono (by omega)), i, H, hi, ?_⟩
  rw [hb.block blk hB]
  exact hbl
theorem grown_below {w0 w w' : World} {g : Option Nat} (h : w0.grownBy w g) (hb : Below w0.heap.size w w') : w0.grownBy w' g :=
  ⟨hb.os.trans h.os, hb.tape.trans h.tape, hb.output.trans h.output, Nat.le_trans h.size hb.size, fun k hk hne => (hb.block k hk).trans (h.block k hk hne)⟩
/-- A drawn list; the cursor has gone on. -/
def HdAns (base : Nat) (w : World) (blk : Nat) (a : Option Addr) (len cap : Nat) (hp : Bool) (e : Ending) (w' : World) : Prop :=
  ∃ a' c' ps, e = .returned (.slice a' ps.length c') ∧ Own w' w.heap.size a' c' ps ∧ Smalls ps ∧ ps.length ≤ 10 ∧ (hp = true → heapB spLess ps = true ∧ ps.length ≤ 8) ∧ Cur base w' blk a len cap ∧ w.grownBy w' (some blk)

theorem own_blk {w : World} {B : Nat} {a : Option Addr} {c : Nat} {ps : List Sp} (h : Own w B a c ps) {w' : World} {blk : Nat} (hg : w.grownBy w' (some blk)) (hb : blk < B) : Own w' B a c ps := by
  refine h.other hg ?_ (fun p hp => ?_)
  · cases hv : (Value.slice a ps.length c).ownBlock with
    | none => exact .inl rfl
    | some g => right; intro e; cases e; have := (h.row.lt _ hv).1; omega
  · cases hv : p.blk with
    | none => exact .inl rfl
    | some g => right; intro e; cases e; have := ((h.each p hp).lt _ hv).1; omega

set_option maxHeartbeats 8000000 in
set_option maxRecDepth 20000 in
theorem heapD_any (base : Nat) (w : World) (blk : Nat) (a : Option Addr) (len cap : Nat) (hc : Cur base w blk a len cap) :
    Calls Try.prog 99 #[.pointer (some ⟨blk, 0, none⟩)] w fun e w' => HdAns base w blk a len cap true e w' := by
  have hlt := hc.lt
  have HC := hidOf hc
  clear hc
  go_enter Try.func99, Try.ntmps99
  go_wp2
  go_loopw [3, 4] (fun v i wr => ∃ (a' : Option Addr) (c' : Nat) (ps : List Sp), v = .slice a' ps.length c' ∧ i = .int .i64 (ps.length : Int) ∧ ps.length ≤ 8 ∧ Hid (Own wr w.heap.size a' c' ps) ∧ Hid (Smalls ps) ∧ Hid (heapB spLess ps = true) ∧ Hid (Cur base wr blk a len cap) ∧ Hid (w.grownBy wr (some blk))) (fun _ i _ => 9 - (intOf i).toNat)
  case atStart => exact ⟨some ⟨w.heap.size, 0, none⟩, 0, [], rfl, rfl, by simp, hidOf ⟨World.ownsRow_made w #[] 0 (Nat.le_refl _) (by decide) rfl, (fun p hp => by cases hp), fun i j p q _ hp => by simp at hp⟩, hidOf (fun p hp => by cases hp), hidOf rfl, hidOf (HC.out.kept (World.grownBy_alloc w _ none) (fun k e => by cases e)), hidOf (grown_row (World.grownBy.refl w (some blk)) (World.grownBy_alloc w _ none) (fun k e => by cases e))⟩
  case round =>
    obtain ⟨a', c', ps, rfl, rfl, hn, HO, HS, HH, HC1, HG⟩ := hrel
    go_wp2_with fail
    refine (below_any base _ blk a len cap 9 HC1.out (by omega) (by omega)).mono ?_
    rintro e w1 ⟨y, hy, rfl, hc1, hg1⟩
    have O1 := own_blk HO.out hg1 hlt
    have G1 := grownBy_trans HG.out hg1
    clear hg1 HO HC1 HG
    by_cases hly : ps.length < y
    · have hB : (ps.length : Int) < (y : Int) := by omega
      have hn7 : ps.length ≤ 7 := by omega
      have HO1 := hidOf O1
      have HC1 := hidOf hc1
      have HG1 := hidOf G1
      clear O1 hc1 G1
      go_wp2_with fail
      refine (state_any base _ blk a len cap HC1.out).mono ?_
      rintro e w2 ⟨x, rfl, hx, xo, hc2, hg2⟩
      have O2 := own_blk HO1.out hg2 hlt
      have G2 := grownBy_trans HG1.out hg2
      have HP := hidOf (sPush_any w.heap.size a' c' ps x w2 (by omega) HS.out.few (by have := hx.1; omega) O2 (ownsRow_base xo HG1.out.size) (fun q hq g hg hg3 => by
        have h1 := ((HO1.out.each q hq).lt g hg).2
        have h2 := (xo.lt g hg3).1
        omega) G2.size)
      have HC2 := hidOf hc2
      have HG2 := hidOf G2
      have HX := hidOf hx
      clear hg2 O2 xo hc2 G2 hx
      go_wp2_with fail
      refine HP.out.mono ?_
      rintro e w3 ⟨a3, c3, rfl, O3, hb3⟩
      have HO3 := hidOf O3
      have HC3 := hidOf (HC2.out.below hb3 hlt)
      have HG3 := hidOf (grown_below HG2.out hb3)
      have HL := hidOf (pushL_len (lt := spLess) ps x)
      clear O3 hb3
      go_wp2
      refine ⟨⟨a3, c3, pushL spLess ps x, ?_, ?_, ?_, HO3, hidOf (HS.out.push HX.out), hidOf (heap_push spOrd HH.out), HC3, HG3⟩, ?_⟩
      · rw [HL.out]
      · rw [HL.out]
        exact congrArg (Value.int .i64) (by omega)
      · rw [HL.out]
        omega
      · simp only [intOf]
        omega
    · have hB : ¬ (ps.length : Int) < (y : Int) := by omega
      go_wp2
      go_ret
      exact ⟨a', c', ps, rfl, O1, HS.out, by omega, (fun _ => ⟨HH.out, hn⟩), hc1, G1⟩

set_option maxHeartbeats 8000000 in
set_option maxRecDepth 20000 in
theorem anyD_any (base : Nat) (w : World) (blk : Nat) (a : Option Addr) (len cap : Nat) (hc : Cur base w blk a len cap) :
    Calls Try.prog 101 #[.pointer (some ⟨blk, 0, none⟩)] w fun e w' => HdAns base w blk a len cap false e w' := by
  obtain ⟨i0, hi, hz0, hz1, hz2⟩ := info_parts infoSt.2
  have hlt := hc.lt
  have HC := hidOf hc
  clear hc
  go_enter Try.func101, Try.ntmps101
  go_wp2_with fail
  refine (below_any base _ blk a len cap 5 HC.out (by omega) (by omega)).mono ?_
  rintro e w1 ⟨y, hy, rfl, hc1, hg1⟩
  go_wp2_with fail
  refine (heapD_any base _ blk a len cap hc1).mono ?_
  rintro e w2 ⟨a2, c2, ps, rfl, O2, S2, hn, hh, hc2, hg2⟩
  have hn8 : ps.length ≤ 8 := (hh rfl).2
  clear hh
  have O2 := O2.base hg1.size
  have HS2 := hidOf S2
  have HO2 := hidOf O2
  have HC2 := hidOf hc2
  have HG2 := hidOf (grownBy_trans hg1 hg2)
  clear hc1 hg1 O2 S2 hc2 hg2
  by_cases h0 : y = 0
  · have hE : ((y : Int) == 0) = true := by simp [h0]
    clear h0
    go_wp2_with fail
    refine (state_any base _ blk a len cap HC2.out).mono ?_
    rintro e w3 ⟨x, rfl, hx, xo, hc3, hg3⟩
    have O3 := own_blk HO2.out hg3 hlt
    have HG3 := hidOf (grownBy_trans HG2.out hg3)
    have xo3 := ownsRow_base xo HG2.out.size
    have ap : ∀ q ∈ ps, ∀ g, q.blk = some g → x.blk ≠ some g := fun q hq g hg hg4 => by
      have h1 := ((HO2.out.each q hq).lt g hg).2
      have h2 := (xo.lt g hg4).1
      omega
    have hAD : ∀ ob : Obj, Below w3.heap.size w3 (w3.alloc ob) := fun ob => (Below.refl _ _).alloc (Nat.le_refl _) _
    have hw3 := HG3.out.size
    go_wp2_with (at_builtin; refine wpList_append_own _ rfl _ _ 54 rfl w.heap.size 57 i0 (.agg #[.slice none 0 0, .int .i64 0]) 2 32 Try.underlying54 hi hz0 hz1 hz2 rfl (by decide) _ _ _ rfl (O3.row.alloc _) ⟨w3.heap.size, 0, none⟩ 1 1 (spCells x) rfl rfl (cells_sp_new w3 x _) (one_sp x) (by unfold maxLen; omega) (by omega) (by simp; omega) ?_; intro v' w4 hown4 hgrow4 hnil4; obtain ⟨a4, c4, rfl⟩ := owns_slice hown4)
    have O4 := Own.append (O3.below (hAD _)) (owns_below xo3 (hAD _)) ap hgrow4 hown4
    have hrow : ∀ k, (Value.slice a2 ps.length c2).ownBlock = some k → w.heap.size ≤ k := fun k hk => (O3.row.lt k hk).1
    have C4 := (hc3.kept (World.grownBy_alloc w3 (.cells #[.slice x.a x.st.vals.length x.c, .int .i64 x.st.sum] 57) none) (fun k e => by cases e)).kept hgrow4 (fun k hk => by have := hrow k hk; have := hc3.own; exact ⟨by omega, by omega⟩)
    have G4 := grown_row (grown_row HG3.out (World.grownBy_alloc w3 (.cells #[.slice x.a x.st.vals.length x.c, .int .i64 x.st.sum] 57) none) (fun k e => by cases e)) hgrow4 (fun k hk => .inl (hrow k hk))
    go_ret
    exact ⟨a4, c4, ps ++ [x], by rw [List.length_append]; rfl, O4, HS2.out.app hx, by rw [List.length_append]; show ps.length + 1 ≤ 10; omega, (fun h => by cases h), C4, G4⟩
  · have hE : ((y : Int) == 0) = false := by rw [beq_eq_false_iff_ne]; omega
    clear h0
    go_wp2
    go_ret
    exact ⟨a2, c2, ps, rfl, HO2.out, HS2.out, hn, (fun h => by cases h), HC2.out, HG2.out⟩
end Go.Proofs.Ytokfemlcamnaaaa
