/- What the drawing functions of chapter 11 draw. -/
import Derived.Test.YtokfemlcamnaaaaDrHp
import Derived.Test.YtokfemlcamnaaaaBoxSt
namespace Go.Proofs.Ytokfemlcamnaaaa
open Go.RowKit

/-- A drawn list. -/
def HlAns (hp : Bool) (w : World) (e : Ending) (w' : World) : Prop :=
  ∃ a' c' ps, e = .returned (.slice a' ps.length c') ∧ Own w' w.heap.size a' c' ps ∧ Smalls ps ∧ ps.length ≤ 10 ∧ (hp = true → heapB spLess ps = true) ∧ Below w.heap.size w w'
/-- A drawn list and a state. -/
def HxAns (w : World) (e : Ending) (w' : World) : Prop :=
  ∃ a' c' ps, ∃ x : Sp, e = .returned (.tuple #[.slice a' ps.length c', .agg #[.slice x.a x.st.vals.length x.c, .int .i64 x.st.sum]]) ∧ Own w' w.heap.size a' c' ps ∧ Smalls ps ∧ ps.length ≤ 10 ∧ Small x.st ∧ w'.ownsRow w.heap.size 3 1 (.slice x.a x.st.vals.length x.c) x.st.vals.length (intVals x.st.vals) ∧ Below w.heap.size w w'
/-- Two drawn states. -/
def XxAns (w : World) (e : Ending) (w' : World) : Prop :=
  ∃ x y : Sp, e = .returned (.tuple #[.agg #[.slice x.a x.st.vals.length x.c, .int .i64 x.st.sum], .agg #[.slice y.a y.st.vals.length y.c, .int .i64 y.st.sum]]) ∧ Small x.st ∧ Small y.st ∧ w'.ownsRow w.heap.size 3 1 (.slice x.a x.st.vals.length x.c) x.st.vals.length (intVals x.st.vals) ∧ w'.ownsRow w.heap.size 3 1 (.slice y.a y.st.vals.length y.c) y.st.vals.length (intVals y.st.vals) ∧ Below w.heap.size w w'

set_option maxHeartbeats 1600000 in
set_option maxRecDepth 20000 in
theorem drawHeap_any (base : Nat) (w : World) (a : Option Addr) (len cap : Nat) (hc : CodeAt base w a len) (hb : base ≤ w.heap.size) :
    Calls Try.prog 39 #[.slice a len cap] w fun e w' => HlAns true w e w' := by
  have HC := hidOf hc
  clear hc
  go_enter Try.func39, Try.ntmps39
  go_wp2_with fail
  refine (new_any base _ a len cap HC.out hb).mono ?_
  rintro e w1 ⟨blk, rfl, hbk, hc1, hb1⟩
  have H1 := hidOf (And.intro hc1 (And.intro hb1 hbk))
  clear hc1 hb1 hbk
  go_wp2_with fail
  refine (heapD_any base _ blk a len cap H1.out.1).mono ?_
  rintro e w2 ⟨a2, c2, ps, rfl, O2, S2, hn, hh, hc2, hg2⟩
  have H2 := hidOf (And.intro (O2.base H1.out.2.1.size) (H1.out.2.1.grown hg2 H1.out.2.1.size (fun k e => by cases e; exact H1.out.2.2)))
  have HH := hidOf (hh rfl).1
  clear hc2 hg2 O2 hh
  go_wp2
  go_ret
  exact ⟨a2, c2, ps, rfl, H2.out.1, S2, hn, (fun _ => HH.out), H2.out.2⟩

set_option maxHeartbeats 1600000 in
set_option maxRecDepth 20000 in
theorem drawPop_any (base : Nat) (w : World) (a : Option Addr) (len cap : Nat) (hc : CodeAt base w a len) (hb : base ≤ w.heap.size) :
    Calls Try.prog 45 #[.slice a len cap] w fun e w' => HlAns false w e w' := by
  have HC := hidOf hc
  clear hc
  go_enter Try.func45, Try.ntmps45
  go_wp2_with fail
  refine (new_any base _ a len cap HC.out hb).mono ?_
  rintro e w1 ⟨blk, rfl, hbk, hc1, hb1⟩
  have H1 := hidOf (And.intro hc1 (And.intro hb1 hbk))
  clear hc1 hb1 hbk
  go_wp2_with fail
  refine (anyD_any base _ blk a len cap H1.out.1).mono ?_
  rintro e w2 ⟨a2, c2, ps, rfl, O2, S2, hn, -, hc2, hg2⟩
  have H2 := hidOf (And.intro (O2.base H1.out.2.1.size) (H1.out.2.1.grown hg2 H1.out.2.1.size (fun k e => by cases e; exact H1.out.2.2)))
  clear hc2 hg2 O2
  go_wp2
  go_ret
  exact ⟨a2, c2, ps, rfl, H2.out.1, S2, hn, (fun h => by cases h), H2.out.2⟩

theorem code_below {base : Nat} {w w' : World} {a : Option Addr} {len : Nat} (h : CodeAt base w a len) (hb : Below w.heap.size w w') (hB : base ≤ w.heap.size) : CodeAt base w' a len := h.below (hb.mono hB)
theorem far_blk {w : World} {B e s n b : Nat} {v : Value} {xs : List Value} (h : w.ownsRow B e s v n xs) (hb : b < B) : v.ownBlock = none ∨ v.ownBlock ≠ some b := by
  cases hv : v.ownBlock with
  | none => exact .inl rfl
  | some g =>
    right
    intro e
    cases e
    have := (h.lt _ hv).1
    omega

set_option maxHeartbeats 4000000 in
set_option maxRecDepth 20000 in
theorem drawPush_any (base : Nat) (w : World) (a : Option Addr) (len cap : Nat) (hc : CodeAt base w a len) (hb : base ≤ w.heap.size) :
    Calls Try.prog 40 #[.slice a len cap] w fun e w' => HxAns w e w' := by
  go_enter Try.func40, Try.ntmps40
  go_wp2_with fail
  obtain ⟨W, hW⟩ : ∃ W, W = w.alloc (.cells #[.slice none 0 0, .int .i64 0] 57) := ⟨_, rfl⟩
  rw [← hW]
  have hbx : Below w.heap.size w W := by rw [hW]; exact (Below.refl _ _).alloc (Nat.le_refl _) _
  have R : W.heap[w.heap.size]? = some (.cells #[.slice none 0 0, .int .i64 0] 57 (0, 0)) := by rw [hW]; exact heap_alloc_new w _
  have hRl := (Array.getElem?_eq_some_iff.1 R).1
  have HC := hidOf (code_below hc hbx hb)
  clear hW hc
  refine (new_any base _ a len cap HC.out (Nat.le_trans hb hbx.size)).mono ?_
  rintro e w1 ⟨blk, rfl, hbk, hc1, hb1⟩
  have R1 := (hb1.block _ hRl).trans R
  have B1 := hbx.trans (hb1.mono hbx.size)
  have hkl := hc1.lt
  have HC1 := hidOf hc1
  have hW1 := hb1.size
  clear hc1 hb1 R
  go_wp2_with fail
  refine (state_any base _ blk a len cap HC1.out).mono ?_
  rintro e w2 ⟨x, rfl, hx, xo, hc2, hg2⟩
  have hw1 : w.heap.size < w1.heap.size := by omega
  have hrb : w.heap.size ≠ blk := by omega
  have R2 := (hg2.block _ hw1 (fun e => hrb (by injection e))).trans R1
  have B2 := B1.grown hg2 (by omega) (fun k e => by cases e; omega)
  have hw2 : w1.heap.size ≤ w2.heap.size := hg2.size
  have HC2 := hidOf hc2
  clear hg2 hc2 R1 HC1
  go_upto_region 3 with fail
  obtain ⟨W3, hW3, X3, hb3, S3⟩ := bx_new w2 x 57
  rw [← hW3]
  have R3 := (hb3.block _ (Nat.lt_of_lt_of_le hw1 hw2)).trans R2
  have B3 := B2.trans (hb3.mono B2.size)
  have xo3 := owns_below xo hb3
  have C3 := HC2.out.kept (show w2.grownBy W3 none by rw [hW3]; exact World.grownBy_alloc w2 _ none) (fun k e => by cases e)
  obtain ⟨vb, hvb⟩ : ∃ vb, vb = w2.heap.size := ⟨_, rfl⟩
  obtain ⟨rb, hrbe⟩ : ∃ rb, rb = w.heap.size := ⟨_, rfl⟩
  have hvr : vb ≠ rb := by omega
  have hvk : vb ≠ blk := by have := HC2.out.lt; omega
  have hrl : w.heap.size ≤ rb := by omega
  have hr1 : rb < w1.heap.size := by omega
  have hrk : rb ≠ blk := by omega
  rw [← hvb] at X3
  rw [← hvb]
  rw [← hrbe] at R3
  rw [← hrbe]
  have hbkw : w.heap.size ≤ blk := by omega
  clear hW3 S3 hb3 hvb hrbe R2 HC2 hrb
  have X3' := X3
  obtain ⟨-, v0, v1⟩ := X3'
  have X3d : Bx W3.drew vb x := X3.kept (below_drewN W3 1)
  have C3d : Cur base W3.drew blk a len cap := C3.kept (grownBy_of_below (below_drewN W3 1) none) (fun k e => by cases e)
  go_region_law (refine step_call (by rfl) 101 _ (by go_simp; try rfl) ((anyD_any base _ blk a len cap C3d).mono ?_); rintro e w4 ⟨a4, c4, ps, rfl, O4, S4, hn, -, hc4, hg4⟩; have hW34 : W3.heap.size ≤ w4.heap.size := hg4.size; have R4 := (hg4.block rb (Array.getElem?_eq_some_iff.1 R3).1 (fun e => hrk (by injection e))).trans R3; have X4 := X3d.grown hg4 (fun e => hvk (by injection e)); obtain ⟨-, d0, d1⟩ := X4; have r0 : w4.cell? ⟨rb, 0, none⟩ = some (.slice none 0 0) := cell_of_row w4 _ 0 _ _ _ R4; have r1 : w4.cell? ⟨rb, 1, none⟩ = some (.int .i64 0) := cell_of_row w4 _ 1 _ _ _ R4; have z0 := frozen_of_row w4 rb 0 _ _ R4; have z1 := frozen_of_row w4 rb 1 _ _ R4; refine ⟨_, rfl, ?_⟩)
  all_goals
    have xo4 := (owns_below xo3 (below_drewN W3 1)).kept hg4 (far_blk xo3 hkl)
    have hrW : rb < W3.heap.size := (Array.getElem?_eq_some_iff.1 R3).1
    have B4 : Below w.heap.size w w4 := (B3.drew).grown hg4 (by have := B3.size; show _ ≤ W3.heap.size; omega) (fun k e => by cases e; exact hbkw)
    have HE := hidOf (And.intro ((O4.other (grown_set w4 ⟨rb, 0, none⟩ (.slice x.a x.st.vals.length x.c)) (far_blk O4.row hrW) (fun q hq => far_blk (O4.each q hq) hrW)).other (grown_set _ ⟨rb, 1, none⟩ (.int .i64 x.st.sum)) (far_blk O4.row hrW) (fun q hq => far_blk (O4.each q hq) hrW)) (own_put (own_put xo4 ⟨rb, 0, none⟩ (.slice x.a x.st.vals.length x.c) (far_blk xo3 hr1)) ⟨rb, 1, none⟩ (.int .i64 x.st.sum) (far_blk xo3 hr1)))
    have HB := hidOf ((B4.setCell (p := ⟨rb, 0, none⟩) hrl (.slice x.a x.st.vals.length x.c)).setCell (p := ⟨rb, 1, none⟩) hrl (.int .i64 x.st.sum))
    have hw3 : w.heap.size ≤ W3.heap.size := B3.size
    have hww1 : w.heap.size ≤ w1.heap.size := by omega
    clear O4 xo4 B4 hg4 hc4 R4 d0 d1
    go_wp2
    have y0 : ((w4.setCell ⟨rb, 0, none⟩ (.slice x.a x.st.vals.length x.c)).setCell ⟨rb, 1, none⟩ (.int .i64 x.st.sum)).cell? ⟨rb, 0, none⟩ = some (.slice x.a x.st.vals.length x.c) := by go_simp
    have y1 : ((w4.setCell ⟨rb, 0, none⟩ (.slice x.a x.st.vals.length x.c)).setCell ⟨rb, 1, none⟩ (.int .i64 x.st.sum)).cell? ⟨rb, 1, none⟩ = some (.int .i64 x.st.sum) := by go_simp
    refine bodyPost_ret (v := .tuple #[.slice a4 ps.length c4, .agg #[.slice x.a x.st.vals.length x.c, .int .i64 x.st.sum]]) (by simp [results, Try.results40, go_sem, y0, y1]) rfl ?_
    exact ⟨a4, c4, ps, x, rfl, HE.out.1.base hw3, S4, hn, hx, ownsRow_base HE.out.2 hww1, HB.out⟩

set_option maxHeartbeats 4000000 in
set_option maxRecDepth 20000 in
theorem drawSl_any (base : Nat) (w : World) (a : Option Addr) (len cap : Nat) (hc : CodeAt base w a len) (hb : base ≤ w.heap.size) :
    Calls Try.prog 47 #[.slice a len cap] w fun e w' => XxAns w e w' := by
  go_enter Try.func47, Try.ntmps47
  go_wp2_with fail
  obtain ⟨W, hW⟩ : ∃ W, W = (w.alloc (.cells #[.slice none 0 0, .int .i64 0] 57)).alloc (.cells #[.slice none 0 0, .int .i64 0] 57) := ⟨_, rfl⟩
  rw [← hW]
  have hbx : Below w.heap.size w W := by rw [hW]; exact ((Below.refl _ _).alloc (Nat.le_refl _) _).alloc (by simp) _
  have R : W.heap[w.heap.size]? = some (.cells #[.slice none 0 0, .int .i64 0] 57 (0, 0)) := by rw [hW]; exact heap_alloc2_old w _ _
  have Q : W.heap[w.heap.size + 1]? = some (.cells #[.slice none 0 0, .int .i64 0] 57 (0, 0)) := by rw [hW]; exact heap_alloc2_new w _ _
  have hRl := (Array.getElem?_eq_some_iff.1 R).1
  have hQl := (Array.getElem?_eq_some_iff.1 Q).1
  have HC := hidOf (code_below hc hbx hb)
  clear hW hc
  refine (new_any base _ a len cap HC.out (Nat.le_trans hb hbx.size)).mono ?_
  rintro e w1 ⟨blk, rfl, hbk, hc1, hb1⟩
  have R1 := (hb1.block _ hRl).trans R
  have Q1 := (hb1.block _ hQl).trans Q
  have B1 := hbx.trans (hb1.mono hbx.size)
  have hkl := hc1.lt
  have HC1 := hidOf hc1
  have hW1 := hb1.size
  clear hc1 hb1 R Q
  go_wp2_with fail
  refine (state_any base _ blk a len cap HC1.out).mono ?_
  rintro e w2 ⟨x, rfl, hx, xo, hc2, hg2⟩
  have hw1 : w.heap.size + 1 < w1.heap.size := by omega
  have R2 := (hg2.block w.heap.size (by omega) (fun e => by injection e with e; omega)).trans R1
  have Q2 := (hg2.block (w.heap.size + 1) hw1 (fun e => by injection e with e; omega)).trans Q1
  have B2 := B1.grown hg2 (by omega) (fun k e => by cases e; omega)
  have hw2 : w1.heap.size ≤ w2.heap.size := hg2.size
  have HC2 := hidOf hc2
  clear hg2 hc2 R1 Q1 HC1
  go_upto_region 3 with fail
  obtain ⟨W3, hW3, X3, hb3, S3⟩ := bx_new w2 x 57
  rw [← hW3]
  have R3 := (hb3.block w.heap.size (by omega)).trans R2
  have Q3 := (hb3.block (w.heap.size + 1) (by omega)).trans Q2
  have B3 := B2.trans (hb3.mono B2.size)
  have xo3 := owns_below xo hb3
  have C3 := HC2.out.kept (show w2.grownBy W3 none by rw [hW3]; exact World.grownBy_alloc w2 _ none) (fun k e => by cases e)
  obtain ⟨vb, hvb⟩ : ∃ vb, vb = w2.heap.size := ⟨_, rfl⟩
  obtain ⟨rb, hrbe⟩ : ∃ rb, rb = w.heap.size := ⟨_, rfl⟩
  obtain ⟨qb, hqbe⟩ : ∃ qb, qb = w.heap.size + 1 := ⟨_, rfl⟩
  have hvr : vb ≠ rb := by omega
  have hvq : vb ≠ qb := by omega
  have hrq : rb ≠ qb := by omega
  have hvk : vb ≠ blk := by have := HC2.out.lt; omega
  have hrl : w.heap.size ≤ rb := by omega
  have hql : w.heap.size ≤ qb := by omega
  have hr1 : rb < w1.heap.size := by omega
  have hq1 : qb < w1.heap.size := by omega
  have hrk : rb ≠ blk := by omega
  have hqk : qb ≠ blk := by omega
  have hbkw : w.heap.size ≤ blk := by omega
  have hww1 : w.heap.size ≤ w1.heap.size := by omega
  rw [← hvb] at X3
  rw [← hvb]
  rw [← hqbe] at Q3
  rw [← hqbe]
  rw [← hrbe] at R3
  rw [← hrbe]
  clear hW3 S3 hb3 hvb hrbe hqbe R2 Q2 HC2
  have X3' := X3
  obtain ⟨-, v0, v1⟩ := X3'
  have X3d : Bx W3.drew vb x := X3.kept (below_drewN W3 1)
  have C3d : Cur base W3.drew blk a len cap := C3.kept (grownBy_of_below (below_drewN W3 1) none) (fun k e => by cases e)
  go_region_law (refine step_call (by rfl) 100 _ (by go_simp; try rfl) ((state_any base _ blk a len cap C3d).mono ?_); rintro e w4 ⟨y, rfl, hy, yo, hc4, hg4⟩; have hW34 : W3.heap.size ≤ w4.heap.size := hg4.size; have R4 := (hg4.block rb (Array.getElem?_eq_some_iff.1 R3).1 (fun e => hrk (by injection e))).trans R3; have Q4 := (hg4.block qb (Array.getElem?_eq_some_iff.1 Q3).1 (fun e => hqk (by injection e))).trans Q3; have X4 := X3d.grown hg4 (fun e => hvk (by injection e)); obtain ⟨-, d0, d1⟩ := X4; have r0 : w4.cell? ⟨rb, 0, none⟩ = some (.slice none 0 0) := cell_of_row w4 _ 0 _ _ _ R4; have r1 : w4.cell? ⟨rb, 1, none⟩ = some (.int .i64 0) := cell_of_row w4 _ 1 _ _ _ R4; have z0 := frozen_of_row w4 rb 0 _ _ R4; have z1 := frozen_of_row w4 rb 1 _ _ R4; have s0 : w4.cell? ⟨qb, 0, none⟩ = some (.slice none 0 0) := cell_of_row w4 _ 0 _ _ _ Q4; have s1 : w4.cell? ⟨qb, 1, none⟩ = some (.int .i64 0) := cell_of_row w4 _ 1 _ _ _ Q4; have z2 := frozen_of_row w4 qb 0 _ _ Q4; have z3 := frozen_of_row w4 qb 1 _ _ Q4; refine ⟨_, rfl, ?_⟩)
  all_goals
    have hrW : rb < W3.drew.heap.size := (Array.getElem?_eq_some_iff.1 R3).1
    have hqW : qb < W3.drew.heap.size := (Array.getElem?_eq_some_iff.1 Q3).1
    have xo4 := (owns_below xo3 (below_drewN W3 1)).kept hg4 (far_blk xo3 hkl)
    have B4 : Below w.heap.size w w4 := (B3.drew).grown hg4 (by have := B3.size; show _ ≤ W3.heap.size; omega) (fun k e => by cases e; exact hbkw)
    have HE := hidOf (And.intro (own_put (own_put (own_put (own_put xo4 ⟨rb, 0, none⟩ (.slice x.a x.st.vals.length x.c) (far_blk xo3 hr1)) ⟨rb, 1, none⟩ (.int .i64 x.st.sum) (far_blk xo3 hr1)) ⟨qb, 0, none⟩ (.slice y.a y.st.vals.length y.c) (far_blk xo3 hq1)) ⟨qb, 1, none⟩ (.int .i64 y.st.sum) (far_blk xo3 hq1)) (own_put (own_put (own_put (own_put yo ⟨rb, 0, none⟩ (.slice x.a x.st.vals.length x.c) (far_blk yo hrW)) ⟨rb, 1, none⟩ (.int .i64 x.st.sum) (far_blk yo hrW)) ⟨qb, 0, none⟩ (.slice y.a y.st.vals.length y.c) (far_blk yo hqW)) ⟨qb, 1, none⟩ (.int .i64 y.st.sum) (far_blk yo hqW)))
    have HB := hidOf ((((B4.setCell (p := ⟨rb, 0, none⟩) hrl (.slice x.a x.st.vals.length x.c)).setCell (p := ⟨rb, 1, none⟩) hrl (.int .i64 x.st.sum)).setCell (p := ⟨qb, 0, none⟩) hql (.slice y.a y.st.vals.length y.c)).setCell (p := ⟨qb, 1, none⟩) hql (.int .i64 y.st.sum))
    have hw3 : w.heap.size ≤ W3.drew.heap.size := B3.size
    clear xo4 B4 hg4 hc4 R4 Q4 d0 d1 yo
    go_wp2
    have y0 : ((((w4.setCell ⟨rb, 0, none⟩ (.slice x.a x.st.vals.length x.c)).setCell ⟨rb, 1, none⟩ (.int .i64 x.st.sum)).setCell ⟨qb, 0, none⟩ (.slice y.a y.st.vals.length y.c)).setCell ⟨qb, 1, none⟩ (.int .i64 y.st.sum)).cell? ⟨rb, 0, none⟩ = some (.slice x.a x.st.vals.length x.c) := by go_simp
    have y1 : ((((w4.setCell ⟨rb, 0, none⟩ (.slice x.a x.st.vals.length x.c)).setCell ⟨rb, 1, none⟩ (.int .i64 x.st.sum)).setCell ⟨qb, 0, none⟩ (.slice y.a y.st.vals.length y.c)).setCell ⟨qb, 1, none⟩ (.int .i64 y.st.sum)).cell? ⟨rb, 1, none⟩ = some (.int .i64 x.st.sum) := by go_simp
    have y2 : ((((w4.setCell ⟨rb, 0, none⟩ (.slice x.a x.st.vals.length x.c)).setCell ⟨rb, 1, none⟩ (.int .i64 x.st.sum)).setCell ⟨qb, 0, none⟩ (.slice y.a y.st.vals.length y.c)).setCell ⟨qb, 1, none⟩ (.int .i64 y.st.sum)).cell? ⟨qb, 0, none⟩ = some (.slice y.a y.st.vals.length y.c) := by go_simp
    have y3 : ((((w4.setCell ⟨rb, 0, none⟩ (.slice x.a x.st.vals.length x.c)).setCell ⟨rb, 1, none⟩ (.int .i64 x.st.sum)).setCell ⟨qb, 0, none⟩ (.slice y.a y.st.vals.length y.c)).setCell ⟨qb, 1, none⟩ (.int .i64 y.st.sum)).cell? ⟨qb, 1, none⟩ = some (.int .i64 y.st.sum) := by go_simp
    refine bodyPost_ret (v := .tuple #[.agg #[.slice x.a x.st.vals.length x.c, .int .i64 x.st.sum], .agg #[.slice y.a y.st.vals.length y.c, .int .i64 y.st.sum]]) (by simp [results, Try.results47, go_sem, y0, y1, y2, y3]) rfl ?_
    exact ⟨x, y, rfl, hx, hy, ownsRow_base HE.out.1 hww1, ownsRow_base HE.out.2 hw3, HB.out⟩
end Go.Proofs.Ytokfemlcamnaaaa
