/- What spec.l11State draws: a state of few and small numbers, in memory of its own. -/
import Derived.Test.YtokfemlcamnaaaaDrawK
import Derived.Test.YtokfemlcamnaaaaStRow
import Derived.Test.YtokfemlcamnaaaaToSt
import Derived.Test.YtokfemlcamnaaaaPoI
import Derived.Test.YtokfemlcamnaaaaStepCall
import Derived.Deep.RegionLaw
import Derived.Deep.CutBlock
namespace Go.Proofs.Ytokfemlcamnaaaa
open Go.RowKit

/-- A state that is drawn. -/
def Small (x : St) : Prop := x.vals.length ≤ 3 ∧ 0 ≤ x.sum ∧ x.sum ≤ 10
/-- A drawn state, its Vals in memory of their own; the cursor has gone on. -/
def SdAns (base : Nat) (w : World) (blk : Nat) (a : Option Addr) (len cap : Nat) (e : Ending) (w' : World) : Prop :=
  ∃ p : Sp, e = .returned (.agg #[.slice p.a p.st.vals.length p.c, .int .i64 p.st.sum]) ∧ Small p.st ∧ w'.ownsRow w.heap.size 3 1 (.slice p.a p.st.vals.length p.c) p.st.vals.length (intVals p.st.vals) ∧ Cur base w' blk a len cap ∧ w.grownBy w' (some blk)
/-- A state that is being drawn. -/
structure SD (base : Nat) (w0 : World) (blk : Nat) (a : Option Addr) (len cap : Nat) (w : World) (xb rb : Nat) (va : Option Addr) (vc : Nat) (vs : List Int) (sm : Int) : Prop where
  cur : Cur base w blk a len cap
  grow : w0.grownBy w (some blk)
  lt : blk < w0.heap.size
  box : w.heap[xb]? = some (.cells #[.slice va vs.length vc, .int .i64 sm] 57 (0, 0))
  res : w.heap[rb]? = some (.cells #[.slice none 0 0, .int .i64 0] 57 (0, 0))
  own : w.ownsRow w0.heap.size 3 1 (.slice va vs.length vc) vs.length (intVals vs)
  xl : w0.heap.size ≤ xb
  rl : w0.heap.size ≤ rb
  ne : xb ≠ rb
section
variable {base : Nat} {w0 : World} {blk : Nat} {a : Option Addr} {len cap : Nat} {w : World} {xb rb : Nat} {va : Option Addr} {vc : Nat} {vs : List Int} {sm : Int}
theorem SD.draw {w2 : World} (h : SD base w0 blk a len cap w xb rb va vc vs sm) (hc : Cur base w2 blk a len cap) (hg : w.grownBy w2 (some blk)) : SD base w0 blk a len cap w2 xb rb va vc vs sm := by
  have h1 := h.lt
  have h2 := h.xl
  have h3 := h.rl
  refine ⟨hc, grownBy_trans h.grow hg, h.lt, ?_, ?_, h.own.kept hg ?_, h.xl, h.rl, h.ne⟩
  · rw [hg.block xb (Array.getElem?_eq_some_iff.1 h.box).1 (fun e => by injection e with e; omega)]; exact h.box
  · rw [hg.block rb (Array.getElem?_eq_some_iff.1 h.res).1 (fun e => by injection e with e; omega)]; exact h.res
  · cases hv : (Value.slice va vs.length vc).ownBlock with
    | none => exact .inl rfl
    | some g => right; intro e; cases e; have := (h.own.lt _ hv).1; omega
theorem SD.grown {w2 : World} (h : SD base w0 blk a len cap w xb rb va vc vs sm) (hg : w.grownBy w2 none) : SD base w0 blk a len cap w2 xb rb va vc vs sm :=
  ⟨h.cur.kept hg (fun k e => by cases e), grown_row h.grow hg (fun k e => by cases e), h.lt, (hg.block xb (Array.getElem?_eq_some_iff.1 h.box).1 (fun e => by cases e)).trans h.box, (hg.block rb (Array.getElem?_eq_some_iff.1 h.res).1 (fun e => by cases e)).trans h.res, h.own.kept hg (by
    cases hv : (Value.slice va vs.length vc).ownBlock with
    | none => exact .inl rfl
    | some g => right; intro e; cases e), h.xl, h.rl, h.ne⟩
theorem SD.drew (h : SD base w0 blk a len cap w xb rb va vc vs sm) : SD base w0 blk a len cap w.drew xb rb va vc vs sm := h.grown (grownBy_of_below (below_drewN w 1) none)
theorem SD.alloc (h : SD base w0 blk a len cap w xb rb va vc vs sm) (o : Obj) : SD base w0 blk a len cap (w.alloc o) xb rb va vc vs sm := h.grown (World.grownBy_alloc w o none)
theorem SD.cells (h : SD base w0 blk a len cap w xb rb va vc vs sm) : xb < w.heap.size ∧ w.cell? ⟨xb, 0, none⟩ = some (.slice va vs.length vc) ∧ w.cell? ⟨xb, 1, none⟩ = some (.int .i64 sm) ∧ w.frozen? ⟨xb, 0, none⟩ = false :=
  ⟨(Array.getElem?_eq_some_iff.1 h.box).1, cell_of_row w xb 0 _ _ _ h.box, cell_of_row w xb 1 _ _ _ h.box, frozen_of_row w xb 0 _ _ h.box⟩
/-- One more number. -/
theorem SD.app {w3 : World} {y : Int} {va' : Option Addr} {vc' : Nat} (h : SD base w0 blk a len cap w xb rb va vc vs sm) (hg : w.grownBy w3 (Value.slice va vs.length vc).ownBlock) (ho : w3.ownsRow w0.heap.size 3 1 (.slice va' (vs.length + 1) vc') (vs.length + 1) (intVals vs ++ [.int .i64 y])) :
    SD base w0 blk a len cap (w3.setCell ⟨xb, 0, none⟩ (.slice va' (vs.length + 1) vc')) xb rb va' vc' (vs ++ [y]) sm ∧ (w3.cell? ⟨xb, 0, none⟩).isSome = true ∧ w3.frozen? ⟨xb, 0, none⟩ = false := by
  have h1 := h.lt
  have h2 := h.xl
  have h3 := h.rl
  have hx := far_row h.own h.box (by decide)
  have hr := far_row h.own h.res (by decide)
  have bx : w3.heap[xb]? = some (.cells #[.slice va vs.length vc, .int .i64 sm] 57 (0, 0)) := (hg.block xb (Array.getElem?_eq_some_iff.1 h.box).1 (fun e => by rcases hx with h | h <;> simp_all)).trans h.box
  have br : w3.heap[rb]? = some (.cells #[.slice none 0 0, .int .i64 0] 57 (0, 0)) := (hg.block rb (Array.getElem?_eq_some_iff.1 h.res).1 (fun e => by rcases hr with h | h <;> simp_all)).trans h.res
  have gs := grown_set w3 ⟨xb, 0, none⟩ (.slice va' (vs.length + 1) vc')
  have c3 := h.cur.kept hg (fun k hk => by have := (h.own.lt k hk).1; have := h.cur.own; exact ⟨by omega, by omega⟩)
  have hks : ∀ k, some xb = some k → base ≤ k ∧ k ≠ blk := fun k hk => by
    have e : k = xb := by injection hk with hk; exact hk.symm
    have := h.cur.own
    exact ⟨by omega, by omega⟩
  have hln : (vs ++ [y]).length = vs.length + 1 := by simp
  refine ⟨⟨c3.kept gs hks, grown_row (grown_row h.grow hg (fun k hk => .inl (h.own.lt k hk).1)) gs (fun k hk => by cases hk; exact .inl h2), h1, ?_, ?_, ?_, h2, h3, h.ne⟩, ?_, ?_⟩
  · rw [hln]
    exact heap_setCell_same w3 xb 0 _ _ _ bx
  · rw [gs.block rb (Array.getElem?_eq_some_iff.1 br).1 (fun e => h.ne (by injection e with e; exact e.symm))]
    exact br
  · rw [hln]
    have h4 := own_put ho ⟨xb, 0, none⟩ (.slice va' (vs.length + 1) vc') (far_row ho bx (by decide))
    have e : intVals (vs ++ [y]) = intVals vs ++ [.int .i64 y] := by simp [intVals]
    rw [e]
    exact h4
  · rw [cell_of_row w3 xb 0 _ _ _ bx]; rfl
  · exact frozen_of_row w3 xb 0 _ _ bx
end

set_option maxHeartbeats 8000000 in
set_option maxRecDepth 20000 in
theorem state_any (base : Nat) (w : World) (blk : Nat) (a : Option Addr) (len cap : Nat) (hc : Cur base w blk a len cap) :
    Calls Try.prog 100 #[.pointer (some ⟨blk, 0, none⟩)] w fun e w' => SdAns base w blk a len cap e w' := by
  obtain ⟨i0, hi, hz0, hz1, hz2⟩ := info_parts infoIntT
  have hlt := hc.lt
  have HC := hidOf hc
  clear hc
  go_enter Try.func100, Try.ntmps100
  go_wp2_with fail
  obtain ⟨W1, hW1⟩ : ∃ W1, W1 = w.alloc (.cells #[.slice none 0 0, .int .i64 0] 57) := ⟨_, rfl⟩
  have R1 : W1.heap[w.heap.size]? = some (.cells #[.slice none 0 0, .int .i64 0] 57 (0, 0)) := by rw [hW1]; exact heap_alloc_new w _
  have G1 : w.grownBy W1 none := by rw [hW1]; exact World.grownBy_alloc w _ none
  rw [← hW1]
  clear hW1
  refine (below_any base _ blk a len cap 4 (HC.out.kept G1 (fun k e => by cases e)) (by omega) (by omega)).mono ?_
  rintro e w2 ⟨y, hy, rfl, hc2, hg2⟩
  have hRl := (Array.getElem?_eq_some_iff.1 R1).1
  have R2 := (hg2.block _ hRl (fun e => by injection e with e; omega)).trans R1
  have G2 : w.grownBy w2 (some blk) := ⟨hg2.os.trans G1.os, hg2.tape.trans G1.tape, hg2.output.trans G1.output, Nat.le_trans G1.size hg2.size, fun k hk hne => (hg2.block k (Nat.lt_of_lt_of_le hk G1.size) hne).trans (G1.block k hk (fun e => by cases e))⟩
  have hw2 : w.heap.size < w2.heap.size := (Array.getElem?_eq_some_iff.1 R2).1
  clear hg2 G1 R1
  go_upto_region 2 with fail
  have S3 : SD base w blk a len cap (w2.alloc (.cells #[.slice none 0 0, .int .i64 (y : Int)] 57)) w2.heap.size w.heap.size none 0 [] (y : Int) :=
    ⟨hc2.kept (World.grownBy_alloc w2 _ none) (fun k e => by cases e), grown_row G2 (World.grownBy_alloc w2 _ none) (fun k e => by cases e), hlt, heap_alloc_new w2 _, (Below.heap_alloc w2 _ _ hw2).trans R2, ⟨rfl, .inl ⟨rfl, rfl⟩⟩, by omega, Nat.le_refl _, by omega⟩
  obtain ⟨W3, hW3⟩ : ∃ W3, W3 = w2.alloc (.cells #[.slice none 0 0, .int .i64 (y : Int)] 57) := ⟨_, rfl⟩
  obtain ⟨xb, hxb⟩ : ∃ xb, xb = w2.heap.size := ⟨_, rfl⟩
  obtain ⟨rb, hrb⟩ : ∃ rb, rb = w.heap.size := ⟨_, rfl⟩
  rw [← hW3, ← hxb] at S3
  rw [← hW3, ← hxb]
  have HRB := hidOf hrb
  rw [← hrb] at S3
  rw [← hrb]
  clear hW3 hxb hrb hc2 G2 R2 hw2 hRl
  have hy4 : y ≤ 3 := by omega
  have HS3 := hidOf S3
  clear S3
  go_wp2
  go_loopw [4] (fun i wr => ∃ (va : Option Addr) (vc : Nat) (vs : List Int), i = .int .i64 (vs.length : Int) ∧ vs.length ≤ 2 ∧ Hid (SD base w blk a len cap wr xb rb va vc vs (y : Int))) (fun i _ => 3 - (intOf i).toNat)
  case atStart => exact ⟨none, 0, [], rfl, by simp, HS3⟩
  case round =>
    obtain ⟨va, vc, vs, rfl, hk, HS⟩ := hrel
    go_wp2_with fail
    refine (below_any base _ blk a len cap 3 HS.out.cur (by omega) (by omega)).mono ?_
    rintro e w4 ⟨z, hz, rfl, hc4, hg4⟩
    have S4 := HS.out.draw hc4 hg4
    clear hc4 hg4 HS
    by_cases hlz : vs.length < z
    · have hB : (vs.length : Int) < (z : Int) := by omega
      have hk2 : vs.length < 2 := by omega
      obtain ⟨hxl, c0, c1, f0⟩ := S4.cells
      have S4d := S4.drew
      go_wp2
      go_region_law (first
        | (refine step_append_own rfl _ _ 31 rfl w.heap.size 3 i0 (.int .i64 0) 1 8 Try.underlying31 hi hz0 hz1 hz2 rfl (by decide) _ _ _ rfl (S5.alloc _).own ⟨w5.heap.size, 0, none⟩ 1 1 [.int .i64 (q : Int)] rfl rfl (cell_one_new w5 _ _) (fun x hx => by simp at hx; subst hx; rfl) (by unfold maxLen; omega) (by omega) (by have := S5.xl; simp; omega) ?_; intro v' w6 hown6 hgrow6 hnil6; obtain ⟨va', vc', rfl⟩ := owns_slice hown6; have S6 := SD.app (S5.alloc _) hgrow6 hown6; obtain ⟨u6, hu6⟩ := Option.isSome_iff_exists.1 S6.2.1; have z6 := S6.2.2; clear hgrow6 hnil6)
        | (refine step_call (by rfl) 80 _ (by go_simp; try rfl) ((below_any base _ blk a len cap 3 S4d.cur (by omega) (by omega)).mono ?_); rintro e w5 ⟨q, hq, rfl, hc5, hg5⟩; have S5 := S4d.draw hc5 hg5; obtain ⟨hxl5, d0, d1, f5⟩ := S5.cells; have hal : ∀ (ob : Obj) (b k : Nat), b < w5.heap.size → (w5.alloc ob).cell? ⟨b, k, none⟩ = w5.cell? ⟨b, k, none⟩ := (fun ob b k h => ((Below.refl w5.heap.size w5).alloc (Nat.le_refl _) ob).cell (p := ⟨b, k, none⟩) h); refine ⟨_, rfl, ?_⟩))
      all_goals
        have HS6 := hidOf S6.1
        clear S6 hown6 S5 S4d S4 d0 d1 f5 c0 c1 f0 hu6 z6 hal
        go_wp2
        go_roundw
        case rel => exact ⟨va', vc', vs ++ [(q : Int)], by first | rfl | simp, by rw [List.length_append]; show vs.length + 1 ≤ 2; omega, HS6⟩
        case measure => (simp only [intOf]; omega)
    · have hB : ¬ (vs.length : Int) < (z : Int) := by omega
      obtain ⟨hxl, c0, c1, f0⟩ := S4.cells
      have r0 : w4.cell? ⟨rb, 0, none⟩ = some (.slice none 0 0) := cell_of_row w4 _ 0 _ _ _ S4.res
      have r1 : w4.cell? ⟨rb, 1, none⟩ = some (.int .i64 0) := cell_of_row w4 _ 1 _ _ _ S4.res
      have z0 := frozen_of_row w4 rb 0 _ _ S4.res
      have z1 := frozen_of_row w4 rb 1 _ _ S4.res
      have hne := S4.ne
      have HS4 := hidOf S4
      clear S4
      have e4 := HS4.out.lt
      have e5 := HS4.out.rl
      have e6 := HS4.out.cur.own
      have e7 := far_row HS4.out.own HS4.out.res (by decide)
      have g1 := grown_set w4 ⟨rb, 0, none⟩ (.slice va vs.length vc)
      have g2 := grown_set (w4.setCell ⟨rb, 0, none⟩ (.slice va vs.length vc)) ⟨rb, 1, none⟩ (.int .i64 (y : Int))
      have hr : ∀ k, some rb = some k → base ≤ k ∧ k ≠ blk := fun k hk => by
        have e : k = rb := by injection hk with hk; exact hk.symm
        exact ⟨by omega, by omega⟩
      have HE := hidOf (And.intro (own_put (own_put HS4.out.own ⟨rb, 0, none⟩ (.slice va vs.length vc) e7) ⟨rb, 1, none⟩ (.int .i64 (y : Int)) e7) (And.intro ((HS4.out.cur.kept g1 hr).kept g2 hr) (grown_row (grown_row HS4.out.grow g1 (fun k hk => by cases hk; exact .inl e5)) g2 (fun k hk => by cases hk; exact .inl e5))))
      clear g1 g2 hr e4 e5 e6 e7
      go_wp2
      refine bodyPost_ret (results_one2 rfl _ _ rb (.slice va vs.length vc) (.int .i64 (y : Int)) _ rfl ?_ ?_ Try.underlying57 rfl infoSt.1) rfl ?_
      · go_simp
      · go_simp
      · exact ⟨⟨⟨vs, (y : Int)⟩, va, vc⟩, rfl, ⟨by show vs.length ≤ 3; omega, by show (0 : Int) ≤ (y : Int); omega, by show (y : Int) ≤ 10; omega⟩, HE.out.1, HE.out.2.1, HE.out.2.2⟩
end Go.Proofs.Ytokfemlcamnaaaa
