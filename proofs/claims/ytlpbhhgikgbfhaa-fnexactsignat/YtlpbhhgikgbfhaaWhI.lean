/- What impl.SignAt answers: slices.Backward over signs, and the first that is no later. -/
import Derived.RangeFuncNested
import Derived.RangeFuncBound
import Derived.RangeFuncCalls
import Derived.RangeFuncLeaves
import Derived.RangeFuncBox
import Derived.RangeFuncWrites
import Derived.Shelf.Abstract
import Derived.Shelf.RegionOpen
import Derived.WalkKit
import Derived.OwnWalkIn
import Derived.TacticsInMore
import Derived.LoopNIn
import Derived.LoopIn
import Derived.Test.YtlpbhhgikgbfhaaProg
import Derived.Test.YtlpbhhgikgbfhaaWhLib
namespace Go.Proofs.Ytlpbhhgikgbfhaa
open Go.RowKit Go.Shelf

attribute [local go_sem] Oper.semAt_some

/-- What comes, from the last one on. -/
def bkF (xs : List Sg) (j : Nat) : Nat × Sg := (xs.length - 1 - j, sgNo xs (xs.length - 1 - j))
def bk (xs : List Sg) (k : Nat) : List (Nat × Sg) := (List.range k).map (bkF xs)
theorem bk_succ (xs : List Sg) (k : Nat) : bk xs (k + 1) = bk xs k ++ [bkF xs k] := by simp [bk, List.range_succ]
theorem bk_len (xs : List Sg) (k : Nat) : (bk xs k).length = k := by simp [bk]
/-- All of them begin behind the place. -/
def Late (at' : Int) (ps : List (Nat × Sg)) : Prop := ∀ p ∈ ps, at' < p.2.place
/-- A list of signs in memory that stays. -/
def SgsIn (n₀ : Nat) (w : World) (v : Value) (xs : List Sg) : Prop :=
  ∃ (a : Option Addr) (c : Nat), v = .slice a xs.length c ∧ (0 < xs.length → ∃ b off, a = some ⟨b, off, none⟩ ∧ b < n₀ ∧ ∀ k x, xs[k]? = some x → ∀ j, j < 4 → w.cell? ⟨b, off + k * 4 + j, none⟩ = (sgCells x)[j]?)
theorem SgsIn.below {n₀ : Nat} {w w' : World} {v : Value} {xs : List Sg} (h : SgsIn n₀ w v xs) (hb : Below n₀ w w') : SgsIn n₀ w' v xs := by
  obtain ⟨a, c, rfl, h⟩ := h
  refine ⟨a, c, rfl, fun hn => ?_⟩
  obtain ⟨b, off, ha, hlt, hc⟩ := h hn
  exact ⟨b, off, ha, hlt, fun k x hx j hj => by rw [hb.cell hlt]; exact hc k x hx j hj⟩

set_option maxRecDepth 100000 in
set_option maxHeartbeats 2000000 in
theorem back1_in (n : Nat) (hn : 1 ≤ n) (l Bs n₀ : Nat) (a : Option Addr) (c : Nat) (xs : List Sg) (hxs : xs.length ≤ 4611686018427387904) (J Jx : List (Nat × Sg) → World → Prop)
    (hY : ∀ pre (x : Nat × Sg) W, J pre W → pre.length < xs.length → YieldAt Fence.wide (n - 1) Try.prog l #[.int .i64 (x.1 : Int), sgAgg x.2] W fun e W' =>
      (e = .returned (.bool true) ∧ J (pre ++ [x]) W' ∧ Below n₀ W W') ∨ (e = .returned (.bool false) ∧ Jx (pre ++ [x]) W'))
    (W : World) (hBs0 : Bs < n₀) (hBs : W.cell? ⟨Bs, 0, none⟩ = some (.slice a xs.length c)) (hI : SgsIn n₀ W (.slice a xs.length c) xs) (h0 : J [] W) :
    CallsIn Fence.wide n Try.prog 13 #[.func (.yield l) #[] #[], .pointer (some ⟨Bs, 0, none⟩)] W fun e W' => (∃ v, e = .returned v) ∧
      ((∃ ys, ys = bk xs xs.length ∧ J ys W') ∨ (∃ pre, (∃ k, k ≤ xs.length ∧ pre = bk xs k) ∧ Jx pre W')) := by
  obtain ⟨a', c', e', hI⟩ := hI
  obtain ⟨rfl, rfl⟩ : a = a' ∧ c = c' := by simpa using e'
  clear e'
  obtain ⟨m, hm⟩ : ∃ m, m = xs.length := ⟨_, rfl⟩
  rw [← hm] at hI hBs hxs hY ⊢
  have HM := hidOf hm
  clear hm
  refine callsIn_of_wp Try.func13 rfl trivial ?_ rfl
  simp only [Try.ntmps13, List.size_toArray, List.length_cons, List.length_nil, Nat.reduceAdd, Nat.reduceSub, Array.replicate_succ, Array.replicate_zero, List.push_toArray, List.append_toArray, List.nil_append, List.cons_append]
  gi_wp2
  gi_loopw [3] (fun i wr => ∃ r k : Nat, r + k = m ∧ i = .int .i64 ((r : Int) - 1) ∧ J (bk xs k) wr ∧ Below n₀ W wr) (fun i _ => (intOf i + 1).toNat)
  case atStart => exact ⟨m, 0, rfl, by simp, h0, Below.refl _ _⟩
  case round =>
    obtain ⟨r, k, hrk, rfl, hJs, hnx⟩ := hrel
    have hb0 := (hnx.cell (p := ⟨Bs, 0, none⟩) hBs0).trans hBs
    cases r with
    | zero =>
      gi_wp2
      go_end0
      exact ⟨⟨_, rfl⟩, .inl ⟨_, by rw [show m = k by omega], hJs⟩⟩
    | succ r =>
      obtain ⟨b, off, rfl, hbl, hc⟩ := hI (by omega)
      have hcell := hc r (sgNo xs r) (sgNo_at (by have := HM.out; omega))
      obtain ⟨c0, c1, c2, c3⟩ := cells4 hcell
      have d0 := (hnx.cell (p := ⟨b, off + r * 4, none⟩) hbl).trans c0
      have d1 := (hnx.cell (p := ⟨b, off + r * 4 + 1, none⟩) hbl).trans c1
      have d2 := (hnx.cell (p := ⟨b, off + r * 4 + 2, none⟩) hbl).trans c2
      have d3 := (hnx.cell (p := ⟨b, off + r * 4 + 3, none⟩) hbl).trans c3
      have e1 : (((r + 1 : Nat) : Int) - 1) = (r : Int) := by omega
      rw [e1]
      have HB := hidOf (show bk xs (k + 1) = bk xs k ++ [(r, sgNo xs r)] by rw [bk_succ, bkF, ← HM.out, show m - 1 - k = r by omega])
      obtain ⟨fn, tmps, assign, body, hy, hR⟩ := hY _ (r, sgNo xs r) wr hJs (by rw [bk_len]; omega)
      unfold sgAgg at hy
      dsimp only at hy
      gi_wp2
      refine hR.mono ?_
      rintro e W3 (⟨rfl, hJ3, hk3⟩ | ⟨rfl, hJx3⟩)
      · gi_wp2
        go_roundw
        case rel => exact ⟨r, k + 1, by omega, by simp, by rw [HB.out]; exact hJ3, hnx.trans hk3⟩
        case measure => simp [intOf]
      · gi_wp2
        refine bodyPost_ret (results_none rfl _ _ _) rfl ?_
        exact ⟨⟨_, rfl⟩, .inr ⟨_, ⟨k + 1, by omega, HB.out.symm⟩, hJx3⟩⟩

set_option maxHeartbeats 1000000 in
theorem back_in (n : Nat) (v : Value) (w : World) (hv : ∃ a l c, v = .slice a l c) :
    CallsIn Fence.wide n Try.prog 11 #[v] w fun e w' => e = .returned (.func (.func 13) #[] #[.pointer (some ⟨w.heap.size, 0, none⟩)]) ∧ w' = w.alloc (.cells #[v] 25) := by
  obtain ⟨a, l, c, rfl⟩ := hv
  refine callsIn_of_wp Try.func11 rfl trivial ?_ rfl
  simp only [Try.ntmps11, List.size_toArray, List.length_cons, List.length_nil, Nat.reduceAdd, Nat.reduceSub, Array.replicate_succ, Array.replicate_zero, List.push_toArray, List.append_toArray, List.nil_append, List.cons_append]
  gi_wp2
  go_ret
  exact ⟨rfl, rfl⟩

theorem back_stops (n : Nat) (hn : 1 ≤ n) (Bs n₀ : Nat) (v : Value) (xs : List Sg) (hxs : xs.length ≤ 4611686018427387904) (w : World) (hBs0 : Bs < n₀) (hn₀ : n₀ ≤ w.heap.size)
    (hc : w.cell? ⟨Bs, 0, none⟩ = some v) (hI : SgsIn n₀ w v xs) :
    SeqStopsK Fence.wide n Try.prog 13 #[.pointer (some ⟨Bs, 0, none⟩)] (fun x : Nat × Sg => #[Value.int .i64 (x.1 : Int), sgAgg x.2]) (Below n₀) (fun ys => ys = bk xs xs.length)
      (fun pre => ∃ k, k ≤ xs.length ∧ pre = bk xs k) xs.length w := fun l J Jx W hW _ _ hY h0 => by
  have hc' := (hW.cell (p := ⟨Bs, 0, none⟩) (show Bs < _ by omega)).trans hc
  have hI' := hI.below (hW.mono hn₀)
  obtain ⟨a, c, rfl, _⟩ := id hI'
  exact back1_in n hn l Bs n₀ a c xs hxs J Jx hY W hBs0 hc' hI' h0

set_option maxRecDepth 100000 in
set_option maxHeartbeats 4000000 in
theorem iSignAt_any (v : Value) (xs : List Sg) (at' : Int) (w : World) (hx : xs.length ≤ 4611686018427387904) (h : SgsAt w v xs) :
    Calls Try.prog 7 #[v, .int .i64 at'] w fun e w' => e = .returned (.int .i64 (signAt xs at')) ∧ Below w.heap.size w w' := by
  have hS := h
  obtain ⟨a, c, rfl, -⟩ := h
  refine (callsIn_wide (n := 4)).1 ?_
  refine callsIn_of_wp_marks Try.func7 rfl trivial ?_ rfl
  simp only [Try.ntmps7, List.size_toArray, List.length_cons, List.length_nil, Nat.reduceAdd, Nat.reduceSub, Array.replicate_succ, Array.replicate_zero, List.push_toArray, List.append_toArray, List.nil_append, List.cons_append]
  gi_wp2_with (refine ⟨trivial, ?_⟩; gi_at_call 11; refine (back_in _ _ _ ⟨_, _, _, rfl⟩).mono ?_; rintro e w' ⟨rfl, rfl⟩)
  have bA := ((Boxed.new w 3 (.int .i64 at')).alloc (.cells #[.int .i64 0] 3)).alloc (.cells #[.slice a xs.length c] 25)
  have bR := (Boxed.new (w.alloc (.cells #[.int .i64 at'] 3)) 3 (.int .i64 0)).alloc (.cells #[.slice a xs.length c] 25)
  have bN := Boxed.new ((w.alloc (.cells #[.int .i64 at'] 3)).alloc (.cells #[.int .i64 0] 3)) 25 (.slice a xs.length c)
  simp only [World.size_alloc] at bR bN
  have hB0 : Below w.heap.size w (((w.alloc (.cells #[.int .i64 at'] 3)).alloc (.cells #[.int .i64 0] 3)).alloc (.cells #[.slice a xs.length c] 25)) := (((Below.refl _ w).alloc (Nat.le_refl _) _).alloc (by simp) _).alloc (by simp; omega) _
  obtain ⟨W0, hW0⟩ : ∃ W0, (((w.alloc (.cells #[.int .i64 at'] 3)).alloc (.cells #[.int .i64 0] 3)).alloc (.cells #[.slice a xs.length c] 25)) = W0 := ⟨_, rfl⟩
  have hsz : W0.heap.size = w.heap.size + 3 := by rw [← hW0]; simp
  rw [hW0] at bA bR bN hB0 ⊢
  have HW := hidOf hW0
  clear hW0
  have HZ := hidOf hsz
  clear hsz
  have hI : SgsIn W0.heap.size W0 (.slice a xs.length c) xs := hS.below hB0
  refine wpIn_rangeFunc_ownH rfl (by omega) (gf := 13) (lb := #[.pointer (some ⟨w.heap.size + 1 + 1, 0, none⟩)]) rfl trivial (enters_of Try.func13 (by kernel_rfl) rfl)
    (back_stops _ (by omega) (w.heap.size + 1 + 1) W0.heap.size _ xs hx W0 (by have := HZ.out; omega) (Nat.le_refl _) bN.cell hI) belowK_t (belowK_b (Nat.le_refl _)) (Below.refl _ _) (fun _ => rfl)
    (fun pre W => ((Late at' pre ∧ Boxed W w.heap.size 3 (.int .i64 at')) ∧ Boxed W (w.heap.size + 1) 3 (.int .i64 0)) ∧ (Below w.heap.size w W ∧ Below W0.heap.size W0 W))
    (fun c pre W => ∃ (ini : List (Nat × Sg)) (last : Nat × Sg), ((c = .ret ∧ pre = ini ++ [last] ∧ Late at' ini ∧ last.2.place ≤ at') ∧ Boxed W (w.heap.size + 1) 3 (.int .i64 (last.1 : Int))) ∧ Below w.heap.size w W)
    (OwnFrom.and (OwnFrom.and (OwnFrom.and (ownFrom_pure _ _) (Own.from (boxed_own _ _ _) _)) (Own.from (boxed_own _ _ _) _)) (OwnFrom.and (ownFrom_below (by have := HZ.out; omega) (by have := HZ.out; omega)) (ownFrom_below (Nat.le_refl _) (Nat.le_refl _))))
    (fun c pre X Y row hs hg hr => by
      obtain ⟨ini, last, ⟨h1, h2⟩, h3⟩ := hs
      exact ⟨ini, last, ⟨h1, boxed_own (w.heap.size + 1) 3 (fun (_ : Unit) => Value.int .i64 (last.1 : Int)) () X Y row h2 hg (fun r e => (hr r e).2)⟩, ownFrom_below (by have := HZ.out; omega) (by have := HZ.out; omega) () X Y row h3 hg hr⟩)
    ⟨⟨⟨(fun p hp => by cases hp), bA⟩, bR⟩, hB0, Below.refl _ _⟩
    (fun x a' W => ∃ Bx, w.heap.size + 2 < Bx ∧ W.heap[Bx]? = some (.cells #[.int .i64 x.2.kind, .string x.2.text, .int .i64 x.2.place, .bool x.2.blank] 32 (0, 0)) ∧ a' = { tmps := #[.slice a xs.length c, .int .i64 at', undef, .pointer (some ⟨w.heap.size, 0, none⟩), .pointer (some ⟨w.heap.size + 1, 0, none⟩), .int .i64 (x.1 : Int), .pointer (some ⟨Bx, 0, none⟩), .slice a xs.length c, .func (.func 13) #[] #[.pointer (some ⟨w.heap.size + 1 + 1, 0, none⟩)], .int .i64 (x.1 : Int), sgAgg x.2, undef, undef, undef, undef, undef], defers := [] })
    ?hAx ?assign ?body ?done ?stop
  case hAx =>
    intro x a' _ X Y row hs hg hr
    obtain ⟨Bx, h1, h2, h3⟩ := hs
    refine ⟨Bx, h1, (hg.block Bx (Array.getElem?_eq_some_iff.1 h2).1 (fun e => ?_)).trans h2, h3⟩
    obtain ⟨_, o, ho, hno⟩ := hr _ e.symm
    rw [h2] at ho
    cases ho
    cases hno
  case assign =>
    rintro l pre x W K ⟨⟨⟨hp, bA1⟩, bR1⟩, hB1, hB2⟩ hK
    unfold sgAgg
    gi_wp2
    exact hK _ _ ((KeepsOthers.alloc _ _).from _) ((Below.refl _ W).alloc hB2.size _) ⟨⟨⟨hp, bA1.alloc _⟩, bR1.alloc _⟩, hB1.alloc hB1.size _, hB2.alloc hB2.size _⟩ ⟨W.heap.size, by have := hB2.size; have := HZ.out; omega, World.alloc_heap_new W _, rfl⟩
  case body =>
    rintro l pre x a' W hl ⟨r, hr⟩ ⟨⟨⟨hp, bA1⟩, bR1⟩, hB1, hB2⟩ ⟨Bx, hBx, hX, rfl⟩ hlt
    have cA := bA1.cell
    have cR := bR1.cell
    have fR := bR1.frozen
    have cX : W.cell? ⟨Bx, 2, none⟩ = some (.int .i64 x.2.place) := by simp [World.cell?, hX]
    by_cases hle : x.2.place ≤ at'
    · gi_wp2
      exact ⟨(KeepsOthers.setCell _ _ _).from _, pre, x, ⟨⟨rfl, rfl, hp, hle⟩, bR1.set _⟩, hB1.setCell (p := ⟨w.heap.size + 1, 0, none⟩) (by simp) _⟩
    · have hle' : at' < x.2.place := by omega
      gi_wp2
      exact ⟨KeepsFrom.refl _ _, Below.refl _ _, ⟨⟨⟨fun p hp' => (List.mem_append.1 hp').elim (hp p) (fun e => by simp at e; subst e; exact hle'), bA1⟩, bR1⟩, hB1, hB2⟩⟩
  case done =>
    rintro D ys W hD rfl ⟨⟨⟨hp, bA1⟩, bR1⟩, hB1, hB2⟩ hK
    have cR := bR1.cell
    have fR := bR1.frozen
    have HP := hidOf hp
    clear hp
    gi_wp2
    have hK' := (KeepsOthers.setCell W ⟨w.heap.size + 1, 0, none⟩ (.int .i64 (-1))).same D _ hK rfl
    refine ⟨by simp, .inl ⟨_, _, rfl, run_takeDeferred hK', ?_⟩⟩
    have hc5 := cell_kept (World.cell?_setCell_same' W ⟨w.heap.size + 1, 0, none⟩ (.int .i64 (-1)) (by rw [cR]; rfl)) (grownBy_putObj' _ D (.deferred none)) (fun r e => by cases e; exact ⟨_, hK', rfl⟩)
    have hres : signAt xs at' = -1 := by
      refine lastOf_none fun j hj => ?_
      have := HP.out (bkF xs (xs.length - 1 - j)) (List.mem_map_of_mem (by simp; omega))
      rw [bkF, show xs.length - 1 - (xs.length - 1 - j) = j by omega] at this
      dsimp only at this
      rw [atP, decide_eq_false_iff_not]
      omega
    rw [hres]
    refine ⟨.int .i64 (-1), by simp [results, Try.f7, go_sem, hc5], rfl, (hB1.setCell (p := ⟨w.heap.size + 1, 0, none⟩) (by simp) _).trans (belowK_b (w := w) (Nat.le_refl _) _ D _ _ (by have := HZ.out; omega) hK' rfl rfl)⟩
  case stop =>
    rintro D c' pre W hD ⟨k, hk, rfl⟩ ⟨ini, last, ⟨⟨rfl, e1, e2, e3⟩, bR1⟩, hB1⟩ hK
    have cR := bR1.cell
    have E1 := hidOf e1
    have E2 := hidOf e2
    have E3 := hidOf e3
    clear e1 e2 e3
    gi_wp2
    refine ⟨by simp, .inl ⟨_, _, rfl, run_takeDeferred hK, ?_⟩⟩
    have hc5 := cell_kept cR (grownBy_putObj' _ D (.deferred none)) (fun r e => by cases e; exact ⟨_, hK, rfl⟩)
    have hres : signAt xs at' = (last.1 : Int) := by
      have e1 := E1.out
      cases k with
      | zero => simp [bk] at e1
      | succ k =>
        rw [bk_succ] at e1
        obtain ⟨rfl, e5⟩ := List.append_inj' e1 rfl
        obtain rfl : bkF xs k = last := by simpa using e5
        refine lastOf_yes (m := xs.length - 1 - k) (by omega) ?_ fun j h1 h2 => ?_
        · rw [atP, decide_eq_true_eq]
          exact E3.out
        · have := E2.out (bkF xs (xs.length - 1 - j)) (List.mem_map_of_mem (by simp; omega))
          rw [bkF, show xs.length - 1 - (xs.length - 1 - j) = j by omega] at this
          dsimp only at this
          rw [atP, decide_eq_false_iff_not]
          omega
    rw [hres]
    exact ⟨.int .i64 (last.1 : Int), by simp [results, Try.f7, go_sem, hc5], rfl, hB1.trans (belowK_b (w := w) (Nat.le_refl _) W D _ _ (by have := HZ.out; omega) hK rfl rfl)⟩
end Go.Proofs.Ytlpbhhgikgbfhaa
