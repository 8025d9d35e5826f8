/- slices.All over numbers, maps.Insert, maps.Collect: numbers by their places. -/
import Derived.RangeFuncNested
import Derived.RangeFuncBound
import Derived.RangeFuncCalls
import Derived.RangeFuncLeaves
import Derived.RangeFuncBox
import Derived.RangeFuncWrites
import Derived.Shelf.Abstract
import Derived.Shelf.RegionOpen
import Derived.WalkKit
import Derived.OwnWalkIn
import Derived.TacticsInMore
import Derived.LoopNIn
import Derived.LoopIn
import Derived.Maps.OwnIn
import Derived.Test.YtlpbhhgikgbfhaaDoorProg
import Derived.Test.YtlpbhhgikgbfhaaDoorMpLib
namespace Go.Proofs.YtlpbhhgikgbfhaaDoor
open Go.RowKit Go.Shelf Go.Maps

attribute [local go_sem] Oper.semAt_some

theorem wf64 {x : Int} (h1 : -9223372036854775808 ≤ x) (h2 : x ≤ 9223372036854775807) : (Lit.int .i64 x).wf = true := by
  simp [Lit.wf, IntKind.min, IntKind.max, IntKind.signed, IntKind.bits]
  omega
/-- Numbers in memory that stays. -/
def KidsIn (n₀ : Nat) (w : World) (a : Option Addr) (xs : List Int) : Prop :=
  0 < xs.length → ∃ b off, a = some ⟨b, off, none⟩ ∧ b < n₀ ∧ ∀ j z, xs[j]? = some z → w.cell? ⟨b, off + j, none⟩ = some (.int .i64 z)
theorem KidsIn.below {n₀ : Nat} {w w' : World} {a : Option Addr} {xs : List Int} (h : KidsIn n₀ w a xs) (hb : Below n₀ w w') : KidsIn n₀ w' a xs := by
  intro hn
  obtain ⟨b, off, ha, hlt, hc⟩ := h hn
  exact ⟨b, off, ha, hlt, fun j z hz => by rw [hb.cell hlt]; exact hc j z hz⟩

set_option maxRecDepth 100000 in
set_option maxHeartbeats 2000000 in
theorem all1_in (n : Nat) (hn : 1 ≤ n) (l Bs n₀ : Nat) (a : Option Addr) (c : Nat) (xs : List Int) (hxs : xs.length ≤ 1048576) (hwf : ∀ x ∈ xs, (Lit.int .i64 x).wf = true) (J Jx : List IP → World → Prop)
    (hY : ∀ pre (x : IP) W, J pre W → pre.length < xs.length → YieldAt Fence.wide (n - 1) Tryd.prog l #[.int .i64 x.1.1, .int .i64 x.1.2] W fun e W' =>
      (e = .returned (.bool true) ∧ J (pre ++ [x]) W' ∧ Below n₀ W W') ∨ (e = .returned (.bool false) ∧ Jx (pre ++ [x]) W'))
    (W : World) (hBs : W.cell? ⟨Bs, 0, none⟩ = some (.slice a xs.length c)) (hI : KidsIn n₀ W a xs) (h0 : J [] W) :
    CallsIn Fence.wide n Tryd.prog 44 #[.func (.yield l) #[] #[], .pointer (some ⟨Bs, 0, none⟩)] W fun e W' => (∃ v, e = .returned v) ∧
      ((∃ ys : List IP, ys.map (·.1) = numd xs xs.length ∧ J ys W') ∨ (∃ pre : List IP, True ∧ Jx pre W')) := by
  obtain ⟨m, hm⟩ : ∃ m, m = xs.length := ⟨_, rfl⟩
  unfold KidsIn at hI
  rw [← hm] at hI hBs hxs hY ⊢
  have HM := hidOf hm
  have HW := hidOf hwf
  clear hm hwf
  refine callsIn_of_wp Tryd.func44 rfl trivial ?_ rfl
  simp only [Tryd.ntmps44, List.size_toArray, List.length_cons, List.length_nil, Nat.reduceAdd, Nat.reduceSub, Array.replicate_succ, Array.replicate_zero, List.push_toArray, List.append_toArray, List.nil_append, List.cons_append]
  gi_wp2
  gi_loopw [7] (fun i wr => ∃ (k : Nat) (ys : List IP), k ≤ m ∧ i = .int .i64 k ∧ Hid (ys.map (·.1) = numd xs k) ∧ J ys wr ∧ Below n₀ W wr) (fun i _ => m - (intOf i).toNat)
  case atStart => exact ⟨0, [], Nat.zero_le _, rfl, hidOf rfl, h0, Below.refl _ _⟩
  case round =>
    obtain ⟨k, ys, hk, rfl, HY, hJs, hnx⟩ := hrel
    by_cases hlt : k < m
    · obtain ⟨b, off, rfl, hbl, hc⟩ := hI (by omega)
      obtain ⟨z, hz⟩ : ∃ z, xs[k]? = some z := ⟨_, List.getElem?_eq_getElem (by rw [← HM.out]; exact hlt)⟩
      have d0 := (hnx.cell (p := ⟨b, off + k, none⟩) hbl).trans (hc k z hz)
      have HB := hidOf (show numd xs (k + 1) = numd xs k ++ [((k : Int), z)] by rw [numd_succ, numF, hz]; rfl)
      have hl : ys.length < m := by
        have := congrArg List.length HY.out
        rw [List.length_map, numd_len] at this
        omega
      have hzm := List.mem_of_getElem? hz
      obtain ⟨fn, tmps, assign, body, hy, hR⟩ := hY ys ⟨((k : Int), z), wf64 (by omega) (by omega), HW.out z hzm⟩ wr hJs hl
      dsimp only at hy
      clear hz
      gi_wp2
      refine hR.mono ?_
      rintro e W3 (⟨rfl, hJ3, hk3⟩ | ⟨rfl, hJx3⟩)
      · gi_wp2
        go_roundw
        case rel => exact ⟨k + 1, _, by omega, by simp, hidOf (by rw [HB.out, List.map_append, HY.out]; rfl), hJ3, hnx.trans hk3⟩
        case measure => simp [intOf]; omega
      · gi_wp2
        refine bodyPost_ret (results_none rfl _ _ _) rfl ?_
        exact ⟨⟨_, rfl⟩, .inr ⟨_, trivial, hJx3⟩⟩
    · obtain rfl : k = m := by omega
      gi_wp2
      go_end0
      exact ⟨⟨_, rfl⟩, .inl ⟨ys, HY.out, hJs⟩⟩

set_option maxHeartbeats 1000000 in
theorem all_any (a : Option Addr) (l c : Nat) (w : World) :
    Calls Tryd.prog 27 #[.slice a l c] w fun e w' => e = .returned (.func (.func 44) #[] #[.pointer (some ⟨w.heap.size, 0, none⟩)]) ∧ w' = w.alloc (.cells #[.slice a l c] 22) := by
  go_enter Tryd.func27, Tryd.ntmps27
  go_wp2
  go_ret
  exact ⟨rfl, rfl⟩

theorem all_stops (n : Nat) (hn : 1 ≤ n) (Bs n₀ : Nat) (a : Option Addr) (c : Nat) (xs : List Int) (hxs : xs.length ≤ 1048576) (hwf : ∀ x ∈ xs, (Lit.int .i64 x).wf = true) (w : World) (hBs0 : Bs < w.heap.size) (hn₀ : n₀ ≤ w.heap.size)
    (hc : w.cell? ⟨Bs, 0, none⟩ = some (.slice a xs.length c)) (hI : KidsIn n₀ w a xs) :
    SeqStopsK Fence.wide n Tryd.prog 44 #[.pointer (some ⟨Bs, 0, none⟩)] (fun x : IP => #[Value.int .i64 x.1.1, Value.int .i64 x.1.2]) (Below n₀) (fun ys => ys.map (·.1) = numd xs xs.length)
      (fun _ => True) xs.length w := fun l J Jx W hW _ _ hY h0 => by
  have hc' := (hW.cell (p := ⟨Bs, 0, none⟩) hBs0).trans hc
  exact all1_in n hn l Bs n₀ a c xs hxs hwf J Jx hY W hc' (hI.below (hW.mono hn₀)) h0

set_option maxRecDepth 100000 in
set_option maxHeartbeats 4000000 in
/-- maps.Insert: all numbers that the iterator tells are laid into the map, which was made ahead. -/
theorem insert_any (b Bs : Nat) (a : Option Addr) (c : Nat) (xs : List Int) (hxs : xs.length ≤ 1048576) (hwf : ∀ x ∈ xs, (Lit.int .i64 x).wf = true) (w : World) (hb : b + 1 = w.heap.size) (hBs0 : Bs < b)
    (hc : w.cell? ⟨Bs, 0, none⟩ = some (.slice a xs.length c)) (hI : KidsIn b w a xs) (hm : w.ownsMap Tryd.prog 3 (plainElem (H := Unit) Tryd.prog 3) b 0 (.map [])) :
    Calls Tryd.prog 43 #[.map (some b), .func (.func 44) #[] #[.pointer (some ⟨Bs, 0, none⟩)]] w fun e w' => (∃ v, e = .returned v) ∧ (∃ ys : List IP, ys.map (·.1) = numd xs xs.length ∧ w'.ownsMap Tryd.prog 3 (plainElem (H := Unit) Tryd.prog 3) b xs.length (insD ys)) ∧ Below b w w' := by
  refine (callsIn_wide (n := 4)).1 ?_
  refine callsIn_of_wp_marks Tryd.func43 rfl trivial ?_ rfl
  simp only [Tryd.ntmps43, List.size_toArray, List.length_cons, List.length_nil, Nat.reduceAdd, Nat.reduceSub, Array.replicate_succ, Array.replicate_zero, List.push_toArray, List.append_toArray, List.nil_append, List.cons_append]
  gi_wp2
  have bM := Boxed.new w 35 (.map (some b))
  have hB0 : Below w.heap.size w (w.alloc (.cells #[.map (some b)] 35)) := (Below.refl _ w).alloc (Nat.le_refl _) _
  have hc1 := (hB0.cell (p := ⟨Bs, 0, none⟩) (show Bs < _ by omega)).trans hc
  have hI1 := hI.below (hB0.mono (by omega))
  have hm1 := hm.alloc (.cells #[.map (some b)] 35)
  refine wpIn_rangeFunc_ownG rfl (by omega) (gf := 44) (lb := #[.pointer (some ⟨Bs, 0, none⟩)]) rfl trivial (enters_of Tryd.func44 (by kernel_rfl) rfl)
    (all_stops _ (by omega) Bs b a c xs hxs hwf _ (by simp; omega) (by simp; omega) hc1 hI1) belowK_t (belowK_b (by simp; omega)) (Below.refl _ _) (fun _ => rfl)
    (fun pre W => (W.cell? ⟨w.heap.size, 0, none⟩ = some (.map (some b)) ∧ W.ownsMap Tryd.prog 3 (plainElem (H := Unit) Tryd.prog 3) b pre.length (insD pre)) ∧ Below b w W)
    (fun _ _ _ => False)
    (OwnFrom.and (fun s A B row hs hg hr => ⟨cell_kept hs.1 hg (fun r e => (hr r e).2), hs.2.kept hg (fun e => by have := (hr _ e.symm).1; simp at this; omega)⟩) (ownFrom_below (by omega) (by simp; omega)))
    (fun _ _ _ _ _ hs _ _ => hs)
    ⟨⟨bM.cell, hm1⟩, hB0.mono (by omega)⟩
    (fun x => { tmps := #[.map (some b), .func (.func 44) #[] #[.pointer (some ⟨Bs, 0, none⟩)], .pointer (some ⟨w.heap.size, 0, none⟩), undef, .int .i64 x.1.1, .int .i64 x.1.2, .func (.func 44) #[] #[.pointer (some ⟨Bs, 0, none⟩)], .int .i64 x.1.1, .int .i64 x.1.2, undef, undef, undef], defers := [] }) ?assign ?body ?done ?stop
  case assign =>
    intro l x W K hK
    gi_wp2
    exact hK
  case body =>
    rintro l pre x W ⟨⟨hcb, hown⟩, hB⟩ hlt
    gi_wp2_with (gi_at_mapUpdate; refine wpListIn_mapUpdate_own _ rfl _ _ _ 35 rfl 3 3 (Maps.int_keyed Tryd.underlying3) Tryd.underlying35 _ b pre.length _ rfl hown (by unfold maxLen; omega) _ _ _ rfl rfl (Maps.keyOf_int_mk Tryd.underlying3 x.2.1) _ [] (plainElem_int Tryd.underlying3 x.2.2) ?_; intro w1 hown1 hgrow1)
    obtain ⟨es, ck, hh, _⟩ := hown
    have hbs := hB.size
    exact ⟨KeepsFrom.of_grownBy hgrow1 (fun j e => by cases e; simp; omega), (Below.refl _ W).grown hgrow1 (by omega) (fun k e => by cases e; exact Nat.le_refl _),
      ⟨cell_kept hcb hgrow1 (fun r e => by cases e; exact ⟨_, hh, rfl⟩), by rw [insD_snoc, List.length_append]; exact hown1⟩, hB.grown hgrow1 (by omega) (fun k e => by cases e; exact Nat.le_refl _)⟩
  case done =>
    rintro D ys W hD hys ⟨⟨hcb, hown⟩, hB⟩ hK
    have HY := hidOf hys
    clear hys
    gi_wp2
    refine ⟨by simp, .inl ⟨_, _, rfl, run_takeDeferred hK, ?_⟩⟩
    have hl : ys.length = xs.length := by
      have := congrArg List.length HY.out
      rwa [List.length_map, numd_len] at this
    rw [hl] at hown
    exact ⟨_, results_none rfl _ _ _, ⟨_, rfl⟩, ⟨ys, HY.out, hown.kept (grownBy_putObj' _ D _) (fun e => by cases e; simp at hD; omega)⟩, hB.trans (belowK_b (w := w) (by omega) W D _ _ (by simp at hD; omega) hK rfl rfl)⟩
  case stop =>
    rintro D c' pre W _ _ h _
    exact h.elim
end Go.Proofs.YtlpbhhgikgbfhaaDoor
