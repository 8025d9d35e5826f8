/- What impl.eachLine tells: the lines of its text, one by one. -/
import Derived.RangeFuncNested
import Derived.RangeFuncBound
import Derived.RangeFuncCalls
import Derived.RangeFuncLeaves
import Derived.RangeFuncBox
import Derived.RangeFuncWrites
import Derived.Shelf.Abstract
import Derived.Shelf.RegionOpen
import Derived.WalkKit
import Derived.OwnWalkIn
import Derived.TacticsInMore
import Derived.LoopNIn
import Derived.LoopIn
import Derived.Maps.AppendAt
import Derived.Test.YtcbbnphpkgifoaaGreatDoorKaq
import Derived.Test.YtcbbnphpkgifoaaGreatDoorKab
namespace Go.Proofs.YtcbbnphpkgifoaaGreatDoor
set_option maxHeartbeats 1000000
set_option maxRecDepth 100000
open Go.RowKit Go.Shelf
attribute [local go_sem] Oper.semAt_some
theorem cut_any (s : ByteArray) (m : Int) (w : World) (hs : s.size ≤ 4194304) (hm : w.cell? ⟨0, 0, none⟩ = some (.int .i64 m)) :
  Calls Tryz.prog 109 #[.string s, .string ⟨#[10]⟩] w fun e w' => e = .returned (.tuple #[.string (cutA s), .string (cutB s), .bool (cutF s)]) ∧ ∃ n, w' = w.drewN n :=
 Tryz.strings_Cut s ⟨#[10]⟩ m w (by omega) hm
abbrev Ln := { x : ByteArray // x.size ≤ 4194304 }
def lnVals (ys : List Ln) : List ByteArray := ys.map (·.1)
theorem lnVals_snoc (ys : List Ln) (x : Ln) : lnVals (ys ++ [x]) = lnVals ys ++ [x.1] := by simp [lnVals]
theorem lnVals_len (ys : List Ln) : (lnVals ys).length = ys.length := by simp [lnVals]
def sizeOfV : Value → Nat
 | .string s => s.size
 | _ => 0
theorem grown_drewN (w : World) (q : Nat) : w.grownBy (w.drewN q) none := ⟨rfl, rfl, rfl, Nat.le_refl _, fun _ _ _ => rfl⟩
theorem each1_in (n : Nat) (hn : 1 ≤ n) (l Bn n₀ : Nat) (s : ByteArray) (hs : s.size ≤ 4194304) (m : Int) (hM0 : 0 < n₀) (J Jx : List Ln → World → Prop)
  (hJd : ∀ pre W q, J pre W → J pre (World.drewN W q))
  (hY : ∀ pre (x : Ln) W, J pre W → pre.length < (lns s).length → YieldAt Fence.wide (n - 1) Tryz.prog l #[.string x.1] W fun e W' =>
   (e = .returned (.bool true) ∧ J (pre ++ [x]) W' ∧ Below n₀ W W') ∨ (e = .returned (.bool false) ∧ Jx (pre ++ [x]) W'))
  (W : World) (hBn : W.cell? ⟨Bn, 0, none⟩ = some (.string s)) (hM : W.cell? ⟨0, 0, none⟩ = some (.int .i64 m)) (h0 : J [] W) :
  CallsIn Fence.wide n Tryz.prog 108 #[.func (.yield l) #[] #[], .pointer (some ⟨Bn, 0, none⟩)] W fun e W' => (∃ v, e = .returned v) ∧
   ((∃ ys : List Ln, lnVals ys = lns s ∧ J ys W') ∨ (∃ pre : List Ln, lnVals pre <+: lns s ∧ Jx pre W')) := by
 refine callsIn_of_wp Tryz.func108 rfl trivial ?_ rfl
 simp only [Tryz.ntmps108, List.size_toArray, List.length_cons, List.length_nil, Nat.reduceAdd, Nat.reduceSub, Array.replicate_succ, Array.replicate_zero, List.push_toArray, List.append_toArray, List.nil_append, List.cons_append]
 gi_wp2
 gi_loopw [3] (fun p wr => ∃ (pre : List Ln) (rest : ByteArray), p = .string rest ∧ rest.size ≤ s.size ∧ Hid (lnVals pre ++ lns rest = lns s) ∧ J pre wr ∧ wr.cell? ⟨0, 0, none⟩ = some (.int .i64 m))
  (fun p _ => sizeOfV p)
 case atStart => exact ⟨[], s, rfl, Nat.le_refl _, rfl, h0, hM⟩
 case round =>
  obtain ⟨pre, rest, rfl, hrs, HX, hJs, hMr⟩ := hrel
  by_cases hz : rest.size = 0
  ·have hE : rest.toList.isEmpty = true := by rw [str_none, decide_eq_true_eq]; exact hz
   gi_wp2
   go_end0
   exact ⟨⟨_, rfl⟩, .inl ⟨pre, by rw [← HX.out, lns_none hz, List.append_nil], hJs⟩⟩
  ·have hE : rest.toList.isEmpty = false := by rw [str_none, decide_eq_false_iff_not]; exact hz
   have hA := cutA_size (s := rest) (by omega)
   have hB := cutB_size (s := rest) (by omega)
   have hlc := lns_cut (s := rest) (by omega)
   have HL := hidOf hlc
   clear hlc
   have hYq := fun q => hY pre ⟨cutA rest, by omega⟩ (wr.drewN q) (hJd pre wr q hJs) (by
    have h1 := congrArg List.length HX.out
    rw [HL.out, List.length_append, lnVals_len, List.length_cons] at h1
    omega)
   gi_wp2_with (refine ⟨trivial, ?_⟩; gi_at_call 109; refine (callsIn_wide.2 (cut_any rest m _ (by omega) hMr)).mono ?_; rintro e w' ⟨rfl, q, rfl⟩; obtain ⟨fn, tmps, assign, body, hy, hR⟩ := hYq q; dsimp only at hy)
   refine hR.mono ?_
   rintro e W3 (⟨rfl, hJ3, hk3⟩ | ⟨rfl, hJx3⟩)
   ·have hM3 := (hk3.cell (p := ⟨0, 0, none⟩) hM0).trans hMr
    gi_wp2
    go_roundw
    case rel => exact ⟨_, cutB rest, rfl, by omega, hidOf (by rw [lnVals_snoc, ← HX.out, HL.out]; simp), hJ3, hM3⟩
    case measure => simp [sizeOfV]; omega
   ·gi_wp2
    refine bodyPost_ret (results_none rfl _ _ _) rfl ?_
    exact ⟨⟨_, rfl⟩, .inr ⟨_, ⟨lns (cutB rest), by rw [lnVals_snoc, ← HX.out, HL.out]; simp⟩, hJx3⟩⟩
theorem each_in (n : Nat) (s : ByteArray) (w : World) :
  CallsIn Fence.wide n Tryz.prog 67 #[.string s] w fun e w' => e = .returned (.func (.func 108) #[] #[.pointer (some ⟨w.heap.size, 0, none⟩)]) ∧ w' = w.alloc (.cells #[.string s] 9) := by
 refine callsIn_of_wp Tryz.func67 rfl trivial ?_ rfl
 simp only [Tryz.ntmps67, List.size_toArray, List.length_cons, List.length_nil, Nat.reduceAdd, Nat.reduceSub, Array.replicate_succ, Array.replicate_zero, List.push_toArray, List.append_toArray, List.nil_append, List.cons_append]
 gi_wp2
 go_ret
 exact ⟨rfl, rfl⟩
theorem each_stops (n : Nat) (hn : 1 ≤ n) (Bn n₀ : Nat) (s : ByteArray) (hs : s.size ≤ 4194304) (m : Int) (w : World) (hM0 : 0 < n₀) (hBn : Bn < w.heap.size)
  (hc : w.cell? ⟨Bn, 0, none⟩ = some (.string s)) (hM : w.cell? ⟨0, 0, none⟩ = some (.int .i64 m)) :
  SeqStopsK Fence.wide n Tryz.prog 108 #[.pointer (some ⟨Bn, 0, none⟩)] (fun x : Ln => #[Value.string x.1]) (Below n₀) (fun ys => lnVals ys = lns s) (fun pre => lnVals pre <+: lns s) (lns s).length w := fun l J Jx W hW hJ _ hY h0 =>
 each1_in n hn l Bn n₀ s hs m hM0 J Jx (fun pre W q h => hJ pre W _ none h (grown_drewN W q) (fun _ e => by cases e)) hY W ((hW.cell (p := ⟨Bn, 0, none⟩) hBn).trans hc) ((hW.cell (p := ⟨0, 0, none⟩) (by show 0 < _; omega)).trans hM) h0
end Go.Proofs.YtcbbnphpkgifoaaGreatDoor
namespace Go.Proofs.YtcbbnphpkgifoaaGreatDoor
open Go.RowKit Go.Shelf
attribute [local go_sem] Oper.semAt_some
set_option maxRecDepth 100000 in
set_option maxHeartbeats 4000000 in
theorem iWide_any (s : ByteArray) (m : Int) (w : World) (hs : s.size ≤ 4194304) (hM0 : 0 < w.heap.size) (hM : w.cell? ⟨0, 0, none⟩ = some (.int .i64 m)) :
  Calls Tryz.prog 31 #[.string s] w fun e w' => e = .returned (.int .i64 (widest (lns s))) ∧ Below w.heap.size w w' := by
 refine (callsIn_wide (n := 4)).1 ?_
 refine callsIn_of_wp_marks Tryz.func31 rfl trivial ?_ rfl
 simp only [Tryz.ntmps31, List.size_toArray, List.length_cons, List.length_nil, Nat.reduceAdd, Nat.reduceSub, Array.replicate_succ, Array.replicate_zero, List.push_toArray, List.append_toArray, List.nil_append, List.cons_append]
 gi_wp2_with (refine ⟨trivial, ?_⟩; gi_at_call 67; refine (each_in _ s _).mono ?_; rintro e w' ⟨rfl, rfl⟩)
 have bO := Boxed.new w 3 (.int .i64 0)
 have bN := Boxed.new (w.alloc (.cells #[.int .i64 0] 3)) 9 (.string s)
 rw [World.size_alloc] at bN
 have hB0 : Below w.heap.size w ((w.alloc (.cells #[.int .i64 0] 3)).alloc (.cells #[.string s] 9)) := ((Below.refl _ w).alloc (Nat.le_refl _) _).alloc (by simp) _
 have hMb := (hB0.cell (p := ⟨0, 0, none⟩) hM0).trans hM
 refine wpIn_rangeFunc_ownG rfl (by omega) (gf := 108) (lb := #[.pointer (some ⟨w.heap.size + 1, 0, none⟩)]) rfl trivial (enters_of Tryz.func108 (by kernel_rfl) rfl)
  (each_stops _ (by omega) (w.heap.size + 1) w.heap.size s hs m _ hM0 (by simp) bN.cell hMb) belowK_t (belowK_b (by simp; omega)) (Below.refl _ _) (fun _ => rfl)
  (fun pre W => Boxed W w.heap.size 3 (.int .i64 (widest (lnVals pre))) ∧ Below w.heap.size w W)
  (fun _ _ _ => False)
  (OwnFrom.and (Own.from (boxed_own _ _ _) _) (ownFrom_below (Nat.le_refl _) (by simp; omega)))
  (fun _ _ _ _ _ hs _ _ => hs)
  ⟨bO.alloc _, hB0⟩
  (fun x => { tmps := #[.string s, undef, .int .i64 0, .pointer (some ⟨w.heap.size, 0, none⟩), .string x.1, .string s, .func (.func 108) #[] #[.pointer (some ⟨w.heap.size + 1, 0, none⟩)], .string x.1, undef, undef, undef, undef, undef], defers := [] }) ?assign ?body ?done ?stop
 case assign =>
  intro l x W K hK
  gi_wp2
  exact hK
 case body =>
  rintro l pre x W ⟨hv, hB⟩ hlt
  have hc := hv.cell
  have hf := hv.frozen
  have hx := x.2
  have hsn := widest_snoc (lnVals pre) x.1
  rw [← lnVals_snoc] at hsn
  have HSN := hidOf hsn
  clear hsn
  have hwl : widest (lnVals pre) ≤ 4194304 := widest_le fun t ht => by
   obtain ⟨y, _, rfl⟩ := List.mem_map.1 ht
   exact y.2
  generalize hr : widest (lnVals pre) = r at *
  clear hr
  gi_wp2
  refine ⟨(KeepsOthers.setCell _ _ _).from _, (Below.refl w.heap.size W).setCell (p := ⟨w.heap.size, 0, none⟩) (Nat.le_refl _) _, ?_, hB.setCell (p := ⟨w.heap.size, 0, none⟩) (Nat.le_refl _) _⟩
  rw [HSN.out, show ((max r x.1.size : Nat) : Int) = max (r : Int) (x.1.size : Int) by omega]
  exact hv.set _
 case done =>
  rintro D ys W hD hys ⟨hv, hB⟩ hK
  have hc := hv.cell
  gi_wp2
  refine ⟨by simp, .inl ⟨_, _, rfl, run_takeDeferred hK, ?_⟩⟩
  exact ⟨_, results_tmp rfl _ _ _, rfl, hB.trans (belowK_b (w := w) (Nat.le_refl _) W D _ _ (by simp at hD; omega) hK rfl rfl)⟩
 case stop =>
  rintro D c pre W _ _ h _
  exact h.elim
end Go.Proofs.YtcbbnphpkgifoaaGreatDoor
