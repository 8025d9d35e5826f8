/- How many Kids a form lets a node have: the six countOk. By tools/rd/gti9.py's neighbour (gtc9.py). -/
import Derived.Test.YtcbbnphpkgifoaaGreatDoorTrI7
import Derived.Test.YtcbbnphpkgifoaaGreatDoorKaa
import Derived.Orders
namespace Go.Proofs.YtcbbnphpkgifoaaGreatDoor
open Go.RowKit
set_option maxHeartbeats 4000000
set_option maxRecDepth 100000
theorem iCnt1 (n : Nat) (hn : n ≤ 12) (w : World) : Calls Tryz.prog 315 #[.agg #[], .int .i64 (n : Int)] w fun e w' => e = .returned (.bool (cI 1 n)) ∧ Below w.heap.size w w' := by
 rcases (show n = 0 ∨ n = 1 ∨ n = 2 ∨ n = 3 ∨ n = 4 ∨ n = 5 ∨ n = 6 ∨ n = 7 ∨ n = 8 ∨ n = 9 ∨ n = 10 ∨ n = 11 ∨ n = 12 by omega) with rfl | rfl | rfl | rfl | rfl | rfl | rfl | rfl | rfl | rfl | rfl | rfl | rfl
 all_goals clear hn
 all_goals go_enter Tryz.func315, Tryz.ntmps315
 all_goals go_wp2
 all_goals go_ret
 all_goals exact ⟨rfl, by repeat first | exact Below.refl _ _ | refine Below.alloc ?_ (by simp) _ | refine Below.drew ?_⟩
theorem iCnt4 (n : Nat) (hn : n ≤ 12) (w : World) : Calls Tryz.prog 316 #[.agg #[.int .i64 0, .int .i64 12], .int .i64 (n : Int)] w fun e w' => e = .returned (.bool (cI 4 n)) ∧ Below w.heap.size w w' := by
 rcases (show n = 0 ∨ n = 1 ∨ n = 2 ∨ n = 3 ∨ n = 4 ∨ n = 5 ∨ n = 6 ∨ n = 7 ∨ n = 8 ∨ n = 9 ∨ n = 10 ∨ n = 11 ∨ n = 12 by omega) with rfl | rfl | rfl | rfl | rfl | rfl | rfl | rfl | rfl | rfl | rfl | rfl | rfl
 all_goals clear hn
 all_goals go_enter Tryz.func316, Tryz.ntmps316
 all_goals go_wp2
 all_goals go_ret
 all_goals exact ⟨rfl, by repeat first | exact Below.refl _ _ | refine Below.alloc ?_ (by simp) _ | refine Below.drew ?_⟩
theorem iCnt5 (n : Nat) (hn : n ≤ 12) (w : World) : Calls Tryz.prog 316 #[.agg #[.int .i64 1, .int .i64 12], .int .i64 (n : Int)] w fun e w' => e = .returned (.bool (cI 5 n)) ∧ Below w.heap.size w w' := by
 rcases (show n = 0 ∨ n = 1 ∨ n = 2 ∨ n = 3 ∨ n = 4 ∨ n = 5 ∨ n = 6 ∨ n = 7 ∨ n = 8 ∨ n = 9 ∨ n = 10 ∨ n = 11 ∨ n = 12 by omega) with rfl | rfl | rfl | rfl | rfl | rfl | rfl | rfl | rfl | rfl | rfl | rfl | rfl
 all_goals clear hn
 all_goals go_enter Tryz.func316, Tryz.ntmps316
 all_goals go_wp2
 all_goals go_ret
 all_goals exact ⟨rfl, by repeat first | exact Below.refl _ _ | refine Below.alloc ?_ (by simp) _ | refine Below.drew ?_⟩
theorem iCnt6 (n : Nat) (hn : n ≤ 12) (w : World) : Calls Tryz.prog 316 #[.agg #[.int .i64 1, .int .i64 1], .int .i64 (n : Int)] w fun e w' => e = .returned (.bool (cI 6 n)) ∧ Below w.heap.size w w' := by
 rcases (show n = 0 ∨ n = 1 ∨ n = 2 ∨ n = 3 ∨ n = 4 ∨ n = 5 ∨ n = 6 ∨ n = 7 ∨ n = 8 ∨ n = 9 ∨ n = 10 ∨ n = 11 ∨ n = 12 by omega) with rfl | rfl | rfl | rfl | rfl | rfl | rfl | rfl | rfl | rfl | rfl | rfl | rfl
 all_goals clear hn
 all_goals go_enter Tryz.func316, Tryz.ntmps316
 all_goals go_wp2
 all_goals go_ret
 all_goals exact ⟨rfl, by repeat first | exact Below.refl _ _ | refine Below.alloc ?_ (by simp) _ | refine Below.drew ?_⟩
theorem iCnt7 (n : Nat) (hn : n ≤ 12) (w : World) : Calls Tryz.prog 316 #[.agg #[.int .i64 2, .int .i64 12], .int .i64 (n : Int)] w fun e w' => e = .returned (.bool (cI 7 n)) ∧ Below w.heap.size w w' := by
 rcases (show n = 0 ∨ n = 1 ∨ n = 2 ∨ n = 3 ∨ n = 4 ∨ n = 5 ∨ n = 6 ∨ n = 7 ∨ n = 8 ∨ n = 9 ∨ n = 10 ∨ n = 11 ∨ n = 12 by omega) with rfl | rfl | rfl | rfl | rfl | rfl | rfl | rfl | rfl | rfl | rfl | rfl | rfl
 all_goals clear hn
 all_goals go_enter Tryz.func316, Tryz.ntmps316
 all_goals go_wp2
 all_goals go_ret
 all_goals exact ⟨rfl, by repeat first | exact Below.refl _ _ | refine Below.alloc ?_ (by simp) _ | refine Below.drew ?_⟩
theorem iCnt8 (n : Nat) (hn : n ≤ 12) (w : World) : Calls Tryz.prog 316 #[.agg #[.int .i64 3, .int .i64 3], .int .i64 (n : Int)] w fun e w' => e = .returned (.bool (cI 8 n)) ∧ Below w.heap.size w w' := by
 rcases (show n = 0 ∨ n = 1 ∨ n = 2 ∨ n = 3 ∨ n = 4 ∨ n = 5 ∨ n = 6 ∨ n = 7 ∨ n = 8 ∨ n = 9 ∨ n = 10 ∨ n = 11 ∨ n = 12 by omega) with rfl | rfl | rfl | rfl | rfl | rfl | rfl | rfl | rfl | rfl | rfl | rfl | rfl
 all_goals clear hn
 all_goals go_enter Tryz.func316, Tryz.ntmps316
 all_goals go_wp2
 all_goals go_ret
 all_goals exact ⟨rfl, by repeat first | exact Below.refl _ _ | refine Below.alloc ?_ (by simp) _ | refine Below.drew ?_⟩
theorem iCnt9 (n : Nat) (hn : n ≤ 12) (w : World) : Calls Tryz.prog 317 #[.agg #[.int .i64 1], .int .i64 (n : Int)] w fun e w' => e = .returned (.bool (cI 9 n)) ∧ Below w.heap.size w w' := by
 rcases (show n = 0 ∨ n = 1 ∨ n = 2 ∨ n = 3 ∨ n = 4 ∨ n = 5 ∨ n = 6 ∨ n = 7 ∨ n = 8 ∨ n = 9 ∨ n = 10 ∨ n = 11 ∨ n = 12 by omega) with rfl | rfl | rfl | rfl | rfl | rfl | rfl | rfl | rfl | rfl | rfl | rfl | rfl
 all_goals clear hn
 all_goals go_enter Tryz.func317, Tryz.ntmps317
 all_goals go_wp2
 all_goals go_ret
 all_goals exact ⟨rfl, by repeat first | exact Below.refl _ _ | refine Below.alloc ?_ (by simp) _ | refine Below.drew ?_⟩
theorem iCnt10 (n : Nat) (hn : n ≤ 12) (w : World) : Calls Tryz.prog 318 #[.agg #[], .int .i64 (n : Int)] w fun e w' => e = .returned (.bool (cI 10 n)) ∧ Below w.heap.size w w' := by
 rcases (show n = 0 ∨ n = 1 ∨ n = 2 ∨ n = 3 ∨ n = 4 ∨ n = 5 ∨ n = 6 ∨ n = 7 ∨ n = 8 ∨ n = 9 ∨ n = 10 ∨ n = 11 ∨ n = 12 by omega) with rfl | rfl | rfl | rfl | rfl | rfl | rfl | rfl | rfl | rfl | rfl | rfl | rfl
 all_goals clear hn
 all_goals go_enter Tryz.func318, Tryz.ntmps318
 all_goals go_wp2
 all_goals go_ret
 all_goals exact ⟨rfl, by repeat first | exact Below.refl _ _ | refine Below.alloc ?_ (by simp) _ | refine Below.drew ?_⟩
theorem iCnt12 (n : Nat) (hn : n ≤ 12) (w : World) : Calls Tryz.prog 316 #[.agg #[.int .i64 0, .int .i64 1], .int .i64 (n : Int)] w fun e w' => e = .returned (.bool (cI 12 n)) ∧ Below w.heap.size w w' := by
 rcases (show n = 0 ∨ n = 1 ∨ n = 2 ∨ n = 3 ∨ n = 4 ∨ n = 5 ∨ n = 6 ∨ n = 7 ∨ n = 8 ∨ n = 9 ∨ n = 10 ∨ n = 11 ∨ n = 12 by omega) with rfl | rfl | rfl | rfl | rfl | rfl | rfl | rfl | rfl | rfl | rfl | rfl | rfl
 all_goals clear hn
 all_goals go_enter Tryz.func316, Tryz.ntmps316
 all_goals go_wp2
 all_goals go_ret
 all_goals exact ⟨rfl, by repeat first | exact Below.refl _ _ | refine Below.alloc ?_ (by simp) _ | refine Below.drew ?_⟩
theorem iCnt16 (n : Nat) (hn : n ≤ 12) (w : World) : Calls Tryz.prog 319 #[.agg #[.int .i64 3], .int .i64 (n : Int)] w fun e w' => e = .returned (.bool (cI 16 n)) ∧ Below w.heap.size w w' := by
 rcases (show n = 0 ∨ n = 1 ∨ n = 2 ∨ n = 3 ∨ n = 4 ∨ n = 5 ∨ n = 6 ∨ n = 7 ∨ n = 8 ∨ n = 9 ∨ n = 10 ∨ n = 11 ∨ n = 12 by omega) with rfl | rfl | rfl | rfl | rfl | rfl | rfl | rfl | rfl | rfl | rfl | rfl | rfl
 all_goals clear hn
 all_goals go_enter Tryz.func319, Tryz.ntmps319
 all_goals go_wp2
 all_goals go_ret
 all_goals exact ⟨rfl, by repeat first | exact Below.refl _ _ | refine Below.alloc ?_ (by simp) _ | refine Below.drew ?_⟩
theorem iCnt17 (n : Nat) (hn : n ≤ 12) (w : World) : Calls Tryz.prog 319 #[.agg #[.int .i64 2], .int .i64 (n : Int)] w fun e w' => e = .returned (.bool (cI 17 n)) ∧ Below w.heap.size w w' := by
 rcases (show n = 0 ∨ n = 1 ∨ n = 2 ∨ n = 3 ∨ n = 4 ∨ n = 5 ∨ n = 6 ∨ n = 7 ∨ n = 8 ∨ n = 9 ∨ n = 10 ∨ n = 11 ∨ n = 12 by omega) with rfl | rfl | rfl | rfl | rfl | rfl | rfl | rfl | rfl | rfl | rfl | rfl | rfl
 all_goals clear hn
 all_goals go_enter Tryz.func319, Tryz.ntmps319
 all_goals go_wp2
 all_goals go_ret
 all_goals exact ⟨rfl, by repeat first | exact Below.refl _ _ | refine Below.alloc ?_ (by simp) _ | refine Below.drew ?_⟩
theorem iCnt18 (n : Nat) (hn : n ≤ 12) (w : World) : Calls Tryz.prog 320 #[.agg #[.int .i64 5], .int .i64 (n : Int)] w fun e w' => e = .returned (.bool (cI 18 n)) ∧ Below w.heap.size w w' := by
 rcases (show n = 0 ∨ n = 1 ∨ n = 2 ∨ n = 3 ∨ n = 4 ∨ n = 5 ∨ n = 6 ∨ n = 7 ∨ n = 8 ∨ n = 9 ∨ n = 10 ∨ n = 11 ∨ n = 12 by omega) with rfl | rfl | rfl | rfl | rfl | rfl | rfl | rfl | rfl | rfl | rfl | rfl | rfl
 all_goals clear hn
 all_goals go_enter Tryz.func320, Tryz.ntmps320
 all_goals go_wp2
 all_goals go_ret
 all_goals exact ⟨rfl, by repeat first | exact Below.refl _ _ | refine Below.alloc ?_ (by simp) _ | refine Below.drew ?_⟩
theorem iCnt20 (n : Nat) (hn : n ≤ 12) (w : World) : Calls Tryz.prog 317 #[.agg #[.int .i64 4], .int .i64 (n : Int)] w fun e w' => e = .returned (.bool (cI 20 n)) ∧ Below w.heap.size w w' := by
 rcases (show n = 0 ∨ n = 1 ∨ n = 2 ∨ n = 3 ∨ n = 4 ∨ n = 5 ∨ n = 6 ∨ n = 7 ∨ n = 8 ∨ n = 9 ∨ n = 10 ∨ n = 11 ∨ n = 12 by omega) with rfl | rfl | rfl | rfl | rfl | rfl | rfl | rfl | rfl | rfl | rfl | rfl | rfl
 all_goals clear hn
 all_goals go_enter Tryz.func317, Tryz.ntmps317
 all_goals go_wp2
 all_goals go_ret
 all_goals exact ⟨rfl, by repeat first | exact Below.refl _ _ | refine Below.alloc ?_ (by simp) _ | refine Below.drew ?_⟩
theorem iCnt21 (n : Nat) (hn : n ≤ 12) (w : World) : Calls Tryz.prog 320 #[.agg #[.int .i64 6], .int .i64 (n : Int)] w fun e w' => e = .returned (.bool (cI 21 n)) ∧ Below w.heap.size w w' := by
 rcases (show n = 0 ∨ n = 1 ∨ n = 2 ∨ n = 3 ∨ n = 4 ∨ n = 5 ∨ n = 6 ∨ n = 7 ∨ n = 8 ∨ n = 9 ∨ n = 10 ∨ n = 11 ∨ n = 12 by omega) with rfl | rfl | rfl | rfl | rfl | rfl | rfl | rfl | rfl | rfl | rfl | rfl | rfl
 all_goals clear hn
 all_goals go_enter Tryz.func320, Tryz.ntmps320
 all_goals go_wp2
 all_goals go_ret
 all_goals exact ⟨rfl, by repeat first | exact Below.refl _ _ | refine Below.alloc ?_ (by simp) _ | refine Below.drew ?_⟩
theorem iCnt22 (n : Nat) (hn : n ≤ 12) (w : World) : Calls Tryz.prog 320 #[.agg #[.int .i64 7], .int .i64 (n : Int)] w fun e w' => e = .returned (.bool (cI 22 n)) ∧ Below w.heap.size w w' := by
 rcases (show n = 0 ∨ n = 1 ∨ n = 2 ∨ n = 3 ∨ n = 4 ∨ n = 5 ∨ n = 6 ∨ n = 7 ∨ n = 8 ∨ n = 9 ∨ n = 10 ∨ n = 11 ∨ n = 12 by omega) with rfl | rfl | rfl | rfl | rfl | rfl | rfl | rfl | rfl | rfl | rfl | rfl | rfl
 all_goals clear hn
 all_goals go_enter Tryz.func320, Tryz.ntmps320
 all_goals go_wp2
 all_goals go_ret
 all_goals exact ⟨rfl, by repeat first | exact Below.refl _ _ | refine Below.alloc ?_ (by simp) _ | refine Below.drew ?_⟩
theorem iCnt2 (n : Nat) (hn : n ≤ 12) (w : World) : Calls Tryz.prog 315 #[.agg #[], .int .i64 (n : Int)] w fun e w' => e = .returned (.bool (cI 2 n)) ∧ Below w.heap.size w w' := by
 exact iCnt1 n hn w
theorem iCnt3 (n : Nat) (hn : n ≤ 12) (w : World) : Calls Tryz.prog 315 #[.agg #[], .int .i64 (n : Int)] w fun e w' => e = .returned (.bool (cI 3 n)) ∧ Below w.heap.size w w' := by
 exact iCnt1 n hn w
theorem iCnt11 (n : Nat) (hn : n ≤ 12) (w : World) : Calls Tryz.prog 316 #[.agg #[.int .i64 1, .int .i64 1], .int .i64 (n : Int)] w fun e w' => e = .returned (.bool (cI 11 n)) ∧ Below w.heap.size w w' := by
 exact iCnt6 n hn w
theorem iCnt13 (n : Nat) (hn : n ≤ 12) (w : World) : Calls Tryz.prog 316 #[.agg #[.int .i64 1, .int .i64 1], .int .i64 (n : Int)] w fun e w' => e = .returned (.bool (cI 13 n)) ∧ Below w.heap.size w w' := by
 exact iCnt6 n hn w
theorem iCnt14 (n : Nat) (hn : n ≤ 12) (w : World) : Calls Tryz.prog 316 #[.agg #[.int .i64 1, .int .i64 1], .int .i64 (n : Int)] w fun e w' => e = .returned (.bool (cI 14 n)) ∧ Below w.heap.size w w' := by
 exact iCnt6 n hn w
theorem iCnt15 (n : Nat) (hn : n ≤ 12) (w : World) : Calls Tryz.prog 316 #[.agg #[.int .i64 0, .int .i64 1], .int .i64 (n : Int)] w fun e w' => e = .returned (.bool (cI 15 n)) ∧ Below w.heap.size w w' := by
 exact iCnt12 n hn w
theorem iCnt19 (n : Nat) (hn : n ≤ 12) (w : World) : Calls Tryz.prog 315 #[.agg #[], .int .i64 (n : Int)] w fun e w' => e = .returned (.bool (cI 19 n)) ∧ Below w.heap.size w w' := by
 exact iCnt1 n hn w
def slotOf (a : Act) (o : Oper) : Value :=
 match o.dst with
 | some d => a.tmps.getD d undef
 | none => undef
section
variable {P : Program} {ops : Array Oper} {Q : Exit → Act → World → Prop}
structure RegAt (ops : Array Oper) (a0 : Act) (Inv : World → Prop) (Post : Nat → Value → World → Prop) (L : Array Bool) (a : Act) (w : World) : Prop where
 size : L.size = ops.size
 inv : Inv w
 defers : a.defers = a0.defers
 tsize : a.tmps.size = a0.tmps.size
 fix : ∀ s, (∀ (j : Nat) (o : Oper), ops[j]? = some o → o.dst ≠ some s) → a.tmps.getD s undef = a0.tmps.getD s undef
 post : ∀ (k : Nat) (o : Oper), ops[k]? = some o → L.getD k true = true → Post k (slotOf a o) w
theorem all_listed {L : Array Bool} (hs : L.size = ops.size) (hafter : ∀ (k : Nat) (o : Oper), ops[k]? = some o → ∀ e ∈ o.after, Region.binds .any e = true → e.on < k) (h : Region.ready .any ops L = []) : ∀ k, L.getD k true = true := by
 intro k
 induction k using Nat.strongRecOn with
 | ind k ih =>
  rcases hb : L.getD k true with _ | _
  ·have hkl : k < L.size := by
    rcases Nat.lt_or_ge k L.size with h' | h'
    ·exact h'
    ·simp [Array.getElem?_eq_none h'] at hb
   have hko : k < ops.size := by omega
   have hm : k ∈ Region.ready .any ops L := mem_ready.2 ⟨hb, ops[k], Array.getElem?_eq_getElem hko, fun e he hbn => by
    have hlt := hafter k _ (Array.getElem?_eq_getElem hko) e he hbn
    have h1 := ih e.on hlt
    have hel : e.on < L.size := by omega
    simp [hel] at h1 ⊢
    exact h1⟩
   rw [h] at hm
   cases hm
  ·rfl
theorem count_set {L : Array Bool} {i : Nat} (h : L.getD i true = false) : (L.setIfInBounds i true).count false + 1 = L.count false := by
 have hlt : i < L.size := by
  rcases Nat.lt_or_ge i L.size with h' | h'
  ·exact h'
  ·simp [Array.getElem?_eq_none h'] at h
 have hv : L[i] = false := by simpa [hlt] using h
 rw [Array.setIfInBounds_def, dif_pos hlt, Array.count_set hlt, hv]
 have : 0 < L.count false := Array.count_pos_iff.2 (by rw [← hv]; exact Array.getElem_mem hlt)
 simp
 omega
theorem wp_value {o : Oper} {a : Act} {w w' : World} {K : Act → World → Prop} {v : Value} (h : (execOp a.eval o).run P w = .ok (.value v) w') (hk : K (a.put o.dst v) w') : Oper.wp P o a w K Q := by
 unfold Oper.wp
 rw [h]
 exact hk
theorem wp_skip {o : Oper} {a : Act} {w w' : World} {K : Act → World → Prop} (h : (execOp a.eval o).run P w = .ok .skip w') (hk : K (a.put o.dst undef) w') : Oper.wp P o a w K Q := by
 unfold Oper.wp
 rw [h]
 exact hk
end
def tidyG (ops : Array Oper) (size : Nat) : Bool :=
 (List.range ops.size).all fun k =>
  match ops[k]? with
  | none => true
  | some o => (o.after.all fun e => !Region.binds .any e || decide (e.on < k)) &&
   (match o.dst with
   | none => true
   | some d => decide (d < size) && (List.range ops.size).all fun j => decide (k = j) || ((ops[j]?).bind (·.dst)) != some d)
theorem tidyG_at {ops : Array Oper} {size : Nat} (h : tidyG ops size = true) {k : Nat} {o : Oper} (hk : ops[k]? = some o) :
  (∀ e ∈ o.after, Region.binds .any e = true → e.on < k) ∧ ∀ d, o.dst = some d → d < size ∧ ∀ (j : Nat) (o' : Oper), ops[j]? = some o' → o'.dst = some d → k = j := by
 have hlt : k < ops.size := (Array.getElem?_eq_some_iff.1 hk).1
 unfold tidyG at h
 rw [List.all_eq_true] at h
 have h1 := h k (List.mem_range.2 hlt)
 rw [hk] at h1
 dsimp only at h1
 rw [Bool.and_eq_true] at h1
 obtain ⟨ha, hd⟩ := h1
 refine ⟨fun e he hb => ?_, fun d hdd => ?_⟩
 ·rw [Array.all_eq_true_iff_forall_mem] at ha
  have := ha e he
  rw [hb] at this
  simpa using this
 ·rw [hdd] at hd
  dsimp only at hd
  rw [Bool.and_eq_true] at hd
  refine ⟨by simpa using hd.1, fun j o' hj hj' => ?_⟩
  have hjl : j < ops.size := (Array.getElem?_eq_some_iff.1 hj).1
  have h2 := List.all_eq_true.1 hd.2 j (List.mem_range.2 hjl)
  rw [hj] at h2
  simp only [Option.bind_some, hj', bne_self_eq_false, Bool.or_false, decide_eq_true_eq] at h2
  exact h2
section
variable {P : Program} {ops : Array Oper} {Q : Exit → Act → World → Prop}
theorem RegAt.put {a0 : Act} {Inv : World → Prop} {Post : Nat → Value → World → Prop} {L : Array Bool} {a : Act} {w w' : World} {i : Nat} {o : Oper} {v : Value} (ht : tidyG ops a0.tmps.size = true) (h : RegAt ops a0 Inv Post L a w) (ho : ops[i]? = some o) (hv : o.dst = none → v = undef) (hinv : Inv w')
  (hold : ∀ (k : Nat) (u : Value), Post k u w → Post k u w') (hpost : Post i v w') : RegAt ops a0 Inv Post (L.setIfInBounds i true) (a.put o.dst v) w' := by
 obtain ⟨hb, hd⟩ := tidyG_at ht ho
 refine ⟨by simpa using h.size, hinv, ?_, ?_, ?_, ?_⟩
 ·cases hod : o.dst with
  | none => exact h.defers
  | some d => exact h.defers
 ·cases hod : o.dst with
  | none => exact h.tsize
  | some d => simpa [Act.put] using h.tsize
 ·intro s hs
  rw [← h.fix s hs]
  cases hod : o.dst with
  | none => rfl
  | some d =>
   have hne : d ≠ s := fun e => hs i o ho (by rw [hod, e])
   simp [Act.put, Array.getElem?_setIfInBounds_ne hne]
 ·intro k o' hk hL
  by_cases hik : i = k
  ·subst hik
   rw [ho] at hk
   cases hk
   cases hod : o.dst with
   | none =>
    have : slotOf (a.put none v) o = v := by rw [hv hod]; unfold slotOf; rw [hod]
    rw [this]
    exact hpost
   | some d =>
    have hlt : d < a.tmps.size := by rw [h.tsize]; exact (hd d hod).1
    have : slotOf (a.put (some d) v) o = v := by
     unfold slotOf
     rw [hod]
     simp [Act.put, hlt]
    rw [this]
    exact hpost
  ·rw [getD_set_ne true hik] at hL
   have hold := hold k _ (h.post k o' hk hL)
   have : slotOf (a.put o.dst v) o' = slotOf a o' := by
    cases hod : o.dst with
    | none => rfl
    | some d =>
     unfold slotOf
     cases hod' : o'.dst with
     | none => rfl
     | some d' =>
      have hne : d ≠ d' := fun e => hik ((hd d hod).2 k o' hk (by rw [hod', e]))
      simp [Act.put, Array.getElem?_setIfInBounds_ne hne]
   rw [this]
   exact hold
theorem wpAny_guards {a0 : Act} (Inv : World → Prop) (Step : World → World → Prop) (Post : Nat → Value → World → Prop) (ht : tidyG ops a0.tmps.size = true)
  (hstab : ∀ k v w w', Post k v w → Inv w → Step w w' → Post k v w')
  (hstep : ∀ (k : Nat) (o : Oper), ops[k]? = some o → ∀ a w, Inv w → a.tmps.size = a0.tmps.size → (∀ s, (∀ (j : Nat) (o' : Oper), ops[j]? = some o' → o'.dst ≠ some s) → a.tmps.getD s undef = a0.tmps.getD s undef) →
   (∀ e ∈ o.after, Region.binds .any e = true → ∀ (o' : Oper), ops[e.on]? = some o' → Post e.on (slotOf a o') w) →
   (Region.wanted o (yielded ops a.tmps) = true ∧ ∀ K : Act → World → Prop, (∀ v w', (o.dst = none → v = undef) → Inv w' → Step w w' → Post k v w' → K (a.put o.dst v) w') → Oper.wp P o a w K Q) ∨ (Region.wanted o (yielded ops a.tmps) = false ∧ Post k undef w))
  (hend : ∀ a w, Inv w → a.defers = a0.defers → a.tmps.size = a0.tmps.size → (∀ s, (∀ (j : Nat) (o' : Oper), ops[j]? = some o' → o'.dst ≠ some s) → a.tmps.getD s undef = a0.tmps.getD s undef) →
   (∀ (k : Nat) (o : Oper), ops[k]? = some o → Post k (slotOf a o) w) → Q .normal a w) :
  ∀ (fuel : Nat) (L : Array Bool) (a : Act) (w : World), RegAt ops a0 Inv Post L a w → L.count false ≤ fuel → wpAny P .any ops Q fuel L a w := by
 have fin : ∀ (L : Array Bool) (a : Act) (w : World), RegAt ops a0 Inv Post L a w → Region.ready .any ops L = [] → Q .normal a w := fun L a w h hr =>
  hend a w h.inv h.defers h.tsize h.fix (fun k o hk => h.post k o hk (all_listed h.size (fun k o hk => (tidyG_at ht hk).1) hr k))
 intro fuel
 induction fuel with
 | zero =>
  intro L a w h hc
  have hr : Region.ready .any ops L = [] := by
   cases hr : Region.ready .any ops L with
   | nil => rfl
   | cons x xs =>
    have hx : x ∈ Region.ready .any ops L := by rw [hr]; exact List.mem_cons_self
    have := count_set (mem_ready.1 hx).1
    omega
  exact ⟨hr, fin L a w h hr⟩
 | succ fuel ih =>
  intro L a w h hc
  refine ⟨fin L a w h, fun i hi => ?_⟩
  obtain ⟨hun, o, ho, hall⟩ := mem_ready.1 hi
  have hcs := count_set hun
  unfold wpOp
  simp only [ho]
  rcases hstep i o ho a w h.inv h.tsize h.fix (fun e he hbn o' ho' => h.post e.on o' ho' (by
   have h1 := hall e he hbn
   have hel : e.on < L.size := by
    rcases Nat.lt_or_ge e.on L.size with h' | h'
    ·exact h'
    ·simp [Array.getElem?_eq_none h'] at h1
   simp [hel] at h1 ⊢
   exact h1)) with ⟨hw, hrun⟩ | ⟨hw, hpost⟩
  ·rw [if_pos hw]
   exact .inl (hrun _ (fun v w' hv hinv hst hpost => ih _ _ _ (h.put ht ho hv hinv (fun k u hu => hstab k u w w' hu h.inv hst) hpost) (by omega)))
  ·rw [if_neg (by rw [hw]; exact Bool.false_ne_true)]
   exact ih _ _ _ (h.put ht ho (fun _ => rfl) h.inv (fun k u hu => hu) hpost) (by omega)
theorem wp_region_guards {id : Nat} {a0 : Act} {w0 : World} (hm : P.follows .mixedOrders = true) (Inv : World → Prop) (Step : World → World → Prop) (Post : Nat → Value → World → Prop) (h0 : Inv { w0 with drawn := w0.drawn + 1 }) (ht : tidyG ops a0.tmps.size = true)
  (hstab : ∀ k v w w', Post k v w → Inv w → Step w w' → Post k v w')
  (hstep : ∀ (k : Nat) (o : Oper), ops[k]? = some o → ∀ a w, Inv w → a.tmps.size = a0.tmps.size → (∀ s, ops.all (fun o => o.dst != some s) = true → a.tmps.getD s undef = a0.tmps.getD s undef) →
   (∀ (j : Nat) (o' : Oper), ops[j]? = some o' → o.after.any (fun e => Region.binds .any e && e.on == j) = true → Post j (slotOf a o') w) →
   (Region.wanted o (yielded ops a.tmps) = true ∧ ∀ K : Act → World → Prop, (∀ v w', (o.dst = none → v = undef) → Inv w' → Step w w' → Post k v w' → K (a.put o.dst v) w') → Oper.wp P o a w K Q) ∨ (Region.wanted o (yielded ops a.tmps) = false ∧ Post k undef w))
  (hend : ∀ a w, Inv w → a.defers = a0.defers → a.tmps.size = a0.tmps.size → (∀ s, ops.all (fun o => o.dst != some s) = true → a.tmps.getD s undef = a0.tmps.getD s undef) →
   (∀ (k : Nat) (o : Oper), ops[k]? = some o → Post k (slotOf a o) w) → Q .normal a w) : (Code.region id ops true).wp P Q a0 w0 := by
 have hfx : ∀ s, ops.all (fun o => o.dst != some s) = true → ∀ (j : Nat) (o' : Oper), ops[j]? = some o' → o'.dst ≠ some s := fun s hs j o' hj e => by
  have := Array.all_eq_true_iff_forall_mem.1 hs o' (Array.mem_of_getElem? hj)
  simp [e] at this
 refine wp_region_any hm (wpAny_guards Inv Step Post ht hstab (fun k o hk a w hI hsz hfix hdep => hstep k o hk a w hI hsz (fun s hs => hfix s (hfx s hs)) (fun j o' hj ha => ?_)) (fun a w hI hd hsz hfix hpost => hend a w hI hd hsz (fun s hs => hfix s (hfx s hs)) hpost) _ _ _ _ ⟨by simp, h0, rfl, rfl, fun _ _ => rfl, fun k o hk hL => ?_⟩ ?_)
 ·obtain ⟨e, he, hb⟩ := Array.any_eq_true'.1 ha
  rw [Bool.and_eq_true, beq_iff_eq] at hb
  obtain ⟨hb, rfl⟩ := hb
  exact hdep e he hb o' hj
 ·have hlt : k < ops.size := (Array.getElem?_eq_some_iff.1 hk).1
  simp [hlt] at hL
 ·exact Nat.le_trans Array.count_le_size (by simp)
theorem wanted_none {o : Oper} {y : Nat → Option Bool} (h : o.guard = none) : Region.wanted o y = true := by simp [Region.wanted, h]
theorem wanted_is {o oj : Oper} {a : Act} {j d : Nat} {b c : Bool} (hg : o.guard = some (j, b)) (hj : ops[j]? = some oj) (hd : oj.dst = some d) (hv : a.tmps.getD d undef = .bool c) : Region.wanted o (yielded ops a.tmps) = (c == b) := by
 have e : a.tmps[d]? = some (.bool c) := by
  cases h : a.tmps[d]? with
  | none => simp [h, undef] at hv
  | some x => simp [h] at hv; rw [hv]
 unfold Region.wanted yielded
 rw [hg]
 dsimp only
 rw [hj]
 simp only [Option.bind_some, hd, e]
 cases c <;> cases b <;> rfl
theorem wp_calls {o : Oper} {a : Act} {w : World} {K : Act → World → Prop} (f : Nat) (vals : Array Value) {R : Ending → World → Prop} (hrun : (execOp a.eval o).run P w = .ok (.enter f vals) w) (hc : Calls P f vals w R) (hk : ∀ e w', R e w' → ∃ v, e = .returned v ∧ K (a.put o.dst v) w') : Oper.wp P o a w K Q := by
 unfold Oper.wp
 rw [hrun, Oper.upon_enter]
 refine hc.mono fun e w' hh => ?_
 obtain ⟨v, he, hv⟩ := hk e w' hh
 subst he
 exact hv
end
end Go.Proofs.YtcbbnphpkgifoaaGreatDoor
