/- What the laws' helpers on rules, spans and ties tell of the same lists. -/
import Derived.Test.YtghfpcjgionbaaaProg
import Derived.Test.YtghfpcjgionbaaaPcLib
import Derived.BigQuiet
import Derived.Deep.QuietTactic
import Derived.Deep.RegionWith
import Derived.Deep.RegionHeld3
namespace Go.Proofs.Ytghfpcjgionbaaa
open Go.RowKit


set_option maxHeartbeats 1600000 in
theorem eqRu_any (x : Ru) (w : World) :
    Calls Try.prog 79 #[.agg #[.int .i64 x.values, .int .i64 x.cost], .agg #[.int .i64 x.values, .int .i64 x.cost]] w fun e w' => e = .returned (.bool true) ∧ Below w.heap.size w w' := by
  have h0 : (x.values != x.values) = false := by simp
  have h1 : (x.cost != x.cost) = false := by simp
  go_enter Try.func79, Try.ntmps79
  go_wp2
  go_ret
  exact ⟨rfl, ((Below.refl _ _).alloc (Nat.le_refl _) _).alloc (by simp) _⟩

set_option maxHeartbeats 4000000 in
theorem eqRus_same (a1 a2 : Option Addr) (c1 c2 : Nat) (xs : List Ru) (w : World) (hx0 : xs.length ≤ 1048576) (h1 : RowsAt 2 ruCells w a1 xs) (h2 : RowsAt 2 ruCells w a2 xs) :
    Calls Try.prog 54 #[.slice a1 xs.length c1, .slice a2 xs.length c2] w fun e w' => e = .returned (.bool true) ∧ Below w.heap.size w w' := by
  have hx := hx0
  clear hx0
  unfold RowsAt at h1 h2
  obtain ⟨n, hn⟩ : ∃ n, n = xs.length := ⟨_, rfl⟩
  rw [← hn] at h1 h2 hx
  rw [← hn]
  have HN := hidOf hn
  clear hn
  go_enter Try.func54, Try.ntmps54
  go_wp2
  go_loopw [5] (fun i wr => ∃ k : Nat, k ≤ n ∧ i = .int .i64 k ∧ Below w.heap.size w wr) (fun i _ => n - (intOf i).toNat)
  case atStart => exact ⟨0, Nat.zero_le _, rfl, Below.refl _ _⟩
  case round =>
    obtain ⟨k, hk, rfl, hb⟩ := hrel
    by_cases hlt : k < n
    · obtain ⟨x, ex⟩ : ∃ x, xs[k]? = some x := ⟨_, List.getElem?_eq_getElem (by rw [← HN.out]; exact hlt)⟩
      obtain ⟨b1, o1, rfl, hb1, hc1⟩ := h1 (by omega)
      obtain ⟨b2, o2, rfl, hb2, hc2⟩ := h2 (by omega)
      obtain ⟨p0, p1⟩ := ruC (w := wr) (fun j hj => by rw [hb.cell hb1]; exact hc1 k x ex j hj)
      obtain ⟨q0, q1⟩ := ruC (w := wr) (fun j hj => by rw [hb.cell hb2]; exact hc2 k x ex j hj)
      clear ex hc1 hc2 h1 h2
      have hA : (0 : Int) ≤ (k : Int) := by omega
      have hB : (k : Int) < (n : Int) := by omega
      go_wp2
      go_region_with (go_at_call 79; refine (eqRu_any x _).mono ?_; rintro e w1 ⟨rfl, hbb⟩)
      all_goals go_wp2
      all_goals go_roundw
      all_goals first | exact ⟨k + 1, by omega, by go_num, hb.drew.trans (hbb.mono hb.size)⟩ | (simp [intOf]; omega)
    · go_wp2
      go_ret
      exact ⟨rfl, hb⟩

set_option maxHeartbeats 1600000 in
theorem eqSn_any (x : Sn) (w : World) :
    Calls Try.prog 81 #[.agg #[.int .i64 x.frm, .int .i64 x.til, .int .i64 x.cost], .agg #[.int .i64 x.frm, .int .i64 x.til, .int .i64 x.cost]] w fun e w' => e = .returned (.bool true) ∧ Below w.heap.size w w' := by
  have h0 : (x.frm != x.frm) = false := by simp
  have h1 : (x.til != x.til) = false := by simp
  have h2 : (x.cost != x.cost) = false := by simp
  go_enter Try.func81, Try.ntmps81
  go_wp2
  go_ret
  exact ⟨rfl, ((Below.refl _ _).alloc (Nat.le_refl _) _).alloc (by simp) _⟩

set_option maxHeartbeats 4000000 in
theorem eqSns_same (a1 a2 : Option Addr) (c1 c2 : Nat) (xs : List Sn) (w : World) (hx0 : xs.length ≤ 1048576) (h1 : RowsAt 3 snCells w a1 xs) (h2 : RowsAt 3 snCells w a2 xs) :
    Calls Try.prog 56 #[.slice a1 xs.length c1, .slice a2 xs.length c2] w fun e w' => e = .returned (.bool true) ∧ Below w.heap.size w w' := by
  have hx := hx0
  clear hx0
  unfold RowsAt at h1 h2
  obtain ⟨n, hn⟩ : ∃ n, n = xs.length := ⟨_, rfl⟩
  rw [← hn] at h1 h2 hx
  rw [← hn]
  have HN := hidOf hn
  clear hn
  go_enter Try.func56, Try.ntmps56
  go_wp2
  go_loopw [5] (fun i wr => ∃ k : Nat, k ≤ n ∧ i = .int .i64 k ∧ Below w.heap.size w wr) (fun i _ => n - (intOf i).toNat)
  case atStart => exact ⟨0, Nat.zero_le _, rfl, Below.refl _ _⟩
  case round =>
    obtain ⟨k, hk, rfl, hb⟩ := hrel
    by_cases hlt : k < n
    · obtain ⟨x, ex⟩ : ∃ x, xs[k]? = some x := ⟨_, List.getElem?_eq_getElem (by rw [← HN.out]; exact hlt)⟩
      obtain ⟨b1, o1, rfl, hb1, hc1⟩ := h1 (by omega)
      obtain ⟨b2, o2, rfl, hb2, hc2⟩ := h2 (by omega)
      obtain ⟨p0, p1, p2⟩ := snC (w := wr) (fun j hj => by rw [hb.cell hb1]; exact hc1 k x ex j hj)
      obtain ⟨q0, q1, q2⟩ := snC (w := wr) (fun j hj => by rw [hb.cell hb2]; exact hc2 k x ex j hj)
      clear ex hc1 hc2 h1 h2
      have hA : (0 : Int) ≤ (k : Int) := by omega
      have hB : (k : Int) < (n : Int) := by omega
      go_wp2
      go_region_with (go_at_call 81; refine (eqSn_any x _).mono ?_; rintro e w1 ⟨rfl, hbb⟩)
      all_goals go_wp2
      all_goals go_roundw
      all_goals first | exact ⟨k + 1, by omega, by go_num, hb.drew.trans (hbb.mono hb.size)⟩ | (simp [intOf]; omega)
    · go_wp2
      go_ret
      exact ⟨rfl, hb⟩

set_option maxHeartbeats 1600000 in
theorem eqTi_any (x : Ti) (w : World) :
    Calls Try.prog 82 #[.agg #[.int .i64 x.kid, .int .i64 x.up], .agg #[.int .i64 x.kid, .int .i64 x.up]] w fun e w' => e = .returned (.bool true) ∧ Below w.heap.size w w' := by
  have h0 : (x.kid != x.kid) = false := by simp
  have h1 : (x.up != x.up) = false := by simp
  go_enter Try.func82, Try.ntmps82
  go_wp2
  go_ret
  exact ⟨rfl, ((Below.refl _ _).alloc (Nat.le_refl _) _).alloc (by simp) _⟩

set_option maxHeartbeats 4000000 in
theorem eqTis_same (a1 a2 : Option Addr) (c1 c2 : Nat) (xs : List Ti) (w : World) (hx0 : xs.length ≤ 1048576) (h1 : RowsAt 2 tiCells w a1 xs) (h2 : RowsAt 2 tiCells w a2 xs) :
    Calls Try.prog 57 #[.slice a1 xs.length c1, .slice a2 xs.length c2] w fun e w' => e = .returned (.bool true) ∧ Below w.heap.size w w' := by
  have hx := hx0
  clear hx0
  unfold RowsAt at h1 h2
  obtain ⟨n, hn⟩ : ∃ n, n = xs.length := ⟨_, rfl⟩
  rw [← hn] at h1 h2 hx
  rw [← hn]
  have HN := hidOf hn
  clear hn
  go_enter Try.func57, Try.ntmps57
  go_wp2
  go_loopw [5] (fun i wr => ∃ k : Nat, k ≤ n ∧ i = .int .i64 k ∧ Below w.heap.size w wr) (fun i _ => n - (intOf i).toNat)
  case atStart => exact ⟨0, Nat.zero_le _, rfl, Below.refl _ _⟩
  case round =>
    obtain ⟨k, hk, rfl, hb⟩ := hrel
    by_cases hlt : k < n
    · obtain ⟨x, ex⟩ : ∃ x, xs[k]? = some x := ⟨_, List.getElem?_eq_getElem (by rw [← HN.out]; exact hlt)⟩
      obtain ⟨b1, o1, rfl, hb1, hc1⟩ := h1 (by omega)
      obtain ⟨b2, o2, rfl, hb2, hc2⟩ := h2 (by omega)
      obtain ⟨p0, p1⟩ := tiC (w := wr) (fun j hj => by rw [hb.cell hb1]; exact hc1 k x ex j hj)
      obtain ⟨q0, q1⟩ := tiC (w := wr) (fun j hj => by rw [hb.cell hb2]; exact hc2 k x ex j hj)
      clear ex hc1 hc2 h1 h2
      have hA : (0 : Int) ≤ (k : Int) := by omega
      have hB : (k : Int) < (n : Int) := by omega
      go_wp2
      go_region_with (go_at_call 82; refine (eqTi_any x _).mono ?_; rintro e w1 ⟨rfl, hbb⟩)
      all_goals go_wp2
      all_goals go_roundw
      all_goals first | exact ⟨k + 1, by omega, by go_num, hb.drew.trans (hbb.mono hb.size)⟩ | (simp [intOf]; omega)
    · go_wp2
      go_ret
      exact ⟨rfl, hb⟩
end Go.Proofs.Ytghfpcjgionbaaa
/- What the laws' helper eqChunkS tells of two lists of the same chunks. -/
namespace Go.Proofs.Ytghfpcjgionbaaa
open Go.RowKit

set_option maxHeartbeats 1600000 in
theorem eqSp_any (r f : Int) (s : Bool) (n : Int) (w : World) :
    Calls Try.prog 99 #[.agg #[.int .i64 r, .int .i64 f, .bool s, .int .i64 n], .agg #[.int .i64 r, .int .i64 f, .bool s, .int .i64 n]] w fun e w' => e = .returned (.bool true) ∧ Below w.heap.size w w' := by
  have h0 : (r != r) = false := by simp
  have h1 : (f != f) = false := by simp
  have h2 : (s != s) = false := by simp
  have h3 : (n != n) = false := by simp
  go_enter Try.func99, Try.ntmps99
  go_wp2
  go_ret
  exact ⟨rfl, ((Below.refl _ _).alloc (Nat.le_refl _) _).alloc (by simp) _⟩

set_option maxHeartbeats 1600000 in
theorem eqCh_any (x : Ch) (w : World) :
    Calls Try.prog 80 #[.agg #[.string x.text, .int .i64 x.rule, .int .i64 x.frm, .bool x.space, .int .i64 x.nest], .agg #[.string x.text, .int .i64 x.rule, .int .i64 x.frm, .bool x.space, .int .i64 x.nest]] w fun e w' => e = .returned (.bool true) ∧ Below w.heap.size w w' := by
  have h0 : (x.text.toList != x.text.toList) = false := by simp
  have HB : ∀ o1 o2 : Obj, Below w.heap.size w ((w.alloc o1).alloc o2) := fun o1 o2 => ((Below.refl _ _).alloc (Nat.le_refl _) _).alloc (by simp) _
  go_enter Try.func80, Try.ntmps80
  go_wp2_with fail
  refine (eqSp_any x.rule x.frm x.space x.nest _).mono ?_
  rintro e w4 ⟨rfl, hb⟩
  have HW := hidOf ((HB _ _).trans (hb.mono (HB _ _).size))
  clear hb HB
  go_wp2
  go_ret
  exact ⟨rfl, HW.out⟩

set_option maxHeartbeats 4000000 in
theorem eqChs_same (a1 a2 : Option Addr) (c1 c2 : Nat) (xs : List Ch) (w : World) (hx0 : xs.length ≤ 1048576) (h1 : RowsAt 5 chCells w a1 xs) (h2 : RowsAt 5 chCells w a2 xs) :
    Calls Try.prog 55 #[.slice a1 xs.length c1, .slice a2 xs.length c2] w fun e w' => e = .returned (.bool true) ∧ Below w.heap.size w w' := by
  have hx := hx0
  clear hx0
  unfold RowsAt at h1 h2
  obtain ⟨n, hn⟩ : ∃ n, n = xs.length := ⟨_, rfl⟩
  rw [← hn] at h1 h2 hx
  rw [← hn]
  have HN := hidOf hn
  clear hn
  go_enter Try.func55, Try.ntmps55
  go_wp2
  go_loopw [5] (fun i wr => ∃ k : Nat, k ≤ n ∧ i = .int .i64 k ∧ Below w.heap.size w wr) (fun i _ => n - (intOf i).toNat)
  case atStart => exact ⟨0, Nat.zero_le _, rfl, Below.refl _ _⟩
  case round =>
    obtain ⟨k, hk, rfl, hb⟩ := hrel
    by_cases hlt : k < n
    · obtain ⟨x, ex⟩ : ∃ x, xs[k]? = some x := ⟨_, List.getElem?_eq_getElem (by rw [← HN.out]; exact hlt)⟩
      obtain ⟨b1, o1, rfl, hb1, hc1⟩ := h1 (by omega)
      obtain ⟨b2, o2, rfl, hb2, hc2⟩ := h2 (by omega)
      obtain ⟨p0, p1, p2, p3, p4⟩ := chC (w := wr) (fun j hj => by rw [hb.cell hb1]; exact hc1 k x ex j hj)
      obtain ⟨q0, q1, q2, q3, q4⟩ := chC (w := wr) (fun j hj => by rw [hb.cell hb2]; exact hc2 k x ex j hj)
      clear ex hc1 hc2 h1 h2
      have hA : (0 : Int) ≤ (k : Int) := by omega
      have hB : (k : Int) < (n : Int) := by omega
      go_wp2
      go_region_with (go_at_call 80; refine (eqCh_any x _).mono ?_; rintro e w1 ⟨rfl, hbb⟩)
      all_goals go_wp2
      all_goals go_roundw
      all_goals first | exact ⟨k + 1, by omega, by go_num, hb.drew.trans (hbb.mono hb.size)⟩ | (simp [intOf]; omega)
    · go_wp2
      go_ret
      exact ⟨rfl, hb⟩
end Go.Proofs.Ytghfpcjgionbaaa
