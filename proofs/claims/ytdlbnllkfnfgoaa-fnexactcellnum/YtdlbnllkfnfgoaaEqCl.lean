/- What the laws' helper eqCellS tells of two lists of the same cells. -/
import Derived.Test.YtdlbnllkfnfgoaaProg
import Derived.Test.YtdlbnllkfnfgoaaClAt
import Derived.BigQuiet
import Derived.Deep.QuietTactic
import Derived.Deep.RegionWith
import Derived.Deep.RegionHeld3
namespace Go.Proofs.Ytdlbnllkfnfgoaa
open Go.RowKit

set_option maxHeartbeats 1600000 in
theorem eqCell_any (x : Cel) (w : World) :
    Calls Try.prog 23 #[.agg #[.string x.name, .int .i64 x.num], .agg #[.string x.name, .int .i64 x.num]] w fun e w' => e = .returned (.bool true) ∧ Below w.heap.size w w' := by
  have h1 : (x.num != x.num) = false := by simp
  have h2 : (x.name.toList != x.name.toList) = false := by simp
  go_enter Try.func23, Try.ntmps23
  go_wp2
  go_ret
  exact ⟨rfl, ((Below.refl _ _).alloc (Nat.le_refl _) _).alloc (by simp) _⟩

set_option maxHeartbeats 4000000 in
theorem eqCells_same (v1 v2 : Value) (xs : List Cel) (w : World) (hx0 : xs.length ≤ 4611686018427387904) (h1 : ClsAt w v1 xs) (h2 : ClsAt w v2 xs) :
    Calls Try.prog 10 #[v1, v2] w fun e w' => e = .returned (.bool true) ∧ Below w.heap.size w w' := by
  obtain ⟨a1, c1, rfl, h1⟩ := h1
  obtain ⟨a2, c2, rfl, h2⟩ := h2
  have hx := hx0
  clear hx0
  obtain ⟨n, hn⟩ : ∃ n, n = xs.length := ⟨_, rfl⟩
  rw [← hn] at h1 h2 hx
  rw [← hn]
  have HN := hidOf hn
  clear hn
  go_enter Try.func10, Try.ntmps10
  go_wp2
  go_loopw [5] (fun i wr => ∃ k : Nat, k ≤ n ∧ i = .int .i64 k ∧ Below w.heap.size w wr) (fun i _ => n - (intOf i).toNat)
  case atStart => exact ⟨0, Nat.zero_le _, rfl, Below.refl _ _⟩
  case round =>
    obtain ⟨k, hk, rfl, hb⟩ := hrel
    by_cases hlt : k < n
    · obtain ⟨x, ex⟩ : ∃ x, xs[k]? = some x := ⟨_, List.getElem?_eq_getElem (by rw [← HN.out]; exact hlt)⟩
      obtain ⟨b1, o1, rfl, hb1, hc1⟩ := h1 (by omega)
      obtain ⟨b2, o2, rfl, hb2, hc2⟩ := h2 (by omega)
      obtain ⟨p0, p1⟩ := cells2c (w := wr) (fun j hj => by rw [hb.cell hb1]; exact hc1 k x ex j hj)
      obtain ⟨q0, q1⟩ := cells2c (w := wr) (fun j hj => by rw [hb.cell hb2]; exact hc2 k x ex j hj)
      clear ex hc1 hc2 h1 h2
      have hA : (0 : Int) ≤ (k : Int) := by omega
      have hB : (k : Int) < (n : Int) := by omega
      go_wp2
      go_region_with (go_at_call 23; refine (eqCell_any x _).mono ?_; rintro e w1 ⟨rfl, hbb⟩)
      all_goals go_wp2
      all_goals go_roundw
      all_goals first | exact ⟨k + 1, by omega, by go_num, hb.drew.trans (hbb.mono hb.size)⟩ | (simp [intOf]; omega)
    · go_wp2
      go_ret
      exact ⟨rfl, hb⟩
end Go.Proofs.Ytdlbnllkfnfgoaa
