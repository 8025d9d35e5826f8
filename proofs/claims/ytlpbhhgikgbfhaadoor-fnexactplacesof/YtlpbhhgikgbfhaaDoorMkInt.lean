/- What the laws' helpers on a list of numbers of one's own do: markIntS writes its marks, heldIntS finds them again. -/
import Derived.Test.YtlpbhhgikgbfhaaDoorProg
import Derived.Test.YtlpbhhgikgbfhaaDoorIntLib
import Derived.BigQuiet
import Derived.Deep.QuietTactic
namespace Go.Proofs.YtlpbhhgikgbfhaaDoor
open Go.RowKit

set_option maxHeartbeats 1600000 in
theorem markInts_any (a : Option Addr) (b n c k : Nat) (xs : List Value) (w : World) (hn : n ≤ 1048576) (hk : k ≤ 16777216) (hown : w.ownsRow b 3 1 (.slice a n c) n xs) :
    Calls Tryd.prog 8 #[.slice a n c, .int .i64 k] w fun e w' => e = .returned (.int .i64 ((k : Int) + n)) ∧ w'.ownsRow b 3 1 (.slice a n c) n (intVals (marksI k n)) ∧ w.grownBy w' (Value.slice a n c).ownBlock := by
  by_cases hz : n = 0
  · subst hz
    have hl : xs.length = 0 * 1 := hown.1
    have hx : xs = intVals (marksI k 0) := by rw [List.length_eq_zero_iff.1 (show xs.length = 0 by omega)]; rfl
    rw [hx] at hown
    have HO := hidOf hown
    clear hown hx hl
    go_enter Tryd.func8, Tryd.ntmps8
    go_wp2
    go_loop [1, 5] (fun q i => i = .int .i64 0 ∧ q = .int .i64 k) (fun _ _ => 0)
    case atStart => exact ⟨rfl, rfl⟩
    case round =>
      obtain ⟨rfl, rfl⟩ := hrel
      go_wp2
      go_ret
      exact ⟨ret_int (by omega), HO.out, World.grownBy.refl _ _⟩
  · obtain ⟨g, rfl⟩ := owns_at hown (by omega)
    go_enter Tryd.func8, Tryd.ntmps8
    go_wp2
    go_loopw [1, 5] (fun q i wr => ∃ (j : Nat) (zs : List Value), j ≤ n ∧ i = .int .i64 j ∧ q = .int .i64 ((k : Int) + j) ∧ wr.ownsRow b 3 1 (.slice (some ⟨g, 0, none⟩) n c) n zs ∧ Hid (zs.take j = intVals ((marksI k n).take j)) ∧ w.grownBy wr (some g)) (fun _ i _ => n - (intOf i).toNat)
    case atStart => exact ⟨0, _, Nat.zero_le _, rfl, by go_num, hown, rfl, World.grownBy.refl _ _⟩
    case round =>
      obtain ⟨j, zs, hj, rfl, rfl, ho, HZ, hg⟩ := hrel
      by_cases hlt : j < n
      · have hA : (0 : Int) ≤ (j : Int) := by omega
        have hB : (j : Int) < (n : Int) := by omega
        have hlz : zs.length = n * 1 := ho.1
        have s0 := ho.stored j (.int .i64 ((k : Int) + j))
        have HS := hidOf (And.intro s0.1 (grownBy_trans hg s0.2))
        have HE := hidOf (show (zs.set j (.int .i64 ((k : Int) + j))).take (j + 1) = intVals ((marksI k n).take (j + 1)) by
          rw [List.take_add_one, List.take_set_of_le (Nat.le_refl _), HZ.out, List.getElem?_set_self (by omega), List.take_add_one, marksI_at hlt]
          simp [intVals])
        obtain ⟨u0, d0⟩ : ∃ u, wr.cell? ⟨g, j, none⟩ = some u := ⟨_, (ho.cellAt j (by omega)).trans (List.getElem?_eq_getElem (by omega))⟩
        have f0 := ho.frozenAt j
        clear s0 hlz ho
        go_wp2
        refine ⟨⟨j + 1, _, by omega, by go_num, ?_, HS.out.1, HE, HS.out.2⟩, ?_⟩
        · exact congrArg (Value.int .i64) (by omega)
        · simp only [intOf]
          omega
      · have hjn : j = n := by omega
        subst hjn
        go_wp2
        go_ret
        have h1 : zs.length = j * 1 := ho.1
        have h2 := HZ.out
        rw [List.take_of_length_le (by omega), List.take_of_length_le (by rw [marksI_len]; exact Nat.le_refl _)] at h2
        rw [h2] at ho
        exact ⟨rfl, ho, hg⟩

set_option maxHeartbeats 1600000 in
theorem heldInts_any (a : Option Addr) (b n c k : Nat) (w : World) (hn : n ≤ 1048576) (hk : k ≤ 16777216) (hown : w.ownsRow b 3 1 (.slice a n c) n (intVals (marksI k n))) :
    Calls Tryd.prog 9 #[.slice a n c, .int .i64 k] w fun e w' => e = .returned (.int .i64 ((k : Int) + n)) ∧ Below w.heap.size w w' := by
  have hat := KidsAt.of_own hown
  unfold KidsAt at hat
  rw [marksI_len] at hat
  clear hown
  go_enter Tryd.func9, Tryd.ntmps9
  go_wp2
  go_loop [1, 5] (fun q i => ∃ (j : Nat), j ≤ n ∧ i = .int .i64 j ∧ q = .int .i64 ((k : Int) + j)) (fun _ i => n - (intOf i).toNat)
  case atStart => exact ⟨0, Nat.zero_le _, rfl, by go_num⟩
  case round =>
    obtain ⟨j, hj, rfl, rfl⟩ := hrel
    by_cases hlt : j < n
    · have hA : (0 : Int) ≤ (j : Int) := by omega
      have hB : (j : Int) < (n : Int) := by omega
      obtain ⟨b1, o1, rfl, hb1, hc1⟩ := hat (by omega)
      have p0 := hc1 j _ (marksI_at hlt)
      rw [show ((k + j : Nat) : Int) = (k : Int) + (j : Int) by omega] at p0
      have hne : (((k : Int) + (j : Int)) != ((k : Int) + (j : Int))) = false := by simp
      clear hc1 hat
      go_wp2
      go_round
      case rel => exact ⟨j + 1, by omega, by go_num, congrArg (Value.int .i64) (by omega)⟩
      case measure => simp [intOf]; omega
    · have hjn : j = n := by omega
      subst hjn
      go_wp2
      go_ret
      exact ⟨rfl, Below.refl _ _⟩
end Go.Proofs.YtlpbhhgikgbfhaaDoor
