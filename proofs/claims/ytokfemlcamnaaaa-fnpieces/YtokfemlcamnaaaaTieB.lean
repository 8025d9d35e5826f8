/- What the bits of a tie are, and when they tell that it is broken. -/
import Derived.Test.YtokfemlcamnaaaaProg
import Derived.Test.YtokfemlcamnaaaaIntLib
import Derived.Test.YtokfemlcamnaaaaTieLib
import Derived.Test.YtokfemlcamnaaaaRightLib
import Derived.BigQuiet
import Derived.Deep.QuietTactic
import Derived.Deep.RegionWith
namespace Go.Proofs.Ytokfemlcamnaaaa
open Go.RowKit

def kB : Nat → Int
  | 0 => 0
  | 1 => 1
  | _ => 5
def uB : Nat → Int
  | 0 => 0
  | 1 => 2
  | _ => 10
set_option maxHeartbeats 1600000 in
theorem rbK_any (a : Option Addr) (c : Nat) (vs : List Int) (r : Int) (w : World) (hv : KidsAt w a vs) :
    Calls Try.prog 144 #[.slice a vs.length c, .int .i64 r, .int .u8 1, .int .u8 4] w fun e w' => e = .returned (.int .u8 (kB (st vs r))) ∧ w' = w := by
  unfold KidsAt at hv
  by_cases h0 : r < 0
  · have e : st vs r = 0 := by unfold st; rw [if_neg (by omega)]
    rw [e]
    clear e hv
    go_enter Try.func144, Try.ntmps144
    go_wp2
    go_ret
    exact ⟨rfl, rfl⟩
  · by_cases h1 : r ≥ (vs.length : Int)
    · have e : st vs r = 0 := by unfold st; rw [if_neg (by omega)]
      rw [e]
      clear e hv
      go_enter Try.func144, Try.ntmps144
      go_wp2
      go_ret
      exact ⟨rfl, rfl⟩
    · obtain ⟨k, rfl⟩ := Int.eq_ofNat_of_zero_le (show 0 ≤ r by omega)
      obtain ⟨z, ez⟩ : ∃ z, vs[k]? = some z := ⟨_, List.getElem?_eq_getElem (by omega)⟩
      obtain ⟨b1, o1, rfl, hb1, hc1⟩ := hv (by omega)
      have p0 := hc1 k z ez
      have hA : (0 : Int) ≤ (k : Int) := by omega
      have hB : (k : Int) < (vs.length : Int) := by omega
      have hg : vs.getD (k : Int).toNat 0 = z := by rw [Int.toNat_natCast, List.getD_eq_getElem?_getD, ez]; rfl
      by_cases hz : 0 < z
      · have e : st vs (k : Int) = 2 := by unfold st; rw [if_pos ⟨hA, hB⟩, hg, if_pos hz]
        rw [e]
        clear e hc1 hv ez hg
        go_enter Try.func144, Try.ntmps144
        go_wp2
        go_ret
        exact ⟨rfl, rfl⟩
      · have e : st vs (k : Int) = 1 := by unfold st; rw [if_pos ⟨hA, hB⟩, hg, if_neg hz]
        rw [e]
        clear e hc1 hv ez hg
        go_enter Try.func144, Try.ntmps144
        go_wp2
        go_ret
        exact ⟨rfl, rfl⟩

set_option maxHeartbeats 1600000 in
theorem rbU_any (a : Option Addr) (c : Nat) (vs : List Int) (r : Int) (w : World) (hv : KidsAt w a vs) :
    Calls Try.prog 144 #[.slice a vs.length c, .int .i64 r, .int .u8 2, .int .u8 8] w fun e w' => e = .returned (.int .u8 (uB (st vs r))) ∧ w' = w := by
  unfold KidsAt at hv
  by_cases h0 : r < 0
  · have e : st vs r = 0 := by unfold st; rw [if_neg (by omega)]
    rw [e]
    clear e hv
    go_enter Try.func144, Try.ntmps144
    go_wp2
    go_ret
    exact ⟨rfl, rfl⟩
  · by_cases h1 : r ≥ (vs.length : Int)
    · have e : st vs r = 0 := by unfold st; rw [if_neg (by omega)]
      rw [e]
      clear e hv
      go_enter Try.func144, Try.ntmps144
      go_wp2
      go_ret
      exact ⟨rfl, rfl⟩
    · obtain ⟨k, rfl⟩ := Int.eq_ofNat_of_zero_le (show 0 ≤ r by omega)
      obtain ⟨z, ez⟩ : ∃ z, vs[k]? = some z := ⟨_, List.getElem?_eq_getElem (by omega)⟩
      obtain ⟨b1, o1, rfl, hb1, hc1⟩ := hv (by omega)
      have p0 := hc1 k z ez
      have hA : (0 : Int) ≤ (k : Int) := by omega
      have hB : (k : Int) < (vs.length : Int) := by omega
      have hg : vs.getD (k : Int).toNat 0 = z := by rw [Int.toNat_natCast, List.getD_eq_getElem?_getD, ez]; rfl
      by_cases hz : 0 < z
      · have e : st vs (k : Int) = 2 := by unfold st; rw [if_pos ⟨hA, hB⟩, hg, if_pos hz]
        rw [e]
        clear e hc1 hv ez hg
        go_enter Try.func144, Try.ntmps144
        go_wp2
        go_ret
        exact ⟨rfl, rfl⟩
      · have e : st vs (k : Int) = 1 := by unfold st; rw [if_pos ⟨hA, hB⟩, hg, if_neg hz]
        rw [e]
        clear e hc1 hv ez hg
        go_enter Try.func144, Try.ntmps144
        go_wp2
        go_ret
        exact ⟨rfl, rfl⟩

/-- The two together. -/
def bothB (s t : Nat) : Int := kB s + uB t
set_option maxHeartbeats 1600000 in
theorem tbits_any (x : Ti) (a : Option Addr) (c : Nat) (vs : List Int) (w : World) (hv : KidsAt w a vs) :
    Calls Try.prog 86 #[.agg #[.int .i64 x.kid, .int .i64 x.up], .slice a vs.length c] w fun e w' => e = .returned (.int .u8 (bothB (st vs x.kid) (st vs x.up))) ∧ Below w.heap.size w w' := by
  have HB : ∀ o1 : Obj, Below w.heap.size w (w.alloc o1) := fun o1 => (Below.refl _ _).alloc (Nat.le_refl _) _
  have q0 := fun W h => rbK_any a c vs x.kid W h
  have q1 := fun W h => rbU_any a c vs x.up W h
  have hW : ∀ (ob : Obj) (n : Nat), KidsAt ((w.alloc ob).drewN n) a vs := fun ob n => hv.below (bel_drewN (HB ob) n) (Nat.le_refl _)
  have HV := hidOf hW
  clear hW hv
  rcases st_cases vs x.kid with e1 | e1 | e1
  all_goals rcases st_cases vs x.up with e2 | e2 | e2
  all_goals rw [e1] at q0 ⊢
  all_goals rw [e2] at q1 ⊢
  all_goals clear e1 e2
  all_goals simp only [kB, uB] at q0 q1
  all_goals go_enter Try.func86, Try.ntmps86
  all_goals go_wp2
  all_goals go_quiet ((first | (go_at_call_of 144 (x.kid); exact Calls.quiet_of_same (q0 _ (HV.out _ _))) | (go_at_call_of 144 (x.up); exact Calls.quiet_of_same (q1 _ (HV.out _ _)))))
  all_goals go_wp2
  all_goals go_ret
  all_goals exact ⟨rfl, bel_drewN (HB _) _⟩

/-- Both rules are there, the one's value above 0, the other's not. -/
def brkB (s t : Nat) : Bool := decide (2 ≤ s) && decide (1 ≤ t) && decide (t ≤ 1)
set_option maxHeartbeats 1600000 in
theorem broken_any (s t : Nat) (hs : s ≤ 2) (ht : t ≤ 2) (w : World) :
    Calls Try.prog 146 #[.int .u8 (bothB s t)] w fun e w' => e = .returned (.bool (brkB s t)) ∧ w' = w := by
  have b0_3 : bits .and .u8 0 3 = 0 := by decide
  have b0_7 : bits .and .u8 0 7 = 0 := by decide
  have b0_8 : bits .and .u8 0 8 = 0 := by decide
  have b2_3 : bits .and .u8 2 3 = 2 := by decide
  have b2_7 : bits .and .u8 2 7 = 2 := by decide
  have b2_8 : bits .and .u8 2 8 = 0 := by decide
  have b10_3 : bits .and .u8 10 3 = 2 := by decide
  have b10_7 : bits .and .u8 10 7 = 2 := by decide
  have b10_8 : bits .and .u8 10 8 = 8 := by decide
  have b1_3 : bits .and .u8 1 3 = 1 := by decide
  have b1_7 : bits .and .u8 1 7 = 1 := by decide
  have b1_8 : bits .and .u8 1 8 = 0 := by decide
  have b3_3 : bits .and .u8 3 3 = 3 := by decide
  have b3_7 : bits .and .u8 3 7 = 3 := by decide
  have b3_8 : bits .and .u8 3 8 = 0 := by decide
  have b11_3 : bits .and .u8 11 3 = 3 := by decide
  have b11_7 : bits .and .u8 11 7 = 3 := by decide
  have b11_8 : bits .and .u8 11 8 = 8 := by decide
  have b5_3 : bits .and .u8 5 3 = 1 := by decide
  have b5_7 : bits .and .u8 5 7 = 5 := by decide
  have b5_8 : bits .and .u8 5 8 = 0 := by decide
  have b7_3 : bits .and .u8 7 3 = 3 := by decide
  have b7_7 : bits .and .u8 7 7 = 7 := by decide
  have b7_8 : bits .and .u8 7 8 = 0 := by decide
  have b15_3 : bits .and .u8 15 3 = 3 := by decide
  have b15_7 : bits .and .u8 15 7 = 7 := by decide
  have b15_8 : bits .and .u8 15 8 = 8 := by decide
  rcases (show s = 0 ∨ s = 1 ∨ s = 2 by omega) with rfl | rfl | rfl
  all_goals rcases (show t = 0 ∨ t = 1 ∨ t = 2 by omega) with rfl | rfl | rfl
  all_goals simp only [bothB, kB, uB]
  all_goals go_enter Try.func146, Try.ntmps146
  all_goals go_wp2
  all_goals go_ret
  all_goals exact ⟨rfl, rfl⟩
end Go.Proofs.Ytokfemlcamnaaaa
