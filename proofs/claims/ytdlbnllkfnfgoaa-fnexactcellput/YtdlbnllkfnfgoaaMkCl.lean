/- What the laws' helper markCellS does: it writes its marks. -/
import Derived.Test.YtdlbnllkfnfgoaaMark
import Derived.Test.YtdlbnllkfnfgoaaClAt
import Derived.BigQuiet
import Derived.Deep.QuietTactic
import Derived.Deep.RegionHeld3
namespace Go.Proofs.Ytdlbnllkfnfgoaa
open Go.RowKit

def mkCl (k : Nat) : Cel := ⟨mk k, (k : Int) + 1⟩
def marksCl (k n : Nat) : List Cel := (List.range n).map fun i => mkCl (k + 2 * i)
theorem marksCl_len (k n : Nat) : (marksCl k n).length = n := by simp [marksCl]
theorem marksCl_at {k n j : Nat} (h : j < n) : (marksCl k n)[j]? = some (mkCl (k + 2 * j)) := by simp [marksCl, h]

set_option maxHeartbeats 4000000 in
theorem markCl_any (v : Value) (b n k : Nat) (xs : List Cel) (w : World) (hn : n ≤ 4194304) (hk0 : 0 < k) (hk : k ≤ 4194304) (hown : w.ownsRow b 44 2 v n (clVals xs)) :
    Calls Try.prog 13 #[v, .int .i64 k] w fun e w' => e = .returned (.int .i64 ((k : Int) + 2 * n)) ∧ w'.ownsRow b 44 2 v n (clVals (marksCl k n)) ∧ w.grownBy w' v.ownBlock := by
  by_cases hz : n = 0
  · obtain ⟨a1, c1, rfl⟩ := owns_slice hown
    subst hz
    have hl : (clVals xs).length = 0 * 2 := hown.1
    have hx : clVals xs = clVals (marksCl k 0) := by rw [List.length_eq_zero_iff.1 (show (clVals xs).length = 0 by omega)]; rfl
    rw [hx] at hown
    have HO := hidOf hown
    clear hown hx hl
    go_enter Try.func13, Try.ntmps13
    go_wp2
    go_loop [1, 5] (fun q i => i = .int .i64 0 ∧ q = .int .i64 k) (fun _ _ => 0)
    case atStart => exact ⟨rfl, rfl⟩
    case round =>
      obtain ⟨rfl, rfl⟩ := hrel
      go_wp2
      go_ret
      exact ⟨ret_int (by omega), HO.out, World.grownBy.refl _ _⟩
  · rcases hown.2 with ⟨_, e⟩ | ⟨g, cap, cur, rfl, _⟩
    · omega
    go_enter Try.func13, Try.ntmps13
    go_wp2
    go_loopw [1, 5] (fun q i wr => ∃ (j : Nat) (zs : List Value), j ≤ n ∧ i = .int .i64 j ∧ q = .int .i64 ((k : Int) + 2 * j) ∧ wr.ownsRow b 44 2 (.slice (some ⟨g, 0, none⟩) n cap) n zs ∧ Hid (zs.take (j * 2) = clVals ((marksCl k n).take j)) ∧ w.grownBy wr (some g)) (fun _ i _ => n - (intOf i).toNat)
    case atStart => exact ⟨0, _, Nat.zero_le _, rfl, by go_num, hown, rfl, World.grownBy.refl _ _⟩
    case round =>
      obtain ⟨j, zs, hj, rfl, rfl, ho, HZ, hg⟩ := hrel
      by_cases hlt : j < n
      · have hA : (0 : Int) ≤ (j : Int) := by omega
        have hB : (j : Int) < (n : Int) := by omega
        obtain ⟨p, hp⟩ : ∃ p, p = k + 2 * j := ⟨_, rfl⟩
        rw [show ((k : Int) + 2 * (j : Int)) = (p : Int) by omega]
        have hp0 : 0 < p ∧ p ≤ 20971520 := by omega
        have HP := hidOf hp
        clear hp
        go_wp2_with fail
        refine (markText_any p _ (by omega) (by omega)).mono ?_
        rintro e w2 ⟨rfl, hbm⟩
        have ho2 := owns_below ho hbm
        have hlz : zs.length = n * 2 := ho2.1
        obtain ⟨m, hm⟩ : ∃ m, m = mk p := ⟨_, rfl⟩
        rw [← hm]
        have s0 := ho2.stored (j * 2) (.string m)
        have s1 := s0.1.stored (j * 2 + 1) (.int .i64 ((p : Int) + 1))
        have HS := hidOf (And.intro s1.1 (grownBy_trans s0.2 s1.2))
        obtain ⟨u0, d0⟩ : ∃ u, w2.cell? ⟨g, j * 2, none⟩ = some u := ⟨_, (ho2.cellAt (j * 2) (by omega)).trans (List.getElem?_eq_getElem (by omega))⟩
        obtain ⟨u1, d1⟩ : ∃ u, w2.cell? ⟨g, j * 2 + 1, none⟩ = some u := ⟨_, (ho2.cellAt (j * 2 + 1) (by omega)).trans (List.getElem?_eq_getElem (by omega))⟩
        have f0 := ho2.frozenAt (j * 2)
        have f1 := ho2.frozenAt (j * 2 + 1)
        have HLZ := hidOf hlz
        have HM := hidOf hm
        have HG := hidOf (grownBy_trans hg (grownBy_of_below hbm _))
        clear s0 s1 hlz ho ho2 hm
        go_wp2
        refine ⟨⟨j + 1, set2c zs j (mkCl p), by omega, by go_num, ?_, ?_, hidOf (set2c_take (by have := HLZ.out; omega) (by rw [marksCl_at hlt, HP.out]) HZ.out), grownBy_trans HG.out HS.out.2⟩, ?_⟩
        · congr 1
          have := HP.out
          omega
        · have h1 := HS.out.1
          rw [HM.out] at h1
          rw [HM.out]
          exact h1
        · simp only [intOf]
          omega
      · have hjn : j = n := by omega
        subst hjn
        go_wp2
        go_ret
        have h1 : zs.length = j * 2 := ho.1
        have h2 := HZ.out
        rw [List.take_of_length_le (by omega), List.take_of_length_le (by rw [marksCl_len]; exact Nat.le_refl _)] at h2
        rw [h2] at ho
        exact ⟨rfl, ho, hg⟩
end Go.Proofs.Ytdlbnllkfnfgoaa
