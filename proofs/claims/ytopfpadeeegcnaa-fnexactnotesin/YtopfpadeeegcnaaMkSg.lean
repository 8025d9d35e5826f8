/- What the laws' helper markSignS does: it writes its marks. -/
import Derived.Test.YtopfpadeeegcnaaMark
import Derived.Test.YtopfpadeeegcnaaSgLib
import Derived.BigQuiet
import Derived.Deep.QuietTactic
import Derived.Deep.RegionHeld3
namespace Go.Proofs.Ytopfpadeeegcnaa
open Go.RowKit

/-- What is marked as 'blank'. -/
def mkB (k : Nat) : Bool := (((k : Int) + 1 + 1 + 1) % 3 == 0)
def mkSg (k : Nat) : Sg := ⟨(k : Int), mk (k + 1), (k : Int) + 1 + 1, mkB k⟩
def marksSg (k n : Nat) : List Sg := (List.range n).map fun i => mkSg (k + 4 * i)
theorem marksSg_len (k n : Nat) : (marksSg k n).length = n := by simp [marksSg]
theorem marksSg_at {k n j : Nat} (h : j < n) : (marksSg k n)[j]? = some (mkSg (k + 4 * j)) := by simp [marksSg, h]

set_option maxHeartbeats 4000000 in
theorem markSg_any (v : Value) (b n k : Nat) (xs : List Sg) (w : World) (hn : n ≤ 4194304) (hk0 : 0 < k) (hk : k ≤ 4194304) (hown : w.ownsRow b 37 4 v n (sgVals xs)) :
    Calls Try.prog 11 #[v, .int .i64 k] w fun e w' => e = .returned (.int .i64 ((k : Int) + 4 * n)) ∧ w'.ownsRow b 37 4 v n (sgVals (marksSg k n)) ∧ w.grownBy w' v.ownBlock := by
  by_cases hz : n = 0
  · obtain ⟨a1, c1, rfl⟩ := owns_slice hown
    subst hz
    have hl : (sgVals xs).length = 0 * 4 := hown.1
    have hx : sgVals xs = sgVals (marksSg k 0) := by rw [List.length_eq_zero_iff.1 (show (sgVals xs).length = 0 by omega)]; rfl
    rw [hx] at hown
    have HO := hidOf hown
    clear hown hx hl
    go_enter Try.func11, Try.ntmps11
    go_wp2
    go_loop [1, 5] (fun q i => i = .int .i64 0 ∧ q = .int .i64 k) (fun _ _ => 0)
    case atStart => exact ⟨rfl, rfl⟩
    case round =>
      obtain ⟨rfl, rfl⟩ := hrel
      go_wp2
      go_ret
      exact ⟨ret_int (by omega), HO.out, World.grownBy.refl _ _⟩
  · rcases hown.2 with ⟨_, e⟩ | ⟨g, cap, cur, rfl, _⟩
    · omega
    go_enter Try.func11, Try.ntmps11
    go_wp2
    go_loopw [1, 5] (fun q i wr => ∃ (j : Nat) (zs : List Value), j ≤ n ∧ i = .int .i64 j ∧ q = .int .i64 ((k : Int) + 4 * j) ∧ wr.ownsRow b 37 4 (.slice (some ⟨g, 0, none⟩) n cap) n zs ∧ Hid (zs.take (j * 4) = sgVals ((marksSg k n).take j)) ∧ w.grownBy wr (some g)) (fun _ i _ => n - (intOf i).toNat)
    case atStart => exact ⟨0, _, Nat.zero_le _, rfl, by go_num, hown, rfl, World.grownBy.refl _ _⟩
    case round =>
      obtain ⟨j, zs, hj, rfl, rfl, ho, HZ, hg⟩ := hrel
      by_cases hlt : j < n
      · have hA : (0 : Int) ≤ (j : Int) := by omega
        have hB : (j : Int) < (n : Int) := by omega
        obtain ⟨p, hp⟩ : ∃ p, p = k + 4 * j := ⟨_, rfl⟩
        rw [show ((k : Int) + 4 * (j : Int)) = (p : Int) by omega]
        have hp0 : 0 < p ∧ p ≤ 20971520 := by omega
        have HP := hidOf hp
        clear hp
        have hlz : zs.length = n * 4 := ho.1
        obtain ⟨u0, d0⟩ : ∃ u, wr.cell? ⟨g, j * 4, none⟩ = some u := ⟨_, (ho.cellAt (j * 4) (by omega)).trans (List.getElem?_eq_getElem (by omega))⟩
        have f0 := ho.frozenAt (j * 4)
        have s0 := ho.stored (j * 4) (.int .i64 (p : Int))
        have HLZ := hidOf hlz
        have H0 := hidOf s0
        clear s0 hlz
        go_wp2_with fail
        rw [show ((p : Int) + 1) = ((p + 1 : Nat) : Int) by omega]
        refine (markText_any (p + 1) _ (by omega) (by omega)).mono ?_
        rintro e w2 ⟨rfl, hbm⟩
        have ho2 := owns_below H0.out.1 hbm
        have hl2 : (zs.set (j * 4) (.int .i64 (p : Int))).length = n * 4 := ho2.1
        obtain ⟨m, hm⟩ : ∃ m, m = mk (p + 1) := ⟨_, rfl⟩
        rw [← hm]
        have s1 := ho2.stored (j * 4 + 1) (.string m)
        have s2 := s1.1.stored (j * 4 + 2) (.int .i64 ((p : Int) + 1 + 1))
        have s3 := s2.1.stored (j * 4 + 3) (.bool (((p : Int) + 1 + 1 + 1) % 3 == 0))
        have HS := hidOf (And.intro s3.1 (grownBy_trans (grownBy_trans s1.2 s2.2) s3.2))
        obtain ⟨u1, d1⟩ : ∃ u, w2.cell? ⟨g, j * 4 + 1, none⟩ = some u := ⟨_, (ho2.cellAt (j * 4 + 1) (by omega)).trans (List.getElem?_eq_getElem (by omega))⟩
        obtain ⟨u2, d2⟩ : ∃ u, w2.cell? ⟨g, j * 4 + 2, none⟩ = some u := ⟨_, (ho2.cellAt (j * 4 + 2) (by omega)).trans (List.getElem?_eq_getElem (by omega))⟩
        obtain ⟨u3, d3⟩ : ∃ u, w2.cell? ⟨g, j * 4 + 3, none⟩ = some u := ⟨_, (ho2.cellAt (j * 4 + 3) (by omega)).trans (List.getElem?_eq_getElem (by omega))⟩
        have f1 := ho2.frozenAt (j * 4 + 1)
        have f2 := ho2.frozenAt (j * 4 + 2)
        have f3 := ho2.frozenAt (j * 4 + 3)
        have HM := hidOf hm
        have HG := hidOf (grownBy_trans (grownBy_trans hg H0.out.2) (grownBy_of_below hbm _))
        clear s1 s2 s3 hl2 ho2 hm ho
        go_wp2
        refine ⟨⟨j + 1, set4 zs j (mkSg p), by omega, by go_num, ?_, ?_, hidOf (set4_take (by have := HLZ.out; omega) (by rw [marksSg_at hlt, HP.out]) HZ.out), grownBy_trans HG.out HS.out.2⟩, ?_⟩
        · congr 1
          have := HP.out
          omega
        · have h1 := HS.out.1
          rw [HM.out] at h1
          rw [HM.out]
          exact h1
        · simp only [intOf]
          omega
      · have hjn : j = n := by omega
        subst hjn
        go_wp2
        go_ret
        have h1 : zs.length = j * 4 := ho.1
        have h2 := HZ.out
        rw [List.take_of_length_le (by omega), List.take_of_length_le (by rw [marksSg_len]; exact Nat.le_refl _)] at h2
        rw [h2] at ho
        exact ⟨rfl, ho, hg⟩
end Go.Proofs.Ytopfpadeeegcnaa
