/- What the laws' helper eqNodeS tells of two lists of the same nodes. -/
import Derived.Test.YtjfimlhgjjjnmabProg
import Derived.Test.YtjfimlhgjjjnmabNdLib
import Derived.BigQuiet
import Derived.Deep.QuietTactic
import Derived.Deep.RegionWith
import Derived.Deep.RegionHeld3
namespace Go.Proofs.Ytjfimlhgjjjnmab
open Go.RowKit

set_option maxHeartbeats 1600000 in
theorem eqIntS_same (a1 a2 : Option Addr) (c1 c2 : Nat) (ks : List Int) (w : World) (hx0 : ks.length ≤ 4611686018427387904) (h1 : KidsAt w a1 ks) (h2 : KidsAt w a2 ks) :
    Calls Try.prog 16 #[.slice a1 ks.length c1, .slice a2 ks.length c2] w fun e w' => e = .returned (.bool true) ∧ Below w.heap.size w w' := by
  have hx := hx0
  clear hx0
  unfold KidsAt at h1 h2
  obtain ⟨n, hn⟩ : ∃ n, n = ks.length := ⟨_, rfl⟩
  rw [← hn] at h1 h2 hx
  rw [← hn]
  have HN := hidOf hn
  clear hn
  go_enter Try.func16, Try.ntmps16
  go_wp2
  go_loopw [5] (fun i wr => ∃ k q : Nat, k ≤ n ∧ i = .int .i64 k ∧ wr = w.drewN q) (fun i _ => n - (intOf i).toNat)
  case atStart => exact ⟨0, 0, Nat.zero_le _, rfl, rfl⟩
  case round =>
    obtain ⟨k, q, hk, rfl, rfl⟩ := hrel
    by_cases hlt : k < n
    · obtain ⟨x, ex⟩ : ∃ x, ks[k]? = some x := ⟨_, List.getElem?_eq_getElem (by rw [← HN.out]; exact hlt)⟩
      obtain ⟨b1, o1, rfl, hb1, hc1⟩ := h1 (by omega)
      obtain ⟨b2, o2, rfl, hb2, hc2⟩ := h2 (by omega)
      have p0 := hc1 k x ex
      have q0 := hc2 k x ex
      clear ex hc1 hc2 h1 h2
      have hm1 : (x != x) = false := by simp
      have hA : (0 : Int) ≤ (k : Int) := by omega
      have hB : (k : Int) < (n : Int) := by omega
      go_wp2
      go_quiet (fail)
      go_wp2
      go_roundw
      case rel => exact ⟨k + 1, q + nq, by omega, by go_num, rfl⟩
      case measure => simp [intOf]; omega
    · go_wp2
      go_ret
      exact ⟨rfl, below_drewN _ _⟩

set_option maxHeartbeats 1600000 in
theorem eqNode_any (x : Nd) (a1 a2 : Option Addr) (c1 c2 : Nat) (w : World) (hx : x.kids.length ≤ 4611686018427387904) (k1 : KidsAt w a1 x.kids) (k2 : KidsAt w a2 x.kids) :
    Calls Try.prog 13 #[.agg #[.int .i64 x.kind, .string x.text, .slice a1 x.kids.length c1, .bool x.blank], .agg #[.int .i64 x.kind, .string x.text, .slice a2 x.kids.length c2, .bool x.blank]] w fun e w' => e = .returned (.bool true) ∧ Below w.heap.size w w' := by
  have h1 : (x.kind != x.kind) = false := by simp
  have h2 : (x.text.toList != x.text.toList) = false := by simp
  have h4 : (x.blank != x.blank) = false := by simp
  have HB : ∀ o1 o2 : Obj, Below w.heap.size w ((w.alloc o1).alloc o2) := fun o1 o2 => ((Below.refl _ _).alloc (Nat.le_refl _) _).alloc (by simp) _
  go_enter Try.func13, Try.ntmps13
  go_wp2_with fail
  refine (eqIntS_same a1 a2 c1 c2 x.kids _ hx (k1.below (HB _ _) (Nat.le_refl _)) (k2.below (HB _ _) (Nat.le_refl _))).mono ?_
  have HB3 := HB (.cells #[.int .i64 x.kind, .string x.text, .slice a1 x.kids.length c1, .bool x.blank] 33) (.cells #[.int .i64 x.kind, .string x.text, .slice a2 x.kids.length c2, .bool x.blank] 33)
  have A0 := heap_alloc2_old w (.cells #[.int .i64 x.kind, .string x.text, .slice a1 x.kids.length c1, .bool x.blank] 33) (.cells #[.int .i64 x.kind, .string x.text, .slice a2 x.kids.length c2, .bool x.blank] 33)
  have A1 := heap_alloc2_new w (.cells #[.int .i64 x.kind, .string x.text, .slice a1 x.kids.length c1, .bool x.blank] 33) (.cells #[.int .i64 x.kind, .string x.text, .slice a2 x.kids.length c2, .bool x.blank] 33)
  generalize (w.alloc (.cells #[.int .i64 x.kind, .string x.text, .slice a1 x.kids.length c1, .bool x.blank] 33)).alloc (.cells #[.int .i64 x.kind, .string x.text, .slice a2 x.kids.length c2, .bool x.blank] 33) = W at *
  rintro e w4 ⟨rfl, hb⟩
  have B0 := (hb.block w.heap.size (Array.getElem?_eq_some_iff.1 A0).1).trans A0
  have B1 := (hb.block (w.heap.size + 1) (Array.getElem?_eq_some_iff.1 A1).1).trans A1
  have p3 : w4.cell? ⟨w.heap.size, 3, none⟩ = some (.bool x.blank) := cell_of_row w4 _ 3 _ _ _ B0
  have r3 : w4.cell? ⟨w.heap.size + 1, 3, none⟩ = some (.bool x.blank) := cell_of_row w4 _ 3 _ _ _ B1
  have HW := hidOf (HB3.trans (hb.mono HB3.size))
  clear HB HB3 hb A0 A1 B0 B1 k1 k2
  go_wp2
  go_ret
  exact ⟨rfl, HW.out⟩

set_option maxHeartbeats 4000000 in
theorem eqNodes_same (v1 v2 : Value) (xs : List Nd) (w : World) (hx0 : xs.length ≤ 4611686018427387904) (hF : KidsFew xs) (h1 : NdsAt w v1 xs) (h2 : NdsAt w v2 xs) :
    Calls Try.prog 8 #[v1, v2] w fun e w' => e = .returned (.bool true) ∧ Below w.heap.size w w' := by
  obtain ⟨a1, c1, rfl, h1⟩ := h1
  obtain ⟨a2, c2, rfl, h2⟩ := h2
  have hx := hx0
  clear hx0
  obtain ⟨n, hn⟩ : ∃ n, n = xs.length := ⟨_, rfl⟩
  rw [← hn] at h1 h2 hx
  rw [← hn]
  have HN := hidOf hn
  clear hn
  go_enter Try.func8, Try.ntmps8
  go_wp2
  go_loopw [5] (fun i wr => ∃ k : Nat, k ≤ n ∧ i = .int .i64 k ∧ Below w.heap.size w wr) (fun i _ => n - (intOf i).toNat)
  case atStart => exact ⟨0, Nat.zero_le _, rfl, Below.refl _ _⟩
  case round =>
    obtain ⟨k, hk, rfl, hb⟩ := hrel
    by_cases hlt : k < n
    · obtain ⟨x, ex⟩ : ∃ x, xs[k]? = some x := ⟨_, List.getElem?_eq_getElem (by rw [← HN.out]; exact hlt)⟩
      obtain ⟨b1, o1, rfl, hb1, hc1⟩ := h1 (by omega)
      obtain ⟨b2, o2, rfl, hb2, hc2⟩ := h2 (by omega)
      obtain ⟨ka1, kc1, g1, K1⟩ := hc1 k x ex
      obtain ⟨ka2, kc2, g2, K2⟩ := hc2 k x ex
      have G1 := hF x (List.mem_of_getElem? ex)
      have hG : x.kids.length ≤ 4611686018427387904 := by omega
      obtain ⟨p0, p1, p2, p3⟩ := nd4 (w := wr) (fun j hj => by rw [hb.cell hb1]; exact g1 j hj)
      obtain ⟨q0, q1, q2, q3⟩ := nd4 (w := wr) (fun j hj => by rw [hb.cell hb2]; exact g2 j hj)
      have KK1 := K1.below hb.drew (Nat.le_refl _)
      have KK2 := K2.below hb.drew (Nat.le_refl _)
      clear ex hc1 hc2 h1 h2 g1 g2 K1 K2 G1
      have hA : (0 : Int) ≤ (k : Int) := by omega
      have hB : (k : Int) < (n : Int) := by omega
      go_wp2
      go_region_with (go_at_call 13; refine (eqNode_any x ka1 ka2 kc1 kc2 _ hG KK1 KK2).mono ?_; rintro e w1 ⟨rfl, hbb⟩)
      all_goals go_wp2
      all_goals go_roundw
      all_goals first | exact ⟨k + 1, by omega, by go_num, hb.drew.trans (hbb.mono hb.size)⟩ | (simp [intOf]; omega)
    · go_wp2
      go_ret
      exact ⟨rfl, hb⟩
end Go.Proofs.Ytjfimlhgjjjnmab
