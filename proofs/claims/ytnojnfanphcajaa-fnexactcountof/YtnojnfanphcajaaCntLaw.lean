/- The law on CountOf: two answers alike, and the argument as it was. -/
import Derived.Test.YtnojnfanphcajaaCntP
import Derived.Test.YtnojnfanphcajaaTopPc
import Derived.Deep.RegionWith
namespace Go.Proofs.Ytnojnfanphcajaa
open Go.RowKit

theorem bcelld {W w1 : World} (hb : Below W.drew.heap.size W.drew w1) : ∀ b o, b < W.heap.size → w1.cell? ⟨b, o, none⟩ = W.cell? ⟨b, o, none⟩ :=
  fun b o h => hb.cell (p := ⟨b, o, none⟩) h

set_option maxHeartbeats 4000000 in
theorem lawCountOf (p : Pc) (l : Pl) (w : World) (hok : PcOk p) (hp : PcIn w p l) :
    Calls Try.prog 9 #[pcV p l] w fun e w' => e = .returned (.bool true) ∧ Below w.heap.size w w' := by
  have HB : ∀ o1 : Obj, Below w.heap.size w (w.alloc o1) := fun o1 => (Below.refl _ _).alloc (Nat.le_refl _) _
  show Calls _ _ #[.agg #[.int .i64 p.indent, .slice l.a1 p.rules.length l.c1, .slice l.a2 p.chunks.length l.c2, .slice l.a3 p.spans.length l.c3, .slice l.a4 p.ties.length l.c4]] _ _
  go_enter Try.func9, Try.ntmps9
  go_wp2_with fail
  refine (szPc_any p l _ hok (hp.below (HB _) (Nat.le_refl _))).mono ?_
  rintro e w1 ⟨r, rfl, hr, hb1⟩
  have B1 := (HB _).trans (hb1.mono (HB _).size)
  have z1 : w.heap.size < w1.heap.size := by have := hb1.size; simp at this; omega
  obtain ⟨hc1, -⟩ := bcell hb1
  clear hb1 HB
  rcases hr with rfl | ⟨hr0, hF⟩
  · go_wp2
    go_ret
    exact ⟨rfl, B1⟩
  go_wp2_with fail
  refine (toPc_any p l _ hF (hp.below B1 (Nat.le_refl _))).mono ?_
  rintro e w2 ⟨g1, g2, g3, g4, rfl, O2, hb2⟩
  have B2 := B1.trans (hb2.mono B1.size)
  have z2 : w.heap.size < w2.heap.size := by have := hb2.size; omega
  obtain ⟨hc2, -⟩ := bcell hb2
  clear hb2
  obtain ⟨u, hu⟩ : ∃ u, u = cntOf p := ⟨_, rfl⟩
  have HU := hidOf hu
  clear hu
  go_wp2_with fail
  refine (sCnt_any p _ _ hF.rules O2.is.rules).mono ?_
  rw [← HU.out]
  rintro e w3 ⟨rfl, hb3⟩
  have B3 := B2.trans (hb3.mono B2.size)
  have z3 : w.heap.size < w3.heap.size := by have := hb3.size; omega
  obtain ⟨hc3, -⟩ := bcell hb3
  clear hb3 O2
  go_wp2_with fail
  refine (toPc_any p l _ hF (hp.below B3 (Nat.le_refl _))).mono ?_
  rintro e w4 ⟨k1, k2, k3, k4, rfl, O4, hb4⟩
  have B4 := B3.trans (hb4.mono B3.size)
  have z4 : w.heap.size < w4.heap.size := by have := hb4.size; omega
  obtain ⟨hc4, -⟩ := bcell hb4
  clear hb4
  have HA4 : ∀ o1 : Obj, Below w4.heap.size w4 (w4.alloc o1) := fun o1 => (Below.refl _ _).alloc (Nat.le_refl _) _
  go_wp2_with fail
  refine (iCnt_any p _ _ hF.rules k1 0 rfl (Nat.le_refl _) (O4.is.rules.below (HA4 _) (Nat.le_refl _))).mono ?_
  rw [← HU.out]
  rintro e w5 ⟨rfl, hb5⟩
  have A5 := (HA4 _).trans (hb5.mono (HA4 _).size)
  have B5 := B4.trans (A5.mono B4.size)
  have z5 : w.heap.size < w5.heap.size := by have := A5.size; omega
  have z54 : w4.heap.size < w5.heap.size := by have := hb5.size; simp at this; omega
  obtain ⟨hc5, -⟩ := bcell hb5
  have z4s : w.heap.size < w4.heap.size + 1 := by omega
  have I5 := (O4.is.below A5 (Nat.le_refl _)).below (Below.refl w5.heap.size w5).drew (Nat.le_refl _)
  have hu : (u != u) = false := by simp
  clear hb5 HA4 A5 O4 HU
  go_wp2
  go_region_with (first
    | (go_at_call 29; refine (toPc_any p l _ hF (hp.below B5.drew (Nat.le_refl _))).mono ?_; rintro e w6 ⟨m1, m2, m3, m4, rfl, O6, hb6⟩; have hc6 := bcelld hb6)
    | (go_at_call 30; refine (eqPc_same p _ _ _ hF (I5.below hb6 (Nat.le_refl _)) O6.is).mono ?_; rintro e w7 ⟨rfl, hb7⟩))
  all_goals go_wp2
  all_goals go_ret
  all_goals exact ⟨rfl, (B5.drew.trans (hb6.mono B5.size)).trans (hb7.mono (Nat.le_trans B5.size hb6.size))⟩
end Go.Proofs.Ytnojnfanphcajaa
