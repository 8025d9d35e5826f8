/- The law on PieceOk: two answers alike, and the argument as it was. -/
import Derived.Test.YtnojnfanphcajaaOkI3
import Derived.Test.YtnojnfanphcajaaOkS2
import Derived.Test.YtnojnfanphcajaaTopPc
namespace Go.Proofs.Ytnojnfanphcajaa
open Go.RowKit

set_option maxHeartbeats 8000000 in
theorem lawPieceOk (p : Pc) (l : Pl) (w : World) (hok : PcOk p) (hp : PcIn w p l) :
    Calls Try.prog 4 #[pcV p l] w fun e w' => e = .returned (.bool true) ∧ Below w.heap.size w w' := by
  show Calls _ _ #[.agg #[.int .i64 p.indent, .slice l.a1 p.rules.length l.c1, .slice l.a2 p.chunks.length l.c2, .slice l.a3 p.spans.length l.c3, .slice l.a4 p.ties.length l.c4]] _ _
  go_enter Try.func4, Try.ntmps4
  go_wp2_with fail
  obtain ⟨W0, hW0, X0, B0, S0⟩ := boxed w p l 47
  rw [← hW0]
  have I0 := hp.below B0 (Nat.le_refl _)
  have hX : w.heap.size < W0.heap.size := by omega
  clear hW0 S0 hp
  refine (szPc_any p l _ hok I0).mono ?_
  rintro e w1 ⟨r, rfl, hr, A1⟩
  rcases hr with rfl | ⟨hr0, hF⟩
  · go_wp2
    go_ret
    exact ⟨rfl, B0.trans (A1.mono B0.size)⟩
  obtain ⟨-, c0, c1, c2, c3, c4⟩ := X0.below A1 hX
  go_wp2_with fail
  refine (toPc_any p l _ hF (I0.below A1 (Nat.le_refl _))).mono ?_
  rintro e w2 ⟨g1, g2, g3, g4, rfl, O2, hb2⟩
  have A2 := A1.trans (hb2.mono A1.size)
  clear c0 c1 c2 c3 c4 hb2
  go_wp2_with fail
  refine (sOk_any p _ _ hF O2.is).mono ?_
  rintro e w3 ⟨b, rfl, hbb, hb3⟩
  have A3 := A2.trans (hb3.mono A2.size)
  have HBB := hidOf hbb
  clear O2 hb3 hbb
  obtain ⟨-, c0, c1, c2, c3, c4⟩ := X0.below A3 hX
  go_wp2_with fail
  refine (toPc_any p l _ hF (I0.below A3 (Nat.le_refl _))).mono ?_
  rintro e w4 ⟨k1, k2, k3, k4, rfl, O4, hb4⟩
  have A4 := A3.trans (hb4.mono A3.size)
  clear hb4 c0 c1 c2 c3 c4
  go_wp2_with fail
  obtain ⟨W4, hW4, X4, hb5, S4⟩ := boxed w4 p (plOf p k1 k2 k3 k4) 29
  rw [← hW4]
  have A5 := A4.trans (hb5.mono A4.size)
  have O5 := O4.below hb5
  have hX4 : w4.heap.size < W4.heap.size := by omega
  clear hW4
  refine (iOk_any p _ _ hF O5.is).mono ?_
  rintro e w7 ⟨b', rfl, hbb', E7⟩
  have A7 := A5.trans (E7.mono A5.size)
  have O7 := O5.below E7
  have ebb := same_bool hbb' HBB.out
  subst ebb
  clear hbb' HBB O5 hb5
  have hne : (b' != b') = false := by simp
  obtain ⟨-, c0, c1, c2, c3, c4⟩ := X0.below A7 hX
  obtain ⟨-, b0, b1, b2, b3, b4⟩ := X4.below E7 hX4
  have hz0 : w.heap.size < w7.heap.size := by have := A7.size; omega
  have hz4 : w4.heap.size < w7.heap.size := by have := E7.size; omega
  have Dr := (Below.refl w7.heap.size w7).drew
  have IA := (I0.below A7 (Nat.le_refl _)).below Dr (Nat.le_refl _)
  have IX := O7.is.below Dr (Nat.le_refl _)
  go_wp2
  go_region_held3 (fun W => (W.cell? ⟨w4.heap.size, 0, none⟩ = some (.int .i64 p.indent) ∧ W.cell? ⟨w4.heap.size, 1, none⟩ = some (.slice (some ⟨k1, 0, none⟩) p.rules.length p.rules.length) ∧ W.cell? ⟨w4.heap.size, 2, none⟩ = some (.slice (some ⟨k2, 0, none⟩) p.chunks.length p.chunks.length) ∧ W.cell? ⟨w4.heap.size, 3, none⟩ = some (.slice (some ⟨k3, 0, none⟩) p.spans.length p.spans.length) ∧ W.cell? ⟨w4.heap.size, 4, none⟩ = some (.slice (some ⟨k4, 0, none⟩) p.ties.length p.ties.length)) ∧ W.cell? ⟨w.heap.size, 0, none⟩ = some (.int .i64 p.indent) ∧ W.cell? ⟨w.heap.size, 1, none⟩ = some (.slice l.a1 p.rules.length l.c1) ∧ W.cell? ⟨w.heap.size, 2, none⟩ = some (.slice l.a2 p.chunks.length l.c2) ∧ W.cell? ⟨w.heap.size, 3, none⟩ = some (.slice l.a3 p.spans.length l.c3) ∧ W.cell? ⟨w.heap.size, 4, none⟩ = some (.slice l.a4 p.ties.length l.c4)) (first | trivial | go_keep)
    ((first
    | (go_at_call 29; refine (toPc_any p l _ hF IA).mono ?_; rintro e w8 ⟨m1, m2, m3, m4, rfl, O8, hb8⟩; have hc8 := bcelld hb8; have hz8 : w.heap.size < w8.heap.size := Nat.lt_of_lt_of_le hz0 hb8.size; have hy8 : w4.heap.size < w8.heap.size := Nat.lt_of_lt_of_le hz4 hb8.size)
    | (go_at_call 30; refine (eqPc_same p _ _ _ hF (IX.below hb8 (Nat.le_refl _)) O8.is).mono ?_; rintro e w9 ⟨rfl, hb9⟩; have hc9 := (bcell hb9).1)))
  have A8 := A7.drew.trans (hb8.mono A7.size)
  have A9 := A8.trans (hb9.mono A8.size)
  go_wp2
  go_ret
  exact ⟨rfl, B0.trans (A9.mono B0.size)⟩
end Go.Proofs.Ytnojnfanphcajaa
