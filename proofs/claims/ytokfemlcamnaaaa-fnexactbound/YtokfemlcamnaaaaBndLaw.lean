/- The law on Bound: two answers alike, and the arguments as they were. -/
import Derived.Test.YtokfemlcamnaaaaBndP
import Derived.Test.YtokfemlcamnaaaaTopPc
import Derived.Test.YtokfemlcamnaaaaToInt
namespace Go.Proofs.Ytokfemlcamnaaaa
open Go.RowKit

set_option maxHeartbeats 8000000 in
theorem lawBound (p : Pc) (l : Pl) (a : Option Addr) (c : Nat) (vs : List Int) (w : World) (hok : PcOk p) (hp : PcIn w p l) (hv0 : vs.length ≤ 9223372036854775807) (hv : KidsAt w a vs) :
    Calls Try.prog 10 #[pcV p l, .slice a vs.length c] w fun e w' => e = .returned (.bool true) ∧ Below w.heap.size w w' := by
  show Calls _ _ #[.agg #[.int .i64 p.indent, .slice l.a1 p.rules.length l.c1, .slice l.a2 p.chunks.length l.c2, .slice l.a3 p.spans.length l.c3, .slice l.a4 p.ties.length l.c4], _] _ _
  have hv1 := hv0
  clear hv0
  by_cases hbig : (1048576 : Int) < (vs.length : Int)
  · have HB : ∀ o1 : Obj, Below w.heap.size w (w.alloc o1) := fun o1 => (Below.refl _ _).alloc (Nat.le_refl _) _
    go_enter Try.func10, Try.ntmps10
    go_wp2
    go_ret
    exact ⟨rfl, HB _⟩
  have hm0 : vs.length ≤ 1048576 := by omega
  have hm1 : (vs.length : Int) ≤ 1048576 := by omega
  clear hbig
  go_enter Try.func10, Try.ntmps10
  go_wp2_with fail
  obtain ⟨W0, hW0, X0, B0, S0⟩ := boxed w p l 78
  rw [← hW0]
  have I0 := hp.below B0 (Nat.le_refl _)
  have V0 := hv.below B0 (Nat.le_refl _)
  have hX : w.heap.size < W0.heap.size := by omega
  clear hW0 S0 hp hv
  refine (szPc_any p l _ hok I0).mono ?_
  rintro e w1 ⟨r, rfl, hr, A1⟩
  rcases hr with rfl | ⟨hr0, hF⟩
  · go_wp2
    go_ret
    exact ⟨rfl, B0.trans (A1.mono B0.size)⟩
  obtain ⟨-, c0, c1, c2, c3, c4⟩ := X0.below A1 hX
  go_wp2_with fail
  refine (toPc_any p l _ hF (I0.below A1 (Nat.le_refl _))).mono ?_
  rintro e w2 ⟨g1, g2, g3, g4, rfl, O2, hb2⟩
  have A2 := A1.trans (hb2.mono A1.size)
  clear c0 c1 c2 c3 c4 hb2
  go_wp2_with fail
  refine (toInts_any a c vs _ hm0 (V0.below A2 (Nat.le_refl _))).mono ?_
  rintro e w2b ⟨rfl, ov2, hb2b⟩
  have A2b := A2.trans (hb2b.mono A2.size)
  have O2b := O2.below hb2b
  clear O2 hb2b
  go_wp2_with fail
  obtain ⟨bz, qS, qI⟩ := bnd_key p vs hF hm0
  refine (qS _ _ _ _ O2b.is (.of_own ov2)).mono ?_
  rintro e w3 ⟨rfl, hb3⟩
  have A3 := A2b.trans (hb3.mono A2b.size)
  clear O2b hb3 ov2
  obtain ⟨-, c0, c1, c2, c3, c4⟩ := X0.below A3 hX
  go_wp2_with fail
  refine (toPc_any p l _ hF (I0.below A3 (Nat.le_refl _))).mono ?_
  rintro e w4 ⟨k1, k2, k3, k4, rfl, O4, hb4⟩
  have A4 := A3.trans (hb4.mono A3.size)
  clear hb4 c0 c1 c2 c3 c4
  go_wp2_with fail
  obtain ⟨W4, hW4, X4, hb5, S4⟩ := boxed w4 p (plOf p k1 k2 k3 k4) 29
  rw [← hW4]
  have A5 := A4.trans (hb5.mono A4.size)
  have O5 := O4.below hb5
  have hX4 : w4.heap.size < W4.heap.size := by omega
  clear hW4 S4
  refine (toInts_any a c vs _ hm0 (V0.below A5 (Nat.le_refl _))).mono ?_
  rintro e w6 ⟨rfl, ov6, E6⟩
  have A6 := A5.trans (E6.mono A5.size)
  have O6 := O5.below E6
  clear O5 hb5
  obtain ⟨-, b0, b1, b2, b3, b4⟩ := X4.below E6 hX4
  go_wp2_with fail
  refine (qI (plOf p k1 k2 k3 k4) _ _ _ (Nat.le_refl _) (Nat.le_refl _) O6.is (.of_own ov6)).mono ?_
  rintro e w7 ⟨rfl, hb7⟩
  have A7 := A6.trans (hb7.mono A6.size)
  have E7 := E6.trans (hb7.mono E6.size)
  have O7 := O6.below hb7
  have ov7 := owns_below ov6 hb7
  clear O6 hb7 b0 b1 b2 b3 b4 ov6
  have hne : (bz != bz) = false := by simp
  obtain ⟨-, c0, c1, c2, c3, c4⟩ := X0.below A7 hX
  obtain ⟨-, b0, b1, b2, b3, b4⟩ := X4.below E7 hX4
  have hz0 : w.heap.size < w7.heap.size := by have := A7.size; omega
  have hz4 : w4.heap.size < w7.heap.size := by have := E7.size; omega
  have Dr := (Below.refl w7.heap.size w7).drew
  have IA := (I0.below A7 (Nat.le_refl _)).below Dr (Nat.le_refl _)
  have IX := O7.is.below Dr (Nat.le_refl _)
  go_wp2
  go_region_held3 (fun W => (W.cell? ⟨w4.heap.size, 0, none⟩ = some (.int .i64 p.indent) ∧ W.cell? ⟨w4.heap.size, 1, none⟩ = some (.slice (some ⟨k1, 0, none⟩) p.rules.length p.rules.length) ∧ W.cell? ⟨w4.heap.size, 2, none⟩ = some (.slice (some ⟨k2, 0, none⟩) p.chunks.length p.chunks.length) ∧ W.cell? ⟨w4.heap.size, 3, none⟩ = some (.slice (some ⟨k3, 0, none⟩) p.spans.length p.spans.length) ∧ W.cell? ⟨w4.heap.size, 4, none⟩ = some (.slice (some ⟨k4, 0, none⟩) p.ties.length p.ties.length)) ∧ W.cell? ⟨w.heap.size, 0, none⟩ = some (.int .i64 p.indent) ∧ W.cell? ⟨w.heap.size, 1, none⟩ = some (.slice l.a1 p.rules.length l.c1) ∧ W.cell? ⟨w.heap.size, 2, none⟩ = some (.slice l.a2 p.chunks.length l.c2) ∧ W.cell? ⟨w.heap.size, 3, none⟩ = some (.slice l.a3 p.spans.length l.c3) ∧ W.cell? ⟨w.heap.size, 4, none⟩ = some (.slice l.a4 p.ties.length l.c4)) (first | trivial | go_keep)
    ((first
    | (go_at_call 57; refine (toPc_any p l _ hF IA).mono ?_; rintro e w8 ⟨m1, m2, m3, m4, rfl, O8, hb8⟩; have hc8 := bcelld hb8; have hz8 : w.heap.size < w8.heap.size := Nat.lt_of_lt_of_le hz0 hb8.size; have hy8 : w4.heap.size < w8.heap.size := Nat.lt_of_lt_of_le hz4 hb8.size)
    | (go_at_call 59; refine (eqPc_same p _ _ _ hF (IX.below hb8 (Nat.le_refl _)) O8.is).mono ?_; rintro e w9 ⟨rfl, hb9⟩; have hc9 := (bcell hb9).1)))
  have A8 := A7.drew.trans (hb8.mono A7.size)
  have A9 := A8.trans (hb9.mono A8.size)
  have ov9 := owns_below (owns_below (owns_below ov7 Dr) hb8) hb9
  clear c0 c1 c2 c3 c4 b0 b1 b2 b3 b4 hc8 hc9 hz0 hz4 hz8 hy8 IA IX hb8 hb9 O8 A8 Dr E7 O7 ov7
  go_wp2_with fail
  refine (toInts_any a c vs _ hm0 (V0.below A9 (Nat.le_refl _))).mono ?_
  rintro e w10 ⟨rfl, ov10, hb10⟩
  have A10 := A9.trans (hb10.mono A9.size)
  have ov9 := owns_below ov9 hb10
  clear hb10
  go_wp2_with fail
  refine (eqInts_same _ _ _ _ vs _ (by omega) (.of_own ov9) (.of_own ov10)).mono ?_
  rintro e w11 ⟨rfl, hb11⟩
  have A11 := A10.trans (hb11.mono A10.size)
  go_wp2
  go_ret
  exact ⟨rfl, B0.trans (A11.mono B0.size)⟩
end Go.Proofs.Ytokfemlcamnaaaa
