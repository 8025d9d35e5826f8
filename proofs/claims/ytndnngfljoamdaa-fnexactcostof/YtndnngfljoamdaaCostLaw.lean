/- The law on CostOf: two answers alike, and the arguments as they were. -/
import Derived.Test.YtndnngfljoamdaaRenKey
import Derived.Test.YtndnngfljoamdaaCmpLaw
import Derived.Test.YtndnngfljoamdaaTopPc
import Derived.Test.YtndnngfljoamdaaToInt
namespace Go.Proofs.Ytndnngfljoamdaa
open Go.RowKit

set_option maxHeartbeats 1600000 in
theorem eqCo_same (o s : Int) (w : World) :
    Calls Try.prog 55 #[.agg #[.int .i64 o, .int .i64 s], .agg #[.int .i64 o, .int .i64 s]] w fun e w' => e = .returned (.bool true) ∧ Below w.heap.size w w' := by
  have h1 : (o != o) = false := by simp
  have h2 : (s != s) = false := by simp
  have HB2 : ∀ a b : Obj, Below w.heap.size w ((w.alloc a).alloc b) := fun a b => ((Below.refl _ _).alloc (Nat.le_refl _) _).alloc (by simp) _
  go_enter Try.func55, Try.ntmps55
  go_wp2
  go_ret
  exact ⟨rfl, HB2 _ _⟩
/-- A variable is made, and holds a cost. -/
structure CoAt (w : World) (b : Nat) (o s : Int) : Prop where
  c0 : w.cell? ⟨b, 0, none⟩ = some (.int .i64 o)
  c1 : w.cell? ⟨b, 1, none⟩ = some (.int .i64 s)
theorem CoAt.below {w w' : World} {b B : Nat} {o s : Int} (h : CoAt w b o s) (hb : Below B w w') (hB : b < B) : CoAt w' b o s :=
  ⟨by rw [hb.cell hB]; exact h.c0, by rw [hb.cell hB]; exact h.c1⟩
theorem coBoxed (w : World) (o s : Int) (t : Nat) : ∃ W, W = w.alloc (.cells #[.int .i64 o, .int .i64 s] t) ∧ CoAt W w.heap.size o s ∧ Below w.heap.size w W ∧ W.heap.size = w.heap.size + 1 := by
  refine ⟨_, rfl, ⟨?_, ?_⟩, (Below.refl _ _).alloc (Nat.le_refl _) _, by simp⟩
  all_goals simp

set_option maxHeartbeats 8000000 in
theorem lawCostOf (p : Pc) (l : Pl) (a : Option Addr) (c : Nat) (vs : List Int) (wd : Int) (w : World) (hok : PcOk p) (hp : PcIn w p l) (hv0 : vs.length ≤ 9223372036854775807) (hv : KidsAt w a vs) :
    Calls Try.prog 7 #[pcV p l, .slice a vs.length c, .int .i64 wd] w fun e w' => e = .returned (.bool true) ∧ Below w.heap.size w w' := by
  show Calls _ _ #[.agg #[.int .i64 p.indent, .slice l.a1 p.rules.length l.c1, .slice l.a2 p.chunks.length l.c2, .slice l.a3 p.spans.length l.c3, .slice l.a4 p.ties.length l.c4], _, _] _ _
  have hv1 := hv0
  clear hv0
  by_cases hbig : (1048576 : Int) < (vs.length : Int)
  · have HB : ∀ o1 : Obj, Below w.heap.size w (w.alloc o1) := fun o1 => (Below.refl _ _).alloc (Nat.le_refl _) _
    go_enter Try.func7, Try.ntmps7
    go_wp2
    go_ret
    exact ⟨rfl, HB _⟩
  have hm0 : vs.length ≤ 1048576 := by omega
  have hm1 : (vs.length : Int) ≤ 1048576 := by omega
  clear hbig
  go_enter Try.func7, Try.ntmps7
  go_wp2_with fail
  obtain ⟨W0, hW0, X0, B0, S0⟩ := boxed w p l 66
  rw [← hW0]
  have I0 := hp.below B0 (Nat.le_refl _)
  have V0 := hv.below B0 (Nat.le_refl _)
  have hX : w.heap.size < W0.heap.size := by omega
  clear hW0 S0 hp hv
  refine (szPc_any p l _ hok I0).mono ?_
  rintro e w1 ⟨r, rfl, hr, A1⟩
  rcases hr with rfl | ⟨hr0, hF⟩
  · go_wp2
    go_ret
    exact ⟨rfl, B0.trans (A1.mono B0.size)⟩
  obtain ⟨o, s, qS, qI, -⟩ := cost_key p vs wd hF hm0
  unfold CoAns at qS qI
  obtain ⟨-, c0, c1, c2, c3, c4⟩ := X0.below A1 hX
  go_wp2_with fail
  refine (toPc_any p l _ hF (I0.below A1 (Nat.le_refl _))).mono ?_
  rintro e w2 ⟨g1, g2, g3, g4, rfl, O2, hb2⟩
  have A2 := A1.trans (hb2.mono A1.size)
  clear c0 c1 c2 c3 c4 hb2
  go_wp2_with fail
  refine (toInts_any a c vs _ hm0 (V0.below A2 (Nat.le_refl _))).mono ?_
  rintro e w2b ⟨rfl, ov2, hb2b⟩
  have A2b := A2.trans (hb2b.mono A2.size)
  have O2b := O2.below hb2b
  clear O2 hb2b
  go_wp2_with fail
  refine (qS _ _ _ _ O2b.is (.of_own ov2)).mono ?_
  rintro e w3a ⟨rfl, hb3⟩
  have A3a := A2b.trans (hb3.mono A2b.size)
  clear O2b hb3 ov2
  obtain ⟨-, c0, c1, c2, c3, c4⟩ := X0.below A3a hX
  have HX3 := fun ob : Obj => X0.below (A3a.alloc A3a.size ob) hX
  have x0 := fun ob => (HX3 ob).c0
  have x1 := fun ob => (HX3 ob).c1
  have x2 := fun ob => (HX3 ob).c2
  have x3 := fun ob => (HX3 ob).c3
  have x4 := fun ob => (HX3 ob).c4
  clear HX3
  obtain ⟨w3, hw3, Z3, hb3, S3⟩ := coBoxed w3a o s 50
  have A3 := A3a.trans (hb3.mono A3a.size)
  have hZ3 : w3a.heap.size < w3.heap.size := by omega
  have f3 := hidOf hb3
  clear hb3 S3
  go_wp2_with fail
  rw [← hw3]
  clear hw3 c0 c1 c2 c3 c4 x0 x1 x2 x3 x4
  refine (toPc_any p l _ hF (I0.below A3 (Nat.le_refl _))).mono ?_
  rintro e w4 ⟨k1, k2, k3, k4, rfl, O4, hb4⟩
  have A4 := A3.trans (hb4.mono A3.size)
  have D4 := hb4
  clear hb4
  go_wp2_with fail
  obtain ⟨W4, hW4, X4, hb5, S4⟩ := boxed w4 p (plOf p k1 k2 k3 k4) 29
  rw [← hW4]
  have A5 := A4.trans (hb5.mono A4.size)
  have D5 := D4.trans (hb5.mono D4.size)
  have O5 := O4.below hb5
  have hX4 : w4.heap.size < W4.heap.size := by omega
  clear hW4 S4
  refine (toInts_any a c vs _ hm0 (V0.below A5 (Nat.le_refl _))).mono ?_
  rintro e w6 ⟨rfl, ov6, E6⟩
  have A6 := A5.trans (E6.mono A5.size)
  have D6 := D5.trans (E6.mono D5.size)
  have O6 := O5.below E6
  clear O5 hb5
  obtain ⟨-, b0, b1, b2, b3, b4⟩ := X4.below E6 hX4
  go_wp2_with fail
  refine (qI _ _ _ _ (Nat.le_refl _) O6.is (.of_own ov6)).mono ?_
  rintro e w7a ⟨rfl, hb7⟩
  have A7a := A6.trans (hb7.mono A6.size)
  have D7a := D6.trans (hb7.mono D6.size)
  have E7a := E6.trans (hb7.mono E6.size)
  have O7a := O6.below hb7
  have ov7a := owns_below ov6 hb7
  clear O6 hb7 b0 b1 b2 b3 b4 ov6
  obtain ⟨w7b, hw7, Z7, hb7, S7⟩ := coBoxed w7a o s 50
  have A7b := A7a.trans (hb7.mono A7a.size)
  have D7b := D7a.trans (hb7.mono D7a.size)
  have E7b := E7a.trans (hb7.mono E7a.size)
  have O7b := O7a.below hb7
  have ov7b := owns_below ov7a hb7
  have hZ7 : w7a.heap.size < w7b.heap.size := by omega
  obtain ⟨z0, z1⟩ := Z3.below D7b hZ3
  obtain ⟨z2, z3⟩ := Z7
  have HZA := fun ob : Obj => Z3.below (D7a.alloc D7a.size ob) hZ3
  have u0 := fun ob => (HZA ob).c0
  have u1 := fun ob => (HZA ob).c1
  clear hb7 S7 O7a ov7a HZA
  go_wp2_with fail
  rw [← hw7]
  clear hw7
  refine (eqCo_same o s _).mono ?_
  rintro e w7 ⟨rfl, hb7⟩
  have A7 := A7b.trans (hb7.mono A7b.size)
  have E7 := E7b.trans (hb7.mono E7b.size)
  have O7 := O7b.below hb7
  have ov7 := owns_below ov7b hb7
  clear hb7 O7b ov7b z0 z1 z2 z3 u0 u1
  obtain ⟨-, c0, c1, c2, c3, c4⟩ := X0.below A7 hX
  obtain ⟨-, b0, b1, b2, b3, b4⟩ := X4.below E7 hX4
  have hz0 : w.heap.size < w7.heap.size := by have := A7.size; omega
  have hz4 : w4.heap.size < w7.heap.size := by have := E7.size; omega
  have Dr := (Below.refl w7.heap.size w7).drew
  have IA := (I0.below A7 (Nat.le_refl _)).below Dr (Nat.le_refl _)
  have IX := O7.is.below Dr (Nat.le_refl _)
  go_wp2
  go_region_held3 (fun W => (W.cell? ⟨w4.heap.size, 0, none⟩ = some (.int .i64 p.indent) ∧ W.cell? ⟨w4.heap.size, 1, none⟩ = some (.slice (some ⟨k1, 0, none⟩) p.rules.length p.rules.length) ∧ W.cell? ⟨w4.heap.size, 2, none⟩ = some (.slice (some ⟨k2, 0, none⟩) p.chunks.length p.chunks.length) ∧ W.cell? ⟨w4.heap.size, 3, none⟩ = some (.slice (some ⟨k3, 0, none⟩) p.spans.length p.spans.length) ∧ W.cell? ⟨w4.heap.size, 4, none⟩ = some (.slice (some ⟨k4, 0, none⟩) p.ties.length p.ties.length)) ∧ W.cell? ⟨w.heap.size, 0, none⟩ = some (.int .i64 p.indent) ∧ W.cell? ⟨w.heap.size, 1, none⟩ = some (.slice l.a1 p.rules.length l.c1) ∧ W.cell? ⟨w.heap.size, 2, none⟩ = some (.slice l.a2 p.chunks.length l.c2) ∧ W.cell? ⟨w.heap.size, 3, none⟩ = some (.slice l.a3 p.spans.length l.c3) ∧ W.cell? ⟨w.heap.size, 4, none⟩ = some (.slice l.a4 p.ties.length l.c4)) (first | trivial | go_keep)
    ((first
    | (go_at_call 46; refine (toPc_any p l _ hF IA).mono ?_; rintro e w8 ⟨m1, m2, m3, m4, rfl, O8, hb8⟩; have hc8 := bcelld hb8; have hz8 : w.heap.size < w8.heap.size := Nat.lt_of_lt_of_le hz0 hb8.size; have hy8 : w4.heap.size < w8.heap.size := Nat.lt_of_lt_of_le hz4 hb8.size)
    | (go_at_call 48; refine (eqPc_same p _ _ _ hF (IX.below hb8 (Nat.le_refl _)) O8.is).mono ?_; rintro e w9 ⟨rfl, hb9⟩; have hc9 := (bcell hb9).1)))
  have A8 := A7.drew.trans (hb8.mono A7.size)
  have A9 := A8.trans (hb9.mono A8.size)
  have ov9 := owns_below (owns_below (owns_below ov7 Dr) hb8) hb9
  clear c0 c1 c2 c3 c4 b0 b1 b2 b3 b4 hc8 hc9 hz0 hz4 hz8 hy8 IA IX hb8 hb9 O8 A8 Dr E7 O7 ov7
  go_wp2_with fail
  refine (toInts_any a c vs _ hm0 (V0.below A9 (Nat.le_refl _))).mono ?_
  rintro e w10 ⟨rfl, ov10, hb10⟩
  have A10 := A9.trans (hb10.mono A9.size)
  have ov9 := owns_below ov9 hb10
  clear hb10
  go_wp2_with fail
  refine (eqInts_same _ _ _ _ vs _ (by omega) (.of_own ov9) (.of_own ov10)).mono ?_
  rintro e w11 ⟨rfl, hb11⟩
  have A11 := A10.trans (hb11.mono A10.size)
  go_wp2
  go_ret
  exact ⟨rfl, B0.trans (A11.mono B0.size)⟩
end Go.Proofs.Ytndnngfljoamdaa
