/- The law on Render: two answers alike, the arguments as they were, and what is answered owns its memory. -/
import Derived.Test.YtndnngfljoamdaaRenKey
import Derived.Test.YtndnngfljoamdaaMkPc
import Derived.Test.YtndnngfljoamdaaMkIn
import Derived.Test.YtndnngfljoamdaaStrs
import Derived.Test.YtndnngfljoamdaaToInt
namespace Go.Proofs.Ytndnngfljoamdaa
open Go.RowKit

set_option maxHeartbeats 16000000 in
theorem lawRender (p : Pc) (l : Pl) (a : Option Addr) (c : Nat) (vs : List Int) (w : World) (hok : PcOk p) (hp : PcIn w p l) (hv0 : vs.length ≤ 9223372036854775807) (hv : KidsAt w a vs) :
    Calls Try.prog 6 #[pcV p l, .slice a vs.length c] w fun e w' => e = .returned (.bool true) ∧ Below w.heap.size w w' := by
  show Calls _ _ #[.agg #[.int .i64 p.indent, .slice l.a1 p.rules.length l.c1, .slice l.a2 p.chunks.length l.c2, .slice l.a3 p.spans.length l.c3, .slice l.a4 p.ties.length l.c4], _] _ _
  have hv1 := hv0
  clear hv0
  by_cases hbig : (1048576 : Int) < (vs.length : Int)
  · have HB : ∀ o1 : Obj, Below w.heap.size w (w.alloc o1) := fun o1 => (Below.refl _ _).alloc (Nat.le_refl _) _
    go_enter Try.func6, Try.ntmps6
    go_wp2
    go_ret
    exact ⟨rfl, HB _⟩
  have hm0 : vs.length ≤ 1048576 := by omega
  have hm1 : (vs.length : Int) ≤ 1048576 := by omega
  clear hbig
  go_enter Try.func6, Try.ntmps6
  go_wp2_with fail
  obtain ⟨W0, hW0, X0, B0, S0⟩ := boxed w p l 66
  rw [← hW0]
  have I0 := hp.below B0 (Nat.le_refl _)
  have V0 := hv.below B0 (Nat.le_refl _)
  have hX : w.heap.size < W0.heap.size := by omega
  clear hW0 S0 hp hv
  refine (szPc_any p l _ hok I0).mono ?_
  rintro e w1 ⟨r, rfl, hr, A1⟩
  rcases hr with rfl | ⟨hr0, hF⟩
  · go_wp2
    go_ret
    exact ⟨rfl, B0.trans (A1.mono B0.size)⟩
  obtain ⟨ss, hsl, qS, qI, -⟩ := ren_key p vs hF hm0
  obtain ⟨n, hn⟩ : ∃ n, n = ss.length := ⟨_, rfl⟩
  unfold StrsAns at qS qI
  rw [← hn] at hsl qS qI
  clear hn
  obtain ⟨-, c0, c1, c2, c3, c4⟩ := X0.below A1 hX
  go_wp2_with fail
  refine (toPc_any p l _ hF (I0.below A1 (Nat.le_refl _))).mono ?_
  rintro e w2 ⟨g1, g2, g3, g4, rfl, O2, hb2⟩
  have A2 := A1.trans (hb2.mono A1.size)
  clear c0 c1 c2 c3 c4 hb2
  go_wp2_with fail
  refine (toInts_any a c vs _ hm0 (V0.below A2 (Nat.le_refl _))).mono ?_
  rintro e w2b ⟨rfl, ov2, hb2b⟩
  have A2b := A2.trans (hb2b.mono A2.size)
  have O2b := O2.below hb2b
  clear O2 hb2b
  go_wp2_with fail
  refine (qS _ _ _ _ O2b.is (.of_own ov2)).mono ?_
  rintro e w3 ⟨hb3, v0, rfl, ho0⟩
  have A3 := A2b.trans (hb3.mono A2b.size)
  have L0 := hidOf (fun q h => (ho0.lt q h).2)
  clear O2b hb3 ov2
  obtain ⟨-, c0, c1, c2, c3, c4⟩ := X0.below A3 hX
  go_wp2_with fail
  refine (toPc_any p l _ hF (I0.below A3 (Nat.le_refl _))).mono ?_
  rintro e w4 ⟨k1, k2, k3, k4, rfl, O4, hb4⟩
  have A4 := A3.trans (hb4.mono A3.size)
  have ho0 := owns_below ho0 hb4
  clear hb4 c0 c1 c2 c3 c4
  go_wp2_with fail
  obtain ⟨W4, hW4, X4, hb5, S4⟩ := boxed w4 p (plOf p k1 k2 k3 k4) 29
  rw [← hW4]
  have A5 := A4.trans (hb5.mono A4.size)
  have O5 := O4.below hb5
  have ho0 := owns_below ho0 hb5
  have hX4 : w4.heap.size < W4.heap.size := by omega
  clear hW4 S4
  refine (toInts_any a c vs _ hm0 (V0.below A5 (Nat.le_refl _))).mono ?_
  rintro e w6 ⟨rfl, ov, E6⟩
  have A6 := A5.trans (E6.mono A5.size)
  have O6 := O5.below E6
  have ho0 := owns_below ho0 E6
  have LV := (ov.lt W4.heap.size rfl).2
  clear O5 hb5
  obtain ⟨-, b0, b1, b2, b3, b4⟩ := X4.below E6 hX4
  go_wp2_with fail
  refine (qI _ _ _ _ O6.is (.of_own ov)).mono ?_
  rintro e w6b ⟨hb6, v1, rfl, ho1⟩
  have A6b := A6.trans (hb6.mono A6.size)
  have L1 := hidOf (fun q h => (ho1.lt q h).1)
  have O6b := O6.below hb6
  have ho0 := owns_below ho0 hb6
  have ov := owns_below ov hb6
  have E6b := E6.trans (hb6.mono E6.size)
  clear hb6 O6 b0 b1 b2 b3 b4
  go_wp2_with fail
  refine (eqS_same v1 v0 _ _ n ss _ (by omega) ho1 ho0).mono ?_
  rintro e w7 ⟨rfl, q7, hq7⟩
  have hb7 : Below w6b.heap.size w6b w7 := by rw [hq7]; exact below_drewN _ _
  have A7 := A6b.trans (hb7.mono A6b.size)
  have E7 := E6b.trans (hb7.mono E6b.size)
  have O7 := O6b.below hb7
  have ho0 := owns_below ho0 hb7
  have ho1 := owns_below ho1 hb7
  have ov := owns_below ov hb7
  clear hb7 O6b E6b hq7
  obtain ⟨-, c0, c1, c2, c3, c4⟩ := X0.below A7 hX
  obtain ⟨-, b0, b1, b2, b3, b4⟩ := X4.below E7 hX4
  have hz0 : w.heap.size < w7.heap.size := by have := A7.size; omega
  have hz4 : w4.heap.size < w7.heap.size := by have := E7.size; omega
  have Dr := (Below.refl w7.heap.size w7).drew
  have IA := (I0.below A7 (Nat.le_refl _)).below Dr (Nat.le_refl _)
  have IX := O7.is.below Dr (Nat.le_refl _)
  go_wp2
  go_region_held3 (fun W => (W.cell? ⟨w4.heap.size, 0, none⟩ = some (.int .i64 p.indent) ∧ W.cell? ⟨w4.heap.size, 1, none⟩ = some (.slice (some ⟨k1, 0, none⟩) p.rules.length p.rules.length) ∧ W.cell? ⟨w4.heap.size, 2, none⟩ = some (.slice (some ⟨k2, 0, none⟩) p.chunks.length p.chunks.length) ∧ W.cell? ⟨w4.heap.size, 3, none⟩ = some (.slice (some ⟨k3, 0, none⟩) p.spans.length p.spans.length) ∧ W.cell? ⟨w4.heap.size, 4, none⟩ = some (.slice (some ⟨k4, 0, none⟩) p.ties.length p.ties.length)) ∧ W.cell? ⟨w.heap.size, 0, none⟩ = some (.int .i64 p.indent) ∧ W.cell? ⟨w.heap.size, 1, none⟩ = some (.slice l.a1 p.rules.length l.c1) ∧ W.cell? ⟨w.heap.size, 2, none⟩ = some (.slice l.a2 p.chunks.length l.c2) ∧ W.cell? ⟨w.heap.size, 3, none⟩ = some (.slice l.a3 p.spans.length l.c3) ∧ W.cell? ⟨w.heap.size, 4, none⟩ = some (.slice l.a4 p.ties.length l.c4)) (first | trivial | go_keep)
    ((first
    | (go_at_call 46; refine (toPc_any p l _ hF IA).mono ?_; rintro e w8 ⟨m1, m2, m3, m4, rfl, O8, hb8⟩; have hc8 := bcelld hb8; have hz8 : w.heap.size < w8.heap.size := Nat.lt_of_lt_of_le hz0 hb8.size; have hy8 : w4.heap.size < w8.heap.size := Nat.lt_of_lt_of_le hz4 hb8.size)
    | (go_at_call 48; refine (eqPc_same p _ _ _ hF (IX.below hb8 (Nat.le_refl _)) O8.is).mono ?_; rintro e w9 ⟨rfl, hb9⟩; have hc9 := (bcell hb9).1)))
  have A8 := A7.drew.trans (hb8.mono A7.size)
  have A9 := A8.trans (hb9.mono A8.size)
  have E8 := E7.drew.trans (hb8.mono E7.size)
  have E9 := E8.trans (hb9.mono E8.size)
  have O9 := ((O7.below Dr).below hb8).below hb9
  have ho0 := owns_below (owns_below (owns_below ho0 Dr) hb8) hb9
  have ho1 := owns_below (owns_below (owns_below ho1 Dr) hb8) hb9
  have ov := owns_below (owns_below (owns_below ov Dr) hb8) hb9
  clear c0 c1 c2 c3 c4 b0 b1 b2 b3 b4 hc8 hc9 hz0 hz4 hz8 hy8 IA IX hb8 hb9 O8 A8 E8 Dr E7 O7
  go_wp2_with fail
  refine (toInts_any a c vs _ hm0 (V0.below A9 (Nat.le_refl _))).mono ?_
  rintro e w9b ⟨rfl, ov9, hb9⟩
  have A9 := A9.trans (hb9.mono A9.size)
  have E9 := E9.trans (hb9.mono E9.size)
  have O9 := O9.below hb9
  have ho0 := owns_below ho0 hb9
  have ho1 := owns_below ho1 hb9
  have ov := owns_below ov hb9
  clear hb9
  go_wp2_with fail
  refine (eqInts_same _ _ _ _ vs _ (by omega) (.of_own ov) (.of_own ov9)).mono ?_
  rintro e w9c ⟨rfl, hb9⟩
  have A9 := A9.trans (hb9.mono A9.size)
  have E9 := E9.trans (hb9.mono E9.size)
  have O9 := O9.below hb9
  have ho0 := owns_below ho0 hb9
  have ho1 := owns_below ho1 hb9
  have ov := owns_below ov hb9
  clear hb9 ov9
  obtain ⟨-, b0, b1, b2, b3, b4⟩ := X4.below E9 hX4
  have j1 := O9.b1
  have j2 := O9.b2
  have j3 := O9.b3
  have j4 := O9.b4
  have j5 := (O4.ties.lt k4 rfl).2
  have j6 := A3.size
  go_wp2_with fail
  refine (markPc_le _ p k1 k2 k3 k4 _ hF O9).mono ?_
  rintro e w10 ⟨r10, hr10, hr11, rfl, T10⟩
  have A10 := T10.below A9 A9.size (by omega) (by omega) (by omega) (by omega)
  have ho0 := own_turned T10 ho0 (fun e => by have := L0.out _ e; omega) (fun e => by have := L0.out _ e; omega) (fun e => by have := L0.out _ e; omega) (fun e => by have := L0.out _ e; omega)
  have ho1 := own_turned T10 ho1 (fun e => by have := L1.out _ e; omega) (fun e => by have := L1.out _ e; omega) (fun e => by have := L1.out _ e; omega) (fun e => by have := L1.out _ e; omega)
  have ov := own_turned T10 ov (fun e => by have : W4.heap.size = k1 := Option.some.inj e; omega) (fun e => by have : W4.heap.size = k2 := Option.some.inj e; omega) (fun e => by have : W4.heap.size = k3 := Option.some.inj e; omega) (fun e => by have : W4.heap.size = k4 := Option.some.inj e; omega)
  have jA4 := A4.size
  clear b0 b1 b2 b3 b4 T10 O9 O4 X4 E9 A9 A7
  obtain ⟨r, rfl⟩ := Int.eq_ofNat_of_zero_le hr10
  go_wp2_with fail
  refine (markInts_any _ _ vs.length _ r _ _ hm0 (by omega) ov).mono ?_
  rintro e w10b ⟨rfl, -, hgv⟩
  have A10b : Below W0.heap.size W0 w10b := A10.grown hgv A10.size (fun k hk => by cases hk; have := A5.size; omega)
  have ho0 := World.ownsRow.kept ho0 hgv (by
    cases hv : v0.ownBlock with
    | none => exact .inl rfl
    | some q =>
      right
      intro he
      have h1 := L0.out q hv
      have h2 : q = W4.heap.size := Option.some.inj he
      omega)
  have ho1 := World.ownsRow.kept ho1 hgv (by
    cases hv : v1.ownBlock with
    | none => exact .inl rfl
    | some q =>
      right
      intro he
      have h1 := L1.out q hv
      have h2 : q = W4.heap.size := Option.some.inj he
      omega)
  have hrp : ¬ ((r : Int) + (vs.length : Int) < 0) := by omega
  clear hgv ov A10
  go_wp2_with fail
  refine (eqS_same v1 v0 _ _ n ss _ (by omega) ho1 ho0).mono ?_
  rintro e w11 ⟨rfl, q11, hq11⟩
  have hb11 : Below w10b.heap.size w10b w11 := by rw [hq11]; exact below_drewN _ _
  have A11 := A10b.trans (hb11.mono A10b.size)
  have ho0 := owns_below ho0 hb11
  have ho1 := owns_below ho1 hb11
  have n01 : v0.ownBlock = none ∨ v0.ownBlock ≠ v1.ownBlock := by
    cases hv : v0.ownBlock with
    | none => exact .inl rfl
    | some q =>
      right
      intro he
      have h1 := L0.out q hv
      have h2 := L1.out q he.symm
      omega
  clear hb11 A10b hq11
  go_wp2_with fail
  refine (markS_one v1 _ n _ _ (by omega) ho1).mono ?_
  rintro e w12 ⟨rfl, ho1m, hg12⟩
  have A12 : Below W0.heap.size W0 w12 := A11.grown hg12 A11.size (fun k hk => by have := L1.out k hk; have := A5.size; omega)
  have ho0 := World.ownsRow.kept ho0 hg12 n01
  clear hg12 ho1 A11 n01
  go_wp2_with fail
  refine (heldS_one v1 _ n _ (by omega) ho1m).mono ?_
  rintro e w13 ⟨rfl, hb13⟩
  have A13 := A12.trans (hb13.mono A12.size)
  have ho0 := owns_below ho0 hb13
  have ho1 := owns_below ho1m hb13
  have hq : ((1 : Int) + (n : Int) != 1 + (n : Int)) = false := by simp
  clear hb13 ho1m A12
  obtain ⟨-, c0, c1, c2, c3, c4⟩ := X0.below A13 hX
  go_wp2_with fail
  refine (toPc_any p l _ hF (I0.below A13 (Nat.le_refl _))).mono ?_
  rintro e w14 ⟨y1, y2, y3, y4, rfl, O14, hb14⟩
  have A14 := A13.trans (hb14.mono A13.size)
  have ho0 := owns_below ho0 hb14
  have ho1 := owns_below ho1 hb14
  clear hb14 c0 c1 c2 c3 c4
  go_wp2_with fail
  refine (toInts_any a c vs _ hm0 (V0.below A14 (Nat.le_refl _))).mono ?_
  rintro e w14b ⟨rfl, ov, hb14⟩
  have A14 := A14.trans (hb14.mono A14.size)
  have ho0 := owns_below ho0 hb14
  have ho1 := owns_below ho1 hb14
  have O14 := O14.below hb14
  clear hb14
  go_wp2_with fail
  refine (qI _ _ _ _ O14.is (.of_own ov)).mono ?_
  rintro e w15 ⟨hb15, v2, rfl, ho2⟩
  have A15 := A14.trans (hb15.mono A14.size)
  have ho0 := owns_below ho0 hb15
  have ho1 := owns_below ho1 hb15
  clear hb15 O14 ov
  go_wp2_with fail
  refine (eqS_same v2 v0 _ _ n ss _ (by omega) ho2 ho0).mono ?_
  rintro e w16 ⟨rfl, q16, hq16⟩
  have hb16 : Below w15.heap.size w15 w16 := by rw [hq16]; exact below_drewN _ _
  have A16 := A15.trans (hb16.mono A15.size)
  have ho1 := owns_below ho1 hb16
  clear hb16 ho2 ho0 hq16
  go_wp2_with fail
  refine (heldS_one v1 _ n _ (by omega) ho1).mono ?_
  rintro e w17 ⟨rfl, hb17⟩
  go_wp2
  go_ret
  have A17 := A16.trans (hb17.mono A16.size)
  exact ⟨rfl, B0.trans (A17.mono B0.size)⟩
end Go.Proofs.Ytndnngfljoamdaa
