/- What spec.TrueSearch answers: true, whatever comes. -/
import Derived.Test.YtghfpcjgionbaaaGreatKba
import Derived.Test.YtghfpcjgionbaaaGreatKao
import Derived.Test.YtghfpcjgionbaaaGreatKaa
import Derived.Test.YtghfpcjgionbaaaGreatTopPc
import Derived.Deep.RegionHeld3
namespace Go.Proofs.YtghfpcjgionbaaaGreat
open Go.RowKit

set_option maxHeartbeats 8000000 in
set_option maxRecDepth 20000 in
theorem sTrue_any (p : Pc) (l : Pl) (wd bud : Int) (w : World) (hbd : -9223372036854775808 ≤ bud ∧ bud ≤ 9223372036854775807) (hF : PcFew p) (hp : PcIn w p l) :
    Calls Tryz.prog 20 #[pcV p l, .int .i64 wd, .int .i64 bud] w fun e w' => e = .returned (.bool true) ∧ Below w.heap.size w w' := by
  show Calls _ _ #[.agg #[.int .i64 p.indent, .slice l.a1 p.rules.length l.c1, .slice l.a2 p.chunks.length l.c2, .slice l.a3 p.spans.length l.c3, .slice l.a4 p.ties.length l.c4], _, _] _ _
  obtain ⟨ks, us, o, sm, s, b, hT, qI, -, qB, -⟩ := ts_key p wd bud hbd hF
  have hbd1 := hbd.1
  have hbd2 := hbd.2
  have hk8 := hT.few
  have hu8 := hT.fewU
  unfold pcV at qI qB
  go_enter Tryz.func20, Tryz.ntmps20
  go_wp2_with fail
  obtain ⟨W0, hW0, X0, B0, S0⟩ := boxed w p l 37
  rw [← hW0]
  have I0 := hp.below B0 (Nat.le_refl _)
  have hX : w.heap.size < W0.heap.size := by omega
  clear hW0 S0 hp
  refine (qI _ _ I0).mono ?_
  rintro e w1 ⟨hb1, af, cf, rfl, hoF⟩
  dsimp only at hoF
  dsimp only
  have I1 := I0.below hb1 (Nat.le_refl _)
  obtain ⟨-, c0, c1, c2, c3, c4⟩ := X0.below hb1 hX
  have hX1 : w.heap.size < w1.heap.size := Nat.lt_of_lt_of_le hX hb1.size
  go_wp2_with fail
  refine (qB _ _ I1).mono ?_
  rintro e w2 ⟨hb2, ab, cb, rfl, hoB⟩
  have A2 := hb1.trans (hb2.mono hb1.size)
  have I2 := I0.below A2 (Nat.le_refl _)
  have hoF := owns_below hoF hb2
  have hkF := KidsAt.of_own hoF
  have hkB := KidsAt.of_own hoB
  clear hoF hoB c0 c1 c2 c3 c4 hX1 I1
  by_cases hR : Right p
  · obtain ⟨rfl, hTies, hless, hsame, ho, hsm⟩ := hT.yes hR
    have HO := hidOf ho
    have HSM := hidOf hsm
    have HSa := hidOf hsame
    clear ho hsm hsame hT
    go_upto_region 5 with fail
    obtain ⟨W2, hW2, C2, hb3, S3⟩ := cb_new w2 o sm coT
    have A3 := A2.trans (hb3.mono A2.size)
    have IS : PcIn W2 p l := I0.below A3 (Nat.le_refl _)
    have KF := hkF.below hb3 (Nat.le_refl _)
    have KB := hkB.below hb3 (Nat.le_refl _)
    rw [← hW2]
    have hS3 : w2.heap.size < W2.heap.size := by omega
    clear hW2 hkF hkB I2 qI qB S3
    obtain ⟨-, c0, c1, c2, c3, c4⟩ := X0.below A3 hX
    have hX3 : w.heap.size < W2.heap.size := Nat.lt_of_lt_of_le hX A3.size
    have q1 := sCost_yes p l af cf ks wd W2 hF (by omega) IS KF hR hTies.vals
    unfold pcV CoAns coV at q1
    obtain ⟨o4, ho4⟩ : ∃ o4, o4 = costOver p ks wd := ⟨_, rfl⟩
    obtain ⟨s4, hs4⟩ : ∃ s4, s4 = costSum p ks := ⟨_, rfl⟩
    rw [← ho4, ← hs4] at q1
    have H4 := hidOf (And.intro ho4 hs4)
    clear ho4 hs4
    go_wp2_with fail
    refine q1.mono ?_
    rintro e w3 ⟨rfl, hb4⟩
    have KF3 := KF.below hb4 (Nat.le_refl _)
    have KB3 := KB.below hb4 (Nat.le_refl _)
    have C3 := C2.below hb4
    have A4 := A3.trans (hb4.mono A3.size)
    clear c0 c1 c2 c3 c4 q1 KF KB C2
    go_upto_region 6 with fail
    obtain ⟨W4, hW4, C4, hb5, S5⟩ := cb_new w3 o4 s4 coT
    have A5 := A4.trans (hb5.mono A4.size)
    have KF4 := KF3.below hb5 (Nat.le_refl _)
    have KB4 := KB3.below hb5 (Nat.le_refl _)
    have C34 := C3.below hb5
    rw [← hW4]
    have hS5 : w3.heap.size < W4.heap.size := by omega
    clear hW4 S5 KF3 KB3 C3
    have HTi := hidOf hTies
    unfold lessV at hless
    obtain ⟨o3, ho3⟩ : ∃ o3, o3 = costOver p (allV p) wd := ⟨_, rfl⟩
    obtain ⟨s3, hs3⟩ : ∃ s3, s3 = costSum p (allV p) := ⟨_, rfl⟩
    rw [← ho3, ← hs3, ← H4.out.1, ← H4.out.2] at hless
    have HLs := hidOf hless
    have hrl := hF.rules
    have hal' : (allV p).length ≤ 1048576 := by rw [allV_len]; omega
    have qT := fun W (hb : Below W4.heap.size W4 W) => sTie_any p l af cf ks W hF (by omega) (noLeast_right hR.rules) (I0.below (A5.trans (hb.mono A5.size)) (Nat.le_refl _)) (KF4.below hb (Nat.le_refl _))
    have qA := fun W (hb : Below W4.heap.size W4 W) => sSpl_any p l W (by omega) (I0.below (A5.trans (hb.mono A5.size)) (Nat.le_refl _)).rules
    have qC := fun W a c (hb : Below W4.heap.size W4 W) (hk : KidsAt W a (allV p)) => sCost_yes p l a c (allV p) wd W hF hal' (I0.below (A5.trans (hb.mono A5.size)) (Nat.le_refl _)) hk hR (allR_ties hR).vals
    unfold pcV at qT qA qC
    unfold CoAns coV at qC
    rw [← ho3, ← hs3] at qC
    clear ho3 hs3 hless hTies
    obtain ⟨-, c0, c1, c2, c3, c4⟩ := X0.below A5 hX
    have hX5 : w.heap.size < W4.heap.size := Nat.lt_of_lt_of_le hX A5.size
    have e0 := C4.c0
    have e1 := C4.c1
    by_cases h1 : s = 1
    · obtain rfl : ks = us := HSa.out h1
      obtain rfl : o = o4 := HO.out.trans H4.out.1.symm
      obtain rfl : sm = s4 := HSM.out.trans H4.out.2.symm
      have f0 := C34.c0
      have f1 := C34.c1
      have f2 := C34.lt
      have hs1 : (s == 1) = true := by simp [h1]
      have hneq : ∀ w, (binOp .neq coT (.agg #[.int .i64 o, .int .i64 sm]) (.agg #[.int .i64 o, .int .i64 sm])).run Tryz.prog w = .ok (.bool false) w := fun w => (coNeq o sm o sm w).trans (by simp)
      have hgd := fun op a b w => coGuard o sm o sm op a b w
      have qM := sCmp_any af ab cf cb ks ks W4 (by omega) (by omega) KF4 KB4
      rw [cmp_self] at qM
      clear h1 HSa
      go_wp2_with (go_at_call 31; refine qM.mono ?_; rintro e wz ⟨rfl, hbz⟩; have e0z := (hbz.cell (p := ⟨w3.heap.size, 0, none⟩) hS5).trans e0; have e1z := (hbz.cell (p := ⟨w3.heap.size, 1, none⟩) hS5).trans e1; have f0z := (hbz.cell (p := ⟨w2.heap.size, 0, none⟩) f2).trans f0; have f1z := (hbz.cell (p := ⟨w2.heap.size, 1, none⟩) f2).trans f1; have c0z := (hbz.cell (p := ⟨w.heap.size, 0, none⟩) hX5).trans c0; have c1z := (hbz.cell (p := ⟨w.heap.size, 1, none⟩) hX5).trans c1; have c2z := (hbz.cell (p := ⟨w.heap.size, 2, none⟩) hX5).trans c2; have c3z := (hbz.cell (p := ⟨w.heap.size, 3, none⟩) hX5).trans c3; have c4z := (hbz.cell (p := ⟨w.heap.size, 4, none⟩) hX5).trans c4; have hXz := Nat.lt_of_lt_of_le hX5 hbz.size; have hSz := Nat.lt_of_lt_of_le hS5 hbz.size)
      have Dr : Below W4.heap.size W4 wz.drew := hbz.drew
      clear c0 c1 c2 c3 c4 e0 e1 f0 f1 f0z f1z
      go_region_held3 (fun W => (W.cell? ⟨w.heap.size, 0, none⟩ = some (.int .i64 p.indent) ∧ W.cell? ⟨w.heap.size, 1, none⟩ = some (.slice l.a1 p.rules.length l.c1) ∧ W.cell? ⟨w.heap.size, 2, none⟩ = some (.slice l.a2 p.chunks.length l.c2) ∧ W.cell? ⟨w.heap.size, 3, none⟩ = some (.slice l.a3 p.spans.length l.c3) ∧ W.cell? ⟨w.heap.size, 4, none⟩ = some (.slice l.a4 p.ties.length l.c4)) ∧ W.cell? ⟨w3.heap.size, 0, none⟩ = some (.int .i64 o) ∧ W.cell? ⟨w3.heap.size, 1, none⟩ = some (.int .i64 sm)) (first | trivial | go_keep)
      ((first
      | (go_at_call 56; refine (qT _ Dr).mono ?_; rintro e w5 hq5; obtain ⟨rfl, hb5⟩ := hq5.yes HTi.out; have Z5 : Below wz.drew.heap.size wz.drew w5 := hb5; have hc5 := bcelld Z5)
      | (go_at_call 27; refine (qA _ (Dr.trans (Z5.mono Dr.size))).mono ?_; rintro e w6 ⟨hb6, a6, c6, rfl, o6⟩; have Z6 := Z5.trans (hb6.mono Z5.size); have hc6 := bcelld Z6)
      | (go_at_call 55; refine (qC _ _ _ (Dr.trans (Z6.mono Dr.size)) (.of_own o6)).mono ?_; rintro e w7 ⟨rfl, hb7⟩; have Z7 := Z6.trans (hb7.mono Z6.size); have hc7 := bcelld Z7)
      | (go_at_call 30; refine (sLess_any o3 s3 o sm _).mono ?_; rw [HLs.out]; rintro e w8 ⟨rfl, hb8⟩; have Z8 := Z7.trans (hb8.mono Z7.size); have hc8 := bcelld Z8)))

      go_wp2
      go_ret
      have A8 := A5.trans ((Dr.trans (Z8.mono Dr.size)).mono A5.size)
      exact ⟨rfl, B0.trans (A8.mono B0.size)⟩
    · have hs1 : (s == 1) = false := by rw [beq_eq_false_iff_ne]; exact h1
      have Dr : Below W4.heap.size W4 W4.drew := (Below.refl W4.heap.size W4).drew
      go_wp2_with fail
      go_region_held3 (fun W => (W.cell? ⟨w.heap.size, 0, none⟩ = some (.int .i64 p.indent) ∧ W.cell? ⟨w.heap.size, 1, none⟩ = some (.slice l.a1 p.rules.length l.c1) ∧ W.cell? ⟨w.heap.size, 2, none⟩ = some (.slice l.a2 p.chunks.length l.c2) ∧ W.cell? ⟨w.heap.size, 3, none⟩ = some (.slice l.a3 p.spans.length l.c3) ∧ W.cell? ⟨w.heap.size, 4, none⟩ = some (.slice l.a4 p.ties.length l.c4)) ∧ W.cell? ⟨w3.heap.size, 0, none⟩ = some (.int .i64 o4) ∧ W.cell? ⟨w3.heap.size, 1, none⟩ = some (.int .i64 s4)) (first | trivial | go_keep)
      ((first
      | (go_at_call 56; refine (qT _ Dr).mono ?_; rintro e w5 hq5; obtain ⟨rfl, hb5⟩ := hq5.yes HTi.out; have Z5 : Below W4.drew.heap.size W4.drew w5 := hb5; have hc5 := bcelld Z5)
      | (go_at_call 27; refine (qA _ (Dr.trans (Z5.mono Dr.size))).mono ?_; rintro e w6 ⟨hb6, a6, c6, rfl, o6⟩; have Z6 := Z5.trans (hb6.mono Z5.size); have hc6 := bcelld Z6)
      | (go_at_call 55; refine (qC _ _ _ (Dr.trans (Z6.mono Dr.size)) (.of_own o6)).mono ?_; rintro e w7 ⟨rfl, hb7⟩; have Z7 := Z6.trans (hb7.mono Z6.size); have hc7 := bcelld Z7)
      | (go_at_call 30; refine (sLess_any o3 s3 o4 s4 _).mono ?_; rw [HLs.out]; rintro e w8 ⟨rfl, hb8⟩; have Z8 := Z7.trans (hb8.mono Z7.size); have hc8 := bcelld Z8)))

      go_wp2
      go_ret
      have A8 := A5.trans ((Dr.trans (Z8.mono Dr.size)).mono A5.size)
      exact ⟨rfl, B0.trans (A8.mono B0.size)⟩
  · obtain ⟨rfl, rfl, rfl⟩ := hT.no hR
    have hz : (([] : List Int).length : Int) = 0 := rfl
    go_wp2_with fail
    go_ret
    have A3 := B0.trans (A2.mono B0.size)
    exact ⟨rfl, A3.alloc A3.size _⟩
end Go.Proofs.YtghfpcjgionbaaaGreat
/- The law on TrueSearch: both answers alike, the arguments as they were. -/
namespace Go.Proofs.YtghfpcjgionbaaaGreat
open Go.RowKit


set_option maxHeartbeats 8000000 in
theorem lawTrueSearch (p : Pc) (l : Pl) (wd bud : Int) (w : World) (hbd : -9223372036854775808 ≤ bud ∧ bud ≤ 9223372036854775807) (hok : PcOk p) (hp : PcIn w p l) :
    Calls Tryz.prog 5 #[pcV p l, .int .i64 wd, .int .i64 bud] w fun e w' => e = .returned (.bool true) ∧ Below w.heap.size w w' := by
  show Calls _ _ #[.agg #[.int .i64 p.indent, .slice l.a1 p.rules.length l.c1, .slice l.a2 p.chunks.length l.c2, .slice l.a3 p.spans.length l.c3, .slice l.a4 p.ties.length l.c4], _, _] _ _
  have hbd1 := hbd.1
  have hbd2 := hbd.2
  go_enter Tryz.func5, Tryz.ntmps5
  go_wp2_with fail
  obtain ⟨W0, hW0, X0, B0, S0⟩ := boxed w p l 27
  rw [← hW0]
  have I0 := hp.below B0 (Nat.le_refl _)
  have hX : w.heap.size < W0.heap.size := by omega
  clear hW0 S0 hp
  refine (szPc_any p l _ hok I0).mono ?_
  rintro e w1 ⟨r, rfl, hr, A1⟩
  rcases hr with rfl | ⟨hr0, hF⟩
  · go_wp2
    go_ret
    exact ⟨rfl, B0.trans (A1.mono B0.size)⟩
  obtain ⟨-, c0, c1, c2, c3, c4⟩ := X0.below A1 hX
  go_wp2_with fail
  refine (toPc_any p l _ hF (I0.below A1 (Nat.le_refl _))).mono ?_
  rintro e w2 ⟨g1, g2, g3, g4, rfl, O2, hb2⟩
  have A2 := A1.trans (hb2.mono A1.size)
  clear c0 c1 c2 c3 c4
  clear hb2
  go_wp2_with fail
  refine (sTrue_any p _ wd bud _ hbd hF O2.is).mono ?_
  rintro e w3 ⟨rfl, hb3⟩
  have A3 := A2.trans (hb3.mono A2.size)
  clear O2 hb3
  obtain ⟨-, c0, c1, c2, c3, c4⟩ := X0.below A3 hX
  go_wp2_with fail
  refine (toPc_any p l _ hF (I0.below A3 (Nat.le_refl _))).mono ?_
  rintro e w4 ⟨k1, k2, k3, k4, rfl, O4, hb4⟩
  have A4 := A3.trans (hb4.mono A3.size)
  clear hb4 c0 c1 c2 c3 c4
  go_wp2_with fail
  obtain ⟨W4, hW4, X4, hb5, S4⟩ := boxed w4 p (plOf p k1 k2 k3 k4) 37
  rw [← hW4]
  have A5 := A4.trans (hb5.mono A4.size)
  have O5 := O4.below hb5
  have hX4 : w4.heap.size < W4.heap.size := by omega
  clear hW4
  refine (iTrue_any p _ wd bud _ hbd hF (Nat.le_refl _) O5.is).mono ?_
  rintro e w7 ⟨rfl, hb6⟩
  have A7 := A5.trans (hb6.mono A5.size)
  have O7 := O5.below hb6
  have E7 := hb6
  clear hb6 O5 hb5
  obtain ⟨-, c0, c1, c2, c3, c4⟩ := X0.below A7 hX
  obtain ⟨-, b0, b1', b2', b3, b4⟩ := X4.below E7 hX4
  have hz0 : w.heap.size < w7.heap.size := by have := A7.size; omega
  have hz4 : w4.heap.size < w7.heap.size := by have := E7.size; omega
  have Dr := (Below.refl w7.heap.size w7).drew
  have IA := (I0.below A7 (Nat.le_refl _)).below Dr (Nat.le_refl _)
  have IX := O7.is.below Dr (Nat.le_refl _)
  go_wp2
  go_region_held3 (fun W => (W.cell? ⟨w4.heap.size, 0, none⟩ = some (.int .i64 p.indent) ∧ W.cell? ⟨w4.heap.size, 1, none⟩ = some (.slice (some ⟨k1, 0, none⟩) p.rules.length p.rules.length) ∧ W.cell? ⟨w4.heap.size, 2, none⟩ = some (.slice (some ⟨k2, 0, none⟩) p.chunks.length p.chunks.length) ∧ W.cell? ⟨w4.heap.size, 3, none⟩ = some (.slice (some ⟨k3, 0, none⟩) p.spans.length p.spans.length) ∧ W.cell? ⟨w4.heap.size, 4, none⟩ = some (.slice (some ⟨k4, 0, none⟩) p.ties.length p.ties.length)) ∧ W.cell? ⟨w.heap.size, 0, none⟩ = some (.int .i64 p.indent) ∧ W.cell? ⟨w.heap.size, 1, none⟩ = some (.slice l.a1 p.rules.length l.c1) ∧ W.cell? ⟨w.heap.size, 2, none⟩ = some (.slice l.a2 p.chunks.length l.c2) ∧ W.cell? ⟨w.heap.size, 3, none⟩ = some (.slice l.a3 p.spans.length l.c3) ∧ W.cell? ⟨w.heap.size, 4, none⟩ = some (.slice l.a4 p.ties.length l.c4)) (first | trivial | go_keep)
    ((first
    | (go_at_call 8; refine (toPc_any p l _ hF IA).mono ?_; rintro e w8 ⟨m1, m2, m3, m4, rfl, O8, hb8⟩; have hc8 := bcelld hb8; have hz8 : w.heap.size < w8.heap.size := Nat.lt_of_lt_of_le hz0 hb8.size; have hy8 : w4.heap.size < w8.heap.size := Nat.lt_of_lt_of_le hz4 hb8.size)
    | (go_at_call 11; refine (eqPc_same p _ _ _ hF (IX.below hb8 (Nat.le_refl _)) O8.is).mono ?_; rintro e w9 ⟨rfl, hb9⟩; have hc9 := (bcell hb9).1)))
  have A8 := A7.drew.trans (hb8.mono A7.size)
  have A9 := A8.trans (hb9.mono A8.size)
  go_wp2
  go_ret
  exact ⟨rfl, B0.trans (A9.mono B0.size)⟩
end Go.Proofs.YtghfpcjgionbaaaGreat
