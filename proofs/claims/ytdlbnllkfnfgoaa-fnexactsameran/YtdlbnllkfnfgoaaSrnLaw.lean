/- The law on SameRan: two answers alike, and the arguments as they were. -/
import Derived.Test.YtdlbnllkfnfgoaaSrnI
import Derived.Deep.CutBlock
import Derived.Deep.RegionWith
import Derived.Deep.RegionHeld3
namespace Go.Proofs.Ytdlbnllkfnfgoaa
open Go.RowKit

set_option maxHeartbeats 8000000 in
set_option maxRecDepth 20000 in
theorem lawSameRan (p q : Ra) (w : World) (hp0 : p.xs.length ≤ 9223372036854775807) (hq0 : q.xs.length ≤ 9223372036854775807) (kp : KidsAt w p.a p.xs) (kq : KidsAt w q.a q.xs) :
    Calls Try.prog 5 #[.agg #[.slice p.a p.xs.length p.c, .int .i64 p.ret, .int .i64 p.code, .int .i64 p.st], .agg #[.slice q.a q.xs.length q.c, .int .i64 q.ret, .int .i64 q.code, .int .i64 q.st]] w fun e w' => e = .returned (.bool true) ∧ Below w.heap.size w w' := by
  go_enter Try.func5, Try.ntmps5
  go_wp2_with fail
  obtain ⟨W0, hW0, X0, Y0, B0, S0⟩ := rx_new2 w p q 35
  rw [← hW0]
  have kp := kp.below B0 (Nat.le_refl _)
  have kq := kq.below B0 (Nat.le_refl _)
  clear hW0 S0
  refine (szRan_any p 1048576 _ hp0 (by omega) (by omega)).mono ?_
  rintro e w1 ⟨r, rfl, hr, A1⟩
  rcases hr with rfl | ⟨hr0, hr1⟩
  · go_wp2
    go_ret
    exact ⟨rfl, B0.trans (A1.mono B0.size)⟩
  have hp : p.xs.length ≤ 1048576 := by omega
  have hrl : r ≤ 1048576 := by omega
  have hrn : ¬ r < 0 := by omega
  clear hr1 hp0
  obtain ⟨-, c0, c1, c2, c3⟩ := Y0.kept A1
  go_wp2_with fail
  refine (szRan_any q r _ hq0 hr0 hrl).mono ?_
  rintro e w2 ⟨r2, rfl, hr2, hb2⟩
  have A2 := A1.trans (hb2.mono A1.size)
  clear hb2 A1 c0 c1 c2 c3
  rcases hr2 with rfl | ⟨hr3, hr4⟩
  · go_wp2
    go_ret
    exact ⟨rfl, B0.trans (A2.mono B0.size)⟩
  have hq : q.xs.length ≤ 1048576 := by omega
  have hrn2 : ¬ r2 < 0 := by omega
  clear hr4 hq0
  obtain ⟨b, hb⟩ : ∃ b, b = sameRan p.xs q.xs p.ret p.code p.st q.ret q.code q.st := ⟨_, rfl⟩
  have hne : (b != b) = false := by cases b <;> rfl
  obtain ⟨hx, c0, c1, c2, c3⟩ := X0.kept A2
  obtain ⟨hy, d0, d1, d2, d3⟩ := Y0.kept A2
  have K2 := kp.below A2 (Nat.le_refl _)
  have L2 := kq.below A2 (Nat.le_refl _)
  have HB := hidOf hb
  clear hb
  go_wp2
  go_region_held3 (fun W => (W.cell? ⟨w.heap.size, 0, none⟩ = some (.slice p.a p.xs.length p.c) ∧ W.cell? ⟨w.heap.size, 1, none⟩ = some (.int .i64 p.ret) ∧ W.cell? ⟨w.heap.size, 2, none⟩ = some (.int .i64 p.code) ∧ W.cell? ⟨w.heap.size, 3, none⟩ = some (.int .i64 p.st)) ∧ W.cell? ⟨w.heap.size + 1, 0, none⟩ = some (.slice q.a q.xs.length q.c) ∧ W.cell? ⟨w.heap.size + 1, 1, none⟩ = some (.int .i64 q.ret) ∧ W.cell? ⟨w.heap.size + 1, 2, none⟩ = some (.int .i64 q.code) ∧ W.cell? ⟨w.heap.size + 1, 3, none⟩ = some (.int .i64 q.st)) (first | trivial | go_keep)
    ((first
    | (go_at_call 16; refine (sSameRan p.xs q.xs xa ya xc yc _ _ _ _ _ _ _ (by omega) (.of_own xo) (.of_own yo)).mono ?_; rw [← HB.out]; rintro e w5 ⟨rfl, hb5⟩; have E5 := E4.trans (hb5.mono E4.size); have hc5 := (bcell E5).1)
    | (go_at_call 17; refine (toRan_any q _ hq (L2.below E3 (Nat.le_refl _))).mono ?_; rintro e w4 ⟨ya, yc, rfl, yo, hb4⟩; have xo := owns_below xo hb4; have E4 := E3.trans (hb4.mono E3.size); have hc4 := (bcell E4).1)
    | (go_at_call 17; refine (toRan_any p _ hp (K2.below (Below.refl w2.heap.size w2).drew (Nat.le_refl _))).mono ?_; rintro e w3 ⟨xa, xc, rfl, xo, hb3⟩; have E3 := (Below.refl w2.heap.size w2).drew.trans hb3; have hc3 := (bcell E3).1)))
  have A5 := A2.trans (E5.mono A2.size)
  clear hb3 hb4 hb5 hc3 hc4 hc5 E3 E4 E5 xo yo K2 L2 c0 c1 c2 c3 d0 d1 d2 d3 hx hy A2
  obtain ⟨-, c0, c1, c2, c3⟩ := X0.kept A5
  go_wp2_with fail
  refine (toRan_any p _ hp (kp.below A5 (Nat.le_refl _))).mono ?_
  rintro e w6a ⟨ua, uc, rfl, uo, hb6⟩
  have A6a := A5.trans (hb6.mono A5.size)
  clear hb6 c0 c1 c2 c3
  go_upto_region 10 with fail
  obtain ⟨w6, hw6, U, hb6, S6⟩ := rx_new w6a ⟨p.xs, p.ret, p.code, p.st, ua, uc⟩ 38
  obtain ⟨b1, hb1⟩ : ∃ b1, b1 = w6a.heap.size := ⟨_, rfl⟩
  dsimp only at hw6
  rw [← hb1] at U
  rw [← hw6, ← hb1]
  have A6 := A6a.trans (hb6.mono A6a.size)
  have uo := owns_below uo hb6
  clear hw6 hb1 S6 hb6 A6a
  obtain ⟨-, c0, c1, c2, c3⟩ := Y0.kept A6
  go_wp2_with fail
  refine (toRan_any q _ hq (kq.below A6 (Nat.le_refl _))).mono ?_
  rintro e w7a ⟨va, vc, rfl, vo, hb7⟩
  have A7a := A6.trans (hb7.mono A6.size)
  have uo := owns_below uo hb7
  have U := U.kept hb7
  clear hb7 c0 c1 c2 c3 A6
  go_upto_region 11 with fail
  obtain ⟨w7, hw7, V, hb7, S7⟩ := rx_new w7a ⟨q.xs, q.ret, q.code, q.st, va, vc⟩ 38
  obtain ⟨b2, hb2⟩ : ∃ b2, b2 = w7a.heap.size := ⟨_, rfl⟩
  dsimp only at hw7
  rw [← hb2] at V
  rw [← hw7, ← hb2]
  have A7 := A7a.trans (hb7.mono A7a.size)
  have uo := owns_below uo hb7
  have vo := owns_below vo hb7
  have U := U.kept hb7
  clear hw7 hb2 S7 hb7 A7a
  have U8 := U
  obtain ⟨-, c0, c1, c2, c3⟩ := U8
  have V8 := V
  obtain ⟨-, d0, d1, d2, d3⟩ := V8
  dsimp only at c0 c1 c2 c3 d0 d1 d2 d3
  have hqI := iSameRan p.xs q.xs ua va uc vc p.ret p.code p.st q.ret q.code q.st w7 (by omega) (by omega) (.of_own uo) (.of_own vo)
  rw [← HB.out] at hqI
  go_wp2_with fail
  refine hqI.mono ?_
  rintro e w8 ⟨rfl, hb8⟩
  have A8 := A7.trans (hb8.mono A7.size)
  have uo := owns_below uo hb8
  have vo := owns_below vo hb8
  have U := U.kept hb8
  have V := V.kept hb8
  clear hb8 hqI c0 c1 c2 c3 d0 d1 d2 d3 A7
  have U8 := U
  obtain ⟨hu, c0, c1, c2, c3⟩ := U8
  obtain ⟨hx, e0, e1, e2, e3⟩ := X0.kept A8
  dsimp only at c0 c1 c2 c3
  go_wp2
  go_region_held3 (fun W => (W.cell? ⟨w.heap.size, 0, none⟩ = some (.slice p.a p.xs.length p.c) ∧ W.cell? ⟨w.heap.size, 1, none⟩ = some (.int .i64 p.ret) ∧ W.cell? ⟨w.heap.size, 2, none⟩ = some (.int .i64 p.code) ∧ W.cell? ⟨w.heap.size, 3, none⟩ = some (.int .i64 p.st)) ∧ W.cell? ⟨b1, 0, none⟩ = some (.slice ua p.xs.length uc) ∧ W.cell? ⟨b1, 1, none⟩ = some (.int .i64 p.ret) ∧ W.cell? ⟨b1, 2, none⟩ = some (.int .i64 p.code) ∧ W.cell? ⟨b1, 3, none⟩ = some (.int .i64 p.st)) (first | trivial | go_keep)
    ((first
    | (go_at_call 19; refine (eqRan_same p.xs p.ret p.code p.st ua xa uc xc _ hp (KidsAt.of_own (owns_below uo E9)) (.of_own xo)).mono ?_; rintro e w10 ⟨rfl, hb10⟩; have E10 := E9.trans (hb10.mono E9.size); have hc10 := (bcell E10).1)
    | (go_at_call 17; refine (toRan_any p _ hp (kp.below A8.drew (Nat.le_refl _))).mono ?_; rintro e w9 ⟨xa, xc, rfl, xo, hb9⟩; have E9 := (Below.refl w8.heap.size w8).drew.trans hb9; have hc9 := (bcell E9).1)))
  have A10 := A8.trans (E10.mono A8.size)
  have vo := owns_below vo E10
  have V := V.kept E10
  clear hb9 hb10 hc9 hc10 E9 E10 xo uo c0 c1 c2 c3 e0 e1 e2 e3 hu hx A8
  have V8 := V
  obtain ⟨hv, d0, d1, d2, d3⟩ := V8
  obtain ⟨hy, f0, f1, f2, f3⟩ := Y0.kept A10
  dsimp only at d0 d1 d2 d3
  go_wp2
  go_region_held3 (fun W => (W.cell? ⟨w.heap.size + 1, 0, none⟩ = some (.slice q.a q.xs.length q.c) ∧ W.cell? ⟨w.heap.size + 1, 1, none⟩ = some (.int .i64 q.ret) ∧ W.cell? ⟨w.heap.size + 1, 2, none⟩ = some (.int .i64 q.code) ∧ W.cell? ⟨w.heap.size + 1, 3, none⟩ = some (.int .i64 q.st)) ∧ W.cell? ⟨b2, 0, none⟩ = some (.slice va q.xs.length vc) ∧ W.cell? ⟨b2, 1, none⟩ = some (.int .i64 q.ret) ∧ W.cell? ⟨b2, 2, none⟩ = some (.int .i64 q.code) ∧ W.cell? ⟨b2, 3, none⟩ = some (.int .i64 q.st)) (first | trivial | go_keep)
    ((first
    | (go_at_call 19; refine (eqRan_same q.xs q.ret q.code q.st va xa vc xc _ hq (KidsAt.of_own (owns_below vo E11)) (.of_own xo)).mono ?_; rintro e w12 ⟨rfl, hb12⟩; have E12 := E11.trans (hb12.mono E11.size); have hc12 := (bcell E12).1)
    | (go_at_call 17; refine (toRan_any q _ hq (kq.below A10.drew (Nat.le_refl _))).mono ?_; rintro e w11 ⟨xa, xc, rfl, xo, hb11⟩; have E11 := (Below.refl w10.heap.size w10).drew.trans hb11; have hc11 := (bcell E11).1)))
  have A12 := A10.trans (E12.mono A10.size)
  go_wp2
  go_ret
  exact ⟨rfl, B0.trans (A12.mono B0.size)⟩
end Go.Proofs.Ytdlbnllkfnfgoaa
