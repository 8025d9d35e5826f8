/- The law on Pushed: two answers alike, the arguments as they were, and what is answered owns its memory. -/
import Derived.Test.YtfolbljffpekiaaPuI
import Derived.Test.YtfolbljffpekiaaPuSp
import Derived.Test.YtfolbljffpekiaaEqSt
import Derived.Test.YtfolbljffpekiaaMkSt
import Derived.Test.YtfolbljffpekiaaWtLib
import Derived.Deep.RegionHeld3
namespace Go.Proofs.Ytfolbljffpekiaa
open Go.RowKit

theorem Bx.mid {b e : Nat} {w w' : World} {k : Nat} {p : Sp} (h : Bx w k p) (hm : Mid b e w w') (hk : k < b ∨ e ≤ k) : Bx w' k p :=
  ⟨Nat.lt_of_lt_of_le h.lt hm.size, by rw [World.cell?_of_block (hm.block k h.lt hk)]; exact h.c0, by rw [World.cell?_of_block (hm.block k h.lt hk)]; exact h.c1⟩

set_option maxHeartbeats 16000000 in
theorem lawPushed (a : Option Addr) (c : Nat) (ps : List Sp) (x : Sp) (w : World) (hn0 : ps.length ≤ 9223372036854775807) (hok : StsOk ps) (hT : StsAt w a ps) (hx0 : x.st.vals.length ≤ 9223372036854775807) (kx : KidsAt w x.a x.st.vals) :
    Calls Try.prog 6 #[.slice a ps.length c, .agg #[.slice x.a x.st.vals.length x.c, .int .i64 x.st.sum]] w fun e w' => e = .returned (.bool true) ∧ Below w.heap.size w w' := by
  go_enter Try.func6, Try.ntmps6
  go_wp2_with fail
  obtain ⟨W0, hW0, X0, B0, S0⟩ := bx_new w x 41
  rw [← hW0]
  have T0 := hT.below B0 (Nat.le_refl _)
  have K0 := kx.below B0 (Nat.le_refl _)
  clear hW0 S0 hT kx
  have hz := szStates_any a c ps 1048576 W0 hn0 hok (by omega) (by omega) T0
  have hto := fun (h1 : ps.length ≤ 1048576) (h2 : Few ps) W hW => toStates_any a c ps W h1 h2 hW
  obtain ⟨n, hn⟩ : ∃ n, n = ps.length := ⟨_, rfl⟩
  rw [← hn] at hz hto ⊢
  have HN := hidOf hn
  clear hn
  refine hz.mono ?_
  rintro e w1 ⟨r, rfl, hr, A1⟩
  rcases hr with rfl | ⟨hr0, hr1⟩
  · go_wp2
    go_ret
    exact ⟨rfl, B0.trans (A1.mono B0.size)⟩
  have HR := hidOf hr1
  have hrn : ¬ r < 0 := by omega
  have hrl : r ≤ 1048576 := by omega
  clear hr1 hz hn0
  obtain ⟨-, c0, c1⟩ := X0.kept A1
  go_wp2_with fail
  refine (szState_any x r _ hx0 hr0 hrl).mono ?_
  rintro e w2 ⟨r2, rfl, hr2, hb2⟩
  have A2 := A1.trans (hb2.mono A1.size)
  clear hb2 A1 c0 c1
  rcases hr2 with rfl | ⟨hr3, hr4⟩
  · go_wp2
    go_ret
    exact ⟨rfl, B0.trans (A2.mono B0.size)⟩
  have hr2n : ¬ r2 < 0 := by omega
  have HW : Hid (wt (ps.map Sp.st) + n + x.st.vals.length ≤ 1048576) := hidOf (by have := HR.out; omega)
  have hx : x.st.vals.length ≤ 1048576 := by have := HW.out; omega
  have hF : Few ps := few_wt (by have := HW.out; omega)
  have hn1 : n ≤ 1048576 := by have := HW.out; omega
  have hto := hto hn1 hF
  have hn2 := hidOf (show ps.length ≤ 1048576 by have := HN.out; omega)
  clear hr4 hx0 HR
  obtain ⟨R, hR⟩ : ∃ R, R = pushL stLess (ps.map Sp.st) x.st := ⟨_, rfl⟩
  have HRR := hidOf hR
  clear hR
  obtain ⟨hxb, c0, c1⟩ := X0.kept A2
  have T2 := T0.below A2 (Nat.le_refl _)
  have K2 := K0.below A2 (Nat.le_refl _)
  go_wp2
  go_region_held3 (fun W => W.cell? ⟨w.heap.size, 0, none⟩ = some (.slice x.a x.st.vals.length x.c) ∧ W.cell? ⟨w.heap.size, 1, none⟩ = some (.int .i64 x.st.sum)) (first | trivial | go_keep)
    ((first
    | (go_at_call 20; refine (sPushed_any a3 d3 p3 ⟨x.st, ya, yc⟩ _ N3 F3 hx O4.sts (.of_own yo)).mono ?_; rintro e w5 ⟨a5, d5, p5, rfl, s5, O5, hb5⟩; have E5 := E4.trans (hb5.mono E4.size); have hc5 := (bcell E5).1)
    | (go_at_call 25; refine (toState_any x _ hx (K2.below E3 (Nat.le_refl _))).mono ?_; rintro e w4 ⟨ya, yc, rfl, yo, hb4⟩; have O4 := O3.below hb4; have E4 := E3.trans (hb4.mono E3.size); have hc4 := (bcell E4).1)
    | (go_at_call 28; refine (hto _ (T2.below (Below.refl w2.heap.size w2).drew (Nat.le_refl _))).mono ?_; rintro e w3 ⟨a3, d3, p3, rfl, s3, O3, hb3⟩; have N3 := len_st s3 hn2.out; have F3 := few_st s3 hF; have E3 := (Below.refl w2.heap.size w2).drew.trans hb3; have hc3 := (bcell E3).1)))
  have s5 : p5.map Sp.st = R := by rw [s5, HRR.out, s3]
  have A5 := A2.trans (E5.mono A2.size)
  have O5s := hidOf O5
  clear hb3 hb4 hb5 hc3 hc4 hc5 E3 E4 E5 yo O3 O4 K2 T2 c0 c1 A2 N3 F3 s3 hxb
  go_wp2_with fail
  refine (hto _ (T0.below A5 (Nat.le_refl _))).mono ?_
  rintro e w6 ⟨a6, d6, p6, rfl, s6, O6, hb6⟩
  have N6 := hidOf (len_st s6 hn2.out)
  have F6 := few_st s6 hF
  have A6 := A5.trans (hb6.mono A5.size)
  have O5 := O5.below hb6
  have O6s := hidOf O6
  have L56 := hidOf hb6.size
  clear hb6
  obtain ⟨-, c0, c1⟩ := X0.kept A6
  go_wp2_with fail
  refine (toState_any x _ hx (K0.below A6 (Nat.le_refl _))).mono ?_
  rintro e w7a ⟨ua, uc, rfl, uo, hb7⟩
  have A7a := A6.trans (hb7.mono A6.size)
  have O5 := O5.below hb7
  have O6 := O6.below hb7
  have L67 := hb7.size
  clear hb7 c0 c1
  go_upto_region 11 with fail
  obtain ⟨w7, hw7, U, hb7, S7⟩ := bx_new w7a ⟨x.st, ua, uc⟩ 28
  obtain ⟨b1, hb1⟩ : ∃ b1, b1 = w7a.heap.size := ⟨_, rfl⟩
  dsimp only at hw7
  rw [← hb1] at U
  rw [← hw7, ← hb1]
  have A7 := A7a.trans (hb7.mono A7a.size)
  have O5 := O5.below hb7
  have O6 := O6.below hb7
  have Luo := hidOf (show ∀ g, (Value.slice ua x.st.vals.length uc).ownBlock = some g → g < w7.heap.size from fun g hg => Nat.lt_of_lt_of_le (uo.lt g hg).2 hb7.size)
  have uo := owns_below uo hb7
  have hb1l : w6.heap.size ≤ b1 := by omega
  have L67 := hidOf (show w6.heap.size ≤ w7.heap.size from Nat.le_trans L67 hb7.size)
  clear hw7 hb1 S7 hb7 A7a
  have U7 := U
  obtain ⟨-, c0, c1⟩ := U7
  dsimp only at c0 c1
  have hI := hidOf (iPushed_any a6 d6 p6 ⟨x.st, ua, uc⟩ w7 N6.out F6 hx O6.sts (.of_own uo))
  rw [s6, ← HRR.out] at hI
  go_wp2_with fail
  refine hI.out.mono ?_
  rintro e w8 ⟨a8, d8, p8, rfl, s8, O8, hb8⟩
  have A8 := A7.trans (hb8.mono A7.size)
  have O5 := O5.below hb8
  have O6 := O6.below hb8
  have uo := owns_below uo hb8
  have U := U.kept hb8
  have O8s := hidOf O8
  have L78 := hidOf hb8.size
  clear hb8 hI c0 c1
  have hRl := hidOf (show R.length = n + 1 by rw [HRR.out, pushL_len, List.length_map, ← HN.out])
  have hRw := hidOf (show wt R = wt (ps.map Sp.st) + x.st.vals.length by rw [HRR.out, wt_push])
  have N8 := hidOf (show p8.length = n + 1 by rw [← hRl.out, ← s8, List.length_map])
  have F8 : Few p8 := few_wt (by rw [s8, hRw.out]; have := HW.out; omega)
  go_wp2_with fail
  refine (eqStates_same a8 a5 d8 d5 p8 p5 _ (by rw [N8.out]; omega) F8 (s8.trans s5.symm) O8.sts O5.sts).mono ?_
  rintro e w9 ⟨rfl, hb9⟩
  have A9 := A8.trans (hb9.mono A8.size)
  have O5 := O5.below hb9
  have O6 := O6.below hb9
  have O8 := O8.below hb9
  have uo := owns_below uo hb9
  have U := U.kept hb9
  clear hb9 A8
  go_wp2_with fail
  refine (hto _ (T0.below A9 (Nat.le_refl _))).mono ?_
  rintro e w10 ⟨a10, d10, p10, rfl, s10, O10, hb10⟩
  have A10 := A9.trans (hb10.mono A9.size)
  have O5 := O5.below hb10
  have O6 := O6.below hb10
  have O8 := O8.below hb10
  have uo := owns_below uo hb10
  have U := U.kept hb10
  clear hb10 A9
  go_wp2_with fail
  refine (eqStates_same a6 a10 d6 d10 p6 p10 _ (by have := N6.out; omega) F6 (s6.trans s10.symm) O6.sts O10.sts).mono ?_
  rintro e w11 ⟨rfl, hb11⟩
  have A11 := A10.trans (hb11.mono A10.size)
  have O5 := O5.below hb11
  have O6 := O6.below hb11
  have O8 := O8.below hb11
  have uo := owns_below uo hb11
  have U := U.kept hb11
  clear hb11 A10 O10
  have U11 := U
  obtain ⟨hu, c0, c1⟩ := U11
  obtain ⟨hxb, e0, e1⟩ := X0.kept A11
  dsimp only at c0 c1
  go_wp2
  go_region_held3 (fun W => (W.cell? ⟨w.heap.size, 0, none⟩ = some (.slice x.a x.st.vals.length x.c) ∧ W.cell? ⟨w.heap.size, 1, none⟩ = some (.int .i64 x.st.sum)) ∧ W.cell? ⟨b1, 0, none⟩ = some (.slice ua x.st.vals.length uc) ∧ W.cell? ⟨b1, 1, none⟩ = some (.int .i64 x.st.sum)) (first | trivial | go_keep)
    ((first
    | (go_at_call 26; refine (eqState_same x.st ua xa uc xc _ hx (KidsAt.of_own (owns_below uo E12)) (.of_own xo)).mono ?_; rintro e w13 ⟨rfl, hb13⟩; have E13 := E12.trans (hb13.mono E12.size); have hc13 := (bcell E13).1)
    | (go_at_call 25; refine (toState_any x _ hx (K0.below A11.drew (Nat.le_refl _))).mono ?_; rintro e w12 ⟨xa, xc, rfl, xo, hb12⟩; have E12 := (Below.refl w11.heap.size w11).drew.trans hb12; have hc12 := (bcell E12).1)))
  have A13 := A11.trans (E13.mono A11.size)
  have O5 := O5.below E13
  have O6 := O6.below E13
  have O8 := O8.below E13
  have uo := owns_below uo E13
  have U := U.kept E13
  clear hb12 hb13 hc12 hc13 E12 E13 xo c0 c1 e0 e1 hu hxb A11
  have hM := hidOf (markStates_any a6 w5.heap.size d6 1 p6 w6 w13 (by rw [s6]; have h1 := HW.out; have h2 := congrArg List.length s6; simp at h2; have := HN.out; omega) O6s.out O6 F6)
  obtain ⟨m1, hm1⟩ : ∃ m1, m1 = 1 + wt (p6.map Sp.st) + p6.length := ⟨_, rfl⟩
  have hm1l : m1 + x.st.vals.length ≤ 1048577 := by rw [hm1, s6]; have h1 := HW.out; have h2 := congrArg List.length s6; simp at h2; have := HN.out; omega
  rw [← hm1] at hM
  clear hm1
  go_wp2_with fail
  refine hM.out.mono ?_
  rintro e w14 ⟨rfl, -, D14⟩
  have A14 : Below W0.heap.size W0 w14 := A13.trans (below_mid D14 _ A5.size A13.size)
  have O5 := O5s.out.mid_old (Nat.le_refl _) O5 D14
  have O8 := O8.mid_new D14 L67.out
  have uo := own_mid uo D14 (fun g hg => .inr (uo.lt g hg).1)
  have U := U.mid D14 (.inr hb1l)
  clear D14 O6 hM A13
  have U14 := U
  obtain ⟨hu, c0, c1⟩ := U14
  dsimp only at c0 c1
  have hM := hidOf (markState_any ⟨x.st, ua, uc⟩ w6.heap.size m1 w14 hx (by omega) uo)
  dsimp only at hM
  go_wp2_with fail
  refine hM.out.mono ?_
  rintro e w15 ⟨rfl, -, g15⟩
  have D15 : Mid w6.heap.size w7.heap.size w14 w15 := mid_grown g15 (fun g hg => ⟨(uo.lt g hg).1, Luo.out g hg⟩)
  have A15 : Below W0.heap.size W0 w15 := A14.trans (below_mid D15 _ A6.size A14.size)
  have O5 := O5s.out.mid_old L56.out O5 D15
  have O8 := O8.mid_new D15 (Nat.le_refl _)
  clear D15 hM A14 uo U hu c0 c1 g15
  have hm2n : ¬ ((m1 : Int) + (x.st.vals.length : Int)) < 0 := by omega
  go_wp2_with fail
  refine (eqStates_same a8 a5 d8 d5 p8 p5 _ (by rw [N8.out]; omega) F8 (s8.trans s5.symm) O8.sts O5.sts).mono ?_
  rintro e w16 ⟨rfl, hb16⟩
  have A16 := A15.trans (hb16.mono A15.size)
  have O5 := O5.below hb16
  have O8 := O8.below hb16
  clear hb16 A15
  have hM := hidOf (markStates_any a8 w7.heap.size d8 1 p8 w8 w16 (by rw [s8, hRw.out, N8.out]; have h1 := HW.out; omega) O8s.out O8 F8)
  obtain ⟨m2, hm2⟩ : ∃ m2, m2 = 1 + wt (p8.map Sp.st) + p8.length := ⟨_, rfl⟩
  have HM2 := hidOf hm2
  have hm2l : m2 ≤ 1048578 := by rw [hm2, s8, hRw.out, N8.out]; have h1 := HW.out; omega
  rw [← hm2] at hM
  clear hm2
  have hmne : ((m2 : Int) != (m2 : Int)) = false := by simp
  have hm2n : ¬ (m2 : Int) < 0 := by omega
  go_wp2_with fail
  refine hM.out.mono ?_
  rintro e w17 ⟨rfl, ⟨q8, M8, Q8⟩, D17⟩
  have A17 : Below W0.heap.size W0 w17 := A16.trans (below_mid D17 _ A7.size A16.size)
  have O5 := O5s.out.mid_old (Nat.le_trans L56.out L67.out) O5 D17
  clear D17 hM A16 O8
  have hH := fun W Q => heldStates_any a8 w7.heap.size d8 1 p8 q8 W (by rw [s8, hRw.out, N8.out]; have h1 := HW.out; omega) F8 M8 Q
  rw [← HM2.out] at hH
  have HH := hidOf hH
  clear hH M8
  go_wp2_with fail
  refine (HH.out _ Q8).mono ?_
  rintro e w18 ⟨rfl, hb18⟩
  have A18 := A17.trans (hb18.mono A17.size)
  have O5 := O5.below hb18
  have Q8 := Q8.below hb18
  clear hb18 A17
  obtain ⟨hxb, c0, c1⟩ := X0.kept A18
  have T18 := T0.below A18 (Nat.le_refl _)
  have K18 := K0.below A18 (Nat.le_refl _)
  go_wp2
  go_region_held3 (fun W => W.cell? ⟨w.heap.size, 0, none⟩ = some (.slice x.a x.st.vals.length x.c) ∧ W.cell? ⟨w.heap.size, 1, none⟩ = some (.int .i64 x.st.sum)) (first | trivial | go_keep)
    ((first
    | (go_at_call 12; refine (iPushed_any a3 d3 p3 ⟨x.st, ya, yc⟩ _ N3 F3 hx O4.sts (.of_own yo)).mono ?_; rintro e w21 ⟨a21, d21, p21, rfl, s21, O21, hb21⟩; have E21 := E20.trans (hb21.mono E20.size); have hc21 := (bcell E21).1)
    | (go_at_call 25; refine (toState_any x _ hx (K18.below E19 (Nat.le_refl _))).mono ?_; rintro e w20 ⟨ya, yc, rfl, yo, hb20⟩; have O4 := O3.below hb20; have E20 := E19.trans (hb20.mono E19.size); have hc20 := (bcell E20).1)
    | (go_at_call 28; refine (hto _ (T18.below (Below.refl w18.heap.size w18).drew (Nat.le_refl _))).mono ?_; rintro e w19 ⟨a3, d3, p3, rfl, s3, O3, hb19⟩; have N3 := len_st s3 hn2.out; have F3 := few_st s3 hF; have E19 := (Below.refl w18.heap.size w18).drew.trans hb19; have hc19 := (bcell E19).1)))
  have s21 : p21.map Sp.st = R := by rw [s21, HRR.out, s3]
  have A21 := A18.trans (E21.mono A18.size)
  have O5 := O5.below E21
  have Q8 := Q8.below E21
  have N21 := hidOf (show p21.length = n + 1 by rw [← hRl.out, ← s21, List.length_map])
  have F21 : Few p21 := few_wt (by rw [s21, hRw.out]; have := HW.out; omega)
  clear hb19 hb20 hb21 hc19 hc20 hc21 E19 E20 E21 yo O3 O4 K18 T18 c0 c1 A18 N3 F3 s3 hxb
  go_wp2_with fail
  refine (eqStates_same a21 a5 d21 d5 p21 p5 _ (by rw [N21.out]; omega) F21 (s21.trans s5.symm) O21.sts O5.sts).mono ?_
  rintro e w22 ⟨rfl, hb22⟩
  have A22 := A21.trans (hb22.mono A21.size)
  have Q8 := Q8.below hb22
  clear hb22 A21 O21 O5
  go_wp2_with fail
  refine (HH.out _ Q8).mono ?_
  rintro e w23 ⟨rfl, hb23⟩
  have A23 := A22.trans (hb23.mono A22.size)
  go_wp2
  go_ret
  exact ⟨rfl, B0.trans (A23.mono B0.size)⟩
end Go.Proofs.Ytfolbljffpekiaa
