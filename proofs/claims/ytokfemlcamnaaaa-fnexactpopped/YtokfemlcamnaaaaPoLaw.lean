/- The law on Popped: two answers alike, the argument as it was, and what is answered owns its memory. -/
import Derived.Test.YtokfemlcamnaaaaPpI
import Derived.Test.YtokfemlcamnaaaaPpS
import Derived.Test.YtokfemlcamnaaaaEqSt
import Derived.Test.YtokfemlcamnaaaaMkSt
import Derived.Test.YtokfemlcamnaaaaWtLib
namespace Go.Proofs.Ytokfemlcamnaaaa
open Go.RowKit

/-- Rest and first come to no more than all. -/
theorem wt_pop (xs : List St) : wt (restL stLess xs) + (hdS xs).vals.length ≤ wt xs := by
  cases h : xs[0]? with
  | none =>
    have hx : xs = [] := List.eq_nil_of_length_eq_zero (by have := List.getElem?_eq_none_iff.1 h; omega)
    subst hx
    have e0 : restL stLess ([] : List St) = [] := by
      unfold restL
      exact dn_no (ltAt_out (by simp [cutL]))
    rw [e0]
    decide
  | some x =>
    have := wt_rest xs x h
    unfold hdS
    rw [h]
    show _ + x.vals.length ≤ _
    omega
theorem own_blocks {w w' : World} {B e s n : Nat} {v : Value} {xs : List Value} (h : w.ownsRow B e s v n xs) (hb : ∀ k, v.ownBlock = some k → w'.heap[k]? = w.heap[k]?) : w'.ownsRow B e s v n xs := by
  refine ⟨h.1, ?_⟩
  rcases h.2 with h0 | ⟨g, cap, cur, h1, h2, h3, h4⟩
  · exact .inl h0
  · refine .inr ⟨g, cap, cur, h1, h2, ?_, h4⟩
    rw [hb g (by rw [h1]; rfl)]
    exact h3

set_option maxHeartbeats 16000000 in
theorem lawPopped (a : Option Addr) (c : Nat) (ps : List Sp) (w : World) (hn0 : ps.length ≤ 9223372036854775807) (hok : StsOk ps) (hT : StsAt w a ps) :
    Calls Try.prog 9 #[.slice a ps.length c] w fun e w' => e = .returned (.bool true) ∧ Below w.heap.size w w' := by
  have hz := szStates_any a c ps 1048576 w hn0 hok (by omega) (by omega) hT
  have hto := fun (h1 : ps.length ≤ 1048576) (h2 : Few ps) W hW => toStates_any a c ps W h1 h2 hW
  obtain ⟨n, hn⟩ : ∃ n, n = ps.length := ⟨_, rfl⟩
  rw [← hn] at hz hto ⊢
  have HN := hidOf hn
  clear hn
  go_enter Try.func9, Try.ntmps9
  go_wp2_with fail
  refine hz.mono ?_
  rintro e w1 ⟨r, rfl, hr, A1⟩
  rcases hr with rfl | ⟨hr0, hr1⟩
  · go_wp2
    go_ret
    exact ⟨rfl, A1⟩
  have HW : Hid (wt (ps.map Sp.st) + n ≤ 1048576) := hidOf (by omega)
  have hrn : ¬ r < 0 := by omega
  have hF : Few ps := few_wt (by have := HW.out; omega)
  have hn1 : n ≤ 1048576 := by have := HW.out; omega
  have hto := hto hn1 hF
  have hn2 := hidOf (show ps.length ≤ 1048576 by have := HN.out; omega)
  clear hr1 hz hn0
  obtain ⟨X, hX⟩ : ∃ X, X = ps.map Sp.st := ⟨_, rfl⟩
  have HX := hidOf hX
  obtain ⟨b, hb⟩ : ∃ b, b = decide (0 < X.length) := ⟨_, rfl⟩
  have HB := hidOf hb
  have hbb : (b != b) = false := by cases b <;> rfl
  obtain ⟨y, hy⟩ : ∃ y, y = hdS X := ⟨_, rfl⟩
  have HYY := hidOf hy
  have hWP := hidOf (show wt (restL stLess X) + y.vals.length ≤ wt (ps.map Sp.st) by rw [hy, hX]; exact wt_pop _)
  have hyl : y.vals.length ≤ 1048576 := by have := HW.out; have := hWP.out; omega
  have hRl := hidOf (show (restL stLess X).length ≤ n by rw [restL_len, hX, List.length_map, ← HN.out]; omega)
  clear hX hb hy
  go_wp2_with fail
  refine (hto _ (hT.below A1 (Nat.le_refl _))).mono ?_
  rintro e w2 ⟨a2, d2, p2, rfl, s2, O2, hb2⟩
  have A2 := A1.trans (hb2.mono A1.size)
  have hS := hidOf (sPopped_any a2 d2 p2 w2 (by have := len_st s2 hn2.out; omega) (few_st s2 hF) O2.sts)
  rw [s2, ← HX.out] at hS
  clear hb2 O2 A1
  go_wp2_with fail
  refine hS.out.mono ?_
  rintro e w3a ⟨a3, d3, p3, f3, rfl, s3, g3, O3, fo3, -, hb3⟩
  have A3a := A2.trans (hb3.mono A2.size)
  have B3l := hb3.size
  rw [← HB.out]
  obtain ⟨f3s, f3a, f3c⟩ := f3
  dsimp only at g3 fo3 ⊢
  have g3y : f3s = y := by rw [g3, HYY.out]
  clear g3
  subst g3y
  clear hb3 hS
  go_upto_region 6 with fail
  obtain ⟨w3, hw3, U3, hb3, S3⟩ := bx_new w3a ⟨f3s, f3a, f3c⟩ 57
  obtain ⟨b3, hbq⟩ : ∃ b3, b3 = w3a.heap.size := ⟨_, rfl⟩
  dsimp only at hw3
  rw [← hbq] at U3
  rw [← hw3, ← hbq]
  have A3 := A3a.trans (hb3.mono A3a.size)
  have O3 := O3.below hb3
  have fo3 := owns_below fo3 hb3
  have O3s := hidOf O3
  have Lf3 := hidOf (show ∀ k, (Value.slice f3a f3s.vals.length f3c).ownBlock = some k → k < w3.heap.size from fun k hk => (fo3.lt k hk).2)
  have hb3l := U3.lt
  clear hw3 hbq S3 hb3 A3a
  go_wp2_with fail
  refine (hto _ (hT.below A3 (Nat.le_refl _))).mono ?_
  rintro e w4 ⟨a4, d4, p4, rfl, s4, O4, hb4⟩
  have A4 := A3.trans (hb4.mono A3.size)
  have O3 := O3.below hb4
  have fo3 := owns_below fo3 hb4
  have U3 := U3.kept hb4
  have O4s := hidOf O4
  have F4 := few_st s4 hF
  have N4 := hidOf (len_st s4 hn2.out)
  have L34 := hidOf hb4.size
  have hI := hidOf (iPopped_any a4 d4 p4 w4 (by have := N4.out; omega) F4 O4.sts)
  rw [s4, ← HX.out] at hI
  clear hb4
  go_wp2_with fail
  refine hI.out.mono ?_
  rintro e w5a ⟨a5, d5, p5, f5, rfl, s5, g5, O5, fo5, ap5, hb5⟩
  have A5a := A4.trans (hb5.mono A4.size)
  have O3 := O3.below hb5
  have fo3 := owns_below fo3 hb5
  have U3 := U3.kept hb5
  have O4 := O4.below hb5
  have L45 := hb5.size
  rw [← HB.out]
  obtain ⟨f5s, f5a, f5c⟩ := f5
  dsimp only at g5 fo5 ⊢
  have g5y : f5s = f3s := by rw [g5, HYY.out]
  clear g5
  subst g5y
  have O5s := hidOf O5
  have Lf5 := hidOf (show ∀ k, (Value.slice f5a f5s.vals.length f5c).ownBlock = some k → k < w5a.heap.size from fun k hk => (fo5.lt k hk).2)
  have AP5 := hidOf ap5
  clear hb5 hI ap5
  go_upto_region 8 with fail
  obtain ⟨w5, hw5, U5, hb5, S5⟩ := bx_new w5a ⟨f5s, f5a, f5c⟩ 57
  obtain ⟨b5, hbq⟩ : ∃ b5, b5 = w5a.heap.size := ⟨_, rfl⟩
  have hb5l : w5a.heap.size ≤ b5 := by omega
  dsimp only at hw5
  rw [← hbq] at U5
  rw [← hw5, ← hbq]
  have A5 := A5a.trans (hb5.mono A5a.size)
  have O3 := O3.below hb5
  have fo3 := owns_below fo3 hb5
  have U3 := U3.kept hb5
  have O4 := O4.below hb5
  have O5 := O5.below hb5
  have fo5 := owns_below fo5 hb5
  clear hw5 hbq S5 hb5
  have N5 := hidOf (show p5.length ≤ n by have h1 := congrArg List.length s5; simp only [List.length_map] at h1; have := hRl.out; omega)
  have F5 : Few p5 := few_wt (by rw [s5]; have := HW.out; have := hWP.out; omega)
  go_wp2_with fail
  refine (eqStates_same a5 a3 d5 d3 p5 p3 _ (by have := N5.out; omega) F5 (s5.trans s3.symm) O5.sts O3.sts).mono ?_
  rintro e w6 ⟨rfl, hb6⟩
  have A6 := A5.trans (hb6.mono A5.size)
  have O3 := O3.below hb6
  have fo3 := owns_below fo3 hb6
  have U3 := U3.kept hb6
  have O4 := O4.below hb6
  have O5 := O5.below hb6
  have fo5 := owns_below fo5 hb6
  have U5 := U5.kept hb6
  clear hb6
  have V3 := U3
  have V5 := U5
  obtain ⟨-, c0, c1⟩ := V5
  obtain ⟨-, e0, e1⟩ := V3
  dsimp only at c0 c1 e0 e1
  go_wp2_with fail
  refine (eqState_same f5s f5a f3a f5c f3c _ hyl (.of_own fo5) (.of_own fo3)).mono ?_
  rintro e w7 ⟨rfl, hb7⟩
  have A7 := A6.trans (hb7.mono A6.size)
  have O3 := O3.below hb7
  have fo3 := owns_below fo3 hb7
  have U3 := U3.kept hb7
  have O4 := O4.below hb7
  have O5 := O5.below hb7
  have fo5 := owns_below fo5 hb7
  have U5 := U5.kept hb7
  clear hb7 c0 c1 e0 e1
  go_wp2_with fail
  refine (hto _ (hT.below A7 (Nat.le_refl _))).mono ?_
  rintro e w8 ⟨a8, d8, p8, rfl, s8, O8, hb8⟩
  have A8 := A7.trans (hb8.mono A7.size)
  have O3 := O3.below hb8
  have fo3 := owns_below fo3 hb8
  have U3 := U3.kept hb8
  have O4 := O4.below hb8
  have O5 := O5.below hb8
  have fo5 := owns_below fo5 hb8
  have U5 := U5.kept hb8
  clear hb8
  go_wp2_with fail
  refine (eqStates_same a4 a8 d4 d8 p4 p8 _ (by have := N4.out; omega) F4 (s4.trans s8.symm) O4.sts O8.sts).mono ?_
  rintro e w9 ⟨rfl, hb9⟩
  have A9 := A8.trans (hb9.mono A8.size)
  have O3 := O3.below hb9
  have fo3 := owns_below fo3 hb9
  have U3 := U3.kept hb9
  have O4 := O4.below hb9
  have O5 := O5.below hb9
  have fo5 := owns_below fo5 hb9
  have U5 := U5.kept hb9
  clear hb9 O8 A6 A7 A8
  have hM := hidOf (markStates_any a4 w3.heap.size d4 1 p4 w4 w9 (by rw [s4]; have h1 := HW.out; have h2 := congrArg List.length s4; simp at h2; have := HN.out; omega) O4s.out O4 F4)
  obtain ⟨m1, hm1⟩ : ∃ m1, m1 = 1 + wt (p4.map Sp.st) + p4.length := ⟨_, rfl⟩
  rw [← hm1] at hM
  have hm1n : ¬ ((m1 : Nat) : Int) < 0 := by omega
  clear hm1
  go_wp2_with fail
  refine hM.out.mono ?_
  rintro e w10 ⟨rfl, -, D10⟩
  have A10 : Below w.heap.size w w10 := A9.trans (below_mid D10 _ A3.size A9.size)
  have O3 := O3s.out.mid_old (Nat.le_refl _) O3 D10
  have fo3 := own_mid fo3 D10 (fun k hk => .inl (Lf3.out k hk))
  have U3 := U3.mid D10 (.inl hb3l)
  have O5 := O5.mid_new D10 (Nat.le_refl _)
  have fo5 := own_mid fo5 D10 (fun k hk => .inr (fo5.lt k hk).1)
  have U5 := U5.mid D10 (.inr (by omega))
  clear D10 O4 hM A9
  go_wp2_with fail
  refine (eqStates_same a5 a3 d5 d3 p5 p3 _ (by have := N5.out; omega) F5 (s5.trans s3.symm) O5.sts O3.sts).mono ?_
  rintro e w11 ⟨rfl, hb11⟩
  have A11 := A10.trans (hb11.mono A10.size)
  have O3 := O3.below hb11
  have fo3 := owns_below fo3 hb11
  have U3 := U3.kept hb11
  have O5 := O5.below hb11
  have fo5 := owns_below fo5 hb11
  have U5 := U5.kept hb11
  clear hb11
  have V3 := U3
  have V5 := U5
  obtain ⟨-, c0, c1⟩ := V5
  obtain ⟨-, e0, e1⟩ := V3
  dsimp only at c0 c1 e0 e1
  go_wp2_with fail
  refine (eqState_same f5s f5a f3a f5c f3c _ hyl (.of_own fo5) (.of_own fo3)).mono ?_
  rintro e w12 ⟨rfl, hb12⟩
  have A12 := A11.trans (hb12.mono A11.size)
  have O3 := O3.below hb12
  have fo3 := owns_below fo3 hb12
  have U3 := U3.kept hb12
  have O5 := O5.below hb12
  have fo5 := owns_below fo5 hb12
  have U5 := U5.kept hb12
  clear hb12 c0 c1 e0 e1 A10 A11
  have hM := hidOf (markStates_only a5 w4.heap.size d5 1 p5 w5a w12 (by rw [s5]; have h1 := HW.out; have h2 := hWP.out; have := N5.out; omega) O5s.out O5 F5)
  obtain ⟨m2, hm2⟩ : ∃ m2, m2 = 1 + wt (p5.map Sp.st) + p5.length := ⟨_, rfl⟩
  have HM2 := hidOf hm2
  have hm2l : m2 + f5s.vals.length ≤ 1048577 := by rw [hm2, s5]; have h1 := HW.out; have h2 := hWP.out; have := N5.out; omega
  rw [← hm2] at hM
  clear hm2
  go_wp2_with fail
  refine hM.out.mono ?_
  rintro e w13 ⟨rfl, ⟨q5, M5, Q5⟩, D13, Y13⟩
  have A13 : Below w.heap.size w w13 := A12.trans (below_mid D13 _ A4.size A12.size)
  have O3 := O3s.out.mid_old L34.out O3 D13
  have fo3 := own_mid fo3 D13 (fun k hk => .inl (Nat.lt_of_lt_of_le (Lf3.out k hk) L34.out))
  have U3 := U3.mid D13 (.inl (Nat.lt_of_lt_of_le hb3l L34.out))
  have U5 := U5.mid D13 (.inr hb5l)
  have fo5 := own_blocks fo5 (fun k hk => Y13 k (fo5.lt k hk).2 (fun e => by
    rcases types_apart O5.row fo5 (by decide) with h | h
    · rw [h] at e; cases e
    · exact h (by rw [e, hk])) (fun q hq e => AP5.out q hq k e hk))
  clear D13 Y13 hM A12 O5
  have V5 := U5
  obtain ⟨-, c0, c1⟩ := V5
  dsimp only at c0 c1
  have hM := hidOf (markState_any ⟨f5s, f5a, f5c⟩ w4.heap.size m2 w13 hyl (by omega) fo5)
  dsimp only at hM
  obtain ⟨m3, hm3⟩ : ∃ m3, m3 = m2 + f5s.vals.length := ⟨_, rfl⟩
  have HM3 := hidOf hm3
  rw [← hm3] at hM
  have hmne : ((m3 : Int) != (m3 : Int)) = false := by simp
  have hm3n : ¬ ((m3 : Nat) : Int) < 0 := by omega
  have hm2n : ¬ ((m2 : Nat) : Int) < 0 := by omega
  clear hm3
  go_wp2_with fail
  refine hM.out.mono ?_
  rintro e w14 ⟨rfl, fm5, g14⟩
  have D14 : Mid w4.heap.size w5a.heap.size w13 w14 := mid_grown g14 (fun k hk => ⟨(fo5.lt k hk).1, Lf5.out k hk⟩)
  have A14 : Below w.heap.size w w14 := A13.trans (below_mid D14 _ A4.size A13.size)
  have O3 := O3s.out.mid_old L34.out O3 D14
  have fo3 := own_mid fo3 D14 (fun k hk => .inl (Nat.lt_of_lt_of_le (Lf3.out k hk) L34.out))
  have U3 := U3.mid D14 (.inl (Nat.lt_of_lt_of_le hb3l L34.out))
  have U5 := U5.mid D14 (.inr hb5l)
  have Q5 := Q5.other g14 (types_apart Q5.row fo5 (by decide)) (fun q hq => by
    obtain ⟨p, hp, e⟩ := mkTo_blk M5 hq
    cases hv : q.blk with
    | none => exact .inl rfl
    | some k =>
      right
      intro e2
      rw [e] at hv
      exact AP5.out p hp k hv e2.symm)
  clear D14 hM A13 fo5 g14 c0 c1
  have LQ := hidOf (show q5.length = p5.length from M5.1)
  have hH := fun W Q => heldStates_any a5 w4.heap.size d5 1 p5 q5 W (by rw [s5]; have h1 := HW.out; have h2 := hWP.out; have := N5.out; omega) F5 M5 Q
  rw [← HM2.out] at hH
  have HH := hidOf hH
  have hG := fun W Q => heldState_any ⟨f5s, f5a, f5c⟩ w4.heap.size m2 W hyl (by omega) Q
  dsimp only at hG
  rw [← HM3.out] at hG
  have HG := hidOf hG
  clear hH hG M5
  go_wp2_with fail
  refine (HH.out _ Q5).mono ?_
  rintro e w15 ⟨rfl, hb15⟩
  have A15 := A14.trans (hb15.mono A14.size)
  have O3 := O3.below hb15
  have fo3 := owns_below fo3 hb15
  have U3 := U3.kept hb15
  have U5 := U5.kept hb15
  have Q5 := Q5.below hb15
  have fm5 := owns_below fm5 hb15
  clear hb15
  have V5 := U5
  obtain ⟨-, c0, c1⟩ := V5
  dsimp only at c0 c1
  go_wp2_with fail
  refine (HG.out _ fm5).mono ?_
  rintro e w16 ⟨rfl, hb16⟩
  have A16 := A15.trans (hb16.mono A15.size)
  have O3 := O3.below hb16
  have fo3 := owns_below fo3 hb16
  have U3 := U3.kept hb16
  have U5 := U5.kept hb16
  have Q5 := Q5.below hb16
  have fm5 := owns_below fm5 hb16
  clear hb16 c0 c1 A14 A15
  go_wp2_with fail
  refine (hto _ (hT.below A16 (Nat.le_refl _))).mono ?_
  rintro e w17 ⟨a17, d17, p17, rfl, s17, O17, hb17⟩
  have A17 := A16.trans (hb17.mono A16.size)
  have O3 := O3.below hb17
  have fo3 := owns_below fo3 hb17
  have U3 := U3.kept hb17
  have U5 := U5.kept hb17
  have Q5 := Q5.below hb17
  have fm5 := owns_below fm5 hb17
  have hI := hidOf (iPopped_any a17 d17 p17 w17 (by have := len_st s17 hn2.out; omega) (few_st s17 hF) O17.sts)
  rw [s17, ← HX.out] at hI
  clear hb17 O17
  go_wp2_with fail
  refine hI.out.mono ?_
  rintro e w18a ⟨a18, d18, p18, f18, rfl, s18, g18, O18, fo18, -, hb18⟩
  have A18a := A17.trans (hb18.mono A17.size)
  have O3 := O3.below hb18
  have fo3 := owns_below fo3 hb18
  have U3 := U3.kept hb18
  have U5 := U5.kept hb18
  have Q5 := Q5.below hb18
  have fm5 := owns_below fm5 hb18
  rw [← HB.out]
  obtain ⟨f18s, f18a, f18c⟩ := f18
  dsimp only at g18 fo18 ⊢
  have g18y : f18s = f5s := by rw [g18, HYY.out]
  clear g18
  subst g18y
  clear hb18 hI
  go_upto_region 29 with fail
  obtain ⟨w18, hw18, U18, hb18, S18⟩ := bx_new w18a ⟨f18s, f18a, f18c⟩ 57
  obtain ⟨b18, hbq⟩ : ∃ b18, b18 = w18a.heap.size := ⟨_, rfl⟩
  dsimp only at hw18
  rw [← hbq] at U18
  rw [← hw18, ← hbq]
  have A18 := A18a.trans (hb18.mono A18a.size)
  have O3 := O3.below hb18
  have fo3 := owns_below fo3 hb18
  have U3 := U3.kept hb18
  have U5 := U5.kept hb18
  have Q5 := Q5.below hb18
  have fm5 := owns_below fm5 hb18
  have O18 := O18.below hb18
  have fo18 := owns_below fo18 hb18
  clear hw18 hbq S18 hb18 A16 A17 A18a
  have N18 := hidOf (show p18.length ≤ n by have h1 := congrArg List.length s18; simp only [List.length_map] at h1; have := hRl.out; omega)
  have F18 : Few p18 := few_wt (by rw [s18]; have := HW.out; have := hWP.out; omega)
  go_wp2_with fail
  refine (eqStates_same a18 a3 d18 d3 p18 p3 _ (by have := N18.out; omega) F18 (s18.trans s3.symm) O18.sts O3.sts).mono ?_
  rintro e w19 ⟨rfl, hb19⟩
  have A19 := A18.trans (hb19.mono A18.size)
  have fo3 := owns_below fo3 hb19
  have fo18 := owns_below fo18 hb19
  have U3 := U3.kept hb19
  have U18 := U18.kept hb19
  have U5 := U5.kept hb19
  have Q5 := Q5.below hb19
  have fm5 := owns_below fm5 hb19
  clear hb19 O3 O18
  have V3 := U3
  have V18 := U18
  obtain ⟨-, c0, c1⟩ := V18
  obtain ⟨-, e0, e1⟩ := V3
  dsimp only at c0 c1 e0 e1
  go_wp2_with fail
  refine (eqState_same f18s f18a f3a f18c f3c _ hyl (.of_own fo18) (.of_own fo3)).mono ?_
  rintro e w20 ⟨rfl, hb20⟩
  have A20 := A19.trans (hb20.mono A19.size)
  have U5 := U5.kept hb20
  have Q5 := Q5.below hb20
  have fm5 := owns_below fm5 hb20
  clear hb20 c0 c1 e0 e1 fo3 fo18 U3 U18
  go_wp2_with fail
  refine (HH.out _ Q5).mono ?_
  rintro e w21 ⟨rfl, hb21⟩
  have A21 := A20.trans (hb21.mono A20.size)
  have U5 := U5.kept hb21
  have fm5 := owns_below fm5 hb21
  clear hb21 Q5
  have V5 := U5
  obtain ⟨-, c0, c1⟩ := V5
  dsimp only at c0 c1
  go_wp2_with fail
  refine (HG.out _ fm5).mono ?_
  rintro e w22 ⟨rfl, hb22⟩
  have A22 := A21.trans (hb22.mono A21.size)
  go_wp2
  go_ret
  exact ⟨rfl, A22⟩
end Go.Proofs.Ytokfemlcamnaaaa
