/- The law on the cheapest: of a drawn right piece none that may be is cheaper than what BestOf tells, and it stands ahead of all that are alike; NextOf tells as many lists as there are; other pieces and values are answered alike on both sides. -/
import Derived.Test.YtokfemlcamnaaaaKaq
import Derived.Test.YtokfemlcamnaaaaKar
namespace Go.Proofs.Ytokfemlcamnaaaa
open Go.RowKit

/-- What each operation of the last statement leaves. -/
def bstPost (p : Pc) (l : Pl) (ab : Option Addr) (bs : List Int) (cbs k : Nat) (y o s : Int) (b1 : Bool) (us : List Int) (a6 : Option Addr) (c6 : Nat) (a7 : Option Addr) (c7 : Nat) (o2 s2 : Int) (zs : List Int) (a9 : Option Addr) (c9 : Nat) (a10 : Option Addr) (c10 : Nat) (b2 : Bool) : Nat → Value → World → Prop
  | 0 => fun v _ => v = .bool true
  | 1 => fun v _ => v = .bool true
  | 2 => fun v _ => v = .int .i64 k
  | 3 => fun v _ => v = pcV p l
  | 4 => fun v _ => v = .int .i64 k
  | 5 => fun v _ => v = .bool true
  | 6 => fun v _ => v = .bool true
  | 7 => fun v _ => v = .bool true
  | 8 => fun v _ => v = pcV p l
  | 9 => fun v _ => v = .slice ab bs.length cbs
  | 10 => fun v _ => v = .bool true
  | 11 => fun v _ => v = .bool true
  | 12 => fun v _ => v = .bool true
  | 13 => fun v _ => v = .agg #[.int .i64 o, .int .i64 s]
  | 14 => fun v _ => v = pcV p l
  | 15 => fun v _ => v = .slice ab bs.length cbs
  | 16 => fun v _ => v = .int .i64 y
  | 17 => fun v _ => v = .agg #[.int .i64 o, .int .i64 s]
  | 18 => fun v _ => v = .bool true
  | 19 => fun v _ => v = .bool true
  | 20 => fun v _ => v = .bool true
  | 21 => fun v _ => v = .bool b1
  | 22 => fun v _ => v = .bool b1
  | 23 => fun v _ => v = .bool true
  | 24 => fun v _ => v = .bool true
  | 25 => fun v _ => v = .bool true
  | 26 => fun v _ => v = .agg #[.int .i64 o2, .int .i64 s2]
  | 27 => fun v _ => v = .agg #[.int .i64 o2, .int .i64 s2]
  | 28 => fun v _ => v = .bool true
  | 29 => fun v _ => v = .bool true
  | 30 => fun v _ => v = .bool true
  | 31 => fun v _ => v = .slice a6 us.length c6
  | 32 => fun v _ => v = .slice a7 us.length c7
  | 33 => fun v _ => v = .bool true
  | 34 => fun v _ => v = .bool true
  | 35 => fun v _ => v = .bool true
  | 36 => fun v _ => v = .bool b2
  | 37 => fun v _ => v = .bool b2
  | 38 => fun v _ => v = .bool true
  | 39 => fun v _ => v = .bool true
  | 40 => fun v _ => v = .bool true
  | 41 => fun v _ => v = .slice a9 zs.length c9
  | 42 => fun v _ => v = .slice a10 zs.length c10
  | 43 => fun v _ => v = .bool true
  | 44 => fun v _ => v = .bool true
  | 45 => fun v _ => v = .bool true
  | _ => fun _ _ => True
theorem bstPost_stab {p : Pc} {l : Pl} {ab : Option Addr} {bs : List Int} {cbs k : Nat} {y o s : Int} {b1 : Bool} {us : List Int} {a6 : Option Addr} {c6 : Nat} {a7 : Option Addr} {c7 : Nat} {o2 s2 : Int} {zs : List Int} {a9 : Option Addr} {c9 : Nat} {a10 : Option Addr} {c10 : Nat} {b2 : Bool} (k' : Nat) (v : Value) (W W' : World) (h : bstPost p l ab bs cbs k y o s b1 us a6 c6 a7 c7 o2 s2 zs a9 c9 a10 c10 b2 k' v W) : bstPost p l ab bs cbs k y o s b1 us a6 c6 a7 c7 o2 s2 zs a9 c9 a10 c10 b2 k' v W' := by
  unfold bstPost at h ⊢
  split <;> first | exact h | trivial

set_option maxHeartbeats 32000000 in
set_option maxRecDepth 100000 in
theorem lawBest (a : Option Addr) (len cap : Nat) (w : World) (hc : len ≤ 1048576 → CodeAt w.heap.size w a len) (hlm : len ≤ 9223372036854775807) :
    Calls Try.prog 4 #[.slice a len cap] w fun e w' => e = .returned (.bool true) ∧ Below w.heap.size w w' := by
  by_cases h0 : 1048576 < len
  · clear hc
    go_enter Try.func4, Try.ntmps4
    go_wp2
    go_ret
    exact ⟨rfl, Below.refl _ _⟩
  have HC := hidOf (hc (by omega))
  clear hc
  go_enter Try.func4, Try.ntmps4
  go_wp2_with (first | (go_at_call 11; go_in))
  refine (drawPiece_any w.heap.size _ a len cap HC.out (Nat.le_refl _)).mono ?_
  rintro e w1 ⟨p, l, rfl, hD, ho1, hb1⟩
  have HD := hidOf hD
  have B1 := hidOf hb1
  have HCap := hidOf (capOf ho1.o2)
  have hr5 : p.rules.length ≤ 5 := hD.r5
  have hr1 : 1 ≤ p.rules.length := hD.r1
  clear hD hb1
  go_wp2_with fail
  obtain ⟨W1, hW1, X1, b1, S1⟩ := boxed w1 p l 29
  rw [← hW1]
  have I1 : Pb W1 w1.heap.size p l := ⟨X1, ho1.is.below b1 (Nat.le_refl _)⟩
  have B2 : Hid (Below w.heap.size w W1) := B1.out.trans (b1.mono B1.out.size)
  obtain ⟨pb, hpb⟩ : ∃ pb, pb = w1.heap.size := ⟨_, rfl⟩
  rw [← hpb] at I1 ⊢
  clear hW1 X1 b1 S1 ho1 hpb B1
  have hs0 := B2.out.size
  refine (drawWid_any w.heap.size _ a len cap (HC.out.below B2.out) hs0).mono ?_
  rintro e w2 ⟨y, hy1, hy2, rfl, b2⟩
  have B3 : Hid (Below w.heap.size w w2) := B2.out.trans (b2.mono hs0)
  have I2 := I1.below b2
  clear I1 B2 b2 hs0
  obtain ⟨hpl, c0, c1, c2, c3, c4⟩ := I2.box
  go_wp2_with fail
  refine (iBest_yes p l y _ HD.out.few HCap.out I2.inn HD.out.right).mono ?_
  rintro e w3 ⟨bs, hB, hb3, ab, cbs, rfl, o3⟩
  have HB := hidOf hB
  obtain ⟨o, ho⟩ : ∃ o, o = costOver p bs y := ⟨_, rfl⟩
  obtain ⟨s, hs⟩ : ∃ s, s = costSum p bs := ⟨_, rfl⟩
  rw [← ho, ← hs]
  have HO := hidOf ho
  have HS := hidOf hs
  have hbl : bs.length = p.rules.length := hB.ties.vals.len
  have HBL := hidOf hbl
  clear hB c0 c1 c2 c3 c4 ho hs hbl
  go_upto_region 6 with fail
  obtain ⟨W3, hW3, C3, b3, S3⟩ := cb_new w3 o s coT
  rw [← hW3]
  have A3 := hb3.trans (b3.mono hb3.size)
  obtain ⟨cb, hcb⟩ : ∃ cb, cb = w3.heap.size := ⟨_, rfl⟩
  rw [← hcb] at C3 ⊢
  have F3 : FB w W3 pb p l ab bs cb o s := ⟨B3.out.trans (A3.mono B3.out.size), I2.below A3, (KidsAt.of_own o3).below b3 (Nat.le_refl _), C3⟩
  clear hW3 b3 S3 A3 hcb C3 B3 I2 hb3 o3
  obtain ⟨hpl, c0, c1, c2, c3, c4⟩ := F3.P.box
  obtain ⟨i0, hi, hz0, hz1, hz2⟩ := info_parts infoIntT
  go_wp2_with (at_make; refine wpList_make_full _ rfl _ _ 31 rfl W3.heap.size 3 i0 (.int .i64 0) 1 Try.underlying31 hi hz0 hz1 .i64 .i64 _ _ p.rules.length rfl rfl rfl rfl (by rw [hz2]; omega) (by unfold maxLen; omega) (Nat.le_refl _) ?_; intro w4 hown hgrow)
  rw [madeZ] at hown
  have b4 : Below W3.heap.size W3 w4 := (Below.refl _ W3).grown hgrow (Nat.le_refl _) (fun k e => by cases e)
  have F4 := hidOf (F3.below b4)
  have K4 : Hid (KidsAt w4 (some ⟨W3.heap.size, 0, none⟩) (zeros p)) := hidOf (by
    have h : w4.ownsRow W3.heap.size 3 1 (.slice (some ⟨W3.heap.size, 0, none⟩) (zeros p).length p.rules.length) (zeros p).length (intVals (zeros p)) := by rw [zeros_len]; exact hown
    exact .of_own h)
  have R4 : Hid (FR p (zeros p) 0 true) := .inl ⟨rfl, inV_ok (zeros_ties HD.out.right).vals, by rw [zeros_rk]; rfl⟩
  have HTot := hidOf (tot_few HD.out.right hr5)
  clear hown hgrow c0 c1 c2 c3 c4 F3 b4 hi hz0 hz1 hz2 i0 hpl
  go_loopw [8, 9, 10] (fun v i m wr => ∃ (vs : List Int) (av : Option Addr) (cv k : Nat) (b : Bool), v = .slice av vs.length cv ∧ i = .int .i64 k ∧ m = .bool b ∧ k ≤ 243 ∧ Hid (FR p vs k b) ∧ Hid (KidsAt wr av vs) ∧ Hid (FB w wr pb p l ab bs cb o s)) (fun _ i _ _ => 300 - (intOf i).toNat)
  case atStart => exact ⟨zeros p, some ⟨W3.heap.size, 0, none⟩, p.rules.length, 0, true, by rw [zeros_len], rfl, rfl, by omega, R4, K4, F4⟩
  case round =>
    clear R4 K4 F4
    obtain ⟨vs, av, cv, k, b, rfl, rfl, rfl, hk, HR, HK, HF⟩ := hrel
    rcases HR.out with ⟨rfl, hI, hrk⟩ | ⟨rfl, hkt⟩
    · have HI := hidOf hI
      have HRK := hidOf hrk
      have hvl : vs.length ≤ 1048576 := by rw [inV_len _ _ hI]; omega
      have hk2 : (k : Int) + 1 ≤ 243 := by have h1 := rk_bd _ _ hI; have h2 := HTot.out; omega
      clear hI hrk HR
      obtain ⟨hpl, c0, c1, c2, c3, c4⟩ := HF.out.P.box
      have qC := fun W hP hK => sCost_yes p l av cv vs y W HD.out.few hvl hP hK HD.out.right (ok_inV HI.out)
      unfold CoAns at qC
      obtain ⟨ov, hov⟩ : ∃ ov, ov = costOver p vs y := ⟨_, rfl⟩
      obtain ⟨sm, hsm⟩ : ∃ sm, sm = costSum p vs := ⟨_, rfl⟩
      rw [← hov, ← hsm] at qC
      have HOV := hidOf hov
      have HSM := hidOf hsm
      clear hov hsm
      go_wp2_with fail
      refine (qC _ HF.out.P.inn HK.out).mono ?_
      rintro e w5 ⟨rfl, b5⟩
      clear qC c0 c1 c2 c3 c4
      go_upto_region 12 with fail
      obtain ⟨W5, hW5, C5, b5', S5⟩ := cb_new w5 ov sm coT
      rw [← hW5]
      have A5 := b5.trans (b5'.mono b5.size)
      obtain ⟨xb, hxb⟩ : ∃ xb, xb = w5.heap.size := ⟨_, rfl⟩
      rw [← hxb] at C5 ⊢
      have F5 := hidOf (HF.out.below A5)
      have K5 := hidOf (HK.out.below A5 (Nat.le_refl _))
      have X5 := hidOf C5
      clear hW5 b5' S5 A5 hxb C5 HF HK b5 hpl
      obtain ⟨hpl, c0, c1, c2, c3, c4⟩ := F5.out.P.box
      have q := sTie_any p l av cv vs W5 HD.out.few hvl (noLeast_right HD.out.right.rules) F5.out.P.inn K5.out
      have hn300 : ¬ (k : Int) + 1 > 300 := by omega
      go_wp2_with fail
      refine q.mono ?_
      rintro e w6 hq
      clear q c0 c1 c2 c3 c4 hpl
      by_cases hT : TiesHold p vs
      · obtain ⟨rfl, A6⟩ := hq.yes hT
        have HLow := hidOf (best_low HB.out hT)
        have hl : lessC ov sm o s = false := by rw [HOV.out, HSM.out, HO.out, HS.out]; exact HLow.out.1
        have F6 := hidOf (F5.out.below A6)
        have K6 := hidOf (K5.out.below A6 (Nat.le_refl _))
        have X6 := hidOf (X5.out.below A6)
        clear hq F5 K5 X5 A6
        obtain ⟨hx, x0, x1⟩ := X6.out
        obtain ⟨hd, d0, d1⟩ := F6.out.C
        have q := fun W => sLess_any ov sm o s W
        rw [hl] at q
        go_wp2_with fail
        refine (q _).mono ?_
        rintro e w7 ⟨rfl, A7⟩
        have F7 := hidOf (F6.out.below A7)
        have K7 := hidOf (K6.out.below A7 (Nat.le_refl _))
        have X7 := hidOf (X6.out.below A7)
        clear F6 K6 X6 A7 q x0 x1 d0 d1 hx hd hl
        obtain ⟨hx, x0, x1⟩ := X7.out
        obtain ⟨hd, d0, d1⟩ := F7.out.C
        have hG := coGuard ov sm o s
        have hE := coEq ov sm o s
        by_cases heq : ov = o ∧ sm = s
        · rw [decide_eq_true heq] at hE
          obtain ⟨cc, hcc⟩ : ∃ cc, cc = cmpL vs bs := ⟨_, rfl⟩
          have hc0 : ¬ cc < 0 := by rw [hcc]; have := HLow.out.2 ⟨by rw [← HOV.out, ← HO.out]; exact heq.1, by rw [← HSM.out, ← HS.out]; exact heq.2⟩; omega
          have q := sCmp_any av ab cv cbs vs bs w7 hvl (by rw [HBL.out]; omega) K7.out F7.out.D
          rw [← hcc] at q
          clear hcc heq HLow
          go_wp2_with fail
          refine q.mono ?_
          rintro e w8 ⟨rfl, A8⟩
          have F8 := hidOf (F7.out.below A8)
          have K8 := hidOf (K7.out.below A8 (Nat.le_refl _))
          have hcc := hidOf hc0
          clear F7 K7 X7 A8 q x0 x1 d0 d1 hx hd hG hE
          obtain ⟨hpl, c0, c1, c2, c3, c4⟩ := F8.out.P.box
          have q := iNext_yes p l av cv vs w8 HD.out.few hvl (noLeast_right HD.out.right.rules) hr1 F8.out.P.inn K8.out (ok_inV HI.out)
          have HFR := hidOf (fr_next HI.out HRK.out)
          obtain ⟨us, hus⟩ : ∃ us, us = (nx p.rules vs).getD [] := ⟨_, rfl⟩
          obtain ⟨bb, hbb⟩ : ∃ bb, bb = (nx p.rules vs).isSome := ⟨_, rfl⟩
          rw [← hus, ← hbb] at q HFR
          clear hus hbb
          go_wp2_with fail
          refine q.mono ?_
          rintro e w9 ⟨b9, a9, c9, rfl, o9⟩
          have F9 := hidOf (F8.out.below b9)
          have K9 : Hid (KidsAt w9 a9 us) := hidOf (.of_own o9)
          clear q c0 c1 c2 c3 c4 hpl o9 b9 F8 K8 hcc
          go_wp2
          go_roundw
          case rel => exact ⟨us, a9, c9, k + 1, bb, rfl, by go_num, rfl, by omega, HFR, K9, F9⟩
          case measure => simp [intOf]; omega
        · rw [decide_eq_false heq] at hE
          clear heq HLow
          obtain ⟨hpl, c0, c1, c2, c3, c4⟩ := F7.out.P.box
          have q := iNext_yes p l av cv vs w7 HD.out.few hvl (noLeast_right HD.out.right.rules) hr1 F7.out.P.inn K7.out (ok_inV HI.out)
          have HFR := hidOf (fr_next HI.out HRK.out)
          obtain ⟨us, hus⟩ : ∃ us, us = (nx p.rules vs).getD [] := ⟨_, rfl⟩
          obtain ⟨bb, hbb⟩ : ∃ bb, bb = (nx p.rules vs).isSome := ⟨_, rfl⟩
          rw [← hus, ← hbb] at q HFR
          clear hus hbb
          go_wp2_with fail
          refine q.mono ?_
          rintro e w9 ⟨b9, a9, c9, rfl, o9⟩
          have F9 := hidOf (F7.out.below b9)
          have K9 : Hid (KidsAt w9 a9 us) := hidOf (.of_own o9)
          clear q c0 c1 c2 c3 c4 hpl o9 b9 F7 K7 X7
          go_wp2
          go_roundw
          case rel => exact ⟨us, a9, c9, k + 1, bb, rfl, by go_num, rfl, by omega, HFR, K9, F9⟩
          case measure => simp [intOf]; omega
      · obtain ⟨rfl, A6⟩ := hq.no hT
        have F6 := hidOf (F5.out.below A6)
        have K6 := hidOf (K5.out.below A6 (Nat.le_refl _))
        have X6 := hidOf (X5.out.below A6)
        clear hq F5 K5 X5 A6
        obtain ⟨hpl, c0, c1, c2, c3, c4⟩ := F6.out.P.box
        have q := iNext_yes p l av cv vs w6 HD.out.few hvl (noLeast_right HD.out.right.rules) hr1 F6.out.P.inn K6.out (ok_inV HI.out)
        have HFR := hidOf (fr_next HI.out HRK.out)
        obtain ⟨us, hus⟩ : ∃ us, us = (nx p.rules vs).getD [] := ⟨_, rfl⟩
        obtain ⟨bb, hbb⟩ : ∃ bb, bb = (nx p.rules vs).isSome := ⟨_, rfl⟩
        rw [← hus, ← hbb] at q HFR
        clear hus hbb
        go_wp2_with fail
        refine q.mono ?_
        rintro e w9 ⟨b9, a9, c9, rfl, o9⟩
        have F9 := hidOf (F6.out.below b9)
        have K9 : Hid (KidsAt w9 a9 us) := hidOf (.of_own o9)
        clear q c0 c1 c2 c3 c4 hpl o9 b9 F6 K6 X6
        go_wp2
        go_roundw
        case rel => exact ⟨us, a9, c9, k + 1, bb, rfl, by go_num, rfl, by omega, HFR, K9, F9⟩
        case measure => simp [intOf]; omega
    · have HKT := hidOf hkt
      clear hkt HR HK
      have hs0 := HF.out.bel.size
      go_wp2_with fail
      refine (drawBe_any w.heap.size _ a len cap (HC.out.below HF.out.bel) hs0).mono ?_
      rintro e w5 ⟨x, lx, mm, rfl, hFx, ox, b5⟩
      have HXC := hidOf (capOf ox.o2)
      obtain ⟨us, o2, s2, b1, hus, qS, qI, -⟩ := best_key x mm hFx.few
      clear hFx
      go_wp2_with fail
      obtain ⟨W5, hW5, X5, b5', S5⟩ := boxed w5 x lx 29
      rw [← hW5]
      have A5 := b5.trans (b5'.mono b5.size)
      have F5 := hidOf (HF.out.below A5)
      have IX : Pb W5 w5.heap.size x lx := ⟨X5, ox.is.below b5' (Nat.le_refl _)⟩
      obtain ⟨xb, hxb⟩ : ∃ xb, xb = w5.heap.size := ⟨_, rfl⟩
      rw [← hxb] at IX ⊢
      clear hW5 X5 b5' S5 A5 hxb ox b5 HF hs0
      refine (qI lx _ HXC.out IX.inn).mono ?_
      rintro e w6 ⟨b6, a6, c6, rfl, o6⟩
      clear qI HXC
      go_upto_region 19 with fail
      obtain ⟨W6, hW6, C6, b6', S6⟩ := cb_new w6 o2 s2 coT
      rw [← hW6]
      have A6 := b6.trans (b6'.mono b6.size)
      obtain ⟨cb2, hcb⟩ : ∃ cb2, cb2 = w6.heap.size := ⟨_, rfl⟩
      rw [← hcb] at C6 ⊢
      have F6 := hidOf (F5.out.below A6)
      have IX6 := IX.below A6
      have U6 : Hid (KidsAt W6 a6 us) := hidOf ((KidsAt.of_own o6).below b6' (Nat.le_refl _))
      have HC6 := hidOf C6
      clear hW6 b6' S6 A6 hcb C6 F5 IX o6 b6
      obtain ⟨hxl, c0, c1, c2, c3, c4⟩ := IX6.box
      go_wp2_with fail
      refine (qS lx _ IX6.inn).mono ?_
      rintro e w7 ⟨b7, a7, c7, rfl, o7⟩
      clear qS c0 c1 c2 c3 c4 hxl IX6
      go_upto_region 20 with fail
      obtain ⟨W7, hW7, C7, b7', S7⟩ := cb_new w7 o2 s2 coT
      rw [← hW7]
      have A7 := b7.trans (b7'.mono b7.size)
      obtain ⟨cb3, hcb⟩ : ∃ cb3, cb3 = w7.heap.size := ⟨_, rfl⟩
      rw [← hcb] at C7 ⊢
      have F7 := hidOf (F6.out.below A7)
      have U7 := hidOf (U6.out.below A7 (Nat.le_refl _))
      have HC7 := hidOf (HC6.out.below A7)
      have V7 : Hid (KidsAt W7 a7 us) := hidOf ((KidsAt.of_own o7).below b7' (Nat.le_refl _))
      have HD7 := hidOf C7
      clear hW7 b7' S7 A7 hcb C7 F6 U6 HC6 o7 b7
      have hs7 := F7.out.bel.size
      go_wp2_with fail
      refine (drawNx_any w.heap.size _ a len cap (HC.out.below F7.out.bel) hs7).mono ?_
      rintro e w8 ⟨z, lz, ns, az, cz, rfl, hFz, hzl, oz, vz, b8⟩
      obtain ⟨zs, b2, hzs, qNI, qNS⟩ := next_key z ns hFz.few (by omega) hFz.nol hFz.r1 hFz.r9
      clear hFz
      go_wp2_with fail
      obtain ⟨W8, hW8, X8, b8', S8⟩ := boxed w8 z lz 29
      rw [← hW8]
      have A8 := b8.trans (b8'.mono b8.size)
      have F8 := hidOf (F7.out.below A8)
      have U8 := hidOf (U7.out.below A8 (Nat.le_refl _))
      have HC8 := hidOf (HC7.out.below A8)
      have V8 := hidOf (V7.out.below A8 (Nat.le_refl _))
      have HD8 := hidOf (HD7.out.below A8)
      have IZ : Pb W8 w8.heap.size z lz := ⟨X8, oz.is.below b8' (Nat.le_refl _)⟩
      have KZ : KidsAt W8 az ns := (KidsAt.of_own vz).below b8' (Nat.le_refl _)
      obtain ⟨zb, hzb⟩ : ∃ zb, zb = w8.heap.size := ⟨_, rfl⟩
      rw [← hzb] at IZ ⊢
      clear hW8 X8 b8' S8 A8 hzb oz vz b8 F7 U7 HC7 V7 HD7 hs7
      refine (qNI lz az cz _ IZ.inn KZ).mono ?_
      rintro e w9 ⟨b9, a9, c9, rfl, o9⟩
      have IZ9 := IZ.below b9
      have KZ9 := KZ.below b9 (Nat.le_refl _)
      clear qNI IZ KZ
      obtain ⟨hzl2, c0, c1, c2, c3, c4⟩ := IZ9.box
      go_wp2_with fail
      refine (qNS lz az cz _ IZ9.inn KZ9).mono ?_
      rintro e w10 ⟨b10, a10, c10, rfl, o10⟩
      have A10 := b9.trans (b10.mono b9.size)
      have S10 : Hid (QS w w10 pb p l ab bs cb o s cb2 cb3 o2 s2 a6 a7 us a9 a10 zs) := hidOf (by
        have h := F8.out.below A10
        exact ⟨h.bel, h.P, h.D, h.C, HC8.out.below A10, HD8.out.below A10, U8.out.below A10 (Nat.le_refl _), V8.out.below A10 (Nat.le_refl _), (KidsAt.of_own o9).below b10 (Nat.le_refl _), .of_own o10⟩)
      clear qNS c0 c1 c2 c3 c4 hzl2 IZ9 KZ9 F8 U8 HC8 V8 HD8 A10 b9 b10 o9 o10
      have hbl2 : bs.length ≤ 1048576 := by rw [HBL.out]; omega
      have qT := fun W hP hK => sTie_any p l ab cbs bs W HD.out.few hbl2 (noLeast_right HD.out.right.rules) hP hK
      have qC := fun W hP hK => sCost_yes p l ab cbs bs y W HD.out.few hbl2 hP hK HD.out.right HB.out.ties.vals
      unfold CoAns at qC
      rw [← HO.out, ← HS.out] at qC
      have HCnt : Hid (((k : Nat) : Int) = cntOf p) := hidOf (by rw [cnt_tot HD.out.right]; exact HKT.out)
      have hG1 := coGuard o s o s
      have hG2 := coGuard o2 s2 o2 s2
      have hE1 := coEql o s
      have hE2 := coEql o2 s2
      have hB1 : (b1 == b1) = true := by simp
      have hB2 : (b2 == b2) = true := by simp
      have hKK : ((k : Int) == (k : Int)) = true := by simp
      go_wp2
      refine wp_region_guards (by kernel_rfl) (fun W => QS w W pb p l ab bs cb o s cb2 cb3 o2 s2 a6 a7 us a9 a10 zs) (fun W W' => Below W.heap.size W W') (bstPost p l ab bs cbs k y o s b1 us a6 c6 a7 c7 o2 s2 zs a9 c9 a10 c10 b2) (S10.out.below (Below.refl _ _).drew) (by kernel_rfl) (fun k v W W' h _ hst => bstPost_stab k v W W' h) ?_ ?_
      case refine_1 =>
        intro kk oo hk a W hI hsz hfix hdep
        clear S10
        match kk, hk with
        | 0, hk =>
          cases hk
          refine .inl ⟨wanted_none rfl, fun K hK => ?_⟩
          have e7 : a.tmps.getD 7 undef = .bool true := hfix 7 (by kernel_rfl)
          refine wp_value (v := .bool true) (w' := W) ?_ (hK _ _ (by simp) hI (Below.refl _ _) rfl)
          clear hfix hdep hK hk hsz
          go_simp
        | 1, hk =>
          cases hk
          refine .inl ⟨wanted_none rfl, fun K hK => ?_⟩
          have e119 : a.tmps.getD 119 undef = .bool true := hdep 0 _ rfl (by kernel_rfl)
          refine wp_value (v := .bool true) (w' := W) ?_ (hK _ _ (by simp) hI (Below.refl _ _) rfl)
          clear hfix hdep hK hk hsz
          go_simp
        | 2, hk =>
          cases hk
          refine .inl ⟨?hg, fun K hK => ?_⟩
          case hg => exact wanted_is (c := true) (b := true) rfl rfl rfl (hdep 1 _ rfl (by kernel_rfl))
          have e9 : a.tmps.getD 9 undef = .int .i64 k := hfix 9 (by kernel_rfl)
          refine wp_value (v := .int .i64 k) (w' := W) ?_ (hK _ _ (by simp) hI (Below.refl _ _) rfl)
          clear hfix hdep hK hk hsz
          go_simp
        | 3, hk =>
          cases hk
          refine .inl ⟨?hg, fun K hK => ?_⟩
          case hg => exact wanted_is (c := true) (b := true) rfl rfl rfl (hdep 1 _ rfl (by kernel_rfl))
          have e3 : a.tmps.getD 3 undef = .pointer (some ⟨pb, 0, none⟩) := hfix 3 (by kernel_rfl)
          obtain ⟨hpl, c0, c1, c2, c3, c4⟩ := hI.P.box
          refine wp_value (v := pcV p l) (w' := W) ?_ (hK _ _ (by simp) hI (Below.refl _ _) rfl)
          clear hfix hdep hK hk hsz
          go_simp
        | 4, hk =>
          cases hk
          refine .inl ⟨?hg, fun K hK => ?_⟩
          case hg => exact wanted_is (c := true) (b := true) rfl rfl rfl (hdep 1 _ rfl (by kernel_rfl))
          have e122 : a.tmps.getD 122 undef = pcV p l := hdep 3 _ rfl (by kernel_rfl)
          have hcon := sCnt_any p l W HD.out.few.rules hI.P.inn.rules
          refine wp_calls 26 #[pcV p l] ?_ hcon ?_
          · clear hfix hdep hK hk hsz hcon
            go_simp
            try rfl
          · rintro e W2 ⟨rfl, A⟩
            exact ⟨_, rfl, hK _ _ (by simp) (hI.below A) A (congrArg (Value.int .i64) HCnt.out.symm)⟩
        | 5, hk =>
          cases hk
          refine .inl ⟨?hg, fun K hK => ?_⟩
          case hg => exact wanted_is (c := true) (b := true) rfl rfl rfl (hdep 1 _ rfl (by kernel_rfl))
          have e121 : a.tmps.getD 121 undef = .int .i64 k := hdep 2 _ rfl (by kernel_rfl)
          have e123 : a.tmps.getD 123 undef = .int .i64 k := hdep 4 _ rfl (by kernel_rfl)
          refine wp_value (v := .bool true) (w' := W) ?_ (hK _ _ (by simp) hI (Below.refl _ _) rfl)
          clear hfix hdep hK hk hsz
          go_simp
        | 6, hk =>
          cases hk
          refine .inl ⟨wanted_none rfl, fun K hK => ?_⟩
          have e120 : a.tmps.getD 120 undef = .bool true := hdep 1 _ rfl (by kernel_rfl)
          have e124 : a.tmps.getD 124 undef = .bool true := hdep 5 _ rfl (by kernel_rfl)
          refine wp_value (v := .bool true) (w' := W) ?_ (hK _ _ (by simp) hI (Below.refl _ _) rfl)
          clear hfix hdep hK hk hsz
          go_simp
        | 7, hk =>
          cases hk
          refine .inl ⟨wanted_none rfl, fun K hK => ?_⟩
          have e125 : a.tmps.getD 125 undef = .bool true := hdep 6 _ rfl (by kernel_rfl)
          refine wp_value (v := .bool true) (w' := W) ?_ (hK _ _ (by simp) hI (Below.refl _ _) rfl)
          clear hfix hdep hK hk hsz
          go_simp
        | 8, hk =>
          cases hk
          refine .inl ⟨?hg, fun K hK => ?_⟩
          case hg => exact wanted_is (c := true) (b := true) rfl rfl rfl (hdep 7 _ rfl (by kernel_rfl))
          have e3 : a.tmps.getD 3 undef = .pointer (some ⟨pb, 0, none⟩) := hfix 3 (by kernel_rfl)
          obtain ⟨hpl, c0, c1, c2, c3, c4⟩ := hI.P.box
          refine wp_value (v := pcV p l) (w' := W) ?_ (hK _ _ (by simp) hI (Below.refl _ _) rfl)
          clear hfix hdep hK hk hsz
          go_simp
        | 9, hk =>
          cases hk
          refine .inl ⟨?hg, fun K hK => ?_⟩
          case hg => exact wanted_is (c := true) (b := true) rfl rfl rfl (hdep 7 _ rfl (by kernel_rfl))
          have e5 : a.tmps.getD 5 undef = .slice ab bs.length cbs := hfix 5 (by kernel_rfl)
          refine wp_value (v := .slice ab bs.length cbs) (w' := W) ?_ (hK _ _ (by simp) hI (Below.refl _ _) rfl)
          clear hfix hdep hK hk hsz
          go_simp
        | 10, hk =>
          cases hk
          refine .inl ⟨?hg, fun K hK => ?_⟩
          case hg => exact wanted_is (c := true) (b := true) rfl rfl rfl (hdep 7 _ rfl (by kernel_rfl))
          have e127 : a.tmps.getD 127 undef = pcV p l := hdep 8 _ rfl (by kernel_rfl)
          have e128 : a.tmps.getD 128 undef = .slice ab bs.length cbs := hdep 9 _ rfl (by kernel_rfl)
          have hcon := qT W hI.P.inn hI.D
          refine wp_calls 22 #[pcV p l, .slice ab bs.length cbs] ?_ hcon ?_
          · clear hfix hdep hK hk hsz hcon
            go_simp
            try rfl
          · rintro e W2 hq
            obtain ⟨rfl, A⟩ := hq.yes HB.out.ties
            exact ⟨_, rfl, hK _ _ (by simp) (hI.below A) A rfl⟩
        | 11, hk =>
          cases hk
          refine .inl ⟨wanted_none rfl, fun K hK => ?_⟩
          have e126 : a.tmps.getD 126 undef = .bool true := hdep 7 _ rfl (by kernel_rfl)
          have e129 : a.tmps.getD 129 undef = .bool true := hdep 10 _ rfl (by kernel_rfl)
          refine wp_value (v := .bool true) (w' := W) ?_ (hK _ _ (by simp) hI (Below.refl _ _) rfl)
          clear hfix hdep hK hk hsz
          go_simp
        | 12, hk =>
          cases hk
          refine .inl ⟨wanted_none rfl, fun K hK => ?_⟩
          have e130 : a.tmps.getD 130 undef = .bool true := hdep 11 _ rfl (by kernel_rfl)
          refine wp_value (v := .bool true) (w' := W) ?_ (hK _ _ (by simp) hI (Below.refl _ _) rfl)
          clear hfix hdep hK hk hsz
          go_simp
        | 13, hk =>
          cases hk
          refine .inl ⟨?hg, fun K hK => ?_⟩
          case hg => exact wanted_is (c := true) (b := true) rfl rfl rfl (hdep 12 _ rfl (by kernel_rfl))
          have e6 : a.tmps.getD 6 undef = .pointer (some ⟨cb, 0, none⟩) := hfix 6 (by kernel_rfl)
          obtain ⟨hpl, c0, c1⟩ := hI.C
          refine wp_value (v := .agg #[.int .i64 o, .int .i64 s]) (w' := W) ?_ (hK _ _ (by simp) hI (Below.refl _ _) rfl)
          clear hfix hdep hK hk hsz
          go_simp
        | 14, hk =>
          cases hk
          refine .inl ⟨?hg, fun K hK => ?_⟩
          case hg => exact wanted_is (c := true) (b := true) rfl rfl rfl (hdep 12 _ rfl (by kernel_rfl))
          have e3 : a.tmps.getD 3 undef = .pointer (some ⟨pb, 0, none⟩) := hfix 3 (by kernel_rfl)
          obtain ⟨hpl, c0, c1, c2, c3, c4⟩ := hI.P.box
          refine wp_value (v := pcV p l) (w' := W) ?_ (hK _ _ (by simp) hI (Below.refl _ _) rfl)
          clear hfix hdep hK hk hsz
          go_simp
        | 15, hk =>
          cases hk
          refine .inl ⟨?hg, fun K hK => ?_⟩
          case hg => exact wanted_is (c := true) (b := true) rfl rfl rfl (hdep 12 _ rfl (by kernel_rfl))
          have e5 : a.tmps.getD 5 undef = .slice ab bs.length cbs := hfix 5 (by kernel_rfl)
          refine wp_value (v := .slice ab bs.length cbs) (w' := W) ?_ (hK _ _ (by simp) hI (Below.refl _ _) rfl)
          clear hfix hdep hK hk hsz
          go_simp
        | 16, hk =>
          cases hk
          refine .inl ⟨?hg, fun K hK => ?_⟩
          case hg => exact wanted_is (c := true) (b := true) rfl rfl rfl (hdep 12 _ rfl (by kernel_rfl))
          have e4 : a.tmps.getD 4 undef = .int .i64 y := hfix 4 (by kernel_rfl)
          refine wp_value (v := .int .i64 y) (w' := W) ?_ (hK _ _ (by simp) hI (Below.refl _ _) rfl)
          clear hfix hdep hK hk hsz
          go_simp
        | 17, hk =>
          cases hk
          refine .inl ⟨?hg, fun K hK => ?_⟩
          case hg => exact wanted_is (c := true) (b := true) rfl rfl rfl (hdep 12 _ rfl (by kernel_rfl))
          have e133 : a.tmps.getD 133 undef = pcV p l := hdep 14 _ rfl (by kernel_rfl)
          have e134 : a.tmps.getD 134 undef = .slice ab bs.length cbs := hdep 15 _ rfl (by kernel_rfl)
          have e135 : a.tmps.getD 135 undef = .int .i64 y := hdep 16 _ rfl (by kernel_rfl)
          have hcon := qC W hI.P.inn hI.D
          refine wp_calls 31 #[pcV p l, .slice ab bs.length cbs, .int .i64 y] ?_ hcon ?_
          · clear hfix hdep hK hk hsz hcon
            go_simp
            try rfl
          · rintro e W2 ⟨rfl, A⟩
            exact ⟨_, rfl, hK _ _ (by simp) (hI.below A) A rfl⟩
        | 18, hk =>
          cases hk
          refine .inl ⟨?hg, fun K hK => ?_⟩
          case hg => exact wanted_is (c := true) (b := true) rfl rfl rfl (hdep 12 _ rfl (by kernel_rfl))
          have e132 : a.tmps.getD 132 undef = .agg #[.int .i64 o, .int .i64 s] := hdep 13 _ rfl (by kernel_rfl)
          have e136 : a.tmps.getD 136 undef = .agg #[.int .i64 o, .int .i64 s] := hdep 17 _ rfl (by kernel_rfl)
          refine wp_value (v := .bool true) (w' := W) ?_ (hK _ _ (by simp) hI (Below.refl _ _) rfl)
          clear hfix hdep hK hk hsz
          go_simp
        | 19, hk =>
          cases hk
          refine .inl ⟨wanted_none rfl, fun K hK => ?_⟩
          have e131 : a.tmps.getD 131 undef = .bool true := hdep 12 _ rfl (by kernel_rfl)
          have e137 : a.tmps.getD 137 undef = .bool true := hdep 18 _ rfl (by kernel_rfl)
          refine wp_value (v := .bool true) (w' := W) ?_ (hK _ _ (by simp) hI (Below.refl _ _) rfl)
          clear hfix hdep hK hk hsz
          go_simp
        | 20, hk =>
          cases hk
          refine .inl ⟨wanted_none rfl, fun K hK => ?_⟩
          have e138 : a.tmps.getD 138 undef = .bool true := hdep 19 _ rfl (by kernel_rfl)
          refine wp_value (v := .bool true) (w' := W) ?_ (hK _ _ (by simp) hI (Below.refl _ _) rfl)
          clear hfix hdep hK hk hsz
          go_simp
        | 21, hk =>
          cases hk
          refine .inl ⟨?hg, fun K hK => ?_⟩
          case hg => exact wanted_is (c := true) (b := true) rfl rfl rfl (hdep 20 _ rfl (by kernel_rfl))
          have e18 : a.tmps.getD 18 undef = .bool b1 := hfix 18 (by kernel_rfl)
          refine wp_value (v := .bool b1) (w' := W) ?_ (hK _ _ (by simp) hI (Below.refl _ _) rfl)
          clear hfix hdep hK hk hsz
          go_simp
        | 22, hk =>
          cases hk
          refine .inl ⟨?hg, fun K hK => ?_⟩
          case hg => exact wanted_is (c := true) (b := true) rfl rfl rfl (hdep 20 _ rfl (by kernel_rfl))
          have e21 : a.tmps.getD 21 undef = .bool b1 := hfix 21 (by kernel_rfl)
          refine wp_value (v := .bool b1) (w' := W) ?_ (hK _ _ (by simp) hI (Below.refl _ _) rfl)
          clear hfix hdep hK hk hsz
          go_simp
        | 23, hk =>
          cases hk
          refine .inl ⟨?hg, fun K hK => ?_⟩
          case hg => exact wanted_is (c := true) (b := true) rfl rfl rfl (hdep 20 _ rfl (by kernel_rfl))
          have e140 : a.tmps.getD 140 undef = .bool b1 := hdep 21 _ rfl (by kernel_rfl)
          have e141 : a.tmps.getD 141 undef = .bool b1 := hdep 22 _ rfl (by kernel_rfl)
          refine wp_value (v := .bool true) (w' := W) ?_ (hK _ _ (by simp) hI (Below.refl _ _) rfl)
          clear hfix hdep hK hk hsz
          go_simp
        | 24, hk =>
          cases hk
          refine .inl ⟨wanted_none rfl, fun K hK => ?_⟩
          have e139 : a.tmps.getD 139 undef = .bool true := hdep 20 _ rfl (by kernel_rfl)
          have e142 : a.tmps.getD 142 undef = .bool true := hdep 23 _ rfl (by kernel_rfl)
          refine wp_value (v := .bool true) (w' := W) ?_ (hK _ _ (by simp) hI (Below.refl _ _) rfl)
          clear hfix hdep hK hk hsz
          go_simp
        | 25, hk =>
          cases hk
          refine .inl ⟨wanted_none rfl, fun K hK => ?_⟩
          have e143 : a.tmps.getD 143 undef = .bool true := hdep 24 _ rfl (by kernel_rfl)
          refine wp_value (v := .bool true) (w' := W) ?_ (hK _ _ (by simp) hI (Below.refl _ _) rfl)
          clear hfix hdep hK hk hsz
          go_simp
        | 26, hk =>
          cases hk
          refine .inl ⟨?hg, fun K hK => ?_⟩
          case hg => exact wanted_is (c := true) (b := true) rfl rfl rfl (hdep 25 _ rfl (by kernel_rfl))
          have e17 : a.tmps.getD 17 undef = .pointer (some ⟨cb2, 0, none⟩) := hfix 17 (by kernel_rfl)
          obtain ⟨hpl, c0, c1⟩ := hI.C2
          refine wp_value (v := .agg #[.int .i64 o2, .int .i64 s2]) (w' := W) ?_ (hK _ _ (by simp) hI (Below.refl _ _) rfl)
          clear hfix hdep hK hk hsz
          go_simp
        | 27, hk =>
          cases hk
          refine .inl ⟨?hg, fun K hK => ?_⟩
          case hg => exact wanted_is (c := true) (b := true) rfl rfl rfl (hdep 25 _ rfl (by kernel_rfl))
          have e20 : a.tmps.getD 20 undef = .pointer (some ⟨cb3, 0, none⟩) := hfix 20 (by kernel_rfl)
          obtain ⟨hpl, c0, c1⟩ := hI.C3
          refine wp_value (v := .agg #[.int .i64 o2, .int .i64 s2]) (w' := W) ?_ (hK _ _ (by simp) hI (Below.refl _ _) rfl)
          clear hfix hdep hK hk hsz
          go_simp
        | 28, hk =>
          cases hk
          refine .inl ⟨?hg, fun K hK => ?_⟩
          case hg => exact wanted_is (c := true) (b := true) rfl rfl rfl (hdep 25 _ rfl (by kernel_rfl))
          have e145 : a.tmps.getD 145 undef = .agg #[.int .i64 o2, .int .i64 s2] := hdep 26 _ rfl (by kernel_rfl)
          have e146 : a.tmps.getD 146 undef = .agg #[.int .i64 o2, .int .i64 s2] := hdep 27 _ rfl (by kernel_rfl)
          refine wp_value (v := .bool true) (w' := W) ?_ (hK _ _ (by simp) hI (Below.refl _ _) rfl)
          clear hfix hdep hK hk hsz
          go_simp
        | 29, hk =>
          cases hk
          refine .inl ⟨wanted_none rfl, fun K hK => ?_⟩
          have e144 : a.tmps.getD 144 undef = .bool true := hdep 25 _ rfl (by kernel_rfl)
          have e147 : a.tmps.getD 147 undef = .bool true := hdep 28 _ rfl (by kernel_rfl)
          refine wp_value (v := .bool true) (w' := W) ?_ (hK _ _ (by simp) hI (Below.refl _ _) rfl)
          clear hfix hdep hK hk hsz
          go_simp
        | 30, hk =>
          cases hk
          refine .inl ⟨wanted_none rfl, fun K hK => ?_⟩
          have e148 : a.tmps.getD 148 undef = .bool true := hdep 29 _ rfl (by kernel_rfl)
          refine wp_value (v := .bool true) (w' := W) ?_ (hK _ _ (by simp) hI (Below.refl _ _) rfl)
          clear hfix hdep hK hk hsz
          go_simp
        | 31, hk =>
          cases hk
          refine .inl ⟨?hg, fun K hK => ?_⟩
          case hg => exact wanted_is (c := true) (b := true) rfl rfl rfl (hdep 30 _ rfl (by kernel_rfl))
          have e16 : a.tmps.getD 16 undef = .slice a6 us.length c6 := hfix 16 (by kernel_rfl)
          refine wp_value (v := .slice a6 us.length c6) (w' := W) ?_ (hK _ _ (by simp) hI (Below.refl _ _) rfl)
          clear hfix hdep hK hk hsz
          go_simp
        | 32, hk =>
          cases hk
          refine .inl ⟨?hg, fun K hK => ?_⟩
          case hg => exact wanted_is (c := true) (b := true) rfl rfl rfl (hdep 30 _ rfl (by kernel_rfl))
          have e19 : a.tmps.getD 19 undef = .slice a7 us.length c7 := hfix 19 (by kernel_rfl)
          refine wp_value (v := .slice a7 us.length c7) (w' := W) ?_ (hK _ _ (by simp) hI (Below.refl _ _) rfl)
          clear hfix hdep hK hk hsz
          go_simp
        | 33, hk =>
          cases hk
          refine .inl ⟨?hg, fun K hK => ?_⟩
          case hg => exact wanted_is (c := true) (b := true) rfl rfl rfl (hdep 30 _ rfl (by kernel_rfl))
          have e150 : a.tmps.getD 150 undef = .slice a6 us.length c6 := hdep 31 _ rfl (by kernel_rfl)
          have e151 : a.tmps.getD 151 undef = .slice a7 us.length c7 := hdep 32 _ rfl (by kernel_rfl)
          have hcon := sameInts_any a6 a7 c6 c7 us W (by omega) hI.U hI.U2
          refine wp_calls 27 #[.slice a6 us.length c6, .slice a7 us.length c7] ?_ hcon ?_
          · clear hfix hdep hK hk hsz hcon
            go_simp
            try rfl
          · rintro e W2 ⟨rfl, A⟩
            exact ⟨_, rfl, hK _ _ (by simp) (hI.below A) A rfl⟩
        | 34, hk =>
          cases hk
          refine .inl ⟨wanted_none rfl, fun K hK => ?_⟩
          have e149 : a.tmps.getD 149 undef = .bool true := hdep 30 _ rfl (by kernel_rfl)
          have e152 : a.tmps.getD 152 undef = .bool true := hdep 33 _ rfl (by kernel_rfl)
          refine wp_value (v := .bool true) (w' := W) ?_ (hK _ _ (by simp) hI (Below.refl _ _) rfl)
          clear hfix hdep hK hk hsz
          go_simp
        | 35, hk =>
          cases hk
          refine .inl ⟨wanted_none rfl, fun K hK => ?_⟩
          have e153 : a.tmps.getD 153 undef = .bool true := hdep 34 _ rfl (by kernel_rfl)
          refine wp_value (v := .bool true) (w' := W) ?_ (hK _ _ (by simp) hI (Below.refl _ _) rfl)
          clear hfix hdep hK hk hsz
          go_simp
        | 36, hk =>
          cases hk
          refine .inl ⟨?hg, fun K hK => ?_⟩
          case hg => exact wanted_is (c := true) (b := true) rfl rfl rfl (hdep 35 _ rfl (by kernel_rfl))
          have e25 : a.tmps.getD 25 undef = .bool b2 := hfix 25 (by kernel_rfl)
          refine wp_value (v := .bool b2) (w' := W) ?_ (hK _ _ (by simp) hI (Below.refl _ _) rfl)
          clear hfix hdep hK hk hsz
          go_simp
        | 37, hk =>
          cases hk
          refine .inl ⟨?hg, fun K hK => ?_⟩
          case hg => exact wanted_is (c := true) (b := true) rfl rfl rfl (hdep 35 _ rfl (by kernel_rfl))
          have e27 : a.tmps.getD 27 undef = .bool b2 := hfix 27 (by kernel_rfl)
          refine wp_value (v := .bool b2) (w' := W) ?_ (hK _ _ (by simp) hI (Below.refl _ _) rfl)
          clear hfix hdep hK hk hsz
          go_simp
        | 38, hk =>
          cases hk
          refine .inl ⟨?hg, fun K hK => ?_⟩
          case hg => exact wanted_is (c := true) (b := true) rfl rfl rfl (hdep 35 _ rfl (by kernel_rfl))
          have e155 : a.tmps.getD 155 undef = .bool b2 := hdep 36 _ rfl (by kernel_rfl)
          have e156 : a.tmps.getD 156 undef = .bool b2 := hdep 37 _ rfl (by kernel_rfl)
          refine wp_value (v := .bool true) (w' := W) ?_ (hK _ _ (by simp) hI (Below.refl _ _) rfl)
          clear hfix hdep hK hk hsz
          go_simp
        | 39, hk =>
          cases hk
          refine .inl ⟨wanted_none rfl, fun K hK => ?_⟩
          have e154 : a.tmps.getD 154 undef = .bool true := hdep 35 _ rfl (by kernel_rfl)
          have e157 : a.tmps.getD 157 undef = .bool true := hdep 38 _ rfl (by kernel_rfl)
          refine wp_value (v := .bool true) (w' := W) ?_ (hK _ _ (by simp) hI (Below.refl _ _) rfl)
          clear hfix hdep hK hk hsz
          go_simp
        | 40, hk =>
          cases hk
          refine .inl ⟨wanted_none rfl, fun K hK => ?_⟩
          have e158 : a.tmps.getD 158 undef = .bool true := hdep 39 _ rfl (by kernel_rfl)
          refine wp_value (v := .bool true) (w' := W) ?_ (hK _ _ (by simp) hI (Below.refl _ _) rfl)
          clear hfix hdep hK hk hsz
          go_simp
        | 41, hk =>
          cases hk
          refine .inl ⟨?hg, fun K hK => ?_⟩
          case hg => exact wanted_is (c := true) (b := true) rfl rfl rfl (hdep 40 _ rfl (by kernel_rfl))
          have e24 : a.tmps.getD 24 undef = .slice a9 zs.length c9 := hfix 24 (by kernel_rfl)
          refine wp_value (v := .slice a9 zs.length c9) (w' := W) ?_ (hK _ _ (by simp) hI (Below.refl _ _) rfl)
          clear hfix hdep hK hk hsz
          go_simp
        | 42, hk =>
          cases hk
          refine .inl ⟨?hg, fun K hK => ?_⟩
          case hg => exact wanted_is (c := true) (b := true) rfl rfl rfl (hdep 40 _ rfl (by kernel_rfl))
          have e26 : a.tmps.getD 26 undef = .slice a10 zs.length c10 := hfix 26 (by kernel_rfl)
          refine wp_value (v := .slice a10 zs.length c10) (w' := W) ?_ (hK _ _ (by simp) hI (Below.refl _ _) rfl)
          clear hfix hdep hK hk hsz
          go_simp
        | 43, hk =>
          cases hk
          refine .inl ⟨?hg, fun K hK => ?_⟩
          case hg => exact wanted_is (c := true) (b := true) rfl rfl rfl (hdep 40 _ rfl (by kernel_rfl))
          have e160 : a.tmps.getD 160 undef = .slice a9 zs.length c9 := hdep 41 _ rfl (by kernel_rfl)
          have e161 : a.tmps.getD 161 undef = .slice a10 zs.length c10 := hdep 42 _ rfl (by kernel_rfl)
          have hcon := sameInts_any a9 a10 c9 c10 zs W (by omega) hI.V hI.V2
          refine wp_calls 27 #[.slice a9 zs.length c9, .slice a10 zs.length c10] ?_ hcon ?_
          · clear hfix hdep hK hk hsz hcon
            go_simp
            try rfl
          · rintro e W2 ⟨rfl, A⟩
            exact ⟨_, rfl, hK _ _ (by simp) (hI.below A) A rfl⟩
        | 44, hk =>
          cases hk
          refine .inl ⟨wanted_none rfl, fun K hK => ?_⟩
          have e159 : a.tmps.getD 159 undef = .bool true := hdep 40 _ rfl (by kernel_rfl)
          have e162 : a.tmps.getD 162 undef = .bool true := hdep 43 _ rfl (by kernel_rfl)
          refine wp_value (v := .bool true) (w' := W) ?_ (hK _ _ (by simp) hI (Below.refl _ _) rfl)
          clear hfix hdep hK hk hsz
          go_simp
        | 45, hk =>
          cases hk
          refine .inl ⟨wanted_none rfl, fun K hK => ?_⟩
          have e163 : a.tmps.getD 163 undef = .bool true := hdep 44 _ rfl (by kernel_rfl)
          refine wp_value (v := .bool true) (w' := W) ?_ (hK _ _ (by simp) hI (Below.refl _ _) rfl)
          clear hfix hdep hK hk hsz
          go_simp
        | k + 46, hk => cases hk
      case refine_2 =>
        intro a W hI hd hsz hfix hpost
        have e2 : a.tmps.getD 2 undef = .bool true := hpost 45 _ rfl
        have hd' : a.defers = [] := hd
        have hR : (results Try.f4 a.tmps).run Try.prog W = .ok (.bool true) W := by
          simp [results, Try.results4, go_sem]
          simpa using e2
        clear hpost hfix hsz hd
        have hB : bodyPost Try.prog Try.f4 (fun e w' => e = Ending.returned (Value.bool true) ∧ Below w.heap.size w w') .ret a W := bodyPost_ret hR hd' ⟨rfl, hI.bel⟩
        first
          | (dsimp only [Exit.then]; apply_assumption; exact wp_ret hB)
          | (go_wp2; exact hB)
          | (unfold Exit.then; dsimp only; apply_assumption; exact wp_ret hB)
end Go.Proofs.Ytokfemlcamnaaaa
