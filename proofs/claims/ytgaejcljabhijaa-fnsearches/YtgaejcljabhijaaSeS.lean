/- What spec.Search answers at a right piece. -/
import Derived.Test.YtgaejcljabhijaaKan
import Derived.Deep.CutBlock
namespace Go.Proofs.Ytgaejcljabhijaa
open Go.RowKit

set_option maxHeartbeats 16000000 in
set_option maxRecDepth 20000 in
theorem sSearch_yes (p : Pc) (l : Pl) (wd bud : Int) (w : World) (hbd : -9223372036854775808 ≤ bud ∧ bud ≤ 9223372036854775807) (hF : PcFew p) (hp : PcIn w p l) (h1 : Right p) :
    Calls Try.prog 16 #[pcV p l, .int .i64 wd, .int .i64 bud] w fun e w' => SeAns (srchOf p wd bud (allV p)) w e w' := by
  show Calls _ _ #[.agg #[.int .i64 p.indent, .slice l.a1 p.rules.length l.c1, .slice l.a2 p.chunks.length l.c2, .slice l.a3 p.spans.length l.c3, .slice l.a4 p.ties.length l.c4], _, _] _ _
  obtain ⟨W0, hW0, X0, B0, S0⟩ := boxed w p l 29
  have R0 : W0.heap[w.heap.size]? = some (.cells #[.int .i64 p.indent, .slice l.a1 p.rules.length l.c1, .slice l.a2 p.chunks.length l.c2, .slice l.a3 p.spans.length l.c3, .slice l.a4 p.ties.length l.c4] 29 (0, 0)) := by rw [hW0]; exact heap_alloc_new w _
  have hX : w.heap.size < W0.heap.size := by omega
  have hr8 := h1.rules.1
  have qO := sOk_any p l W0 hF (hp.below B0 (Nat.le_refl _))
  have qA := fun W (hb : Below w.heap.size w W) => sSpl_any p l W (by omega) (hp.below hb (Nat.le_refl _)).rules
  unfold pcV at qO qA
  obtain ⟨RR, hRR⟩ : ∃ RR, RR = srchOf p wd bud (allV p) := ⟨_, rfl⟩
  rw [← hRR]
  have HRR := hidOf hRR
  clear hRR S0
  have X1 := X0
  obtain ⟨-, c0, c1, c2, c3, c4⟩ := X0
  go_enter Try.func16, Try.ntmps16
  go_wp2_with fail
  rw [← hW0]
  clear hW0
  refine qO.mono ?_
  rintro e w1 hq
  obtain ⟨rfl, b1⟩ := hq.yes h1
  clear hq qO c0 c1 c2 c3 c4
  obtain ⟨-, c0, c1, c2, c3, c4⟩ := X1.below b1 hX
  have B1 := B0.trans (b1.mono B0.size)
  go_wp2_with fail
  refine (qA _ B1).mono ?_
  rintro e w2 ⟨b2, ba, bc, rfl, o2⟩
  have A2 := b1.trans (b2.mono b1.size)
  have B2 := B0.trans (A2.mono B0.size)
  clear c0 c1 c2 c3 c4 qA
  obtain ⟨-, c0, c1, c2, c3, c4⟩ := X1.below A2 hX
  have hvl : (allV p).length ≤ 1048576 := by rw [allV_len]; omega
  have qC := sCostR_any p l ba bc (allV p) wd w2 hF hvl (hp.below B2 (Nat.le_refl _)) (.of_own o2) h1 (allR_ok h1)
  unfold pcV coV at qC
  go_wp2_with fail
  refine qC.mono ?_
  rintro e w3 ⟨rfl, b3⟩
  have A3 := A2.trans (b3.mono A2.size)
  have B3 := B0.trans (A3.mono B0.size)
  have o3 := owns_below o2 b3
  have R3 := keep_bel (keep_bel (keep_bel R0 b1) b2) b3
  clear c0 c1 c2 c3 c4 qC X1 o2 b3 R0
  go_upto_region 7 with fail
  obtain ⟨Wa, hWa⟩ : ∃ W, W = w3.alloc (.cells #[.int .i64 (costOver p (allV p) wd), .int .i64 (costSum p (allV p))] 37) := ⟨_, rfl⟩
  have ya : Below w3.heap.size w3 Wa := by rw [hWa]; exact (Below.refl _ _).alloc (Nat.le_refl _) _
  have Ra : Wa.heap[w3.heap.size]? = some (.cells #[.int .i64 (costOver p (allV p) wd), .int .i64 (costSum p (allV p))] 37 (0, 0)) := by rw [hWa]; exact heap_alloc_new w3 _
  have sa : Wa.heap.size = w3.heap.size + 1 := by rw [hWa]; simp
  obtain ⟨Wb, hWb⟩ : ∃ W, W = Wa.alloc (.cells #[] 3) := ⟨_, rfl⟩
  have yb : Below Wa.heap.size Wa Wb := by rw [hWb]; exact (Below.refl _ _).alloc (Nat.le_refl _) _
  have Rb : Wb.heap[w3.heap.size + 1]? = some (.cells #[] 3 (0, 0)) := by rw [hWb, ← sa]; exact heap_alloc_new Wa _
  have sb : Wb.heap.size = w3.heap.size + 1 + 1 := by rw [hWb]; simp [sa]
  obtain ⟨W4, hW4⟩ : ∃ W, W = Wb.alloc (.cells #[.slice (some ⟨w3.heap.size + 1, 0, none⟩) 0 0, .int .i64 0] 74) := ⟨_, rfl⟩
  have y4 : Below Wb.heap.size Wb W4 := by rw [hW4]; exact (Below.refl _ _).alloc (Nat.le_refl _) _
  have R4 : W4.heap[w3.heap.size + 1 + 1]? = some (.cells #[.slice (some ⟨w3.heap.size + 1, 0, none⟩) 0 0, .int .i64 0] 74 (0, 0)) := by rw [hW4, ← sb]; exact heap_alloc_new Wb _
  rw [← hWa, ← hWb, ← hW4]
  have Rb4 := keep_bel Rb y4
  have S4 : Ss w w.heap.size w3.heap.size p l wd W4 (some ⟨w3.heap.size + 1 + 1, 0, none⟩) 1 [⟨⟨[], 0⟩, some ⟨w3.heap.size + 1, 0, none⟩, 0⟩] ba bc (allV p) :=
    ⟨keep_bel (keep_bel (keep_bel R3 ya) yb) y4, keep_bel (keep_bel Ra yb) y4, own_first (by have := B3.size; omega) R4 rfl ⟨rfl, .inr ⟨w3.heap.size + 1, 0, #[], rfl, by have := B3.size; omega, Rb4, Nat.le_refl _, by unfold maxLen; omega, rfl, rfl⟩⟩,
      ownsRow_base (owns_below (owns_below (owns_below o3 ya) yb) y4) B1.size, B3.trans (((ya.trans (yb.mono ya.size)).trans (y4.mono (Nat.le_trans ya.size yb.size))).mono B3.size), B3.size⟩
  obtain ⟨cb, hcb⟩ : ∃ cb, cb = w3.heap.size := ⟨_, rfl⟩
  obtain ⟨vb, hvb⟩ : ∃ vb, vb = cb + 1 := ⟨_, rfl⟩
  obtain ⟨gb, hgb⟩ : ∃ gb, gb = vb + 1 := ⟨_, rfl⟩
  rw [← hcb, ← hvb, ← hgb] at S4
  rw [← hcb, ← hvb, ← hgb]
  have HS4 := hidOf S4
  have HL2 := hidOf (left_start h1)
  have HI2 := hidOf (srch_start (wd := wd) (allR_ties h1))
  clear hcb hvb hgb hWa hWb hW4 ya yb y4 Ra Rb R4 Rb4 sa sb R3 o3 S4 b1 b2
  go_loopw [8, 10, 11] (fun vb vh vp wr => ∃ (k : Nat) (a : Option Addr) (c : Nat) (qs : List Sp) (ba : Option Addr) (bc : Nat) (bs : List Int), vb = .slice ba bs.length bc ∧ vh = .slice a qs.length c ∧ vp = .int .i64 k ∧ k ≤ 13200 ∧ Hid (Ss w w.heap.size cb p l wd wr a c qs ba bc bs) ∧ Hid (SInv p wd (qs.map Sp.st) bs) ∧ Hid (leftOf p (qs.map Sp.st) + k ≤ 2 * cntOf p - 1) ∧ Hid (k ≤ bud.toNat) ∧ Hid (srch p wd (bud.toNat - k) (qs.map Sp.st) bs = RR)) (fun _ _ v _ => 14000 - (intOf v).toNat)
  case atStart => exact ⟨0, _, 1, [⟨⟨[], 0⟩, some ⟨vb, 0, none⟩, 0⟩], ba, bc, allV p, rfl, rfl, rfl, by omega, HS4, hidOf HI2.out, hidOf (by have := HL2.out; show leftOf p [⟨[], 0⟩] + _ ≤ _; omega), hidOf (Nat.zero_le _), hidOf (by rw [HRR.out]; rfl)⟩
  case round =>
    clear HS4
    obtain ⟨k, a, c, qs, ba, bc, bs, rfl, rfl, rfl, hk, HS, HI, HL, HKB, HR⟩ := hrel
    have X := HS.out
    have hq13 := room_of h1 (h := qs.map Sp.st) (by have := HL.out; omega)
    rw [List.length_map] at hq13
    have hbl : bs.length ≤ 1048576 := by rw [HI.out.tie.vals.len]; omega
    by_cases h0 : qs.length = 0
    · have hg0 : ¬ (qs.length : Int) > 0 := by omega
      have hqs : qs = [] := List.eq_nil_of_length_eq_zero h0
      have ER := hidOf (show RR = (bs, 1) by rw [← HR.out, hqs]; exact srch_none p wd _ bs)
      have By : Below wr.heap.size wr (wr.alloc (.cells #[] 3)) := (Below.refl _ _).alloc (Nat.le_refl _) _
      clear h0 hqs
      go_wp2_with (at_builtin; refine wpList_copyInt rfl _ _ rfl _ w.heap.size wr.heap.size X.wlow (heap_alloc_new wr _) ba bc bs rfl rfl ((KidsAt.of_own X.best).below By (Nat.le_refl _)) hbl ?_; intro a' c' w5 hown hg5)
      go_ret2
      rw [ER.out]
      exact ⟨X.bel.trans ((By.grown hg5 By.size (fun k e => by cases e)).mono X.bel.size), a', c', rfl, hown⟩
    · have hg0 : (qs.length : Int) > 0 := by omega
      have hne : qs.map Sp.st ≠ [] := fun e => h0 (by have := congrArg List.length e; simpa using this)
      by_cases hkb : (k : Int) ≥ bud
      · have ER := hidOf (show RR = (bs, 2) by rw [← HR.out, show bud.toNat - k = 0 by omega]; exact srch_stop p wd _ bs hne)
        go_wp2
        go_ret2
        rw [ER.out]
        exact ⟨X.bel, ba, bc, rfl, X.best⟩
      · have hkb' : ¬ (k : Int) ≥ bud := hkb
        have hl1 := HL.out
        have HN := hidOf (HI.out.next h1 hne)
        have HLN := hidOf (show leftOf p (stepH p wd (qs.map Sp.st) bs) + ((k + 1 : Nat) : Int) ≤ 2 * cntOf p - 1 by have := left_next (wd := wd) h1 HI.out hne; omega)
        have HRN := hidOf (show srch p wd (bud.toNat - (k + 1)) (stepH p wd (qs.map Sp.st) bs) (stepB p wd (qs.map Sp.st) bs) = RR by
          rw [← srch_one hne, show bud.toNat - (k + 1) + 1 = bud.toNat - k by omega]
          exact HR.out)
        have hk2 : k + 1 ≤ 13200 := by
          have h5 := len_left h1 (qs.map Sp.st)
          have h6 := left_le h1
          omega
        have HKB2 := hidOf (show k + 1 ≤ bud.toNat by omega)
        have hfew : Few qs := few_pre h1 HI.out.pre
        obtain ⟨f, hf⟩ : ∃ f, qs[0]? = some f := ⟨_, List.getElem?_eq_getElem (by omega)⟩
        have hfs : (qs.map Sp.st)[0]? = some f.st := by rw [List.getElem?_map, hf]; rfl
        have hfm := List.mem_of_getElem? hfs
        have hpre := HI.out.pre f.st hfm
        have ER := hidOf (restL_map (lt := stLess) Sp.st qs)
        have EH := hidOf (hd0_of hfs)
        obtain ⟨g, rfl⟩ := owns_at X.own.row (by omega)
        have qP := sPop_gr w.heap.size g c (qs.length - 1) qs f wr (by omega) (by omega) hf hfew X.own X.wlow
        rw [show qs.length - 1 + 1 = qs.length by omega] at qP
        have hgl := (X.own.row.lt g rfl).2
        clear hl1
        go_wp2_with fail
        refine qP.mono ?_
        rintro e w5 ⟨rfl, O5, f5, G5⟩
        have S5 : Ss w w.heap.size cb p l wd w5 (some ⟨g, 0, none⟩) c (restL spLess qs) ba bc bs := X.turn G5 O5
        have hg5 : g < w5.heap.size := Nat.lt_of_lt_of_le hgl G5.size
        clear qP O5 G5 X
        go_upto_region 13 with fail
        have hln : qs.length - 1 = (restL spLess qs).length := (restL_len _).symm
        rw [hln]
        obtain ⟨rs, hrs⟩ : ∃ rs, rs = restL spLess qs := ⟨_, rfl⟩
        rw [← hrs]
        rw [← hrs] at S5
        have ER : Hid (rs.map Sp.st = restL stLess (qs.map Sp.st)) := hidOf (by rw [hrs]; exact ER.out)
        clear hln hrs
        obtain ⟨W6, hW6⟩ : ∃ W, W = w5.alloc (.cells #[.slice f.a f.st.vals.length f.c, .int .i64 f.st.sum] 74) := ⟨_, rfl⟩
        rw [← hW6]
        have b6 : Below w5.heap.size w5 W6 := by rw [hW6]; exact (Below.refl _ _).alloc (Nat.le_refl _) _
        have R6 : W6.heap[w5.heap.size]? = some (.cells #[.slice f.a f.st.vals.length f.c, .int .i64 f.st.sum] 74 (0, 0)) := by rw [hW6]; exact heap_alloc_new w5 _
        have T6 : Tx w w.heap.size cb p l wd W6 (some ⟨g, 0, none⟩) c rs ba bc bs w5.heap.size f := ⟨S5.more b6, R6, owns_below f5 b6, fun g' hg' e => by
          have : g = g' := by injection hg'
          omega⟩
        obtain ⟨tb, htb⟩ : ∃ tb, tb = w5.heap.size := ⟨_, rfl⟩
        rw [← htb] at T6
        rw [← htb]
        clear htb hW6 b6 R6 S5 f5 hg5 hgl
        obtain ⟨htl, t0, t1⟩ := T6.cells
        obtain ⟨hpl, c0, c1, c2, c3, c4⟩ := T6.ss.box
        by_cases hfull : f.st.vals.length = p.rules.length
        · have hg : ((f.st.vals.length : Int) == (p.rules.length : Int)) = true := by rw [hfull]; simp
          have hok := ok_inV (pre_in hpre hfull)
          have hfl : f.st.vals.length ≤ 1048576 := by omega
          have EB := hidOf (show stepB p wd (qs.map Sp.st) bs = bestB p wd f.st.vals bs by unfold stepB bestB; rw [EH.out, if_pos hfull])
          have ES := hidOf (show rs.map Sp.st = stepH p wd (qs.map Sp.st) bs by unfold stepH; rw [EH.out, if_pos hfull]; exact ER.out)
          have qC := sCostR_any p l f.a f.c f.st.vals wd W6 hF hfl (T6.ss.pc hp) (.of_own T6.own) h1 hok
          unfold pcV coV at qC
          obtain ⟨o1, ho1⟩ : ∃ o1, o1 = costOver p f.st.vals wd := ⟨_, rfl⟩
          obtain ⟨s1, hs1⟩ : ∃ s1, s1 = costSum p f.st.vals := ⟨_, rfl⟩
          rw [← ho1, ← hs1] at qC
          have HO1 := hidOf ho1
          have HS1 := hidOf hs1
          clear ho1 hs1 hfull
          go_wp2_with fail
          refine qC.mono ?_
          rintro e w7 ⟨rfl, b7⟩
          have T7 := T6.more b7
          clear qC t0 t1 c0 c1 c2 c3 c4 T6 htl hpl b7
          go_upto_region 16 with fail
          obtain ⟨W8, hW8⟩ : ∃ W, W = w7.alloc (.cells #[.int .i64 o1, .int .i64 s1] 37) := ⟨_, rfl⟩
          rw [← hW8]
          have b8 : Below w7.heap.size w7 W8 := by rw [hW8]; exact (Below.refl _ _).alloc (Nat.le_refl _) _
          have R8 : W8.heap[w7.heap.size]? = some (.cells #[.int .i64 o1, .int .i64 s1] 37 (0, 0)) := by rw [hW8]; exact heap_alloc_new w7 _
          have T8 := T7.more b8
          have hyc : w7.heap.size ≠ cb := by have := T7.ss.costs.1; omega
          obtain ⟨yb, hyb⟩ : ∃ yb, yb = w7.heap.size := ⟨_, rfl⟩
          rw [← hyb] at R8 hyc
          rw [← hyb]
          clear hyb hW8 T7 b8
          have y0 : W8.cell? ⟨yb, 0, none⟩ = some (.int .i64 o1) := cell_of_row W8 yb 0 _ _ _ R8
          have y1 : W8.cell? ⟨yb, 1, none⟩ = some (.int .i64 s1) := cell_of_row W8 yb 1 _ _ _ R8
          obtain ⟨hcl, d0, d1, -, -⟩ := T8.ss.costs
          obtain ⟨o2, ho2⟩ : ∃ o2, o2 = costOver p bs wd := ⟨_, rfl⟩
          obtain ⟨s2, hs2⟩ : ∃ s2, s2 = costSum p bs := ⟨_, rfl⟩
          rw [← ho2] at d0
          rw [← hs2] at d1
          have qL := sLess_any o1 s1 o2 s2 W8
          unfold coV at qL
          have hEQ := coEq o1 s1 o2 s2
          obtain ⟨b1, hb1⟩ : ∃ b1, b1 = lessC o1 s1 o2 s2 := ⟨_, rfl⟩
          obtain ⟨b2, hb2⟩ : ∃ b2, b2 = decide (o1 = o2 ∧ s1 = s2) := ⟨_, rfl⟩
          obtain ⟨cm, hcm⟩ : ∃ cm, cm = cmpL f.st.vals bs := ⟨_, rfl⟩
          obtain ⟨b3, hb3⟩ : ∃ b3, b3 = decide (cm < 0) := ⟨_, rfl⟩
          have HA : Hid (aheadB p wd f.st.vals bs = (b1 || (b2 && b3))) := hidOf (by
            unfold aheadB lessV
            rw [← HO1.out, ← HS1.out, ← ho2, ← hs2, ← hb1, ← hcm, ← hb3, hb2]
            congr 1
            rw [Bool.eq_iff_iff]
            simp [and_assoc])
          rw [← hb1] at qL
          rw [← hb2] at hEQ
          have HO2 := hidOf ho2
          have HS2 := hidOf hs2
          have HCM := hidOf hcm
          have HB3 : decide (cm < 0) = b3 := hb3.symm
          clear hb1 hb2 hcm hb3 ho2 hs2
          have HY : Hid (∀ W, Tx w w.heap.size cb p l wd W (some ⟨g, 0, none⟩) c rs ba bc bs tb f → aheadB p wd f.st.vals bs = true → Ss w w.heap.size cb p l wd ((W.setCell ⟨cb, 0, none⟩ (.int .i64 o1)).setCell ⟨cb, 1, none⟩ (.int .i64 s1)) (some ⟨g, 0, none⟩) c rs f.a f.c f.st.vals ∧ stepB p wd (qs.map Sp.st) bs = f.st.vals) := hidOf (fun W hT h => ⟨by
            rw [HO1.out, HS1.out]
            exact hT.ss.take hT.own, by rw [EB.out]; unfold bestB; rw [if_pos h]⟩)
          have HNo : Hid (aheadB p wd f.st.vals bs = false → stepB p wd (qs.map Sp.st) bs = bs) := hidOf (fun h => by rw [EB.out]; unfold bestB; rw [if_neg (by rw [h]; exact Bool.false_ne_true)])
          go_wp2_with fail
          refine qL.mono ?_
          rintro e w9 ⟨rfl, b9⟩
          have T9 := T8.more b9
          have R9 := keep_bel R8 b9
          clear qL y0 y1 d0 d1 T8 R8 b9
          have y0 : w9.cell? ⟨yb, 0, none⟩ = some (.int .i64 o1) := cell_of_row w9 yb 0 _ _ _ R9
          have y1 : w9.cell? ⟨yb, 1, none⟩ = some (.int .i64 s1) := cell_of_row w9 yb 1 _ _ _ R9
          obtain ⟨hcl, d0, d1, z0, z1⟩ := T9.ss.costs
          rw [← HO2.out] at d0
          rw [← HS2.out] at d1
          obtain ⟨htl, t0, t1⟩ := T9.cells
          cases b1 with
          | true =>
            obtain ⟨hY, hE⟩ := HY.out _ T9 (by rw [HA.out]; rfl)
            have HY9 := hidOf hY
            have HE9 := hidOf hE
            clear hY hE T9 R9
            go_wp2
            go_roundw
            case rel => exact ⟨k + 1, _, c, rs, f.a, f.c, f.st.vals, rfl, rfl, by go_num, hk2, HY9, hidOf (by rw [ES.out, ← HE9.out]; exact HN.out), hidOf (by rw [ES.out]; exact HLN.out), HKB2, hidOf (by rw [ES.out, ← HE9.out]; exact HRN.out)⟩
            case measure => simp [intOf]; omega
          | false =>
            cases b2 with
            | false =>
              have HE9 := hidOf (HNo.out (by rw [HA.out]; rfl))
              have HT9 := hidOf T9.ss
              clear T9 R9
              go_wp2
              go_roundw
              case rel => exact ⟨k + 1, _, c, rs, ba, bc, bs, rfl, rfl, by go_num, hk2, HT9, hidOf (by rw [ES.out]; have := HN.out; rw [HE9.out] at this; exact this), hidOf (by rw [ES.out]; exact HLN.out), HKB2, hidOf (by rw [ES.out]; have := HRN.out; rw [HE9.out] at this; exact this)⟩
              case measure => simp [intOf]; omega
            | true =>
              have qK := sCmp_any f.a ba f.c bc f.st.vals bs w9 hfl hbl (.of_own T9.own) (.of_own T9.ss.best)
              rw [← HCM.out] at qK
              go_wp2_with fail
              refine qK.mono ?_
              rintro e w10 ⟨rfl, b10⟩
              have T10 := T9.more b10
              have R10 := keep_bel R9 b10
              clear qK y0 y1 d0 d1 z0 z1 t0 t1 T9 R9 b10
              have y0 : w10.cell? ⟨yb, 0, none⟩ = some (.int .i64 o1) := cell_of_row w10 yb 0 _ _ _ R10
              have y1 : w10.cell? ⟨yb, 1, none⟩ = some (.int .i64 s1) := cell_of_row w10 yb 1 _ _ _ R10
              obtain ⟨hcl, d0, d1, z0, z1⟩ := T10.ss.costs
              obtain ⟨htl, t0, t1⟩ := T10.cells
              cases b3 with
              | true =>
                obtain ⟨hY, hE⟩ := HY.out _ T10 (by rw [HA.out]; rfl)
                have HY9 := hidOf hY
                have HE9 := hidOf hE
                have hc3 : cm < 0 := by simpa using HB3
                clear hY hE T10 R10
                go_wp2
                go_roundw
                case rel => exact ⟨k + 1, _, c, rs, f.a, f.c, f.st.vals, rfl, rfl, by go_num, hk2, HY9, hidOf (by rw [ES.out, ← HE9.out]; exact HN.out), hidOf (by rw [ES.out]; exact HLN.out), HKB2, hidOf (by rw [ES.out, ← HE9.out]; exact HRN.out)⟩
                case measure => simp [intOf]; omega
              | false =>
                have HE9 := hidOf (HNo.out (by rw [HA.out]; rfl))
                have HT9 := hidOf T10.ss
                have hc3 : ¬ cm < 0 := by simpa using HB3
                clear T10 R10
                go_wp2
                go_roundw
                case rel => exact ⟨k + 1, _, c, rs, ba, bc, bs, rfl, rfl, by go_num, hk2, HT9, hidOf (by rw [ES.out]; have := HN.out; rw [HE9.out] at this; exact this), hidOf (by rw [ES.out]; exact HLN.out), HKB2, hidOf (by rw [ES.out]; have := HRN.out; rw [HE9.out] at this; exact this)⟩
                case measure => simp [intOf]; omega
        · have hg : ((f.st.vals.length : Int) == (p.rules.length : Int)) = false := by rw [beq_eq_false_iff_ne]; omega
          have hlt : f.st.vals.length < p.rules.length := by have := hpre.1; omega
          have ES := hidOf (show stepH p wd (qs.map Sp.st) bs = pushK p wd bs f.st.vals (vOf p f.st.vals.length) 0 (restL stLess (qs.map Sp.st)) by unfold stepH; rw [EH.out, if_neg hfull])
          have EB := hidOf (show stepB p wd (qs.map Sp.st) bs = bs by unfold stepB; rw [EH.out, if_neg hfull])
          obtain ⟨r, er⟩ : ∃ r, p.rules[f.st.vals.length]? = some r := ⟨_, List.getElem?_eq_getElem hlt⟩
          have hv2 := (h1.rules.2 _ r er).1
          obtain ⟨nv, hnv⟩ : ∃ nv, nv = vOf p f.st.vals.length := ⟨_, rfl⟩
          have hnr : r.values = (nv : Int) := by rw [hnv]; unfold vOf; rw [er]; simp; omega
          have hnv3 : nv ≤ 3 := by omega
          rw [← hnv] at ES
          have ER2 := hidOf er
          have HNR := hidOf hnr
          have hvl : f.st.vals.length ≤ 8 := by omega
          have HT6 := hidOf T6
          have hHI : Hid (∀ x ∈ qs.map Sp.st, PreV p.rules x.vals) := hidOf HI.out.pre
          clear hfull er hnv hnr T6 HI HS HL HR HKB
          go_wp2
          go_loopw [10, 16] (fun vh vj wq => ∃ (j : Nat) (a' : Option Addr) (c' : Nat) (us : List Sp), vh = .slice a' us.length c' ∧ vj = .int .i64 j ∧ j ≤ nv ∧ Hid (Tx w w.heap.size cb p l wd wq a' c' us ba bc bs tb f) ∧ Hid (us.map Sp.st = pushK p wd bs f.st.vals j 0 (restL stLess (qs.map Sp.st)))) (fun _ v _ => nv - (intOf v).toNat)
          case atStart => exact ⟨0, _, c, rs, rfl, rfl, Nat.zero_le _, HT6, hidOf ER.out⟩
          case round =>
            clear HT6 c0 c1 c2 c3 c4 t0 t1 htl hpl
            obtain ⟨j, a', c', us, rfl, rfl, hj, HT, HQ⟩ := hrel
            have T := HT.out
            obtain ⟨hpl, c0, c1, c2, c3, c4⟩ := T.ss.box
            obtain ⟨htl, t0, t1⟩ := T.cells
            obtain ⟨rb, ro, ea, hrb, hrc⟩ := (T.ss.pc hp).rules (by omega)
            obtain ⟨p0, p1⟩ := ruC (hrc _ r ER2.out)
            rw [HNR.out] at p0
            rw [ea] at c1
            clear ea
            have hA : (0 : Int) ≤ (f.st.vals.length : Int) := by omega
            have hB : (f.st.vals.length : Int) < (p.rules.length : Int) := by omega
            clear hrc
            by_cases hlt2 : j < nv
            · have hM : (j : Int) < (nv : Int) := by omega
              obtain ⟨i0, hi, hz0, hz1, hz2⟩ := info_parts infoIntT
              have hal : ∀ (ob : Obj) (b q : Nat), b < wr.heap.size → (wr.alloc ob).cell? ⟨b, q, none⟩ = wr.cell? ⟨b, q, none⟩ := fun ob b q h => ((Below.refl wr.heap.size wr).alloc (Nat.le_refl _) ob).cell (p := ⟨b, q, none⟩) h
              have By : Below wr.heap.size wr (wr.alloc (.cells #[] 3)) := (Below.refl _ _).alloc (Nat.le_refl _) _
              have hl7 : (f.st.vals ++ [(j : Int)]).length = f.st.vals.length + 1 := by simp
              have hpj := pre_add hpre ER2.out (show (j : Int) < r.values by rw [HNR.out]; exact hM)
              have hq4 : us.length ≤ 1048576 := by
                have := len_push HQ.out
                rw [List.length_map] at this
                omega
              have EP := hidOf (show offH p wd bs (f.st.vals ++ [(j : Int)]) (us.map Sp.st) = pushK p wd bs f.st.vals (j + 1) 0 (restL stLess (qs.map Sp.st)) by
                rw [HQ.out, pushK_snoc, Nat.zero_add]
                rfl)
              go_wp2_with (first
                | (at_builtin; refine wpList_copyInt rfl _ _ rfl _ wr.heap.size wr.heap.size (Nat.le_refl _) (heap_alloc_new wr _) f.a f.c f.st.vals rfl rfl ((KidsAt.of_own T.own).below By (Nat.le_refl _)) (by omega) ?_; intro a6 c6 w6 o6 g6)
                | (at_builtin; refine wpList_append_own _ rfl _ _ 32 rfl wr.heap.size 3 i0 (.int .i64 0) 1 8 Try.underlying32 hi hz0 hz1 hz2 rfl (by decide) _ _ _ rfl (o6.alloc _) ⟨w6.heap.size, 0, none⟩ 1 1 [.int .i64 (j : Int)] rfl rfl (cell_one_new w6 _ _) (by intro u hu; rw [List.mem_singleton] at hu; subst hu; rfl) (by unfold maxLen; omega) (by omega) (Nat.le_trans (Nat.le_trans By.size g6.size) (by simp)) ?_; intro v7 w7 o7 g7 n7; obtain ⟨a7, c7, rfl⟩ := owns_slice o7; have B7 : Below wr.heap.size wr w7 := ((By.grown g6 By.size (fun q e => by cases e)).alloc (Nat.le_trans By.size g6.size) _).grown g7 (Nat.le_trans (Nat.le_trans By.size g6.size) (by simp)) (fun q e => (o6.lt q e).1); have T7 := T.more B7; clear c0 c1 c2 c3 c4 t0 t1 p0 p1; obtain ⟨hpl7, c0, c1, c2, c3, c4⟩ := T7.ss.box))
              have o7' : w7.ownsRow wr.heap.size 3 1 (.slice a7 (f.st.vals ++ [(j : Int)]).length c7) (f.st.vals ++ [(j : Int)]).length (intVals (f.st.vals ++ [(j : Int)])) := by
                rw [hl7, ← intVals_snoc]
                exact o7
              have qB := sBnd_any p l a7 c7 (f.st.vals ++ [(j : Int)]) w7 hF (T7.ss.pc hp) (.of_own o7') h1 hpj
              unfold pcV at qB
              simp only [hl7] at qB
              obtain ⟨z, hz⟩ : ∃ z, z = costSum p (f.st.vals ++ [(j : Int)]) := ⟨_, rfl⟩
              rw [← hz] at qB
              have HZ := hidOf hz
              refine qB.mono ?_
              rintro e w8 ⟨rfl, b8⟩
              have T8 := T7.more b8
              have o8 := owns_below o7' b8
              clear qB c0 c1 c2 c3 c4 hpl7 T7 o7 o7' g7 n7 o6 g6 hz
              obtain ⟨hpl7, c0, c1, c2, c3, c4⟩ := T8.ss.box
              have qM := sMay_any p l a7 c7 (f.st.vals ++ [(j : Int)]) w8 hF (by omega) (T8.ss.pc hp) (.of_own o8)
              unfold pcV at qM
              simp only [hl7] at qM
              obtain ⟨m, hm⟩ : ∃ m, m = mayB p (f.st.vals ++ [(j : Int)]) := ⟨_, rfl⟩
              rw [← hm] at qM
              go_wp2_with fail
              refine qM.mono ?_
              rintro e w9 ⟨rfl, b9⟩
              have T9 := T8.more b9
              have o9 := ownsRow_base (owns_below o8 b9) T.ss.wlow
              have hap : ∀ q ∈ us, ∀ g, q.blk = some g → (⟨⟨f.st.vals ++ [(j : Int)], z⟩, a7, c7⟩ : Sp).blk ≠ some g := fun q hq b hb hb2 => by
                have h5 := ((T.ss.own.each q hq).lt b hb).2
                have h6 := (o8.lt b hb2).1
                omega
              clear qM c0 c1 c2 c3 c4 hpl7 T8 o8 b8 b9
              obtain ⟨hcl, d0, d1, -, -⟩ := T9.ss.costs
              obtain ⟨o2, ho2⟩ : ∃ o2, o2 = costOver p bs wd := ⟨_, rfl⟩
              obtain ⟨s2, hs2⟩ : ∃ s2, s2 = costSum p bs := ⟨_, rfl⟩
              have HG0 := hidOf (show goodB p wd bs (f.st.vals ++ [(j : Int)]) = (m && !(decide (o2 = 0) && decide (s2 < z))) by unfold goodB; rw [← hm, ← ho2, ← hs2, ← HZ.out])
              rw [← ho2] at d0
              rw [← hs2] at d1
              clear ho2 hs2 hm hal By T
              cases m with
              | false =>
                have HG := hidOf (show goodB p wd bs (f.st.vals ++ [(j : Int)]) = false by rw [HG0.out]; rfl)
                have HN2 := hidOf (show offH p wd bs (f.st.vals ++ [(j : Int)]) (us.map Sp.st) = us.map Sp.st by unfold offH; rw [HG.out]; rfl)
                have HT9 := hidOf T9
                clear T9 o9
                go_wp2
                go_roundw
                case rel => exact ⟨j + 1, a', c', us, rfl, by go_num, by omega, HT9, hidOf (by rw [← EP.out]; exact HN2.out.symm)⟩
                case measure => simp [intOf]; omega
              | true =>
                by_cases h00 : o2 = 0
                · have hg2 : (o2 == 0) = true := by rw [h00]; rfl
                  by_cases hzs : z > s2
                  · have HG := hidOf (show goodB p wd bs (f.st.vals ++ [(j : Int)]) = false by rw [HG0.out, decide_eq_true h00, decide_eq_true (show s2 < z from hzs)]; rfl)
                    clear h00
                    have HN2 := hidOf (show offH p wd bs (f.st.vals ++ [(j : Int)]) (us.map Sp.st) = us.map Sp.st by unfold offH; rw [HG.out]; rfl)
                    have HT9 := hidOf T9
                    clear T9 o9
                    go_wp2
                    go_roundw
                    case rel => exact ⟨j + 1, a', c', us, rfl, by go_num, by omega, HT9, hidOf (by rw [← EP.out]; exact HN2.out.symm)⟩
                    case measure => simp [intOf]; omega
                  · have HG := hidOf (show goodB p wd bs (f.st.vals ++ [(j : Int)]) = true by rw [HG0.out, decide_eq_true h00, decide_eq_false (show ¬ s2 < z from hzs)]; rfl)
                    clear h00
                    have HN2 := hidOf (show offH p wd bs (f.st.vals ++ [(j : Int)]) (us.map Sp.st) = pushL stLess (us.map Sp.st) ⟨f.st.vals ++ [(j : Int)], z⟩ by unfold offH; rw [HG.out, HZ.out]; rfl)
                    have qP := sPush_gr w.heap.size a' c' us ⟨⟨f.st.vals ++ [(j : Int)], z⟩, a7, c7⟩ w9 hq4 (few_push h1 hHI.out hlt HQ.out) (by show (f.st.vals ++ [(j : Int)]).length ≤ 1048576; omega) T9.ss.own o9 hap T9.ss.wlow
                    simp only [hl7] at qP
                    go_wp2_with fail
                    refine qP.mono ?_
                    rintro e w10 ⟨a10, c10, rfl, O10, G10, Q10⟩
                    have T10 := hidOf (T9.push G10 O10 (by rw [pushL_len]; exact Q10))
                    have E10 := hidOf (show (pushL spLess us ⟨⟨f.st.vals ++ [(j : Int)], z⟩, a7, c7⟩).map Sp.st = pushK p wd bs f.st.vals (j + 1) 0 (restL stLess (qs.map Sp.st)) by
                      rw [← EP.out, HN2.out]
                      exact pushL_map Sp.st us ⟨⟨f.st.vals ++ [(j : Int)], z⟩, a7, c7⟩)
                    have hln : us.length + 1 = (pushL spLess us ⟨⟨f.st.vals ++ [(j : Int)], z⟩, a7, c7⟩).length := (pushL_len _ _).symm
                    rw [hln]
                    obtain ⟨vs, hvs⟩ : ∃ vs, vs = pushL spLess us ⟨⟨f.st.vals ++ [(j : Int)], z⟩, a7, c7⟩ := ⟨_, rfl⟩
                    rw [← hvs] at T10 E10
                    rw [← hvs]
                    clear qP O10 G10 Q10 T9 o9 hln hvs
                    go_wp2
                    go_roundw
                    case rel => exact ⟨j + 1, a10, c10, vs, rfl, by go_num, by omega, T10, E10⟩
                    case measure => simp [intOf]; omega
                · have hg2 : (o2 == 0) = false := by rw [beq_eq_false_iff_ne]; exact h00
                  have HG := hidOf (show goodB p wd bs (f.st.vals ++ [(j : Int)]) = true by rw [HG0.out, decide_eq_false h00]; rfl)
                  clear h00
                  have HN2 := hidOf (show offH p wd bs (f.st.vals ++ [(j : Int)]) (us.map Sp.st) = pushL stLess (us.map Sp.st) ⟨f.st.vals ++ [(j : Int)], z⟩ by unfold offH; rw [HG.out, HZ.out]; rfl)
                  have qP := sPush_gr w.heap.size a' c' us ⟨⟨f.st.vals ++ [(j : Int)], z⟩, a7, c7⟩ w9 hq4 (few_push h1 hHI.out hlt HQ.out) (by show (f.st.vals ++ [(j : Int)]).length ≤ 1048576; omega) T9.ss.own o9 hap T9.ss.wlow
                  simp only [hl7] at qP
                  go_wp2_with fail
                  refine qP.mono ?_
                  rintro e w10 ⟨a10, c10, rfl, O10, G10, Q10⟩
                  have T10 := hidOf (T9.push G10 O10 (by rw [pushL_len]; exact Q10))
                  have E10 := hidOf (show (pushL spLess us ⟨⟨f.st.vals ++ [(j : Int)], z⟩, a7, c7⟩).map Sp.st = pushK p wd bs f.st.vals (j + 1) 0 (restL stLess (qs.map Sp.st)) by
                    rw [← EP.out, HN2.out]
                    exact pushL_map Sp.st us ⟨⟨f.st.vals ++ [(j : Int)], z⟩, a7, c7⟩)
                  have hln : us.length + 1 = (pushL spLess us ⟨⟨f.st.vals ++ [(j : Int)], z⟩, a7, c7⟩).length := (pushL_len _ _).symm
                  rw [hln]
                  obtain ⟨vs, hvs⟩ : ∃ vs, vs = pushL spLess us ⟨⟨f.st.vals ++ [(j : Int)], z⟩, a7, c7⟩ := ⟨_, rfl⟩
                  rw [← hvs] at T10 E10
                  rw [← hvs]
                  clear qP O10 G10 Q10 T9 o9 hln hvs
                  go_wp2
                  go_roundw
                  case rel => exact ⟨j + 1, a10, c10, vs, rfl, by go_num, by omega, T10, E10⟩
                  case measure => simp [intOf]; omega
            · have hM : ¬ (j : Int) < (nv : Int) := by omega
              have hjn : j = nv := by omega
              have HZ := hidOf (show us.map Sp.st = stepH p wd (qs.map Sp.st) bs by rw [ES.out, ← hjn]; exact HQ.out)
              have HTs := hidOf T.ss
              clear hjn T
              go_wp2
              go_roundw
              case rel => exact ⟨k + 1, a', c', us, ba, bc, bs, rfl, rfl, by go_num, hk2, HTs, hidOf (by rw [HZ.out]; have := HN.out; rw [EB.out] at this; exact this), hidOf (by rw [HZ.out]; exact HLN.out), HKB2, hidOf (by rw [HZ.out]; have := HRN.out; rw [EB.out] at this; exact this)⟩
              case measure => simp [intOf]; omega
end Go.Proofs.Ytgaejcljabhijaa
