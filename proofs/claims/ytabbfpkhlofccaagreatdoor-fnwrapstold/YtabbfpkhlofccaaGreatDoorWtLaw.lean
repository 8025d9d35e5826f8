/- The law on drawn words and notes, right or not: what is told of them is what the specification tells. -/
import Derived.Test.YtabbfpkhlofccaaGreatDoorKaj
import Derived.Test.YtabbfpkhlofccaaGreatDoorSwS
import Derived.Test.YtabbfpkhlofccaaGreatDoorNvI
import Derived.Test.YtabbfpkhlofccaaGreatDoorKam
import Derived.Test.YtabbfpkhlofccaaGreatDoorWnS
import Derived.Test.YtabbfpkhlofccaaGreatDoorKan
namespace Go.Proofs.YtabbfpkhlofccaaGreatDoor
open Go.RowKit

theorem code_at {base : Nat} {w w' : World} {a : Option Addr} {len : Nat} (h : CodeAt base w a len) (hb : Below base w w') (hB : base ≤ w'.heap.size) : CodeAt w'.heap.size w' a len := by
  have h2 := h.below hb
  refine ⟨h2.1, fun hl => ?_⟩
  obtain ⟨b, off, ha, hbb, hc⟩ := h2.2 hl
  exact ⟨b, off, ha, by omega, hc⟩
theorem notes17_all {t : ByteArray} (h : t ∈ notes17) : (hd t).1 ≠ 4 ∧ ntV t = ntW t ∧ 2 ≤ t.size ∧ t.size ≤ 30 := by
  have := List.all_eq_true.1 notes17_ok t h
  simp only [Bool.and_eq_true, decide_eq_true_eq, beq_iff_eq] at this
  exact ⟨this.1.1.1, this.1.1.2, this.1.2, this.2⟩
theorem told_two : (wrapN (ntV ⟨#[47, 47, 32, 97, 32, 98]⟩) ⟨#[47, 47, 32, 97, 32, 98]⟩ 2 6).length = 2 := by kernel_rfl

set_option maxHeartbeats 8000000 in
set_option maxRecDepth 100000 in
theorem lawTold (a : Option Addr) (len cap : Nat) (w : World) (hc : len ≤ 1048576 → CodeAt w.heap.size w a len) (hlm : len ≤ 9223372036854775807) (m : Int) (hM : MaxIn m w) :
    Calls Tryz.prog 3 #[.slice a len cap] w fun e w' => e = .returned (.bool true) ∧ Below w.heap.size w w' := by
  have HM := hidOf hM
  clear hM
  by_cases h0 : 1048576 < len
  · clear hc
    go_enter Tryz.func3, Tryz.ntmps3
    go_wp2
    go_ret
    exact ⟨rfl, Below.refl _ _⟩
  · have HC := hidOf (hc (by omega))
    clear hc
    go_enter Tryz.func3, Tryz.ntmps3
    go_wp2_with (first | (go_at_call 5; go_in))
    refine (drawGreedy_any w.heap.size _ a len cap HC.out (Nat.le_refl _)).mono ?_
    rintro e w1 ⟨v, ws, z, hwl, hwm, hz, rfl, ho, hb1⟩
    have hs1 := hb1.size
    have hbg := any_bg hwm _ (Nat.le_refl _)
    obtain ⟨n, hn⟩ : ∃ n, n = ws.length := ⟨_, rfl⟩
    rw [← hn] at ho hwl hbg
    obtain ⟨av, cv, rfl⟩ := owns_slice ho
    have HN := hidOf hn
    have HBG := hidOf (show bg ws n ≤ 854 by omega)
    clear hwm hbg hn
    go_wp2_with fail
    refine (drawRag_any w1.heap.size _ a len cap (code_at HC.out hb1 hs1) (Nat.le_refl _)).mono ?_
    rintro e w2 ⟨vl, ls, y, hll, hlz, hy, rfl, hol, hb2⟩
    have hB2 := hb1.trans (hb2.mono hs1)
    have hs2 := hB2.size
    have ho := owns_below ho hb2
    obtain ⟨nl, hnl⟩ : ∃ nl, nl = ls.length := ⟨_, rfl⟩
    rw [← hnl] at hol hll
    obtain ⟨al, cl, rfl⟩ := owns_slice hol
    have HLZ := hidOf hlz
    clear hlz hnl hb1 hb2
    go_wp2_with fail
    refine (drawTxt_any w2.heap.size _ a len cap (code_at HC.out hB2 hs2) (Nat.le_refl _)).mono ?_
    rintro e w3 ⟨s, hss, rfl, hb3⟩
    have hB3 := hB2.trans (hb3.mono hs2)
    have hs3 := hB3.size
    have ho := owns_below ho hb3
    have hol := owns_below hol hb3
    clear hb3 hB2 hs2
    go_wp2_with fail
    refine (drawNt_any w3.heap.size _ a len cap (code_at HC.out hB3 hs3) (Nat.le_refl _)).mono ?_
    rintro e w4 ⟨t, ni, wi, ht, hwi, rfl, hb4⟩
    have hB4 := hB3.trans (hb4.mono hs3)
    have hs4 := hB4.size
    have ho := owns_below ho hb4
    have hol := owns_below hol hb4
    obtain ⟨ht4, htv, ht2, ht30⟩ := notes17_all ht
    clear hb4 hB3 hs3 ht
    obtain ⟨c, hC⟩ := isC_is ws.length (lc ws z)
    have HCO : Hid (Costs ws z c) := hidOf hC
    clear hC
    obtain ⟨G, hG⟩ : ∃ G, G = greedy ws z := ⟨_, rfl⟩
    obtain ⟨B, hB⟩ : ∃ B, B = bestW ws z c := ⟨_, rfl⟩
    have hGl : G.length ≤ 61 := by rw [hG]; have := greedy_many ws z; have := HN.out; omega
    have hBl : B.length ≤ 61 := by
      rw [hB]
      unfold bestW
      split
      · have := ln_len (bE_adv ws z c) ws.length 0 (by omega); have := HN.out; omega
      · simp
    have HG := hidOf hG
    have HBW := hidOf hB
    clear hG hB
    -- Greedy
    go_wp2_with fail
    refine (iGreedy_any (.slice av n cv) _ n ws z w4 (by omega) (by have := HBG.out; omega) ho).mono ?_
    rw [← HG.out]
    rintro e w5 ⟨hb5, v5, rfl, ho5⟩
    obtain ⟨a5, c5, rfl⟩ := owns_slice ho5
    have hB5 := hB4.trans (hb5.mono hs4)
    have hs5 := hB5.size
    have ho := owns_below ho hb5
    have hol := owns_below hol hb5
    clear hb5
    go_wp2_with fail
    refine (sGreedy_any (.slice av n cv) _ n ws z w5 (by omega) (by have := HBG.out; omega) ho).mono ?_
    rw [← HG.out]
    rintro e w6 ⟨hb6, v6, rfl, ho6⟩
    obtain ⟨a6, c6, rfl⟩ := owns_slice ho6
    have hB6 := hB5.trans (hb6.mono hs5)
    have hs6 := hB6.size
    have ho := owns_below ho hb6
    have hol := owns_below hol hb6
    have ho5 := owns_below ho5 hb6
    clear hb6
    go_wp2_with fail
    refine (same_any _ _ _ _ G.length G w6 (by omega) ho5 ho6).mono ?_
    rintro e w7 ⟨rfl, q7, rfl⟩
    have hB7 := bel_drewN hB6 q7
    have hs7 := hB7.size
    have ho : (w6.drewN q7).ownsRow _ _ _ _ _ _ := ho
    have hol : (w6.drewN q7).ownsRow _ _ _ _ _ _ := hol
    clear ho5 ho6
    -- RagOf
    obtain ⟨r, hr⟩ : ∃ r, r = rag ls y := ⟨_, rfl⟩
    have HR := hidOf hr
    clear hr
    go_wp2_with fail
    refine (iRag_any (.slice al nl cl) _ nl ls y (w6.drewN q7) (by omega) hy hol).mono ?_
    rw [← HR.out]
    rintro e w8 ⟨rfl, rfl⟩
    go_wp2_with fail
    refine (sRag_any (.slice al nl cl) _ nl ls y (w6.drewN q7) (by omega) (fun x hx => by have := HLZ.out x hx; omega) hol).mono ?_
    rw [← HR.out]
    rintro e w8 ⟨rfl, rfl⟩
    clear hol
    -- LeastRag
    obtain ⟨l, hl⟩ : ∃ l, l = (if wsOk ws then c 0 else 0) := ⟨_, rfl⟩
    have HL := hidOf hl
    clear hl
    go_wp2_with fail
    refine (iLeast_any (.slice av n cv) _ n ws z c (w6.drewN q7) (by omega) (by have := HBG.out; omega) hz HCO.out ho).mono ?_
    rw [← HL.out]
    rintro e w9 ⟨rfl, hb9⟩
    have hB9 := hB7.trans (hb9.mono hs7)
    have hs9 := hB9.size
    have ho := owns_below ho hb9
    clear hb9
    go_wp2_with fail
    refine (sLeast_any (.slice av n cv) _ n ws z c w9 (by omega) (by have := HBG.out; omega) HCO.out ho).mono ?_
    rw [← HL.out]
    rintro e w10 ⟨rfl, hb10⟩
    have hB10 := hB9.trans (hb10.mono hs9)
    have hs10 := hB10.size
    have ho := owns_below ho hb10
    clear hb10
    -- BestWrap
    go_wp2_with fail
    refine (iBest_any (.slice av n cv) _ n ws z c w10 (by omega) (by have := HBG.out; omega) hz HCO.out ho).mono ?_
    rw [← HBW.out]
    rintro e w11 ⟨hb11, v11, rfl, ho11⟩
    obtain ⟨a11, c11, rfl⟩ := owns_slice ho11
    have hB11 := hB10.trans (hb11.mono hs10)
    have hs11 := hB11.size
    have ho := owns_below ho hb11
    clear hb11
    go_wp2_with fail
    refine (sBest_any (.slice av n cv) _ n ws z c w11 (by omega) (by have := HBG.out; omega) HCO.out ho).mono ?_
    rw [← HBW.out]
    rintro e w12 ⟨hb12, v12, rfl, ho12⟩
    obtain ⟨a12, c12, rfl⟩ := owns_slice ho12
    have hB12 := hB11.trans (hb12.mono hs11)
    have hs12 := hB12.size
    have ho11 := owns_below ho11 hb12
    clear hb12 ho
    go_wp2_with fail
    refine (same_any _ _ _ _ B.length B w12 (by omega) ho11 ho12).mono ?_
    rintro e w13 ⟨rfl, q13, rfl⟩
    have hB13 := bel_drewN hB12 q13
    have hs13 := hB13.size
    clear ho11 ho12
    -- WordsOf
    obtain ⟨us, hus⟩ : ∃ us, us = wds s := ⟨_, rfl⟩
    have hul : us.length ≤ 101 := by rw [hus]; have := wds_len s; omega
    have HU := hidOf hus
    clear hus
    go_wp2_with fail
    refine (iWords_any s m (w12.drewN q13) (by omega) (HM.out.below hB13).1 (HM.out.below hB13).2).mono ?_
    rw [← HU.out]
    rintro e w14 ⟨hb14, v14, rfl, ho14⟩
    obtain ⟨a14, c14, rfl⟩ := owns_slice ho14
    have hB14 := hB13.trans (hb14.mono hs13)
    have hs14 := hB14.size
    clear hb14
    go_wp2_with fail
    refine (sWords_any s w14 (by omega)).mono ?_
    rw [← HU.out]
    rintro e w15 ⟨hb15, v15, rfl, ho15⟩
    obtain ⟨a15, c15, rfl⟩ := owns_slice ho15
    have hB15 := hB14.trans (hb15.mono hs14)
    have ho14 := owns_below ho14 hb15
    clear hb15
    go_wp2_with fail
    refine (same_any _ _ _ _ us.length us w15 (by omega) ho14 ho15).mono ?_
    rintro e w16 ⟨rfl, q16, rfl⟩
    have hB16 := bel_drewN hB15 q16
    have hs16 := hB16.size
    clear ho14 ho15
    -- WrapNote
    have qn1 := fun W => iNtV t W ht4 ht2 (by omega)
    have qn2 := fun W => sNtW t W ht2 (by omega)
    rw [← htv] at qn2
    obtain ⟨nt, hnt⟩ : ∃ nt, nt = ntV t := ⟨_, rfl⟩
    rw [← hnt] at qn1 qn2
    obtain ⟨ps, hps⟩ : ∃ ps, ps = wrapN nt t ni wi := ⟨_, rfl⟩
    have hpl : ps.length ≤ 101 := by
      rw [hps]
      unfold wrapN
      split
      · split
        · simp
        · have h1 := greedy_many (wds (t.extract 2 t.size)) ((if wi ≤ 0 then 0 else wi) - (ni + 3))
          have h2 := wds_len (t.extract 2 t.size)
          rw [ByteArray.size_extract] at h2
          simp only [putN, List.length_map]
          omega
      · simp
    have HP := hidOf hps
    clear hps hnt htv
    go_wp2_with fail
    refine (iWn_any t ni wi nt m (w15.drewN q16) (by omega) (fun _ => ht2) hwi (qn1 _) (HM.out.below hB16).1 (HM.out.below hB16).2).mono ?_
    rw [← HP.out]
    rintro e w17 ⟨hb17, v17, rfl, ho17⟩
    obtain ⟨a17, c17, rfl⟩ := owns_slice ho17
    have hB17 := hB16.trans (hb17.mono hs16)
    have hs17 := hB17.size
    clear hb17
    go_wp2_with fail
    refine (sWn_any t ni wi nt w17 (by omega) (fun _ => ht2) hwi qn2).mono ?_
    rw [← HP.out]
    rintro e w18 ⟨hb18, v18, rfl, ho18⟩
    obtain ⟨a18, c18, rfl⟩ := owns_slice ho18
    have hB18 := hB17.trans (hb18.mono hs17)
    have ho17 := owns_below ho17 hb18
    clear hb18
    go_wp2_with fail
    refine (same_any _ _ _ _ ps.length ps w18 (by omega) ho17 ho18).mono ?_
    rintro e w19 ⟨rfl, q19, rfl⟩
    have hB19 := bel_drewN hB18 q19
    have hs19 := hB19.size
    clear ho17 ho18
    -- the last one
    have hl4 : (hd ⟨#[47, 47, 32, 97, 32, 98]⟩).1 ≠ 4 := (notes17_all (t := ⟨#[47, 47, 32, 97, 32, 98]⟩) (by simp [notes17])).1
    have q20 := iWn_any ⟨#[47, 47, 32, 97, 32, 98]⟩ 2 6 (ntV ⟨#[47, 47, 32, 97, 32, 98]⟩) m (w18.drewN q19) (by decide) (fun _ => by decide) (by omega) (iNtV ⟨#[47, 47, 32, 97, 32, 98]⟩ _ hl4 (by decide) (by decide)) (HM.out.below hB19).1 (HM.out.below hB19).2
    obtain ⟨pz, hpz⟩ : ∃ pz, pz = wrapN (ntV ⟨#[47, 47, 32, 97, 32, 98]⟩) ⟨#[47, 47, 32, 97, 32, 98]⟩ 2 6 := ⟨_, rfl⟩
    have hpz2 : pz.length = 2 := by rw [hpz]; exact told_two
    rw [← hpz] at q20
    have HPZ := hidOf hpz2
    clear hpz hl4 hpz2
    go_wp2_with fail
    refine q20.mono ?_
    rintro e w20 ⟨hb20, v20, rfl, ho20⟩
    rw [HPZ.out] at ho20
    obtain ⟨a20, c20, rfl⟩ := owns_slice ho20
    have hB20 := hB19.trans (hb20.mono hs19)
    clear ho20 q20
    go_wp2
    go_ret
    exact ⟨rfl, hB20⟩
end Go.Proofs.YtabbfpkhlofccaaGreatDoor
