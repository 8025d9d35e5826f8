/- What spec.l11Pop answers. (Typed by a program: the ends of its rounds are alike.) -/
import Derived.Test.YtgaejcljabhijaaKac
import Derived.Test.YtgaejcljabhijaaKab
import Derived.Test.YtgaejcljabhijaaKaa
import Derived.BigRegion
import Derived.Deep.CutBlock
import Derived.Deep.RegionHeld3
namespace Go.Proofs.Ytgaejcljabhijaa
open Go.RowKit

/-- The blocks of the first one and of the result stay. -/
theorem keep_blk {w w' : World} {b : Nat} {o : Obj} {g : Option Nat} (h : w.heap[b]? = some o) (hg : w.grownBy w' g) (hne : some b ≠ g) : w'.heap[b]? = some o := (hg.block b (Array.getElem?_eq_some_iff.1 h).1 hne).trans h
theorem keep_bel {w w' : World} {b : Nat} {o : Obj} (h : w.heap[b]? = some o) (hb : Below w.heap.size w w') : w'.heap[b]? = some o := (hb.block b (Array.getElem?_eq_some_iff.1 h).1).trans h

/-- The result's two cells are written. -/
theorem fin_own {w : World} {B g c rb : Nat} {qs : List Sp} {f : Sp} {cur : Array Value} {z : Nat × Nat} (hO : Own w B (some ⟨g, 0, none⟩) c qs) (hf : w.ownsRow B 3 1 (.slice f.a f.st.vals.length f.c) f.st.vals.length (intVals f.st.vals)) (hR : w.heap[rb]? = some (.cells cur 74 z)) (hne : rb ≠ g) (u v : Value) :
    Own ((w.setCell ⟨rb, 0, none⟩ u).setCell ⟨rb, 1, none⟩ v) B (some ⟨g, 0, none⟩) c qs ∧ ((w.setCell ⟨rb, 0, none⟩ u).setCell ⟨rb, 1, none⟩ v).ownsRow B 3 1 (.slice f.a f.st.vals.length f.c) f.st.vals.length (intVals f.st.vals) := by
  have n1 : (Value.slice (some ⟨g, 0, none⟩) qs.length c).ownBlock = none ∨ (Value.slice (some ⟨g, 0, none⟩) qs.length c).ownBlock ≠ some rb := .inr (fun e => hne (by injection e with e; exact e.symm))
  have o1 := hO.other (grown_set w ⟨rb, 0, none⟩ u) n1 (fun q hq => far_row (hO.each q hq) hR (by decide))
  have f1 := own_put hf ⟨rb, 0, none⟩ u (far_row hf hR (by decide))
  exact ⟨o1.other (grown_set _ ⟨rb, 1, none⟩ v) n1 (fun q hq => far_row (hO.each q hq) hR (by decide)), own_put f1 ⟨rb, 1, none⟩ v (far_row hf hR (by decide))⟩

set_option maxHeartbeats 16000000 in
theorem sPop_gr (B g c m : Nat) (ps : List Sp) (f : Sp) (w : World) (hn0 : ps.length ≤ 1048577) (hm : ps.length = m + 1) (hf : ps[0]? = some f) (hF : Few ps) (hO : Own w B (some ⟨g, 0, none⟩) c ps) (hBw : B ≤ w.heap.size) :
    Calls Try.prog 44 #[.slice (some ⟨g, 0, none⟩) (m + 1) c] w fun e w' => e = .returned (.tuple #[.slice (some ⟨g, 0, none⟩) m c, .agg #[.slice f.a f.st.vals.length f.c, .int .i64 f.st.sum]]) ∧ Own w' B (some ⟨g, 0, none⟩) c (restL spLess ps) ∧ w'.ownsRow B 3 1 (.slice f.a f.st.vals.length f.c) f.st.vals.length (intVals f.st.vals) ∧ w.grownBy w' (some g) := by
  obtain ⟨y, hy⟩ : ∃ y, ps[m]? = some y := ⟨_, List.getElem?_eq_getElem (by omega)⟩
  have hcap : m + 1 ≤ c := by
    rcases hO.row.2 with ⟨h', _⟩ | ⟨g', cap', cur, h', hb, hg, hnc, _⟩
    · simp at h'
    · simp only [Value.slice.injEq, Option.some.injEq, Addr.mk.injEq, and_true, true_and] at h'
      obtain ⟨rfl, rfl⟩ := h'
      omega
  have hml : m ≤ 1048576 := by omega
  have hn1 : (0 : Int) < (m : Int) + 1 := by omega
  have hgl := (hO.row.lt g rfl).2
  have hBg := (hO.row.lt g rfl).1
  have HM := hidOf hm
  clear hm
  go_enter Try.func44, Try.ntmps44
  go_upto_region 1 with fail
  obtain ⟨W1, hW1⟩ : ∃ W1, W1 = w.alloc (.cells #[.slice none 0 0, .int .i64 0] 74) := ⟨_, rfl⟩
  rw [← hW1]
  have hb1 : Below w.heap.size w W1 := by rw [hW1]; exact (Below.refl _ _).alloc (Nat.le_refl _) _
  have R1 : W1.heap[w.heap.size]? = some (.cells #[.slice none 0 0, .int .i64 0] 74) := by rw [hW1]; exact heap_alloc_new w _
  have hl0 : w.heap.size < W1.heap.size := (Array.getElem?_eq_some_iff.1 R1).1
  have O1 := hO.below hb1
  clear hW1
  obtain ⟨p0, p1, -, -⟩ := O1.at hf
  simp only [Nat.zero_mul, Nat.zero_add] at p0 p1
  go_upto_region 2 with fail
  obtain ⟨W2, hW2⟩ : ∃ W2, W2 = W1.alloc (.cells #[.slice f.a f.st.vals.length f.c, .int .i64 f.st.sum] 74) := ⟨_, rfl⟩
  rw [← hW2]
  have hb2 : Below W1.heap.size W1 W2 := by rw [hW2]; exact (Below.refl _ _).alloc (Nat.le_refl _) _
  have R2 : W2.heap[W1.heap.size]? = some (.cells #[.slice f.a f.st.vals.length f.c, .int .i64 f.st.sum] 74) := by rw [hW2]; exact heap_alloc_new W1 _
  have R1 := keep_bel R1 hb2
  have O2 := O1.below hb2
  have B2 : w.grownBy W2 (some g) := grownBy_of_below (hb1.trans (hb2.mono hb1.size)) _
  have hgs : w.heap.size ≠ g := by omega
  have hgt : W1.heap.size ≠ g := by omega
  have hts : W1.heap.size ≠ w.heap.size := by omega
  have hBr : w.heap.size ≤ w.heap.size := Nat.le_refl _
  clear hW2 p0 p1 O1 hO hb1 hb2 hl0 hgl
  obtain ⟨tb, htb⟩ : ∃ tb, tb = W1.heap.size := ⟨_, rfl⟩
  obtain ⟨rb, hrb⟩ : ∃ rb, rb = w.heap.size := ⟨_, rfl⟩
  rw [← htb] at R2 hgt hts
  rw [← hrb] at R1 hgs hts
  replace hBr : w.heap.size ≤ rb := by omega
  rw [← htb, ← hrb]
  clear htb hrb
  obtain ⟨p0, p1, p2, p3⟩ := O2.at hf
  obtain ⟨q0, q1, q2, q3⟩ := O2.at hy
  simp only [Nat.zero_mul, Nat.zero_add] at p0 p1 p2 p3
  have hA : (0 : Int) ≤ (m : Int) := by omega
  have hB : (m : Int) < (m : Int) + 1 := by omega
  have r3 := row_set y O2.row (show 0 < ps.length by have := HM.out; omega)
  simp only [Nat.zero_mul, Nat.zero_add] at r3
  go_upto_region 4 with fail
  obtain ⟨W3, hW3⟩ : ∃ W3, W3 = (W2.setCell ⟨g, 0, none⟩ (.slice y.a y.st.vals.length y.c)).setCell ⟨g, 1, none⟩ (.int .i64 y.st.sum) := ⟨_, rfl⟩
  rw [← hW3] at r3
  rw [← hW3]
  have O3 := hidOf (Own.cut0 O2 HM.out hy r3.1 r3.2)
  have fo3 := hidOf ((O2.each f (List.mem_of_getElem? hf)).kept r3.2 (types_apart (O2.each f (List.mem_of_getElem? hf)) O2.row (by decide)))
  have hBW2 : B ≤ W2.heap.size := Nat.le_trans hBw B2.size
  have B3 := hidOf (grownBy_trans B2 r3.2)
  have R13 := hidOf (keep_blk R1 r3.2 (fun e => hgs (by injection e)))
  have R23 := hidOf (keep_blk R2 r3.2 (fun e => hgt (by injection e)))
  have hFc := hidOf (show Few (cutL ps) from fun p hp => by
    obtain ⟨i, hi⟩ := List.mem_iff_getElem?.1 hp
    rw [cutL_of (y := y) (by rw [HM.out]; exact hy)] at hi
    rw [List.getElem?_take] at hi
    split at hi
    · rcases List.mem_or_eq_of_mem_set (List.mem_of_getElem? hi) with h | rfl
      · exact hF p h
      · exact hF _ (List.mem_of_getElem? hy)
    · cases hi)
  have hcl4 := hidOf (show (cutL ps).length = m by rw [cutL_len, HM.out]; rfl)
  have hcap4 : m ≤ c := by omega
  clear hW3 r3 p0 p1 p2 p3 q0 q1 q2 q3 R1 R2 O2 B2
  go_wp2
  go_loopw [6] (fun v wr => ∃ (k : Nat) (qs : List Sp), v = .int .i64 k ∧ k ≤ m ∧ Hid (qs.length = m) ∧ Hid (Few qs) ∧ Hid (dn spLess qs k = restL spLess ps) ∧ Hid (Own wr B (some ⟨g, 0, none⟩) c qs) ∧ Hid (wr.ownsRow B 3 1 (.slice f.a f.st.vals.length f.c) f.st.vals.length (intVals f.st.vals)) ∧ Hid (wr.heap[rb]? = some (.cells #[.slice none 0 0, .int .i64 0] 74)) ∧ Hid (wr.heap[tb]? = some (.cells #[.slice f.a f.st.vals.length f.c, .int .i64 f.st.sum] 74)) ∧ Hid (w.grownBy wr (some g))) (fun v _ => m - (intOf v).toNat)
  case atStart => exact ⟨0, cutL ps, rfl, Nat.zero_le _, hcl4, hFc, hidOf rfl, O3, fo3, R13, R23, B3⟩
  case round =>
    obtain ⟨k, qs, rfl, hk, HL, HF, HU, HO, Hf, HR, HT, HB⟩ := hrel
    clear O3 fo3 R13 R23 B3 hFc
    have hBwr : B ≤ wr.heap.size := Nat.le_trans hBw HB.out.size
    obtain ⟨l1, hl1⟩ : ∃ l1, l1 = 2 * k + 1 := ⟨_, rfl⟩
    have w1 : IntKind.i64.wrap (2 * (k : Int)) = 2 * (k : Int) := IntWalk.i64_in _ ⟨by omega, by omega⟩
    have w2 : IntKind.i64.wrap (2 * (k : Int) + 1) = (l1 : Int) := by rw [hl1]; exact (IntWalk.i64_in _ ⟨by omega, by omega⟩).trans (by omega)
    have HL1 := hidOf hl1
    by_cases hlt : l1 < m
    · have hc1 : ((l1 : Nat) : Int) < (m : Int) := by omega
      obtain ⟨l2, hl2⟩ : ∃ l2, l2 = l1 + 1 := ⟨_, rfl⟩
      have w3 : IntKind.i64.wrap ((l1 : Int) + 1) = (l2 : Int) := by rw [hl2]; exact (IntWalk.i64_in _ ⟨by omega, by omega⟩).trans (by omega)
      have HL2 := hidOf hl2
      have hkl1 : k < l1 := by omega
      have hl12 : l1 < l2 := by omega
      have hl2m : l2 ≤ m := by omega
      clear hl1 hl2
      by_cases hlt2 : l2 < m
      · have hg : decide ((l2 : Int) < (m : Int)) = true := by simp; omega
        obtain ⟨u, eu⟩ : ∃ u, qs[l2]? = some u := ⟨_, List.getElem?_eq_getElem (by rw [HL.out]; exact hlt2)⟩
        obtain ⟨v, ev⟩ : ∃ v, qs[l1]? = some v := ⟨_, List.getElem?_eq_getElem (by rw [HL.out]; exact hlt)⟩
        obtain ⟨u0, u1, -, -⟩ := HO.out.at eu
        obtain ⟨v0, v1, -, -⟩ := HO.out.at ev
        have hgw0 := (HO.out.row.lt g rfl).2
        have HE1 := hidOf (ltAt_of (lt := spLess) eu ev)
        have Fu := HF.out u (List.mem_of_getElem? eu)
        have Fv := HF.out v (List.mem_of_getElem? ev)
        have Ku := HO.out.sts.2 u (List.mem_of_getElem? eu)
        have Kv := HO.out.sts.2 v (List.mem_of_getElem? ev)
        have hS1 := fun W ku kv => sSL_any u v W Fu Fv ku kv
        obtain ⟨b1, hbb⟩ : ∃ b1, b1 = spLess u v := ⟨_, rfl⟩
        rw [← hbb] at hS1 HE1
        have hC2 : (0 : Int) ≤ ((l2 : Nat) : Int) := by omega
        have hD2 : ((l2 : Nat) : Int) < (m : Int) := by omega
        have hC1 : (0 : Int) ≤ ((l1 : Nat) : Int) := by omega
        have EU := hidOf eu
        have EV := hidOf ev
        clear eu ev hbb
        go_wp2
        go_region_held3 (fun W => (W.cell? ⟨g, l2 * 2, none⟩ = some (.slice u.a u.st.vals.length u.c) ∧ W.cell? ⟨g, l2 * 2 + 1, none⟩ = some (.int .i64 u.st.sum)) ∧ W.cell? ⟨g, l1 * 2, none⟩ = some (.slice v.a v.st.vals.length v.c) ∧ W.cell? ⟨g, l1 * 2 + 1, none⟩ = some (.int .i64 v.st.sum)) (first | trivial | go_keep)
          ((go_at_call 84; refine (hS1 _ (Ku.below (Below.refl wr.heap.size wr).drew (Nat.le_refl _)) (Kv.below (Below.refl wr.heap.size wr).drew (Nat.le_refl _))).mono ?_; rintro e w4 ⟨rfl, hb4⟩; have E4 := (Below.refl wr.heap.size wr).drew.trans hb4; have hc4 := (bcell E4).1))
        have O4 := hidOf (HO.out.below E4)
        have B4 := hidOf (grownBy_trans HB.out (grownBy_of_below E4 _))
        have F4 := hidOf (owns_below Hf.out E4)
        have R4 := hidOf (keep_bel HR.out E4)
        have T4 := hidOf (keep_bel HT.out E4)
        clear u0 u1 v0 v1 hc4 hb4 Ku Kv hS1 E4 hg
        have Hlow := hidOf (show low spLess qs k = if ltAt spLess qs l2 l1 = true then l2 else l1 by unfold low; rw [HL2.out, HL1.out])
        rw [HE1.out] at Hlow
        cases b1
        · have HLo : Hid (l1 = low spLess qs k) := hidOf (by rw [Hlow.out]; simp)
          have hlm : l1 < m := hlt
          obtain ⟨p, ep⟩ : ∃ p, qs[k]? = some p := ⟨_, List.getElem?_eq_getElem (by rw [HL.out]; omega)⟩
          obtain ⟨q, eq, hqv⟩ : ∃ q, qs[l1]? = some q ∧ q = v := ⟨v, EV.out, rfl⟩
          subst hqv
          obtain ⟨p0, p1, -, -⟩ := O4.out.at ep
          obtain ⟨q0, q1, -, -⟩ := O4.out.at eq
          have hgw := (O4.out.row.lt g rfl).2
          have HE2 := hidOf (ltAt_of (lt := spLess) eq ep)
          have Fp := HF.out p (List.mem_of_getElem? ep)
          have Fq := HF.out q (List.mem_of_getElem? eq)
          have Kp := O4.out.sts.2 p (List.mem_of_getElem? ep)
          have Kq := O4.out.sts.2 q (List.mem_of_getElem? eq)
          have hS := fun W kp kq => sSL_any q p W Fq Fp kq kp
          obtain ⟨b, hbb⟩ : ∃ b, b = spLess q p := ⟨_, rfl⟩
          rw [← hbb] at hS HE2
          have EP := hidOf ep
          have EQ := hidOf eq
          have hC : (0 : Int) ≤ (l1 : Int) := by omega
          have hD : ((l1 : Nat) : Int) < (m : Int) := by omega
          have hA1 : (0 : Int) ≤ (k : Int) := by omega
          have hB1 : (k : Int) < (m : Int) := by omega
          clear ep eq hbb
          go_wp2
          go_region_held3 (fun W => (W.cell? ⟨g, l1 * 2, none⟩ = some (.slice q.a q.st.vals.length q.c) ∧ W.cell? ⟨g, l1 * 2 + 1, none⟩ = some (.int .i64 q.st.sum)) ∧ W.cell? ⟨g, k * 2, none⟩ = some (.slice p.a p.st.vals.length p.c) ∧ W.cell? ⟨g, k * 2 + 1, none⟩ = some (.int .i64 p.st.sum)) (first | trivial | go_keep)
            ((go_at_call 84; refine (hS _ (Kp.below (Below.refl w4.heap.size w4).drew (Nat.le_refl _)) (Kq.below (Below.refl w4.heap.size w4).drew (Nat.le_refl _))).mono ?_; rintro e w6 ⟨rfl, hb6⟩; have E6 := (Below.refl w4.heap.size w4).drew.trans hb6; have hc6 := (bcell E6).1))
          have O6 := hidOf (O4.out.below E6)
          have hBw6 : B ≤ w4.heap.size := Nat.le_trans hBw B4.out.size
          have B6 := hidOf (grownBy_trans B4.out (grownBy_of_below E6 _))
          have F6 := hidOf (owns_below F4.out E6)
          have R6 := hidOf (keep_bel R4.out E6)
          have T6 := hidOf (keep_bel T4.out E6)
          have hgw6 : g < w6.heap.size := Nat.lt_of_lt_of_le hgw E6.size
          clear p0 p1 q0 q1 hc6 hb6 Kp Kq hS O4 B4 F4 R4 T4
          cases b
          · have FO := O6
            have Ff := F6
            have FR := R6
            have FT := T6
            have FB := B6
            have FL := HL
            have z := dn_no (lt := spLess) (xs := qs) (i := k) (by rw [← HLo.out, HE2.out])
            rw [HU.out] at z
            have t0 : w6.cell? ⟨tb, 0, none⟩ = some (.slice f.a f.st.vals.length f.c) := cell_of_row w6 _ 0 _ _ _ FT.out
            have t1 : w6.cell? ⟨tb, 1, none⟩ = some (.int .i64 f.st.sum) := cell_of_row w6 _ 1 _ _ _ FT.out
            have r0 : w6.cell? ⟨rb, 0, none⟩ = some (.slice none 0 0) := cell_of_row w6 _ 0 _ _ _ FR.out
            have r1 : w6.cell? ⟨rb, 1, none⟩ = some (.int .i64 0) := cell_of_row w6 _ 1 _ _ _ FR.out
            have z0 := frozen_of_row w6 rb 0 _ _ FR.out
            have z1 := frozen_of_row w6 rb 1 _ _ FR.out
            have HE := hidOf (fin_own FO.out Ff.out FR.out hgs (.slice f.a f.st.vals.length f.c) (.int .i64 f.st.sum))
            have HBE := hidOf (grown_at (grown_at FB.out (grown_set _ ⟨rb, 0, none⟩ (.slice f.a f.st.vals.length f.c)) (.inr hBr)) (grown_set _ ⟨rb, 1, none⟩ (.int .i64 f.st.sum)) (.inr hBr))
            have ZZ := hidOf z
            have fl := FL.out
            clear z
            go_wp2
            go_region
            go_wp2
            have y0 : ((w6.setCell ⟨rb, 0, none⟩ (.slice f.a f.st.vals.length f.c)).setCell ⟨rb, 1, none⟩ (.int .i64 f.st.sum)).drew.cell? ⟨rb, 0, none⟩ = some (.slice f.a f.st.vals.length f.c) := by go_simp
            have y1 : ((w6.setCell ⟨rb, 0, none⟩ (.slice f.a f.st.vals.length f.c)).setCell ⟨rb, 1, none⟩ (.int .i64 f.st.sum)).drew.cell? ⟨rb, 1, none⟩ = some (.int .i64 f.st.sum) := by go_simp
            refine bodyPost_ret (v := .tuple #[.slice (some ⟨g, 0, none⟩) m c, .agg #[.slice f.a f.st.vals.length f.c, .int .i64 f.st.sum]]) (by simp [results, Try.results44, go_sem, y0, y1]) rfl ?_
            rw [ZZ.out]
            exact ⟨rfl, HE.out.1.below (below_drewN _ 1), owns_below HE.out.2 (below_drewN _ 1), (grownBy_trans HBE.out (grownBy_of_below (below_drewN _ 1) _))⟩
          · go_upto_region 12 with fail
            obtain ⟨W7, hW7, X7, hb7, S7⟩ := bx_new w6 p 74
            rw [← hW7]
            have O7 := O6.out.below hb7
            have hBw7 : B ≤ w6.heap.size := Nat.le_trans hBw B6.out.size
            have B7 := hidOf (grownBy_trans B6.out (grownBy_of_below hb7 _))
            have F7 := hidOf (owns_below F6.out hb7)
            have R7 := hidOf (keep_bel R6.out hb7)
            have T7 := hidOf (keep_bel T6.out hb7)
            have hBW7 : B ≤ W7.heap.size := Nat.le_trans hBw7 hb7.size
            obtain ⟨sb, hsb⟩ : ∃ sb, sb = w6.heap.size := ⟨_, rfl⟩
            have hsg : sb ≠ g := by omega
            rw [← hsb] at X7
            rw [← hsb]
            clear hW7 S7 hb7 hsb E6
            obtain ⟨hX7, x0, x1⟩ := X7
            obtain ⟨p0, p1, p2, p3⟩ := O7.at EP.out
            obtain ⟨q0, q1, q2, q3⟩ := O7.at EQ.out
            have HS := hidOf (O7.swap EP.out EQ.out (show k ≠ l1 by omega))
            have HFn := hidOf (F7.out.kept HS.out.2 (types_apart F7.out O7.row (by decide)))
            have HRn := hidOf (keep_blk R7.out HS.out.2 (fun e => hgs (by injection e)))
            have HTn := hidOf (keep_blk T7.out HS.out.2 (fun e => hgt (by injection e)))
            have HBn := hidOf (grownBy_trans B7.out HS.out.2)
            have HD : Hid (dn spLess (swp qs k l1) l1 = restL spLess ps) := hidOf (by
              have h := dn_yes (lt := spLess) (xs := qs) (i := k) (by rw [← HLo.out, HE2.out])
              rw [← HLo.out, HU.out] at h
              exact h.symm)
            clear O7
            go_wp2
            go_roundw
            case rel => exact ⟨l1, swp qs k l1, by go_num, by omega, hidOf (by rw [swp_len]; exact HL.out), hidOf (HF.out.swp _ _), HD, hidOf HS.out.1, HFn, HRn, HTn, HBn⟩
            case measure => simp [intOf]; omega
        · have HLo : Hid (l2 = low spLess qs k) := hidOf (by rw [Hlow.out]; simp)
          have hlm : l2 < m := hlt2
          have hkl2 : k < l2 := by omega
          obtain ⟨p, ep⟩ : ∃ p, qs[k]? = some p := ⟨_, List.getElem?_eq_getElem (by rw [HL.out]; omega)⟩
          obtain ⟨q, eq, hqv⟩ : ∃ q, qs[l2]? = some q ∧ q = u := ⟨u, EU.out, rfl⟩
          subst hqv
          obtain ⟨p0, p1, -, -⟩ := O4.out.at ep
          obtain ⟨q0, q1, -, -⟩ := O4.out.at eq
          have hgw := (O4.out.row.lt g rfl).2
          have HE2 := hidOf (ltAt_of (lt := spLess) eq ep)
          have Fp := HF.out p (List.mem_of_getElem? ep)
          have Fq := HF.out q (List.mem_of_getElem? eq)
          have Kp := O4.out.sts.2 p (List.mem_of_getElem? ep)
          have Kq := O4.out.sts.2 q (List.mem_of_getElem? eq)
          have hS := fun W kp kq => sSL_any q p W Fq Fp kq kp
          obtain ⟨b, hbb⟩ : ∃ b, b = spLess q p := ⟨_, rfl⟩
          rw [← hbb] at hS HE2
          have EP := hidOf ep
          have EQ := hidOf eq
          have hC : (0 : Int) ≤ (l2 : Int) := by omega
          have hD : ((l2 : Nat) : Int) < (m : Int) := by omega
          have hA1 : (0 : Int) ≤ (k : Int) := by omega
          have hB1 : (k : Int) < (m : Int) := by omega
          clear ep eq hbb
          go_wp2
          go_region_held3 (fun W => (W.cell? ⟨g, l2 * 2, none⟩ = some (.slice q.a q.st.vals.length q.c) ∧ W.cell? ⟨g, l2 * 2 + 1, none⟩ = some (.int .i64 q.st.sum)) ∧ W.cell? ⟨g, k * 2, none⟩ = some (.slice p.a p.st.vals.length p.c) ∧ W.cell? ⟨g, k * 2 + 1, none⟩ = some (.int .i64 p.st.sum)) (first | trivial | go_keep)
            ((go_at_call 84; refine (hS _ (Kp.below (Below.refl w4.heap.size w4).drew (Nat.le_refl _)) (Kq.below (Below.refl w4.heap.size w4).drew (Nat.le_refl _))).mono ?_; rintro e w6 ⟨rfl, hb6⟩; have E6 := (Below.refl w4.heap.size w4).drew.trans hb6; have hc6 := (bcell E6).1))
          have O6 := hidOf (O4.out.below E6)
          have hBw6 : B ≤ w4.heap.size := Nat.le_trans hBw B4.out.size
          have B6 := hidOf (grownBy_trans B4.out (grownBy_of_below E6 _))
          have F6 := hidOf (owns_below F4.out E6)
          have R6 := hidOf (keep_bel R4.out E6)
          have T6 := hidOf (keep_bel T4.out E6)
          have hgw6 : g < w6.heap.size := Nat.lt_of_lt_of_le hgw E6.size
          clear p0 p1 q0 q1 hc6 hb6 Kp Kq hS O4 B4 F4 R4 T4
          cases b
          · have FO := O6
            have Ff := F6
            have FR := R6
            have FT := T6
            have FB := B6
            have FL := HL
            have z := dn_no (lt := spLess) (xs := qs) (i := k) (by rw [← HLo.out, HE2.out])
            rw [HU.out] at z
            have t0 : w6.cell? ⟨tb, 0, none⟩ = some (.slice f.a f.st.vals.length f.c) := cell_of_row w6 _ 0 _ _ _ FT.out
            have t1 : w6.cell? ⟨tb, 1, none⟩ = some (.int .i64 f.st.sum) := cell_of_row w6 _ 1 _ _ _ FT.out
            have r0 : w6.cell? ⟨rb, 0, none⟩ = some (.slice none 0 0) := cell_of_row w6 _ 0 _ _ _ FR.out
            have r1 : w6.cell? ⟨rb, 1, none⟩ = some (.int .i64 0) := cell_of_row w6 _ 1 _ _ _ FR.out
            have z0 := frozen_of_row w6 rb 0 _ _ FR.out
            have z1 := frozen_of_row w6 rb 1 _ _ FR.out
            have HE := hidOf (fin_own FO.out Ff.out FR.out hgs (.slice f.a f.st.vals.length f.c) (.int .i64 f.st.sum))
            have HBE := hidOf (grown_at (grown_at FB.out (grown_set _ ⟨rb, 0, none⟩ (.slice f.a f.st.vals.length f.c)) (.inr hBr)) (grown_set _ ⟨rb, 1, none⟩ (.int .i64 f.st.sum)) (.inr hBr))
            have ZZ := hidOf z
            have fl := FL.out
            clear z
            go_wp2
            go_region
            go_wp2
            have y0 : ((w6.setCell ⟨rb, 0, none⟩ (.slice f.a f.st.vals.length f.c)).setCell ⟨rb, 1, none⟩ (.int .i64 f.st.sum)).drew.cell? ⟨rb, 0, none⟩ = some (.slice f.a f.st.vals.length f.c) := by go_simp
            have y1 : ((w6.setCell ⟨rb, 0, none⟩ (.slice f.a f.st.vals.length f.c)).setCell ⟨rb, 1, none⟩ (.int .i64 f.st.sum)).drew.cell? ⟨rb, 1, none⟩ = some (.int .i64 f.st.sum) := by go_simp
            refine bodyPost_ret (v := .tuple #[.slice (some ⟨g, 0, none⟩) m c, .agg #[.slice f.a f.st.vals.length f.c, .int .i64 f.st.sum]]) (by simp [results, Try.results44, go_sem, y0, y1]) rfl ?_
            rw [ZZ.out]
            exact ⟨rfl, HE.out.1.below (below_drewN _ 1), owns_below HE.out.2 (below_drewN _ 1), (grownBy_trans HBE.out (grownBy_of_below (below_drewN _ 1) _))⟩
          · go_upto_region 12 with fail
            obtain ⟨W7, hW7, X7, hb7, S7⟩ := bx_new w6 p 74
            rw [← hW7]
            have O7 := O6.out.below hb7
            have hBw7 : B ≤ w6.heap.size := Nat.le_trans hBw B6.out.size
            have B7 := hidOf (grownBy_trans B6.out (grownBy_of_below hb7 _))
            have F7 := hidOf (owns_below F6.out hb7)
            have R7 := hidOf (keep_bel R6.out hb7)
            have T7 := hidOf (keep_bel T6.out hb7)
            have hBW7 : B ≤ W7.heap.size := Nat.le_trans hBw7 hb7.size
            obtain ⟨sb, hsb⟩ : ∃ sb, sb = w6.heap.size := ⟨_, rfl⟩
            have hsg : sb ≠ g := by omega
            rw [← hsb] at X7
            rw [← hsb]
            clear hW7 S7 hb7 hsb E6
            obtain ⟨hX7, x0, x1⟩ := X7
            obtain ⟨p0, p1, p2, p3⟩ := O7.at EP.out
            obtain ⟨q0, q1, q2, q3⟩ := O7.at EQ.out
            have HS := hidOf (O7.swap EP.out EQ.out (show k ≠ l2 by omega))
            have HFn := hidOf (F7.out.kept HS.out.2 (types_apart F7.out O7.row (by decide)))
            have HRn := hidOf (keep_blk R7.out HS.out.2 (fun e => hgs (by injection e)))
            have HTn := hidOf (keep_blk T7.out HS.out.2 (fun e => hgt (by injection e)))
            have HBn := hidOf (grownBy_trans B7.out HS.out.2)
            have HD : Hid (dn spLess (swp qs k l2) l2 = restL spLess ps) := hidOf (by
              have h := dn_yes (lt := spLess) (xs := qs) (i := k) (by rw [← HLo.out, HE2.out])
              rw [← HLo.out, HU.out] at h
              exact h.symm)
            clear O7
            go_wp2
            go_roundw
            case rel => exact ⟨l2, swp qs k l2, by go_num, by omega, hidOf (by rw [swp_len]; exact HL.out), hidOf (HF.out.swp _ _), HD, hidOf HS.out.1, HFn, HRn, HTn, HBn⟩
            case measure => simp [intOf]; omega
      · have hg : decide ((l2 : Int) < (m : Int)) = false := by simp; omega
        have HLo : Hid (l1 = low spLess qs k) := hidOf (by
          unfold low
          rw [ltAt_out (by rw [HL.out]; have := HL1.out; have := HL2.out; omega)]
          have := HL1.out
          simp
          omega)
        have hlm : l1 < m := hlt
        go_wp2
        go_quiet (fail)
        obtain ⟨w4, hw4⟩ : ∃ w4, w4 = wr.drewN nq := ⟨_, rfl⟩
        have E4 : Below wr.heap.size wr w4 := by rw [hw4]; exact below_drewN _ _
        rw [← hw4]
        have O4 := hidOf (HO.out.below E4)
        have B4 := hidOf (grownBy_trans HB.out (grownBy_of_below E4 _))
        have F4 := hidOf (owns_below Hf.out E4)
        have R4 := hidOf (keep_bel HR.out E4)
        have T4 := hidOf (keep_bel HT.out E4)
        clear E4 hw4 hg
        obtain ⟨p, ep⟩ : ∃ p, qs[k]? = some p := ⟨_, List.getElem?_eq_getElem (by rw [HL.out]; omega)⟩
        obtain ⟨q, eq⟩ : ∃ q, qs[l1]? = some q := ⟨_, List.getElem?_eq_getElem (by rw [HL.out]; exact hlm)⟩
        obtain ⟨p0, p1, -, -⟩ := O4.out.at ep
        obtain ⟨q0, q1, -, -⟩ := O4.out.at eq
        have hgw := (O4.out.row.lt g rfl).2
        have HE2 := hidOf (ltAt_of (lt := spLess) eq ep)
        have Fp := HF.out p (List.mem_of_getElem? ep)
        have Fq := HF.out q (List.mem_of_getElem? eq)
        have Kp := O4.out.sts.2 p (List.mem_of_getElem? ep)
        have Kq := O4.out.sts.2 q (List.mem_of_getElem? eq)
        have hS := fun W kp kq => sSL_any q p W Fq Fp kq kp
        obtain ⟨b, hbb⟩ : ∃ b, b = spLess q p := ⟨_, rfl⟩
        rw [← hbb] at hS HE2
        have EP := hidOf ep
        have EQ := hidOf eq
        have hC : (0 : Int) ≤ (l1 : Int) := by omega
        have hD : ((l1 : Nat) : Int) < (m : Int) := by omega
        have hA1 : (0 : Int) ≤ (k : Int) := by omega
        have hB1 : (k : Int) < (m : Int) := by omega
        clear ep eq hbb
        go_wp2
        go_region_held3 (fun W => (W.cell? ⟨g, l1 * 2, none⟩ = some (.slice q.a q.st.vals.length q.c) ∧ W.cell? ⟨g, l1 * 2 + 1, none⟩ = some (.int .i64 q.st.sum)) ∧ W.cell? ⟨g, k * 2, none⟩ = some (.slice p.a p.st.vals.length p.c) ∧ W.cell? ⟨g, k * 2 + 1, none⟩ = some (.int .i64 p.st.sum)) (first | trivial | go_keep)
          ((go_at_call 84; refine (hS _ (Kp.below (Below.refl w4.heap.size w4).drew (Nat.le_refl _)) (Kq.below (Below.refl w4.heap.size w4).drew (Nat.le_refl _))).mono ?_; rintro e w6 ⟨rfl, hb6⟩; have E6 := (Below.refl w4.heap.size w4).drew.trans hb6; have hc6 := (bcell E6).1))
        have O6 := hidOf (O4.out.below E6)
        have hBw6 : B ≤ w4.heap.size := Nat.le_trans hBw B4.out.size
        have B6 := hidOf (grownBy_trans B4.out (grownBy_of_below E6 _))
        have F6 := hidOf (owns_below F4.out E6)
        have R6 := hidOf (keep_bel R4.out E6)
        have T6 := hidOf (keep_bel T4.out E6)
        have hgw6 : g < w6.heap.size := Nat.lt_of_lt_of_le hgw E6.size
        clear p0 p1 q0 q1 hc6 hb6 Kp Kq hS O4 B4 F4 R4 T4
        cases b
        · have FO := O6
          have Ff := F6
          have FR := R6
          have FT := T6
          have FB := B6
          have FL := HL
          have z := dn_no (lt := spLess) (xs := qs) (i := k) (by rw [← HLo.out, HE2.out])
          rw [HU.out] at z
          have t0 : w6.cell? ⟨tb, 0, none⟩ = some (.slice f.a f.st.vals.length f.c) := cell_of_row w6 _ 0 _ _ _ FT.out
          have t1 : w6.cell? ⟨tb, 1, none⟩ = some (.int .i64 f.st.sum) := cell_of_row w6 _ 1 _ _ _ FT.out
          have r0 : w6.cell? ⟨rb, 0, none⟩ = some (.slice none 0 0) := cell_of_row w6 _ 0 _ _ _ FR.out
          have r1 : w6.cell? ⟨rb, 1, none⟩ = some (.int .i64 0) := cell_of_row w6 _ 1 _ _ _ FR.out
          have z0 := frozen_of_row w6 rb 0 _ _ FR.out
          have z1 := frozen_of_row w6 rb 1 _ _ FR.out
          have HE := hidOf (fin_own FO.out Ff.out FR.out hgs (.slice f.a f.st.vals.length f.c) (.int .i64 f.st.sum))
          have HBE := hidOf (grown_at (grown_at FB.out (grown_set _ ⟨rb, 0, none⟩ (.slice f.a f.st.vals.length f.c)) (.inr hBr)) (grown_set _ ⟨rb, 1, none⟩ (.int .i64 f.st.sum)) (.inr hBr))
          have ZZ := hidOf z
          have fl := FL.out
          clear z
          go_wp2
          go_region
          go_wp2
          have y0 : ((w6.setCell ⟨rb, 0, none⟩ (.slice f.a f.st.vals.length f.c)).setCell ⟨rb, 1, none⟩ (.int .i64 f.st.sum)).drew.cell? ⟨rb, 0, none⟩ = some (.slice f.a f.st.vals.length f.c) := by go_simp
          have y1 : ((w6.setCell ⟨rb, 0, none⟩ (.slice f.a f.st.vals.length f.c)).setCell ⟨rb, 1, none⟩ (.int .i64 f.st.sum)).drew.cell? ⟨rb, 1, none⟩ = some (.int .i64 f.st.sum) := by go_simp
          refine bodyPost_ret (v := .tuple #[.slice (some ⟨g, 0, none⟩) m c, .agg #[.slice f.a f.st.vals.length f.c, .int .i64 f.st.sum]]) (by simp [results, Try.results44, go_sem, y0, y1]) rfl ?_
          rw [ZZ.out]
          exact ⟨rfl, HE.out.1.below (below_drewN _ 1), owns_below HE.out.2 (below_drewN _ 1), (grownBy_trans HBE.out (grownBy_of_below (below_drewN _ 1) _))⟩
        · go_upto_region 12 with fail
          obtain ⟨W7, hW7, X7, hb7, S7⟩ := bx_new w6 p 74
          rw [← hW7]
          have O7 := O6.out.below hb7
          have hBw7 : B ≤ w6.heap.size := Nat.le_trans hBw B6.out.size
          have B7 := hidOf (grownBy_trans B6.out (grownBy_of_below hb7 _))
          have F7 := hidOf (owns_below F6.out hb7)
          have R7 := hidOf (keep_bel R6.out hb7)
          have T7 := hidOf (keep_bel T6.out hb7)
          have hBW7 : B ≤ W7.heap.size := Nat.le_trans hBw7 hb7.size
          obtain ⟨sb, hsb⟩ : ∃ sb, sb = w6.heap.size := ⟨_, rfl⟩
          have hsg : sb ≠ g := by omega
          rw [← hsb] at X7
          rw [← hsb]
          clear hW7 S7 hb7 hsb E6
          obtain ⟨hX7, x0, x1⟩ := X7
          obtain ⟨p0, p1, p2, p3⟩ := O7.at EP.out
          obtain ⟨q0, q1, q2, q3⟩ := O7.at EQ.out
          have HS := hidOf (O7.swap EP.out EQ.out (show k ≠ l1 by omega))
          have HFn := hidOf (F7.out.kept HS.out.2 (types_apart F7.out O7.row (by decide)))
          have HRn := hidOf (keep_blk R7.out HS.out.2 (fun e => hgs (by injection e)))
          have HTn := hidOf (keep_blk T7.out HS.out.2 (fun e => hgt (by injection e)))
          have HBn := hidOf (grownBy_trans B7.out HS.out.2)
          have HD : Hid (dn spLess (swp qs k l1) l1 = restL spLess ps) := hidOf (by
            have h := dn_yes (lt := spLess) (xs := qs) (i := k) (by rw [← HLo.out, HE2.out])
            rw [← HLo.out, HU.out] at h
            exact h.symm)
          clear O7
          go_wp2
          go_roundw
          case rel => exact ⟨l1, swp qs k l1, by go_num, by omega, hidOf (by rw [swp_len]; exact HL.out), hidOf (HF.out.swp _ _), HD, hidOf HS.out.1, HFn, HRn, HTn, HBn⟩
          case measure => simp [intOf]; omega
    · have hc1 : ¬ ((l1 : Nat) : Int) < (m : Int) := by omega
      have FO := HO
      have Ff := Hf
      have FR := HR
      have FT := HT
      have FB := HB
      have FL := HL
      clear hl1
      have z := dn_no (lt := spLess) (xs := qs) (i := k) (ltAt_out (by rw [HL.out]; have h1 := low_in (lt := spLess) qs k; have h2 := HL1.out; omega))
      rw [HU.out] at z
      have t0 : wr.cell? ⟨tb, 0, none⟩ = some (.slice f.a f.st.vals.length f.c) := cell_of_row wr _ 0 _ _ _ FT.out
      have t1 : wr.cell? ⟨tb, 1, none⟩ = some (.int .i64 f.st.sum) := cell_of_row wr _ 1 _ _ _ FT.out
      have r0 : wr.cell? ⟨rb, 0, none⟩ = some (.slice none 0 0) := cell_of_row wr _ 0 _ _ _ FR.out
      have r1 : wr.cell? ⟨rb, 1, none⟩ = some (.int .i64 0) := cell_of_row wr _ 1 _ _ _ FR.out
      have z0 := frozen_of_row wr rb 0 _ _ FR.out
      have z1 := frozen_of_row wr rb 1 _ _ FR.out
      have HE := hidOf (fin_own FO.out Ff.out FR.out hgs (.slice f.a f.st.vals.length f.c) (.int .i64 f.st.sum))
      have HBE := hidOf (grown_at (grown_at FB.out (grown_set _ ⟨rb, 0, none⟩ (.slice f.a f.st.vals.length f.c)) (.inr hBr)) (grown_set _ ⟨rb, 1, none⟩ (.int .i64 f.st.sum)) (.inr hBr))
      have ZZ := hidOf z
      have fl := FL.out
      clear z
      go_wp2
      go_region
      go_wp2
      have y0 : ((wr.setCell ⟨rb, 0, none⟩ (.slice f.a f.st.vals.length f.c)).setCell ⟨rb, 1, none⟩ (.int .i64 f.st.sum)).drew.cell? ⟨rb, 0, none⟩ = some (.slice f.a f.st.vals.length f.c) := by go_simp
      have y1 : ((wr.setCell ⟨rb, 0, none⟩ (.slice f.a f.st.vals.length f.c)).setCell ⟨rb, 1, none⟩ (.int .i64 f.st.sum)).drew.cell? ⟨rb, 1, none⟩ = some (.int .i64 f.st.sum) := by go_simp
      refine bodyPost_ret (v := .tuple #[.slice (some ⟨g, 0, none⟩) m c, .agg #[.slice f.a f.st.vals.length f.c, .int .i64 f.st.sum]]) (by simp [results, Try.results44, go_sem, y0, y1]) rfl ?_
      rw [ZZ.out]
      exact ⟨rfl, HE.out.1.below (below_drewN _ 1), owns_below HE.out.2 (below_drewN _ 1), (grownBy_trans HBE.out (grownBy_of_below (below_drewN _ 1) _))⟩

theorem sPop_any (B g c m : Nat) (ps : List Sp) (f : Sp) (w : World) (hn0 : ps.length ≤ 1048577) (hm : ps.length = m + 1) (hf : ps[0]? = some f) (hF : Few ps) (hO : Own w B (some ⟨g, 0, none⟩) c ps) (hBw : B ≤ w.heap.size) :
    Calls Try.prog 44 #[.slice (some ⟨g, 0, none⟩) (m + 1) c] w fun e w' => e = .returned (.tuple #[.slice (some ⟨g, 0, none⟩) m c, .agg #[.slice f.a f.st.vals.length f.c, .int .i64 f.st.sum]]) ∧ Own w' B (some ⟨g, 0, none⟩) c (restL spLess ps) ∧ w'.ownsRow B 3 1 (.slice f.a f.st.vals.length f.c) f.st.vals.length (intVals f.st.vals) ∧ Below B w w' := by
  refine (sPop_gr B g c m ps f w hn0 hm hf hF hO hBw).mono ?_
  rintro e w1 ⟨rfl, h1, h2, h3⟩
  exact ⟨rfl, h1, h2, gr_below h3 hBw (fun k e => by cases e; exact (hO.row.lt g rfl).1)⟩
end Go.Proofs.Ytgaejcljabhijaa
