/- What spec.l11Push answers. -/
import Derived.Test.YtghfpcjgionbaaaKab
import Derived.Test.YtghfpcjgionbaaaKad
import Derived.Test.YtghfpcjgionbaaaKae
import Derived.Test.YtghfpcjgionbaaaKac
import Derived.Deep.RegionHeld3
import Derived.Deep.CutBlock
namespace Go.Proofs.Ytghfpcjgionbaaa
open Go.RowKit

set_option maxHeartbeats 8000000 in
set_option maxRecDepth 20000 in
theorem sPush_gr (B : Nat) (a : Option Addr) (c : Nat) (ps : List Sp) (x : Sp) (w : World) (hn0 : ps.length ≤ 1048576) (hF : Few ps) (hx : x.st.vals.length ≤ 1048576) (hO : Own w B a c ps) (ho : w.ownsRow B 3 1 (.slice x.a x.st.vals.length x.c) x.st.vals.length (intVals x.st.vals)) (hap : ∀ q ∈ ps, ∀ g, q.blk = some g → x.blk ≠ some g) (hBw : B ≤ w.heap.size) :
    Calls Try.prog 44 #[.slice a ps.length c, .agg #[.slice x.a x.st.vals.length x.c, .int .i64 x.st.sum]] w fun e w' => ∃ a' c', e = .returned (.slice a' (ps.length + 1) c') ∧ Own w' B a' c' (pushL spLess ps x) ∧ w.grownBy w' (Value.slice a ps.length c).ownBlock ∧ (∀ g, (Value.slice a' (ps.length + 1) c').ownBlock = some g → (Value.slice a ps.length c).ownBlock = some g ∨ w.heap.size ≤ g) := by
  obtain ⟨i0, hi, hz0, hz1, hz2⟩ := info_parts infoSt.2
  go_enter Try.func44, Try.ntmps44
  go_upto_region 1 with fail
  obtain ⟨W, hW, X, hbx, SX⟩ := bx_new w x 73
  rw [← hW]
  have O1 := hO.below hbx
  have o1 := owns_below ho hbx
  have hBW : B ≤ W.heap.size := Nat.le_trans hBw hbx.size
  obtain ⟨hX, x0, x1⟩ := X
  have hAD : ∀ ob : Obj, Below W.heap.size W (W.alloc ob) := fun ob => (Below.refl _ _).alloc (Nat.le_refl _) _
  clear hW SX
  go_wp2_with (at_builtin; refine wpList_append_own2 rfl _ _ 74 rfl B 73 i0 (.agg #[.slice none 0 0, .int .i64 0]) 2 32 Try.underlying74 hi hz0 hz1 hz2 rfl (by decide) _ _ _ rfl (O1.row.alloc _) ⟨W.heap.size, 0, none⟩ 1 1 (spCells x) rfl rfl (cells_sp_new W x _) (one_sp x) (by unfold maxLen; omega) (by omega) (by simp; omega) ?_; intro v' w3 hown3 hgrow3 hpl3; obtain ⟨a', c', rfl⟩ := owns_slice hown3)
  have O3 := hidOf (Own.append (O1.below (hAD _)) (owns_below o1 (hAD _)) hap hgrow3 hown3)
  have B3 := hidOf (grownBy_trans (grownBy_of_below (hbx.trans ((hAD _).mono hbx.size)) (Value.slice a ps.length c).ownBlock) hgrow3)
  have HQ : Hid (∀ g, (Value.slice a' (ps.length + 1) c').ownBlock = some g → (Value.slice a ps.length c).ownBlock = some g ∨ w.heap.size ≤ g) := hidOf (fun q hq => (hpl3 q hq).imp_right (fun h => Nat.le_trans (hbx.trans ((hAD (.cells #[.slice x.a x.st.vals.length x.c, .int .i64 x.st.sum] 73)).mono hbx.size)).size h))
  obtain ⟨g, rfl⟩ := owns_at hown3 (by omega)
  clear hown3 hgrow3 hpl3 x0 x1 O1 o1 hAD
  obtain ⟨n1, hn1⟩ : ∃ n1, n1 = ps.length + 1 := ⟨_, rfl⟩
  go_loopw [5] (fun v wr => ∃ (k : Nat) (qs : List Sp), v = .int .i64 k ∧ k < n1 ∧ Hid (qs.length = n1) ∧ Hid (Few qs) ∧ Hid (up spLess qs k = pushL spLess ps x) ∧ Hid (Own wr B (some ⟨g, 0, none⟩) c' qs) ∧ Hid (w.grownBy wr (Value.slice a ps.length c).ownBlock)) (fun v _ => (intOf v).toNat)
  case atStart => exact ⟨ps.length, ps ++ [x], by go_num, by omega, hidOf (by simp [hn1]), hidOf (few_app hF hx), hidOf rfl, O3, B3⟩
  case round =>
    obtain ⟨k, qs, rfl, hk, HL, HF, HU, HO, HB⟩ := hrel
    by_cases h0 : 0 < k
    · have hg : decide ((k : Int) > 0) = true := by simp; omega
      have hA : (0 : Int) ≤ (k : Int) := by omega
      have hB : (k : Int) < ((ps.length : Int) + 1) := by omega
      obtain ⟨j, hj⟩ : ∃ j, j = par k := ⟨_, rfl⟩
      have hjk : j < k := by rw [hj]; exact par_lt h0
      have e1 : ((k : Int) + 1).tdiv 2 = ((k : Int) + 1) / 2 := Int.tdiv_eq_ediv_of_nonneg (by omega)
      have e2 : ((k : Int) + 1) / 2 - 1 = (j : Int) := by rw [hj, par_int k h0]
      have w1 : IntKind.i64.wrap ((k : Int) + 1) = (k : Int) + 1 := IntWalk.i64_in _ ⟨by omega, by omega⟩
      have w2 : IntKind.i64.wrap (((k : Int) + 1) / 2) = ((k : Int) + 1) / 2 := IntWalk.i64_in _ ⟨by omega, by omega⟩
      have w3 : IntKind.i64.wrap (((k : Int) + 1) / 2 - 1) = (j : Int) := by rw [e2]; exact IntWalk.i64_in _ ⟨by omega, by omega⟩
      have hC : (0 : Int) ≤ (j : Int) := by omega
      have hD : (j : Int) < ((ps.length : Int) + 1) := by omega
      obtain ⟨p, ep⟩ : ∃ p, qs[k]? = some p := ⟨_, List.getElem?_eq_getElem (by rw [HL.out]; exact hk)⟩
      obtain ⟨q, eq⟩ : ∃ q, qs[j]? = some q := ⟨_, List.getElem?_eq_getElem (by rw [HL.out]; omega)⟩
      obtain ⟨p0, p1, -, -⟩ := HO.out.at ep
      obtain ⟨q0, q1, -, -⟩ := HO.out.at eq
      have hgl := (HO.out.row.lt g rfl).2
      have HE := hidOf (ltAt_of (lt := spLess) ep eq)
      rw [hj] at HE
      have Fp := HF.out p (List.mem_of_getElem? ep)
      have Fq := HF.out q (List.mem_of_getElem? eq)
      have Kp := HO.out.sts.2 p (List.mem_of_getElem? ep)
      have Kq := HO.out.sts.2 q (List.mem_of_getElem? eq)
      have hS := fun W kp kq => sSL_any p q W Fp Fq kp kq
      obtain ⟨b, hbb⟩ : ∃ b, b = spLess p q := ⟨_, rfl⟩
      rw [← hbb] at hS HE
      have EP := hidOf ep
      have EQ := hidOf eq
      have HJ := hidOf hj
      have HN1 := hidOf hn1
      have hE2 := hidOf e2
      have hkj : k ≠ j := by omega
      clear ep eq hj hbb e2 hn1
      go_wp2
      go_region_held3 (fun W => (W.cell? ⟨g, k * 2, none⟩ = some (.slice p.a p.st.vals.length p.c) ∧ W.cell? ⟨g, k * 2 + 1, none⟩ = some (.int .i64 p.st.sum)) ∧ W.cell? ⟨g, j * 2, none⟩ = some (.slice q.a q.st.vals.length q.c) ∧ W.cell? ⟨g, j * 2 + 1, none⟩ = some (.int .i64 q.st.sum)) (first | trivial | go_keep)
        ((go_at_call 73; refine (hS _ (Kp.below (Below.refl wr.heap.size wr).drew (Nat.le_refl _)) (Kq.below (Below.refl wr.heap.size wr).drew (Nat.le_refl _))).mono ?_; rintro e w4 ⟨rfl, hb4⟩; have E1 := (Below.refl wr.heap.size wr).drew.trans hb4; have hc1 := (bcell E1).1))
      have O4 := HO.out.below E1
      have hBwr : B ≤ wr.heap.size := Nat.le_trans hBw HB.out.size
      have B4 := hidOf (grownBy_trans HB.out (grownBy_of_below E1 _))
      clear p0 p1 q0 q1 hc1 hb4 Kp Kq hS
      cases b
      · go_wp2
        go_ret
        refine ⟨some ⟨g, 0, none⟩, c', rfl, ?_, B4.out, HQ.out⟩
        rw [← HU.out, up_no (by rw [HE.out]; simp)]
        exact O4
      · go_upto_region 6 with fail
        obtain ⟨W5, hW5, X5, hb5, S5⟩ := bx_new w4 p 73
        rw [← hW5]
        have O5 := O4.below hb5
        have hBw4 : B ≤ w4.heap.size := Nat.le_trans hBwr E1.size
        have B5 := hidOf (grownBy_trans B4.out (grownBy_of_below hb5 _))
        have hgw4 : g < w4.heap.size := Nat.lt_of_lt_of_le hgl E1.size
        have hBW5 : B ≤ W5.heap.size := Nat.le_trans hBw4 hb5.size
        obtain ⟨sb, hsb⟩ : ∃ sb, sb = w4.heap.size := ⟨_, rfl⟩
        have hsg : sb ≠ g := by omega
        rw [← hsb] at X5
        rw [← hsb]
        clear hW5 S5 hb5 hsb O4 E1
        obtain ⟨hX5, x0, x1⟩ := X5
        obtain ⟨p0, p1, p2, p3⟩ := O5.at EP.out
        obtain ⟨q0, q1, q2, q3⟩ := O5.at EQ.out
        have HS := hidOf (O5.swap EP.out EQ.out hkj)
        have hBg := (O5.row.lt g rfl).1
        clear O5
        go_wp2
        go_roundw
        case rel => exact ⟨j, swp qs k j, by go_num, by omega, hidOf (by rw [swp_len]; exact HL.out), hidOf (HF.out.swp _ _), hidOf (by rw [← HU.out, up_yes h0 HE.out, HJ.out]), hidOf HS.out.1, hidOf (grown_at B5.out HS.out.2 (HQ.out g rfl))⟩
        case measure => simp [intOf]; omega
    · have hg : decide ((k : Int) > 0) = false := by simp; omega
      go_wp2
      go_quiet (fail)
      go_wp2
      go_ret
      refine ⟨some ⟨g, 0, none⟩, c', rfl, ?_, grownBy_trans HB.out (grownBy_of_below (below_drewN _ _) _), HQ.out⟩
      rw [← HU.out, up_no (by simp [h0])]
      exact HO.out.below (below_drewN _ _)
theorem sPush_any (B : Nat) (a : Option Addr) (c : Nat) (ps : List Sp) (x : Sp) (w : World) (hn0 : ps.length ≤ 1048576) (hF : Few ps) (hx : x.st.vals.length ≤ 1048576) (hO : Own w B a c ps) (ho : w.ownsRow B 3 1 (.slice x.a x.st.vals.length x.c) x.st.vals.length (intVals x.st.vals)) (hap : ∀ q ∈ ps, ∀ g, q.blk = some g → x.blk ≠ some g) (hBw : B ≤ w.heap.size) :
    Calls Try.prog 44 #[.slice a ps.length c, .agg #[.slice x.a x.st.vals.length x.c, .int .i64 x.st.sum]] w fun e w' => ∃ a' c', e = .returned (.slice a' (ps.length + 1) c') ∧ Own w' B a' c' (pushL spLess ps x) ∧ Below B w w' := by
  refine (sPush_gr B a c ps x w hn0 hF hx hO ho hap hBw).mono ?_
  rintro e w1 ⟨a', c', rfl, h1, h2, -⟩
  exact ⟨a', c', rfl, h1, gr_below h2 hBw (fun k e => (hO.row.lt k e).1)⟩
end Go.Proofs.Ytghfpcjgionbaaa
