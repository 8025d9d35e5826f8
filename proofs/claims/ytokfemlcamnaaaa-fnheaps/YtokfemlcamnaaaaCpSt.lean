/- What impl.copyState and impl.copyStates answer: the same states in memory of their own. -/
import Derived.Test.YtokfemlcamnaaaaToSt
import Derived.Test.YtokfemlcamnaaaaBoxSt
import Derived.Test.YtokfemlcamnaaaaCloneI
import Derived.Deep.RegionWith
import Derived.Deep.RegionHeld3
import Derived.Deep.CutBlock
namespace Go.Proofs.Ytokfemlcamnaaaa
open Go.RowKit

set_option maxHeartbeats 4000000 in
theorem copySt_any (p : Sp) (w : World) (hn : p.st.vals.length ≤ 1048576) (hT : KidsAt w p.a p.st.vals) :
    Calls Try.prog 105 #[.agg #[.slice p.a p.st.vals.length p.c, .int .i64 p.st.sum]] w fun e w' => SvAns p.st w e w' := by
  obtain ⟨⟨ks, sm⟩, a, c⟩ := p
  dsimp only at hn hT ⊢
  go_enter Try.func105, Try.ntmps105
  go_upto_region 1 with fail
  obtain ⟨W, hW⟩ : ∃ W, W = (w.alloc (.cells #[.slice a ks.length c, .int .i64 sm] 57)).alloc (.cells #[.slice none 0 0, .int .i64 0] 57) := ⟨_, rfl⟩
  have A0 := heap_alloc2_old w (.cells #[.slice a ks.length c, .int .i64 sm] 57) (.cells #[.slice none 0 0, .int .i64 0] 57)
  have A1 := heap_alloc2_new w (.cells #[.slice a ks.length c, .int .i64 sm] 57) (.cells #[.slice none 0 0, .int .i64 0] 57)
  have B0 : Below w.heap.size w W := by rw [hW]; exact ((Below.refl _ _).alloc (Nat.le_refl _) _).alloc (by simp) _
  have S0 : W.heap.size = w.heap.size + 2 := by rw [hW]; simp
  rw [← hW] at A0 A1 ⊢
  have HS := hidOf S0
  clear hW S0
  have c0 : W.cell? ⟨w.heap.size, 0, none⟩ = some (.slice a ks.length c) := cell_of_row W _ 0 _ _ _ A0
  have c1 : W.cell? ⟨w.heap.size, 1, none⟩ = some (.int .i64 sm) := cell_of_row W _ 1 _ _ _ A0
  have hK := hT.below B0.drew (Nat.le_refl _)
  go_region_with (go_at_call 96; refine (clone_any a c ks _ hn hK).mono ?_; rintro e w1 ⟨hb1, xa, xc, rfl, xo⟩; have E0 := (hb1.block w.heap.size (by have := HS.out; show _ < W.heap.size; omega)).trans A0; have E1 := (hb1.block (w.heap.size + 1) (by have := HS.out; show _ < W.heap.size; omega)).trans A1; have d1 : w1.cell? ⟨w.heap.size, 1, none⟩ = some (.int .i64 sm) := cell_of_row w1 _ 1 _ _ _ E0; have r0 : w1.cell? ⟨w.heap.size + 1, 0, none⟩ = some (.slice none 0 0) := cell_of_row w1 _ 0 _ _ _ E1; have r1 : w1.cell? ⟨w.heap.size + 1, 1, none⟩ = some (.int .i64 0) := cell_of_row w1 _ 1 _ _ _ E1; have f0 := frozen_of_row w1 (w.heap.size + 1) 0 _ _ E1; have f1 := frozen_of_row w1 (w.heap.size + 1) 1 _ _ E1)
  all_goals go_wp2
  all_goals refine bodyPost_ret (results_one2 rfl _ _ (w.heap.size + 1) (.slice xa ks.length xc) (.int .i64 sm) _ rfl ?_ ?_ Try.underlying57 rfl infoSt.1) rfl ?_
  all_goals first | (go_simp; done) | skip
  all_goals
    have hS := HS.out
    have n1 : (Value.slice xa ks.length xc).ownBlock = none ∨ (Value.slice xa ks.length xc).ownBlock ≠ some (w.heap.size + 1) := by
      cases hv : (Value.slice xa ks.length xc).ownBlock with
      | none => exact .inl rfl
      | some g =>
        right
        intro e
        cases e
        have := (xo.lt _ hv).1
        simp at this
        omega
    have q1 : w.heap.size ≤ w.heap.size + 1 := by omega
    exact ⟨xa, xc, rfl, ownsRow_base (own_put (own_put xo _ _ n1) _ _ n1) (by show w.heap.size ≤ W.heap.size; omega), ((B0.drew.trans (hb1.mono B0.size)).setCell q1 _).setCell q1 _⟩

set_option maxHeartbeats 4000000 in
theorem copySts_any (a : Option Addr) (c : Nat) (ps : List Sp) (w : World) (hn0 : ps.length ≤ 1048577) (hF : Few ps) (hT : StsAt w a ps) :
    Calls Try.prog 103 #[.slice a ps.length c] w fun e w' => StsAns (ps.map Sp.st) w e w' := by
  obtain ⟨h, hK⟩ := hT
  unfold RowsAt at h
  obtain ⟨n, hn⟩ : ∃ n, n = ps.length := ⟨_, rfl⟩
  rw [← hn] at h hn0 ⊢
  have HN := hidOf hn
  clear hn
  obtain ⟨i0, hi, hz0, hz1, hz2⟩ := info_parts infoSt.2
  go_enter Try.func103, Try.ntmps103
  go_wp2_with (at_make; refine wpList_make_full _ rfl _ _ 54 rfl w.heap.size 57 i0 _ 2 Try.underlying54 hi hz0 hz1 .i64 .i64 _ _ n rfl rfl rfl rfl (by rw [hz2]; omega) (by unfold maxLen; omega) (Nat.le_refl _) ?_; intro w1 hown hgrow)
  have hb1 : Below w.heap.size w w1 := (Below.refl _ w).grown hgrow (Nat.le_refl _) (fun k e => by cases e)
  have HM : Made w1 w.heap.size w.heap.size n [] := ⟨⟨_, hown, by simp [rowVals]⟩, (fun p hp => by cases hp), fun i j p q _ hp => by simp at hp⟩
  clear hown hgrow
  go_loopw [11] (fun i wr => ∃ (qs : List Sp) (k : Nat), k ≤ n ∧ i = .int .i64 k ∧ Hid (qs.length = k) ∧ Hid (Made wr w.heap.size w.heap.size n qs) ∧ Hid (qs.map Sp.st = (ps.map Sp.st).take k) ∧ Below w.heap.size w wr) (fun i _ => n - (intOf i).toNat)
  case atStart => exact ⟨[], 0, Nat.zero_le _, rfl, hidOf rfl, hidOf HM, hidOf rfl, hb1⟩
  case round =>
    obtain ⟨qs, k, hk, rfl, HL, HM, HZ, hb⟩ := hrel
    by_cases hlt : k < n
    · obtain ⟨p, ex⟩ : ∃ p, ps[k]? = some p := ⟨_, List.getElem?_eq_getElem (by rw [← HN.out]; exact hlt)⟩
      obtain ⟨b1, o1, rfl, hb1, hc1⟩ := h (by omega)
      obtain ⟨p0, p1⟩ := sp2 (w := wr) (b := b1) (o := o1 + k * 2) (p := p) (fun j hj => by rw [hb.cell hb1]; exact hc1 k p ex j hj)
      have hfew := hF p (List.mem_of_getElem? ex)
      have hKp := hK p (List.mem_of_getElem? ex)
      have EX := hidOf ex
      clear ex hc1 h
      have hA : (0 : Int) ≤ (k : Int) := by omega
      have hB : (k : Int) < (n : Int) := by omega
      go_upto_region 5 with fail
      obtain ⟨W, hW, X, hbx, SX⟩ := bx_new wr p 57
      rw [← hW]
      have BX := hb.trans (hbx.mono hb.size)
      have MX := HM.out.below hbx
      obtain ⟨-, x0, x1⟩ := X
      clear hW SX p0 p1
      go_wp2_with fail
      refine (copySt_any p _ hfew (hKp.below BX (Nat.le_refl _))).mono ?_
      rintro e w2 ⟨a', c', rfl, ho2, hb2⟩
      have HS := hidOf (Made.step ⟨p.st, a', c'⟩ MX hb2 BX.size (by rw [HL.out]; exact hlt) ho2)
      obtain ⟨⟨u0, d0⟩, ⟨u1, d1⟩, f0, f1⟩ := (MX.below hb2).cells k hlt
      rw [HL.out] at HS
      have B2 := hidOf (BX.trans (hb2.mono BX.size))
      have HSZ := hidOf (Nat.le_trans BX.size hb2.size)
      clear ho2 hKp x0 x1
      go_wp2
      go_roundw
      case rel => exact ⟨qs ++ [⟨p.st, a', c'⟩], k + 1, by omega, by go_num, hidOf (by rw [List.length_append, HL.out]; rfl), hidOf HS.out.1, hidOf (by
        rw [List.map_append, HZ.out, List.take_add_one, List.getElem?_map, EX.out]
        rfl), B2.out.grown HS.out.2 HSZ.out (fun q hq => by cases hq; exact Nat.le_refl _)⟩
      case measure => simp [intOf]; omega
    · go_wp2
      go_ret
      have h1 := HN.out
      have h2 := HL.out
      have h3 := HZ.out
      rw [List.take_of_length_le (by simp; omega)] at h3
      have hq : qs.length = n := by omega
      refine ⟨some ⟨w.heap.size, 0, none⟩, n, qs, ?_, h3, ?_, hb⟩
      · rw [hq]
        rfl
      · exact HM.out.own hq
end Go.Proofs.Ytokfemlcamnaaaa
