/- How an item of the program's own heap goes down. -/
import Derived.Test.YtokfemlcamnaaaaUpI
namespace Go.Proofs.Ytokfemlcamnaaaa
open Go.RowKit

set_option maxHeartbeats 4000000 in
theorem lesser_any (kd : HK) (hb : Nat) (a : Option Addr) (c : Nat) (ps : List Sp) (i : Nat) (w : World) (hn0 : ps.length ≤ 1048577) (hi0 : i ≤ 2097152) (hF : Few ps) (hT : StsAt w a ps) (H : Hv kd w hb a ps.length c) :
    Calls Try.prog 177 #[.pointer (some ⟨hb, kd.o, none⟩), .int .i64 i] w fun e w' => e = .returned (.int .i64 (low spLess ps i)) ∧ Below w.heap.size w w' := by
  have hL := isLess_any kd hb a c ps (2 * i + 2) (2 * i + 1) w hn0 (by omega) (by omega) (by omega) hF hT H
  rw [show ((2 * i + 2 : Nat) : Int) = 2 * (i : Int) + 1 + 1 by omega, show ((2 * i + 1 : Nat) : Int) = 2 * (i : Int) + 1 by omega] at hL
  obtain ⟨b, hb2⟩ : ∃ b, b = ltAt spLess ps (2 * i + 2) (2 * i + 1) := ⟨_, rfl⟩
  have HE : Hid (((low spLess ps i : Nat) : Int) = if b = true then 2 * (i : Int) + 1 + 1 else 2 * (i : Int) + 1) := hidOf (by
    unfold low
    rw [← hb2]
    split <;> omega)
  rw [← hb2] at hL
  have HL := hidOf hL
  clear hL hb2 hT H
  go_enter Try.func177, Try.ntmps177
  go_wp2_with fail
  refine HL.out.mono ?_
  rintro e w1 ⟨rfl, hb1⟩
  cases b
  · go_wp2
    go_ret
    exact ⟨ret_int (by rw [HE.out]; rfl), hb1⟩
  · go_wp2
    go_ret
    exact ⟨ret_int (by rw [HE.out]; rfl), hb1⟩

set_option maxHeartbeats 4000000 in
theorem goDown_any (kd : HK) (hb B g c : Nat) (ps : List Sp) (i : Nat) (w : World) (hn0 : ps.length ≤ 1048577) (hi : i ≤ ps.length) (hF : Few ps) (hO : Own w B (some ⟨g, 0, none⟩) c ps) (H : Hv kd w hb (some ⟨g, 0, none⟩) ps.length c) :
    Calls Try.prog 156 #[.pointer (some ⟨hb, kd.o, none⟩), .int .i64 i] w fun e w' => e = .returned (.tuple #[]) ∧ Own w' B (some ⟨g, 0, none⟩) c (dn spLess ps i) ∧ w.grownBy w' (some g) := by
  have hne := H.ne hO
  have HL0 := hidOf (lesser_any kd hb (some ⟨g, 0, none⟩) c ps i w hn0 (by omega) hF hO.sts H)
  go_enter Try.func156, Try.ntmps156
  go_wp2_with fail
  refine HL0.out.mono ?_
  rintro e w0 ⟨rfl, hb0⟩
  clear HL0
  go_wp2
  go_loopw [1, 4] (fun v u wr => ∃ (k : Nat) (qs : List Sp), v = .int .i64 k ∧ k ≤ ps.length ∧ u = .int .i64 (low spLess qs k) ∧ Hid (qs.length = ps.length) ∧ Hid (Few qs) ∧ Hid (dn spLess qs k = dn spLess ps i) ∧ Hid (Own wr B (some ⟨g, 0, none⟩) c qs) ∧ Hid (w.grownBy wr (some g))) (fun v _ _ => ps.length - (intOf v).toNat)
  case atStart => exact ⟨i, ps, rfl, hi, rfl, hidOf rfl, hidOf hF, hidOf rfl, hidOf (hO.below hb0), hidOf (grownBy_of_below hb0 _)⟩
  case round =>
    obtain ⟨k, qs, rfl, hk, rfl, HL, HF, HU, HO, HG⟩ := hrel
    have H1 := hidOf (H.grown HG.out hne)
    have hL := HL.out
    obtain ⟨l, hl⟩ : ∃ l, l = low spLess qs k := ⟨_, rfl⟩
    have hlk : k < l := by rw [hl]; exact low_gt _ _
    have hl2 : l ≤ 2 * k + 2 := by rcases low_in (lt := spLess) qs k with h | h <;> omega
    have HI := hidOf (isLess_any kd hb (some ⟨g, 0, none⟩) c qs l k wr (by omega) (by omega) (by omega) (by omega) HF.out HO.out.sts (by rw [hL]; exact H1.out))
    obtain ⟨b, hb2⟩ : ∃ b, b = ltAt spLess qs l k := ⟨_, rfl⟩
    rw [← hb2] at HI
    have HB := hidOf hb2
    rw [← hl]
    have HLo := hidOf hl
    obtain ⟨n, hn⟩ : ∃ n, n = ps.length := ⟨_, rfl⟩
    rw [← hn] at hk hn0
    have HN := hidOf hn
    clear hb2 hn hL hl
    go_wp2_with fail
    refine HI.out.mono ?_
    rintro e w2 ⟨rfl, hb2⟩
    cases b
    · go_wp2
      go_end0
      rw [← HU.out, dn_no (by rw [← HLo.out, ← HB.out])]
      exact ⟨rfl, HO.out.below hb2, grownBy_trans HG.out (grownBy_of_below hb2 _)⟩
    · have hin := ltAt_in HB.out.symm
      have hlt : l < n := by have := HL.out; have := HN.out; omega
      have HD : Hid (dn spLess (swp qs k l) l = dn spLess ps i) := hidOf (by
        have h := dn_yes (lt := spLess) (xs := qs) (i := k) (by rw [← HLo.out, ← HB.out])
        rw [← HLo.out, HU.out] at h
        exact h.symm)
      have HC := hidOf (change_any kd hb B g c qs k l w2 hin.2 hin.1 (by omega) (HO.out.below hb2) (by have := H1.out.kept hb2; rw [HL.out]; exact this))
      have HG2 := hidOf (grownBy_trans HG.out (grownBy_of_below hb2 (some g)))
      clear hb2 hin
      go_wp2_with fail
      refine HC.out.mono ?_
      rintro e w3 ⟨rfl, o3, g3⟩
      have HG3 := hidOf (grownBy_trans HG2.out g3)
      have HLL := hidOf (lesser_any kd hb (some ⟨g, 0, none⟩) c (swp qs k l) l w3 (by rw [swp_len, HL.out, ← HN.out]; exact hn0) (by omega) (HF.out.swp _ _) o3.sts (by rw [swp_len, HL.out]; exact H.grown HG3.out hne))
      have HO3 := hidOf o3
      clear o3 g3
      go_wp2_with fail
      refine HLL.out.mono ?_
      rintro e w4 ⟨rfl, hb4⟩
      have HO4 := hidOf (HO3.out.below hb4)
      have HG4 := hidOf (grownBy_trans HG3.out (grownBy_of_below hb4 (some g)))
      clear hb4
      go_wp2
      go_roundw
      case rel => exact ⟨l, swp qs k l, rfl, by have := HN.out; omega, rfl, hidOf (by rw [swp_len]; exact HL.out), hidOf (HF.out.swp _ _), HD, HO4, HG4⟩
      case measure => simp [intOf]; have := HN.out; omega
end Go.Proofs.Ytokfemlcamnaaaa
