/- What spec.Decimal answers, at every int. -/
import Derived.Test.YtcaimnffnlpdcaaDoorChecked
import Derived.Test.YtcaimnffnlpdcaaDoorDecLib
namespace Go.Proofs.YtcaimnffnlpdcaaDoor
open Go.RowKit

theorem fig10_any (x : Int) (w : World) (h0 : 0 ≤ x) (h1 : x < 10) :
    Calls Tryd.prog 32 #[.int .i64 x] w fun e w' => e = .returned (.int .u8 (48 + x)) ∧ w' = w := by
  go_enter Tryd.func32, Tryd.ntmps32
  go_wp2
  go_ret
  exact ⟨rfl, rfl⟩

theorem conv_one (x : Int) (w : World) : (convert 22 9 (.slice (some ⟨w.heap.size, 0, none⟩) 1 1)).run Tryd.prog (w.alloc (.cells #[.int .u8 x] 5)) = .ok (.string (strOfNums [x])) (w.alloc (.cells #[.int .u8 x] 5)) := by
  refine run_convert_bytes_arg _ 22 5 Tryd.underlying22 Tryd.underlying5 w.heap.size 0 1 1 [x] rfl (fun i hi => ?_) 9 Tryd.underlying9
  have : i = 0 := by omega
  subst this
  simp

/-- What the loop has written so far stands behind what is still to come. -/
def DecInv (u m : Nat) (t : ByteArray) : Prop := dd m ++ t.data.toList = dd u
theorem decInv_step {u m : Nat} {t : ByteArray} (h : DecInv u m t) (hm : 0 < m) : DecInv u (m / 10) (strOfNums [48 + (m : Int) % 10] ++ t) := by
  unfold DecInv at *
  have e := fig_byte (m % 10) (by omega)
  rw [← h, dd_step hm, ByteArray.data_append, Array.toList_append, strOfNums_data, ← e, List.append_assoc]
  rfl
theorem decInv_size {u m : Nat} {t : ByteArray} (h : DecInv u m t) (hu : u < 10 ^ 20) : t.size ≤ 20 := by
  have h1 := congrArg List.length h
  have h2 : (dd u).length ≤ 20 := by
    unfold dd
    split
    · simp
    · exact dec_len 19 u hu
  have h3 : t.data.toList.length = t.size := by simp
  rw [List.length_append] at h1
  omega
theorem decInv_done {u : Nat} {t : ByteArray} (h : DecInv u 0 t) (hu : 0 < u) : t = ⟨(Lib.decDigits u).toArray⟩ := by
  unfold DecInv dd at h
  rw [if_pos rfl, if_neg (by omega), List.nil_append] at h
  apply ByteArray.ext
  apply Array.ext'
  simpa using h

set_option maxHeartbeats 800000 in
set_option maxRecDepth 20000 in
theorem dec_pos_any (u : Nat) (w : World) (h0 : 0 < u) (h1 : u ≤ 9223372036854775807) :
    Calls Tryd.prog 17 #[.int .i64 u] w fun e w' => e = .returned (.string ⟨(Lib.decDigits u).toArray⟩) ∧ Below w.heap.size w w' := by
  have hz : ((u : Int) == 0) = false := beq_eq_false_iff_ne.2 (by omega)
  have hneg : decide ((u : Int) < 0) = false := by simp
  go_enter Tryd.func17, Tryd.ntmps17
  go_wp2
  go_loopw [0, 4, 5] (fun n s _ wr => ∃ (m : Nat) (t : ByteArray), m ≤ u ∧ n = .int .i64 m ∧ s = .string t ∧ Hid (DecInv u m t) ∧ Below w.heap.size w wr)
    (fun n _ _ _ => (intOf n).toNat)
  case atStart => exact ⟨u, ⟨#[]⟩, Nat.le_refl _, rfl, rfl, by unfold Hid DecInv; simp, Below.refl _ _⟩
  case round =>
    obtain ⟨m, t, hm, rfl, rfl, HI, hb⟩ := hrel
    have ht := decInv_size HI.out (by omega)
    have hsz := hb.size
    by_cases hmz : m = 0
    · have hne : ((m : Int) != 0) = false := by simp [hmz]
      have HM := hidOf hmz
      clear hmz
      go_wp2
      go_ret
      exact ⟨ret_str (decInv_done (by have := HI.out; rw [HM.out] at this; exact this) h0), hb⟩
    · have hne : ((m : Int) != 0) = true := by rw [bne_iff_ne]; omega
      have hcv := conv_one
      clear hmz
      go_wp2_with fail
      refine (fig10_any _ _ (by omega) (by omega)).mono ?_
      rintro e w1 ⟨rfl, rfl⟩
      have hs1 := strOfNums_size [48 + (m : Int) % 10]
      go_wp2
      go_roundw
      case rel => exact ⟨m / 10, _, by omega, by go_num, rfl, decInv_step HI.out (by simp at hne; omega), hb.alloc (by omega) _⟩
      case measure => simp [intOf]; simp at hne; omega

set_option maxHeartbeats 800000 in
set_option maxRecDepth 20000 in
theorem dec_neg_any (u : Nat) (w : World) (h0 : 0 < u) (h1 : u ≤ 9223372036854775808) :
    Calls Tryd.prog 17 #[.int .i64 (-(u : Int))] w fun e w' => e = .returned (.string (⟨#[45]⟩ ++ ⟨(Lib.decDigits u).toArray⟩)) ∧ Below w.heap.size w w' := by
  have hz : (-(u : Int) == 0) = false := beq_eq_false_iff_ne.2 (by omega)
  have hneg : decide (-(u : Int) < 0) = true := by simp; omega
  go_enter Tryd.func17, Tryd.ntmps17
  go_wp2
  go_loopw [0, 4, 5] (fun n s _ wr => ∃ (m : Nat) (t : ByteArray), m ≤ u ∧ n = .int .i64 (-(m : Int)) ∧ s = .string t ∧ Hid (DecInv u m t) ∧ Below w.heap.size w wr)
    (fun n _ _ _ => (- intOf n).toNat)
  case atStart => exact ⟨u, ⟨#[]⟩, Nat.le_refl _, rfl, rfl, by unfold Hid DecInv; simp, Below.refl _ _⟩
  case round =>
    obtain ⟨m, t, hm, rfl, rfl, HI, hb⟩ := hrel
    have ht := decInv_size HI.out (by omega)
    have hsz := hb.size
    by_cases hmz : m = 0
    · have hne : (-(m : Int) != 0) = false := by simp [hmz]
      have HM := hidOf hmz
      clear hmz
      go_wp2
      go_ret
      have e : t = ⟨(Lib.decDigits u).toArray⟩ := decInv_done (by have := HI.out; rw [HM.out] at this; exact this) h0
      exact ⟨ret_str (by rw [e]), hb⟩
    · have hne : (-(m : Int) != 0) = true := by rw [bne_iff_ne]; omega
      have hcv := conv_one
      have hmd : (-(m : Int)).tmod 10 = -((m : Int) % 10) := by rw [Int.neg_tmod, Int.tmod_eq_emod_of_nonneg (by omega)]
      have hdv : (-(m : Int)).tdiv 10 = -((m : Int) / 10) := by rw [Int.neg_tdiv, Int.tdiv_eq_ediv_of_nonneg (by omega)]
      clear hmz
      go_wp2_with fail
      · refine (fig10_any _ _ (by omega) (by omega)).mono ?_
        rintro e w1 ⟨rfl, rfl⟩
        have hs1 := strOfNums_size [48 + (m : Int) % 10]
        go_wp2
        go_roundw
        case rel => exact ⟨m / 10, _, by omega, by go_num, rfl, decInv_step HI.out (by simp at hne; omega), hb.alloc (by omega) _⟩
        case measure => simp [intOf]; simp at hne; omega
      · have hz10 : (m : Int) % 10 = 0 := by omega
        have HZ := hidOf hz10
        clear hz10
        refine (fig10_any _ _ (by have := HZ.out; omega) (by omega)).mono ?_
        rintro e w1 ⟨rfl, rfl⟩
        have hs1 := strOfNums_size [48 + -((m : Int) % 10)]
        go_wp2
        go_roundw
        case rel => exact ⟨m / 10, _, by omega, by go_num, rfl, by have e : 48 + -((m : Int) % 10) = 48 + (m : Int) % 10 := (by have := HZ.out; omega); rw [e]; exact decInv_step HI.out (by simp at hne; omega), hb.alloc (by omega) _⟩
        case measure => simp [intOf]; simp at hne; omega

theorem dec_zero_any (w : World) :
    Calls Tryd.prog 17 #[.int .i64 0] w fun e w' => e = .returned (.string ⟨#[48]⟩) ∧ w' = w := by
  go_enter Tryd.func17, Tryd.ntmps17
  go_wp2
  go_ret
  exact ⟨rfl, rfl⟩

/-- spec.Decimal, at every int. -/
theorem dec_any (n : Int) (w : World) (h0 : -9223372036854775808 ≤ n) (h1 : n ≤ 9223372036854775807) :
    Calls Tryd.prog 17 #[.int .i64 n] w fun e w' => e = .returned (.string ⟨(Lib.itoa n).toArray⟩) ∧ Below w.heap.size w w' := by
  by_cases hz : n = 0
  · subst hz
    refine (dec_zero_any w).mono ?_
    rintro e w' ⟨rfl, rfl⟩
    exact ⟨ret_str (by rw [Lib.itoa, if_neg (by omega), show (0 : Int).toNat = 0 by rfl, dec_small (by omega)]; rfl), Below.refl _ _⟩
  · by_cases hn : n < 0
    · obtain ⟨u, hu⟩ : ∃ u : Nat, n = -(u : Int) := ⟨n.natAbs, by omega⟩
      subst hu
      refine (dec_neg_any u w (by omega) (by omega)).mono ?_
      rintro e w' ⟨rfl, hb⟩
      refine ⟨ret_str ?_, hb⟩
      rw [Lib.itoa, if_pos hn, show (-(u : Int)).natAbs = u by omega]
      apply ByteArray.ext
      apply Array.ext'
      rw [ByteArray.data_append]
      simp
    · obtain ⟨u, hu⟩ : ∃ u : Nat, n = (u : Int) := ⟨n.toNat, by omega⟩
      subst hu
      refine (dec_pos_any u w (by omega) (by omega)).mono ?_
      rintro e w' ⟨rfl, hb⟩
      exact ⟨ret_str (by rw [Lib.itoa, if_neg hn]; rfl), hb⟩
end Go.Proofs.YtcaimnffnlpdcaaDoor
