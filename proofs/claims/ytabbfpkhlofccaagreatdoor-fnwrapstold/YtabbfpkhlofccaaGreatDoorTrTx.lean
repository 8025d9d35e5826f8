/- Right texts in plain words; what the specification answers of them. -/
import Derived.Test.YtabbfpkhlofccaaGreatDoorKaf
import Derived.Test.YtabbfpkhlofccaaGreatDoorSgnS4
import Derived.Test.YtabbfpkhlofccaaGreatDoorKad
namespace Go.Proofs.YtabbfpkhlofccaaGreatDoor
open Go.RowKit

theorem by8_no {t : ByteArray} (h : t.size = 0) : by8 t 0 = 0 := by8_past (by omega)
theorem whole_nam {t : ByteArray} (h : Whole 1 t) : 1 ≤ t.size ∧ t.size ≤ 30 ∧ firB (by8 t 0) = true ∧ ∀ j, j < t.size → namB (by8 t j) = true := by
  unfold Whole at h
  by_cases h1 : figB (by8 t 0) = true
  · rw [hd_fig h1] at h; injection h with h; exact absurd h (by decide)
  have h1' : figB (by8 t 0) = false := by simpa using h1
  by_cases h2 : firB (by8 t 0) = true
  · rw [hd_nam h1' h2] at h
    injection h with _ h
    have hle := spn_le (p := namB) (s := t) (k := 0) (Nat.zero_le _)
    have ha := spn_all (p := namB) (s := t) (k := 0) (Nat.zero_le _)
    unfold capN at h
    split at h
    · rw [by8_no h.symm] at h2; exact absurd h2 (by decide)
    · have h0 : t.size ≠ 0 := fun e => by rw [by8_no e] at h2; exact absurd h2 (by decide)
      refine ⟨by omega, by omega, h2, fun j hj => ?_⟩
      have := ha j (by omega)
      rwa [Nat.zero_add] at this
  have h2' : firB (by8 t 0) = false := by simpa using h2
  by_cases h3 : by8 t 0 = 39
  · rw [hd_qt h1' h2' h3] at h; injection h with h; exact absurd h (by decide)
  by_cases h5 : by8 t 0 = 47 ∧ by8 t 1 = 47
  · rw [hd_nt h5] at h; injection h with h; exact absurd h (by decide)
  · rw [hd_mk h1' h2' h3 h5] at h; injection h with h; exact absurd h (by decide)
theorem whole_num {t : ByteArray} (h : Whole 2 t) : 1 ≤ t.size ∧ t.size ≤ 12 ∧ ∀ j, j < t.size → figB (by8 t j) = true := by
  unfold Whole at h
  by_cases h1 : figB (by8 t 0) = true
  · rw [hd_fig h1] at h
    injection h with _ h
    have hle := spn_le (p := figB) (s := t) (k := 0) (Nat.zero_le _)
    have ha := spn_all (p := figB) (s := t) (k := 0) (Nat.zero_le _)
    unfold capN at h
    split at h
    · rw [by8_no h.symm] at h1; exact absurd h1 (by decide)
    · have h0 : t.size ≠ 0 := fun e => by rw [by8_no e] at h1; exact absurd h1 (by decide)
      refine ⟨by omega, by omega, fun j hj => ?_⟩
      have := ha j (by omega)
      rwa [Nat.zero_add] at this
  have h1' : figB (by8 t 0) = false := by simpa using h1
  by_cases h2 : firB (by8 t 0) = true
  · rw [hd_nam h1' h2] at h; injection h with h; exact absurd h (by decide)
  have h2' : firB (by8 t 0) = false := by simpa using h2
  by_cases h3 : by8 t 0 = 39
  · rw [hd_qt h1' h2' h3] at h; injection h with h; exact absurd h (by decide)
  by_cases h5 : by8 t 0 = 47 ∧ by8 t 1 = 47
  · rw [hd_nt h5] at h; injection h with h; exact absurd h (by decide)
  · rw [hd_mk h1' h2' h3 h5] at h; injection h with h; exact absurd h (by decide)
theorem whole_txt {t : ByteArray} (h : Whole 3 t) : 2 ≤ t.size ∧ by8 t 0 = 39 ∧ qtRaw t 0 = t.size := by
  unfold Whole at h
  by_cases h1 : figB (by8 t 0) = true
  · rw [hd_fig h1] at h; injection h with h; exact absurd h (by decide)
  have h1' : figB (by8 t 0) = false := by simpa using h1
  by_cases h2 : firB (by8 t 0) = true
  · rw [hd_nam h1' h2] at h; injection h with h; exact absurd h (by decide)
  have h2' : firB (by8 t 0) = false := by simpa using h2
  by_cases h3 : by8 t 0 = 39
  · rw [hd_qt h1' h2' h3] at h
    injection h with _ h
    unfold qtSz at h
    split at h
    · rename_i hc
      refine ⟨by omega, h3, ?_⟩
      unfold qtRaw
      rw [Nat.zero_add, if_pos hc]
      omega
    · rw [by8_no h.symm] at h3; exact absurd h3 (by decide)
  by_cases h5 : by8 t 0 = 47 ∧ by8 t 1 = 47
  · rw [hd_nt h5] at h; injection h with h; exact absurd h (by decide)
  · rw [hd_mk h1' h2' h3 h5] at h; injection h with h; exact absurd h (by decide)
theorem whole_nt {t : ByteArray} (h : Whole 5 t) : 2 ≤ t.size ∧ ntRaw t 0 = t.size ∧ trimB t = t := by
  unfold Whole at h
  by_cases h5 : by8 t 0 = 47 ∧ by8 t 1 = 47
  · rw [hd_nt h5] at h
    injection h with _ h
    have h0 : t.size ≠ 0 := fun e => by rw [by8_no e] at h5; exact absurd h5.1 (by decide)
    have h2 := nt_two h5 (by omega)
    rw [h] at h2
    have hle := spn_le (p := plaB) (s := t) (k := 0) (Nat.zero_le _)
    unfold ntSz at h
    split at h
    · omega
    · obtain ⟨m, hm1, hm2, hm3, -⟩ := trimB_last (t.extract 0 (spn plaB t 0))
      rw [ext_size (by omega)] at hm1
      have hsp : spn plaB t 0 = t.size := by omega
      rw [hsp, ext_all] at hm2 hm3 h
      have hmt : m = t.size := by omega
      refine ⟨by omega, ?_, ?_⟩
      · unfold ntRaw
        rw [if_pos h5, Nat.zero_add, hsp, if_neg (fun e => by omega)]
      · rw [hm2, hmt, ext_all]
  by_cases h1 : figB (by8 t 0) = true
  · rw [hd_fig h1] at h; injection h with h; exact absurd h (by decide)
  have h1' : figB (by8 t 0) = false := by simpa using h1
  by_cases h2 : firB (by8 t 0) = true
  · rw [hd_nam h1' h2] at h; injection h with h; exact absurd h (by decide)
  have h2' : firB (by8 t 0) = false := by simpa using h2
  by_cases h3 : by8 t 0 = 39
  · rw [hd_qt h1' h2' h3] at h; injection h with h; exact absurd h (by decide)
  · rw [hd_mk h1' h2' h3 h5] at h; injection h with h; exact absurd h (by decide)

def inB2 (x a b : Int) : Bool := decide (a ≤ x) && decide (x ≤ b)
theorem inB2_yes {x a b : Int} (h : a ≤ x ∧ x ≤ b) : inB2 x a b = true := by unfold inB2; rw [decide_eq_true h.1, decide_eq_true h.2]; rfl
theorem inB2_no {x a b : Int} (h : ¬ (a ≤ x ∧ x ≤ b)) : inB2 x a b = false := by
  unfold inB2
  rw [Bool.and_eq_false_iff, decide_eq_false_iff_not, decide_eq_false_iff_not]
  omega
set_option maxHeartbeats 1600000 in
set_option maxRecDepth 100000 in
theorem sIn2_any (x a b : Int) (w : World) : Calls Tryz.prog 45 #[.int .i64 x, .int .i64 a, .int .i64 b] w fun e w' => e = .returned (.bool (inB2 x a b)) ∧ w' = w := by
  by_cases h1 : a ≤ x
  · by_cases h2 : x ≤ b
    · rw [inB2_yes ⟨h1, h2⟩]
      go_enter Tryz.func45, Tryz.ntmps45
      go_wp2
      go_ret
      exact ⟨rfl, rfl⟩
    · rw [inB2_no (fun h => h2 h.2)]
      go_enter Tryz.func45, Tryz.ntmps45
      go_wp2
      go_ret
      exact ⟨rfl, rfl⟩
  · rw [inB2_no (fun h => h1 h.1)]
    go_enter Tryz.func45, Tryz.ntmps45
    go_wp2
    go_ret
    exact ⟨rfl, rfl⟩
/-- It says yes; nothing but draws. -/
def YesD (w : World) (e : Ending) (w' : World) : Prop := e = .returned (.bool true) ∧ ∃ m, w' = w.drewN m
set_option maxHeartbeats 1600000 in
set_option maxRecDepth 100000 in
theorem sNum5 {t : ByteArray} (w : World) (h : Whole 2 t) : Calls Tryz.prog 195 #[.string t] w (YesD w) := by
  obtain ⟨h1, h2, h3⟩ := whole_num h
  have hby := by8_at t
  have HA := hidOf h3
  clear h h3
  go_enter Tryz.func195, Tryz.ntmps195
  go_wp2
  go_loop [3] (fun i => ∃ j : Nat, j ≤ t.size ∧ i = .int .i64 (j : Int)) (fun i => t.size - (intOf i).toNat)
  case atStart => exact ⟨0, Nat.zero_le _, rfl⟩
  case round =>
    obtain ⟨j, hj, rfl⟩ := hrel
    by_cases hlt : j < t.size
    · have hA : (0 : Int) ≤ (j : Int) := by omega
      have hB : (j : Int) < (t.size : Int) := by omega
      have hbr := by8_range t j
      have hP := fun W => sFig_any (by8 t j) W
      rw [HA.out j hlt] at hP
      go_wp2_with fail
      refine (hP _).mono ?_
      rintro e w ⟨rfl, rfl⟩
      go_wp2
      go_round
      case rel => exact ⟨j + 1, by omega, by go_num⟩
      case measure => simp [intOf]; omega
    · have hB : ¬ (j : Int) < (t.size : Int) := by omega
      have hI := fun W => sIn2_any (t.size : Int) 1 12 W
      rw [inB2_yes (by omega)] at hI
      go_wp2_with fail
      refine (hI _).mono ?_
      rintro e w ⟨rfl, rfl⟩
      go_wp2
      go_ret
      exact ⟨rfl, 0, rfl⟩
set_option maxHeartbeats 1600000 in
set_option maxRecDepth 100000 in
theorem sName5 {t : ByteArray} (w : World) (h : NamT t) : Calls Tryz.prog 194 #[.string t] w (YesD w) := by
  obtain ⟨h1, h2, h4, h3⟩ := whole_nam h.1
  have hby := by8_at t
  have HA := hidOf h3
  have hI := fun W => sIn2_any (t.size : Int) 1 30 W
  rw [inB2_yes (by omega)] at hI
  have hF := fun W => sFir_any (by8 t 0) W
  rw [h4] at hF
  have hK := fun W => sKey_any t W
  rw [h.2] at hK
  have hbr0 := by8_range t 0
  clear h h3 h4
  go_enter Tryz.func194, Tryz.ntmps194
  go_wp2_with fail
  refine (hI _).mono ?_
  rintro e w ⟨rfl, rfl⟩
  go_wp2_with fail
  refine (hF _).mono ?_
  rintro e w ⟨rfl, rfl⟩
  go_wp2_with fail
  refine (hK _).mono ?_
  rintro e w ⟨rfl, rfl⟩
  go_wp2
  go_loop [3] (fun i => ∃ j : Nat, j ≤ t.size ∧ i = .int .i64 (j : Int)) (fun i => t.size - (intOf i).toNat)
  case atStart => exact ⟨0, Nat.zero_le _, rfl⟩
  case round =>
    obtain ⟨j, hj, rfl⟩ := hrel
    by_cases hlt : j < t.size
    · have hA : (0 : Int) ≤ (j : Int) := by omega
      have hB : (j : Int) < (t.size : Int) := by omega
      have hbr := by8_range t j
      have hn := HA.out j hlt
      unfold namB at hn
      have hP := fun W => sFir_any (by8 t j) W
      cases hf : firB (by8 t j) with
      | true =>
        rw [hf] at hP
        clear hn hf
        go_wp2_with fail
        refine (hP _).mono ?_
        rintro e w ⟨rfl, rfl⟩
        go_wp2
        go_round
        case rel => exact ⟨j + 1, by omega, by go_num⟩
        case measure => simp [intOf]; omega
      | false =>
        rw [hf, Bool.false_or] at hn
        have hG := fun W => sFig_any (by8 t j) W
        rw [hn] at hG
        rw [hf] at hP
        clear hn hf
        go_wp2_with fail
        refine (hP _).mono ?_
        rintro e w ⟨rfl, rfl⟩
        go_wp2_with fail
        refine (hG _).mono ?_
        rintro e w ⟨rfl, rfl⟩
        go_wp2
        go_round
        case rel => exact ⟨j + 1, by omega, by go_num⟩
        case measure => simp [intOf]; omega
    · have hB : ¬ (j : Int) < (t.size : Int) := by omega
      go_wp2
      go_ret
      exact ⟨rfl, 0, rfl⟩
set_option maxHeartbeats 1600000 in
set_option maxRecDepth 100000 in
theorem sQuoted5 {t : ByteArray} (w : World) (hs : t.size ≤ 4194304) (h : Whole 3 t) : Calls Tryz.prog 196 #[.string t] w (YesD w) := by
  obtain ⟨h1, h2, h3⟩ := whole_txt h
  have hby := by8_at t
  have hQ := fun W => sQuoted_any t 0 W hs (by omega)
  rw [h3] at hQ
  have h39 : (by8 t 0 == 39) = true := by simp [h2]
  have hgt : (1 : Int) < (t.size : Int) := by omega
  have hbr0 := by8_range t 0
  clear h h2 h3
  go_enter Tryz.func196, Tryz.ntmps196
  go_wp2_with fail
  refine (hQ _).mono ?_
  rintro e w ⟨rfl, rfl⟩
  go_wp2
  go_ret
  exact ⟨rfl, 0, rfl⟩
set_option maxHeartbeats 1600000 in
set_option maxRecDepth 100000 in
theorem sNote5 {t : ByteArray} (w : World) (hs : t.size ≤ 4194304) (h : Whole 5 t) : Calls Tryz.prog 44 #[.string t] w (YesD w) := by
  obtain ⟨h1, h2, h3⟩ := whole_nt h
  have hQ := fun W => sNote_any t 0 W hs (by omega)
  rw [h2] at hQ
  have hT := fun W => sTrim_any t W hs
  rw [h3] at hT
  have hgt : (1 : Int) < (t.size : Int) := by omega
  clear h h2 h3
  go_enter Tryz.func44, Tryz.ntmps44
  go_wp2_with fail
  refine (hQ _).mono ?_
  rintro e w ⟨rfl, rfl⟩
  go_wp2_with fail
  refine (hT _).mono ?_
  rintro e w ⟨rfl, rfl⟩
  go_wp2
  go_ret
  exact ⟨by simp, 0, rfl⟩
end Go.Proofs.YtabbfpkhlofccaaGreatDoor
