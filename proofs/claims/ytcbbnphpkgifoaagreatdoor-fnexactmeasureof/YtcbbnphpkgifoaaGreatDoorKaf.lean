/- Right texts in plain words; what the specification answers of them. -/
import Derived.Test.YtcbbnphpkgifoaaGreatDoorKad
import Derived.Test.YtcbbnphpkgifoaaGreatDoorSgnS4
import Derived.Test.YtcbbnphpkgifoaaGreatDoorKaa
namespace Go.Proofs.YtcbbnphpkgifoaaGreatDoor
open Go.RowKit
set_option maxHeartbeats 1600000
set_option maxRecDepth 100000
theorem by8_no {t : ByteArray} (h : t.size = 0) : by8 t 0 = 0 := by8_past (by omega)
theorem whole_nam {t : ByteArray} (h : Whole 1 t) : 1 ≤ t.size ∧ t.size ≤ 30 ∧ firB (by8 t 0) = true ∧ ∀ j, j < t.size → namB (by8 t j) = true := by
 unfold Whole at h
 by_cases h1 : figB (by8 t 0) = true
 ·rw [hd_fig h1] at h; injection h with h; exact absurd h (by decide)
 have h1' : figB (by8 t 0) = false := by simpa using h1
 by_cases h2 : firB (by8 t 0) = true
 ·rw [hd_nam h1' h2] at h
  injection h with _ h
  have hle := spn_le (p := namB) (s := t) (k := 0) (Nat.zero_le _)
  have ha := spn_all (p := namB) (s := t) (k := 0) (Nat.zero_le _)
  unfold capN at h
  split at h
  ·rw [by8_no h.symm] at h2; exact absurd h2 (by decide)
  ·have h0 : t.size ≠ 0 := fun e => by rw [by8_no e] at h2; exact absurd h2 (by decide)
   refine ⟨by omega, by omega, h2, fun j hj => ?_⟩
   have := ha j (by omega)
   rwa [Nat.zero_add] at this
 have h2' : firB (by8 t 0) = false := by simpa using h2
 by_cases h3 : by8 t 0 = 39
 ·rw [hd_qt h1' h2' h3] at h; injection h with h; exact absurd h (by decide)
 by_cases h5 : by8 t 0 = 47 ∧ by8 t 1 = 47
 ·rw [hd_nt h5] at h; injection h with h; exact absurd h (by decide)
 ·rw [hd_mk h1' h2' h3 h5] at h; injection h with h; exact absurd h (by decide)
theorem whole_num {t : ByteArray} (h : Whole 2 t) : 1 ≤ t.size ∧ t.size ≤ 12 ∧ ∀ j, j < t.size → figB (by8 t j) = true := by
 unfold Whole at h
 by_cases h1 : figB (by8 t 0) = true
 ·rw [hd_fig h1] at h
  injection h with _ h
  have hle := spn_le (p := figB) (s := t) (k := 0) (Nat.zero_le _)
  have ha := spn_all (p := figB) (s := t) (k := 0) (Nat.zero_le _)
  unfold capN at h
  split at h
  ·rw [by8_no h.symm] at h1; exact absurd h1 (by decide)
  ·have h0 : t.size ≠ 0 := fun e => by rw [by8_no e] at h1; exact absurd h1 (by decide)
   refine ⟨by omega, by omega, fun j hj => ?_⟩
   have := ha j (by omega)
   rwa [Nat.zero_add] at this
 have h1' : figB (by8 t 0) = false := by simpa using h1
 by_cases h2 : firB (by8 t 0) = true
 ·rw [hd_nam h1' h2] at h; injection h with h; exact absurd h (by decide)
 have h2' : firB (by8 t 0) = false := by simpa using h2
 by_cases h3 : by8 t 0 = 39
 ·rw [hd_qt h1' h2' h3] at h; injection h with h; exact absurd h (by decide)
 by_cases h5 : by8 t 0 = 47 ∧ by8 t 1 = 47
 ·rw [hd_nt h5] at h; injection h with h; exact absurd h (by decide)
 ·rw [hd_mk h1' h2' h3 h5] at h; injection h with h; exact absurd h (by decide)
theorem whole_txt {t : ByteArray} (h : Whole 3 t) : 2 ≤ t.size ∧ by8 t 0 = 39 ∧ qtRaw t 0 = t.size := by
 unfold Whole at h
 by_cases h1 : figB (by8 t 0) = true
 ·rw [hd_fig h1] at h; injection h with h; exact absurd h (by decide)
 have h1' : figB (by8 t 0) = false := by simpa using h1
 by_cases h2 : firB (by8 t 0) = true
 ·rw [hd_nam h1' h2] at h; injection h with h; exact absurd h (by decide)
 have h2' : firB (by8 t 0) = false := by simpa using h2
 by_cases h3 : by8 t 0 = 39
 ·rw [hd_qt h1' h2' h3] at h
  injection h with _ h
  unfold qtSz at h
  split at h
  ·rename_i hc
   refine ⟨by omega, h3, ?_⟩
   unfold qtRaw
   rw [Nat.zero_add, if_pos hc]
   omega
  ·rw [by8_no h.symm] at h3; exact absurd h3 (by decide)
 by_cases h5 : by8 t 0 = 47 ∧ by8 t 1 = 47
 ·rw [hd_nt h5] at h; injection h with h; exact absurd h (by decide)
 ·rw [hd_mk h1' h2' h3 h5] at h; injection h with h; exact absurd h (by decide)
theorem whole_nt {t : ByteArray} (h : Whole 5 t) : 2 ≤ t.size ∧ ntRaw t 0 = t.size ∧ trimB t = t := by
 unfold Whole at h
 by_cases h5 : by8 t 0 = 47 ∧ by8 t 1 = 47
 ·rw [hd_nt h5] at h
  injection h with _ h
  have h0 : t.size ≠ 0 := fun e => by rw [by8_no e] at h5; exact absurd h5.1 (by decide)
  have h2 := nt_two h5 (by omega)
  rw [h] at h2
  have hle := spn_le (p := plaB) (s := t) (k := 0) (Nat.zero_le _)
  unfold ntSz at h
  split at h
  ·omega
  ·obtain ⟨m, hm1, hm2, hm3, -⟩ := trimB_last (t.extract 0 (spn plaB t 0))
   rw [ext_size (by omega)] at hm1
   have hsp : spn plaB t 0 = t.size := by omega
   rw [hsp, ext_all] at hm2 hm3 h
   have hmt : m = t.size := by omega
   refine ⟨by omega, ?_, ?_⟩
   ·unfold ntRaw
    rw [if_pos h5, Nat.zero_add, hsp, if_neg (fun e => by omega)]
   ·rw [hm2, hmt, ext_all]
 by_cases h1 : figB (by8 t 0) = true
 ·rw [hd_fig h1] at h; injection h with h; exact absurd h (by decide)
 have h1' : figB (by8 t 0) = false := by simpa using h1
 by_cases h2 : firB (by8 t 0) = true
 ·rw [hd_nam h1' h2] at h; injection h with h; exact absurd h (by decide)
 have h2' : firB (by8 t 0) = false := by simpa using h2
 by_cases h3 : by8 t 0 = 39
 ·rw [hd_qt h1' h2' h3] at h; injection h with h; exact absurd h (by decide)
 ·rw [hd_mk h1' h2' h3 h5] at h; injection h with h; exact absurd h (by decide)
def inB2 (x a b : Int) : Bool := decide (a ≤ x) && decide (x ≤ b)
theorem inB2_yes {x a b : Int} (h : a ≤ x ∧ x ≤ b) : inB2 x a b = true := by unfold inB2; rw [decide_eq_true h.1, decide_eq_true h.2]; rfl
theorem inB2_no {x a b : Int} (h : ¬ (a ≤ x ∧ x ≤ b)) : inB2 x a b = false := by
 unfold inB2
 rw [Bool.and_eq_false_iff, decide_eq_false_iff_not, decide_eq_false_iff_not]
 omega
theorem sIn2_any (x a b : Int) (w : World) : Calls Tryz.prog 25 #[.int .i64 x, .int .i64 a, .int .i64 b] w fun e w' => e = .returned (.bool (inB2 x a b)) ∧ w' = w := by
 by_cases h1 : a ≤ x
 ·by_cases h2 : x ≤ b
  ·rw [inB2_yes ⟨h1, h2⟩]
   go_enter Tryz.func25, Tryz.ntmps25
   go_wp2
   go_ret
   exact ⟨rfl, rfl⟩
  ·rw [inB2_no (fun h => h2 h.2)]
   go_enter Tryz.func25, Tryz.ntmps25
   go_wp2
   go_ret
   exact ⟨rfl, rfl⟩
 ·rw [inB2_no (fun h => h1 h.1)]
  go_enter Tryz.func25, Tryz.ntmps25
  go_wp2
  go_ret
  exact ⟨rfl, rfl⟩
def YesD (w : World) (e : Ending) (w' : World) : Prop := e = .returned (.bool true) ∧ ∃ m, w' = w.drewN m
theorem sNum5 {t : ByteArray} (w : World) (h : Whole 2 t) : Calls Tryz.prog 222 #[.string t] w (YesD w) := by
 obtain ⟨h1, h2, h3⟩ := whole_num h
 have hby := by8_at t
 have HA := hidOf h3
 clear h h3
 go_enter Tryz.func222, Tryz.ntmps222
 go_wp2
 go_loop [3] (fun i => ∃ j : Nat, j ≤ t.size ∧ i = .int .i64 (j : Int)) (fun i => t.size - (intOf i).toNat)
 case atStart => exact ⟨0, Nat.zero_le _, rfl⟩
 case round =>
  obtain ⟨j, hj, rfl⟩ := hrel
  by_cases hlt : j < t.size
  ·have hA : (0 : Int) ≤ (j : Int) := by omega
   have hB : (j : Int) < (t.size : Int) := by omega
   have hbr := by8_range t j
   have hP := fun W => sFig_any (by8 t j) W
   rw [HA.out j hlt] at hP
   go_wp2_with fail
   refine (hP _).mono ?_
   rintro e w ⟨rfl, rfl⟩
   go_wp2
   go_round
   case rel => exact ⟨j + 1, by omega, by go_num⟩
   case measure => simp [intOf]; omega
  ·have hB : ¬ (j : Int) < (t.size : Int) := by omega
   have hI := fun W => sIn2_any (t.size : Int) 1 12 W
   rw [inB2_yes (by omega)] at hI
   go_wp2_with fail
   refine (hI _).mono ?_
   rintro e w ⟨rfl, rfl⟩
   go_wp2
   go_ret
   exact ⟨rfl, 0, rfl⟩
theorem sName5 {t : ByteArray} (w : World) (h : NamT t) : Calls Tryz.prog 221 #[.string t] w (YesD w) := by
 obtain ⟨h1, h2, h4, h3⟩ := whole_nam h.1
 have hby := by8_at t
 have HA := hidOf h3
 have hI := fun W => sIn2_any (t.size : Int) 1 30 W
 rw [inB2_yes (by omega)] at hI
 have hF := fun W => sFir_any (by8 t 0) W
 rw [h4] at hF
 have hK := fun W => sKey_any t W
 rw [h.2] at hK
 have hbr0 := by8_range t 0
 clear h h3 h4
 go_enter Tryz.func221, Tryz.ntmps221
 go_wp2_with fail
 refine (hI _).mono ?_
 rintro e w ⟨rfl, rfl⟩
 go_wp2_with fail
 refine (hF _).mono ?_
 rintro e w ⟨rfl, rfl⟩
 go_wp2_with fail
 refine (hK _).mono ?_
 rintro e w ⟨rfl, rfl⟩
 go_wp2
 go_loop [3] (fun i => ∃ j : Nat, j ≤ t.size ∧ i = .int .i64 (j : Int)) (fun i => t.size - (intOf i).toNat)
 case atStart => exact ⟨0, Nat.zero_le _, rfl⟩
 case round =>
  obtain ⟨j, hj, rfl⟩ := hrel
  by_cases hlt : j < t.size
  ·have hA : (0 : Int) ≤ (j : Int) := by omega
   have hB : (j : Int) < (t.size : Int) := by omega
   have hbr := by8_range t j
   have hn := HA.out j hlt
   unfold namB at hn
   have hP := fun W => sFir_any (by8 t j) W
   cases hf : firB (by8 t j) with
   | true =>
    rw [hf] at hP
    clear hn hf
    go_wp2_with fail
    refine (hP _).mono ?_
    rintro e w ⟨rfl, rfl⟩
    go_wp2
    go_round
    case rel => exact ⟨j + 1, by omega, by go_num⟩
    case measure => simp [intOf]; omega
   | false =>
    rw [hf, Bool.false_or] at hn
    have hG := fun W => sFig_any (by8 t j) W
    rw [hn] at hG
    rw [hf] at hP
    clear hn hf
    go_wp2_with fail
    refine (hP _).mono ?_
    rintro e w ⟨rfl, rfl⟩
    go_wp2_with fail
    refine (hG _).mono ?_
    rintro e w ⟨rfl, rfl⟩
    go_wp2
    go_round
    case rel => exact ⟨j + 1, by omega, by go_num⟩
    case measure => simp [intOf]; omega
  ·have hB : ¬ (j : Int) < (t.size : Int) := by omega
   go_wp2
   go_ret
   exact ⟨rfl, 0, rfl⟩
theorem sQuoted5 {t : ByteArray} (w : World) (hs : t.size ≤ 4194304) (h : Whole 3 t) : Calls Tryz.prog 223 #[.string t] w (YesD w) := by
 obtain ⟨h1, h2, h3⟩ := whole_txt h
 have hby := by8_at t
 have hQ := fun W => sQuoted_any t 0 W hs (by omega)
 rw [h3] at hQ
 have h39 : (by8 t 0 == 39) = true := by simp [h2]
 have hgt : (1 : Int) < (t.size : Int) := by omega
 have hbr0 := by8_range t 0
 clear h h2 h3
 go_enter Tryz.func223, Tryz.ntmps223
 go_wp2_with fail
 refine (hQ _).mono ?_
 rintro e w ⟨rfl, rfl⟩
 go_wp2
 go_ret
 exact ⟨rfl, 0, rfl⟩
theorem sNote5 {t : ByteArray} (w : World) (hs : t.size ≤ 4194304) (h : Whole 5 t) : Calls Tryz.prog 224 #[.string t] w (YesD w) := by
 obtain ⟨h1, h2, h3⟩ := whole_nt h
 have hQ := fun W => sNote_any t 0 W hs (by omega)
 rw [h2] at hQ
 have hT := fun W => sTrim_any t W hs
 rw [h3] at hT
 have hgt : (1 : Int) < (t.size : Int) := by omega
 clear h h2 h3
 go_enter Tryz.func224, Tryz.ntmps224
 go_wp2_with fail
 refine (hQ _).mono ?_
 rintro e w ⟨rfl, rfl⟩
 go_wp2_with fail
 refine (hT _).mono ?_
 rintro e w ⟨rfl, rfl⟩
 go_wp2
 go_ret
 exact ⟨by simp, 0, rfl⟩
def TelQ (P : Prop) (w : World) (e : Ending) (w' : World) : Prop := ∃ b : Bool, e = .returned (.bool b) ∧ (b = true ↔ P) ∧ w' = w
theorem telQ_yes {P : Prop} {w : World} (h : P) : TelQ P w (.returned (.bool true)) w := ⟨true, rfl, by simp [h], rfl⟩
theorem telQ_no {P : Prop} {w : World} (h : ¬ P) : TelQ P w (.returned (.bool false)) w := ⟨false, rfl, by simp [h], rfl⟩
theorem TelQ.yes {P : Prop} {w w' : World} {e : Ending} (h : TelQ P w e w') (hp : P) : e = .returned (.bool true) ∧ w' = w := by
 obtain ⟨b, rfl, h1, rfl⟩ := h
 exact ⟨by rw [h1.2 hp], rfl⟩
theorem TelQ.no {P : Prop} {w w' : World} {e : Ending} (h : TelQ P w e w') (hp : ¬ P) : e = .returned (.bool false) ∧ w' = w := by
 obtain ⟨b, rfl, h1, rfl⟩ := h
 cases b
 ·exact ⟨rfl, rfl⟩
 ·exact absurd (h1.1 rfl) hp
def TelB (P : Prop) (w : World) (e : Ending) (w' : World) : Prop := ∃ b : Bool, e = .returned (.bool b) ∧ (b = true ↔ P) ∧ Below w.heap.size w w'
theorem telB_yes {P : Prop} {w w' : World} (h : P) (hb : Below w.heap.size w w') : TelB P w (.returned (.bool true)) w' := ⟨true, rfl, by simp [h], hb⟩
theorem telB_no {P : Prop} {w w' : World} (h : ¬ P) (hb : Below w.heap.size w w') : TelB P w (.returned (.bool false)) w' := ⟨false, rfl, by simp [h], hb⟩
theorem TelB.yes {P : Prop} {w w' : World} {e : Ending} (h : TelB P w e w') (hp : P) : e = .returned (.bool true) ∧ Below w.heap.size w w' := by
 obtain ⟨b, rfl, h1, h2⟩ := h
 exact ⟨by rw [h1.2 hp], h2⟩
theorem TelB.no {P : Prop} {w w' : World} {e : Ending} (h : TelB P w e w') (hp : ¬ P) : e = .returned (.bool false) ∧ Below w.heap.size w w' := by
 obtain ⟨b, rfl, h1, h2⟩ := h
 cases b
 ·exact ⟨rfl, h2⟩
 ·exact absurd (h1.1 rfl) hp
theorem tel_same {b c : Bool} {P : Prop} (h1 : b = true ↔ P) (h2 : c = true ↔ P) : b = c := by
 cases b <;> cases c <;> simp_all
theorem tel_bool (P : Prop) : ∃ b : Bool, (b = true ↔ P) := by
 by_cases h : P
 ·exact ⟨true, by simp [h]⟩
 ·exact ⟨false, by simp [h]⟩
theorem TelB.is {P : Prop} {w w' : World} {e : Ending} {b : Bool} (h : TelB P w e w') (hb : b = true ↔ P) : e = .returned (.bool b) ∧ Below w.heap.size w w' := by
 obtain ⟨c, rfl, h1, h2⟩ := h
 exact ⟨by rw [tel_same h1 hb], h2⟩
theorem TelQ.is {P : Prop} {w w' : World} {e : Ending} {b : Bool} (h : TelQ P w e w') (hb : b = true ↔ P) : e = .returned (.bool b) ∧ w' = w := by
 obtain ⟨c, rfl, h1, h2⟩ := h
 exact ⟨by rw [tel_same h1 hb], h2⟩
set_option maxHeartbeats 3000000
set_option maxRecDepth 100000
theorem lvl_cases {t : ByteArray} (h : lvl t ≠ 0) : t = (⟨#[124, 124]⟩ : ByteArray) ∨ t = (⟨#[38, 38]⟩ : ByteArray) ∨ t = (⟨#[61, 61]⟩ : ByteArray) ∨ t = (⟨#[60]⟩ : ByteArray) ∨ t = (⟨#[43]⟩ : ByteArray) ∨ t = (⟨#[45]⟩ : ByteArray) ∨ t = (⟨#[42]⟩ : ByteArray) := by
 unfold lvl at h
 repeat (split at h; · rename_i e; simp [e])
 exact absurd rfl h
theorem kind_cases {k : Int} (h : 1 ≤ k ∧ k ≤ 22) : k = 1 ∨ k = 2 ∨ k = 3 ∨ k = 4 ∨ k = 5 ∨ k = 6 ∨ k = 7 ∨ k = 8 ∨ k = 9 ∨ k = 10 ∨ k = 11 ∨ k = 12 ∨ k = 13 ∨ k = 14 ∨ k = 15 ∨ k = 16 ∨ k = 17 ∨ k = 18 ∨ k = 19 ∨ k = 20 ∨ k = 21 ∨ k = 22 := by omega
theorem sChain5 {t : ByteArray} (w : World) (h : lvl t ≠ 0) : Calls Tryz.prog 225 #[.string t] w (YesD w) := by
 rcases lvl_cases h with rfl | rfl | rfl | rfl | rfl | rfl | rfl
 all_goals clear h
 all_goals go_enter Tryz.func225, Tryz.ntmps225
 all_goals go_wp2
 all_goals go_ret
 all_goals exact ⟨rfl, 0, rfl⟩
theorem sText5 {k : Int} {t : ByteArray} (w : World) (hk : 1 ≤ k ∧ k ≤ 22) (hs : t.size ≤ 3000) (h : TxOk k t) : Calls Tryz.prog 175 #[.int .i64 k, .string t] w (YesD w) := by
 have hs2 : t.size ≤ 4194304 := by omega
 unfold TxOk at h
 rcases kind_cases hk with rfl | rfl | rfl | rfl | rfl | rfl | rfl | rfl | rfl | rfl | rfl | rfl | rfl | rfl | rfl | rfl | rfl | rfl | rfl | rfl | rfl | rfl
 all_goals simp at h
 all_goals clear hk
 all_goals first
  | (subst h
     go_enter Tryz.func175, Tryz.ntmps175
     go_wp2
     go_ret
     exact ⟨rfl, 0, rfl⟩)
  | (first
      | (have q := fun W => sName5 W h)
      | (have q := fun W => sNum5 W h)
      | (have q := fun W => sQuoted5 W hs2 h)
      | (have q := fun W => sNote5 W hs2 h)
      | (have q := fun W => sChain5 W h)
     clear h
     go_enter Tryz.func175, Tryz.ntmps175
     go_wp2_with fail
     refine (q _).mono ?_
     rintro e w1 ⟨rfl, m, rfl⟩
     go_wp2
     go_ret
     exact ⟨rfl, m, rfl⟩)
def CntAns (k : Int) (w : World) (e : Ending) (w' : World) : Prop := ∃ lo hi : Int, e = .returned (.tuple #[.int .i64 lo, .int .i64 hi]) ∧ w' = w ∧ ∀ n : Nat, (lo ≤ (n : Int) ∧ (n : Int) ≤ hi) ↔ CntK k n
theorem sCount5 {k : Int} (w : World) (hk : 1 ≤ k ∧ k ≤ 22) : Calls Tryz.prog 174 #[.int .i64 k] w (CntAns k w) := by
 rcases kind_cases hk with rfl | rfl | rfl | rfl | rfl | rfl | rfl | rfl | rfl | rfl | rfl | rfl | rfl | rfl | rfl | rfl | rfl | rfl | rfl | rfl | rfl | rfl
 all_goals clear hk
 all_goals go_enter Tryz.func174, Tryz.ntmps174
 all_goals go_wp2
 all_goals go_ret2
 all_goals exact ⟨_, _, rfl, rfl, fun n => by unfold CntK; simp; try omega⟩
theorem sStat5 (k : Int) (w : World) : Calls Tryz.prog 176 #[.int .i64 k] w (TelQ (StepK k) w) := by
 have hI := fun W => sIn2_any k 12 17 W
 by_cases h : 12 ≤ k ∧ k ≤ 17
 ·rw [inB2_yes h] at hI
  go_enter Tryz.func176, Tryz.ntmps176
  go_wp2_with fail
  refine (hI _).mono ?_
  rintro e w ⟨rfl, rfl⟩
  go_wp2
  go_ret
  exact telQ_yes (.inl h)
 ·rw [inB2_no h] at hI
  obtain ⟨b, hb⟩ : ∃ b, (k == 19) = b := ⟨_, rfl⟩
  go_enter Tryz.func176, Tryz.ntmps176
  go_wp2_with fail
  refine (hI _).mono ?_
  rintro e w ⟨rfl, rfl⟩
  go_wp2
  go_ret
  refine ⟨_, rfl, ?_, rfl⟩
  rw [← hb]
  unfold StepK
  simp
  omega
theorem sVal5 (k : Int) (w : World) : Calls Tryz.prog 226 #[.int .i64 k] w (TelQ (ValK k) w) := by
 have hI := fun W => sIn2_any k 1 11 W
 by_cases h : 1 ≤ k ∧ k ≤ 11
 ·rw [inB2_yes h] at hI
  go_enter Tryz.func226, Tryz.ntmps226
  go_wp2_with fail
  refine (hI _).mono ?_
  rintro e w ⟨rfl, rfl⟩
  go_wp2
  go_ret
  exact telQ_yes h
 ·rw [inB2_no h] at hI
  go_enter Tryz.func226, Tryz.ntmps226
  go_wp2_with fail
  refine (hI _).mono ?_
  rintro e w ⟨rfl, rfl⟩
  go_wp2
  go_ret
  exact telQ_no h
theorem types_apart {w : World} {B1 B2 e1 e2 s1 s2 n1 n2 : Nat} {v1 v2 : Value} {xs ys : List Value} (h1 : w.ownsRow B1 e1 s1 v1 n1 xs) (h2 : w.ownsRow B2 e2 s2 v2 n2 ys) (hne : e1 ≠ e2) : v1.ownBlock = none ∨ v1.ownBlock ≠ v2.ownBlock := by
 rcases h1.2 with ⟨rfl, _⟩ | ⟨g, cap, cur, rfl, _, hg, _⟩
 ·exact .inl rfl
 ·right
  rcases h2.2 with ⟨rfl, _⟩ | ⟨g', cap', cur', rfl, _, hg', _⟩
  ·intro e
   cases e
  ·intro e
   have e' : g = g' := by injection e
   subst e'
   rw [hg] at hg'
   cases hg'
   exact hne rfl
end Go.Proofs.YtcbbnphpkgifoaaGreatDoor
