/- What spec.l04Sign answers. -/
import Derived.Test.YtcbbnphpkgifoaaGreatDoorKae
namespace Go.Proofs.YtcbbnphpkgifoaaGreatDoor
open Go.RowKit
set_option maxHeartbeats 8000000
set_option maxRecDepth 100000
theorem infoSg4 : (Tryz.prog.info? 105).map (·.size) = some 4 := by kernel_rfl
theorem ret_an {a : Value} {i j : Int} (h : i = j) : Ending.returned (.tuple #[a, .int .i64 i]) = .returned (.tuple #[a, .int .i64 j]) := by rw [h]
def SignAns (t : ByteArray) (k : Nat) (w : World) (e : Ending) (w' : World) : Prop :=
 Below w.heap.size w w' ∧ ∃ (kd : Int) (x : ByteArray) (p : Int) (n : Nat), e = .returned (.tuple #[.agg #[.int .i64 kd, .string x, .int .i64 p, .bool false], .int .i64 n]) ∧ (n ≠ 0 → p = k) ∧ SgAnsOk t k kd x n
theorem sSign_note (t : ByteArray) (k : Nat) (w : World) (hs : t.size ≤ 4194304) (hk : k < t.size) (hn : 0 < ntRaw t k) :
  Calls Tryz.prog 91 #[.string t, .int .i64 k] w fun e w' => SignAns t k w e w' := by
 obtain ⟨hok, hle⟩ := sgOk_note hk hn
 have hN := fun W => sNote_any t k W hs hk
 obtain ⟨n, en⟩ : ∃ n, n = ntRaw t k := ⟨_, rfl⟩
 rw [← en] at hok hle hN hn
 clear en
 have hsl := str_slice (P := Tryz.prog) 9 t k (k + n) (k : Int) ((k : Int) + n) Tryz.underlying9 rfl (by omega) (by omega) hle
 have hT := fun W => sTrim_any (t.extract k (k + n)) W (by simp; omega)
 obtain ⟨u, hu⟩ : ∃ u, u = trimB (t.extract k (k + n)) := ⟨_, rfl⟩
 rw [← hu] at hT hok
 clear hu
 have HO := hidOf hok
 clear hok
 go_enter Tryz.func91, Tryz.ntmps91
 go_wp2_with fail
 refine (hN _).mono ?_
 rintro e w1 ⟨rfl, rfl⟩
 go_wp2_with fail
 refine (hT _).mono ?_
 rintro e w1 ⟨rfl, rfl⟩
 go_wp2
 refine bodyPost_ret (results_agg4 rfl _ _ w.heap.size (.int .i64 5) (.string u) (.int .i64 k) (.bool false) _ rfl (by simp) (by simp) (by simp) (by simp) Tryz.underlying105 rfl infoSg4) rfl ?_
 exact ⟨(Below.refl _ _).alloc (Nat.le_refl _) _, _, _, _, n, rfl, fun _ => rfl, HO.out⟩
theorem sSign_name (t : ByteArray) (k : Nat) (w : World) (hs : t.size ≤ 4194304) (hk : k < t.size) (hn : ntRaw t k = 0) (hf : figB (by8 t k) = false) (hF : firB (by8 t k) = true) :
  Calls Tryz.prog 91 #[.string t, .int .i64 k] w fun e w' => SignAns t k w e w' := by
 have hhd : hd (t.extract k t.size) = (1, capN 30 (spn namB t k)) := by rw [hd_nam (by rw [by8_rest0]; exact hf) (by rw [by8_rest0]; exact hF), spn_rest0]
 have hN := fun W => sNote_any t k W hs hk
 rw [hn] at hN
 have hC := fun W => sFir_any (by8 t k) W
 rw [hF] at hC
 have hby := by8_at t
 have hbr := by8_range t k
 have HH := hidOf hhd
 clear hhd hn hf hF
 go_enter Tryz.func91, Tryz.ntmps91
 go_wp2_with fail
 refine (hN _).mono ?_
 rintro e w1 ⟨rfl, rfl⟩
 go_wp2_with fail
 refine (hC _).mono ?_
 rintro e w1 ⟨rfl, rfl⟩
 go_wp2
 go_loop [6] (fun i => ∃ j : Nat, k + j ≤ t.size ∧ i = .int .i64 ((k : Int) + j) ∧ Hid (∀ m, m < j → namB (by8 t (k + m)) = true)) (fun i => t.size - (intOf i).toNat)
 case atStart => exact ⟨0, by omega, by go_num, hidOf fun m h => by omega⟩
 case round =>
  obtain ⟨j, hj, rfl, HA⟩ := hrel
  clear hN hC
  by_cases hlt : k + j < t.size
  ·have hA : (0 : Int) ≤ (k : Int) + j := by omega
   have hB : (k : Int) + j < (t.size : Int) := by omega
   have hbj := by8_range t (k + j)
   have hix : ((k : Int) + j).toNat = k + j := by omega
   have h1 := fun W => sFir_any (by8 t (k + j)) W
   have h2 := fun W => sFig_any (by8 t (k + j)) W
   cases hP : firB (by8 t (k + j))
   ·rw [hP] at h1
    cases hQ : figB (by8 t (k + j))
    ·rw [hQ] at h2
     have hS : spn namB t k = j := spn_is j k hj HA.out (fun _ => by unfold namB; rw [hP, hQ]; rfl)
     rw [hS] at HH
     clear hS hP hQ
     by_cases hbg : 30 < j
     ·have hok : SgAnsOk t k 0 ⟨#[]⟩ 0 := sgOk_none (by rw [HH.out]; unfold capN; rw [if_pos hbg])
      have HO := hidOf hok
      clear hok
      go_wp2_with (first | (go_at_call 133; refine (h1 _).mono ?_; rintro e w1 ⟨rfl, rfl⟩) | (go_at_call 134; refine (h2 _).mono ?_; rintro e w1 ⟨rfl, rfl⟩))
      refine bodyPost_ret (results_agg4 rfl _ _ w.heap.size (.int .i64 0) (.string ⟨#[]⟩) (.int .i64 0) (.bool false) _ rfl (by simp) (by simp) (by simp) (by simp) Tryz.underlying105 rfl infoSg4) rfl ?_
      exact ⟨(Below.refl _ _).alloc (Nat.le_refl _) _, _, _, _, 0, rfl, fun h => absurd rfl h, HO.out⟩
     ·have hok : SgAnsOk t k 1 (t.extract k (k + j)) j := sgOk_same (by rw [HH.out]; unfold capN; rw [if_neg hbg]) (by omega)
      have hsl := str_slice (P := Tryz.prog) 9 t k (k + j) (k : Int) ((k : Int) + j) Tryz.underlying9 rfl (by omega) (by omega) hj
      obtain ⟨u, hu⟩ : ∃ u, u = t.extract k (k + j) := ⟨_, rfl⟩
      rw [← hu] at hok hsl
      clear hu
      have HO := hidOf hok
      clear hok
      go_wp2_with (first | (go_at_call 133; refine (h1 _).mono ?_; rintro e w1 ⟨rfl, rfl⟩) | (go_at_call 134; refine (h2 _).mono ?_; rintro e w1 ⟨rfl, rfl⟩))
      refine bodyPost_ret (results_agg4 rfl _ _ w.heap.size (.int .i64 1) (.string u) (.int .i64 k) (.bool false) _ rfl (by simp) (by simp) (by simp) (by simp) Tryz.underlying105 rfl infoSg4) rfl ?_
      exact ⟨(Below.refl _ _).alloc (Nat.le_refl _) _, _, _, _, j, ret_an (by omega), fun _ => rfl, HO.out⟩
    ·rw [hQ] at h2
     have HP := hidOf (show namB (by8 t (k + j)) = true by unfold namB; rw [hP, hQ]; rfl)
     clear hP hQ
     go_wp2_with (first | (go_at_call 133; refine (h1 _).mono ?_; rintro e w1 ⟨rfl, rfl⟩) | (go_at_call 134; refine (h2 _).mono ?_; rintro e w1 ⟨rfl, rfl⟩))
     refine ⟨⟨j + 1, by omega, by go_num, hidOf fun m hm => ?_⟩, ?_⟩
     ·by_cases e : m = j
      ·subst e; exact HP.out
      ·exact HA.out m (by omega)
     ·simp only [intOf]; omega
   ·rw [hP] at h1
    have HP := hidOf (show namB (by8 t (k + j)) = true by unfold namB; rw [hP]; rfl)
    clear hP
    go_wp2_with (first | (go_at_call 133; refine (h1 _).mono ?_; rintro e w1 ⟨rfl, rfl⟩) | (go_at_call 134; refine (h2 _).mono ?_; rintro e w1 ⟨rfl, rfl⟩))
    refine ⟨⟨j + 1, by omega, by go_num, hidOf fun m hm => ?_⟩, ?_⟩
    ·by_cases e : m = j
     ·subst e; exact HP.out
     ·exact HA.out m (by omega)
    ·simp only [intOf]; omega
  ·have hS : spn namB t k = j := spn_is j k hj HA.out (fun h => by omega)
   rw [hS] at HH
   clear hS
   by_cases hbg : 30 < j
   ·have hok : SgAnsOk t k 0 ⟨#[]⟩ 0 := sgOk_none (by rw [HH.out]; unfold capN; rw [if_pos hbg])
    have HO := hidOf hok
    clear hok
    go_wp2
    refine bodyPost_ret (results_agg4 rfl _ _ w.heap.size (.int .i64 0) (.string ⟨#[]⟩) (.int .i64 0) (.bool false) _ rfl (by simp) (by simp) (by simp) (by simp) Tryz.underlying105 rfl infoSg4) rfl ?_
    exact ⟨(Below.refl _ _).alloc (Nat.le_refl _) _, _, _, _, 0, rfl, fun h => absurd rfl h, HO.out⟩
   ·have hok : SgAnsOk t k 1 (t.extract k (k + j)) j := sgOk_same (by rw [HH.out]; unfold capN; rw [if_neg hbg]) (by omega)
    have hsl := str_slice (P := Tryz.prog) 9 t k (k + j) (k : Int) ((k : Int) + j) Tryz.underlying9 rfl (by omega) (by omega) hj
    obtain ⟨u, hu⟩ : ∃ u, u = t.extract k (k + j) := ⟨_, rfl⟩
    rw [← hu] at hok hsl
    clear hu
    have HO := hidOf hok
    clear hok
    go_wp2
    refine bodyPost_ret (results_agg4 rfl _ _ w.heap.size (.int .i64 1) (.string u) (.int .i64 k) (.bool false) _ rfl (by simp) (by simp) (by simp) (by simp) Tryz.underlying105 rfl infoSg4) rfl ?_
    exact ⟨(Below.refl _ _).alloc (Nat.le_refl _) _, _, _, _, j, ret_an (by omega), fun _ => rfl, HO.out⟩
theorem sSign_num (t : ByteArray) (k : Nat) (w : World) (hs : t.size ≤ 4194304) (hk : k < t.size) (hn : ntRaw t k = 0) (hf : figB (by8 t k) = true) (hF : firB (by8 t k) = false) :
  Calls Tryz.prog 91 #[.string t, .int .i64 k] w fun e w' => SignAns t k w e w' := by
 have hhd : hd (t.extract k t.size) = (2, capN 12 (spn figB t k)) := by rw [hd_fig (by rw [by8_rest0]; exact hf), spn_rest0]
 have hN := fun W => sNote_any t k W hs hk
 rw [hn] at hN
 have hC := fun W => sFir_any (by8 t k) W
 rw [hF] at hC
 have hD := fun W => sFig_any (by8 t k) W
 rw [hf] at hD
 have hby := by8_at t
 have hbr := by8_range t k
 have HH := hidOf hhd
 clear hhd hn hf hF
 go_enter Tryz.func91, Tryz.ntmps91
 go_wp2_with fail
 refine (hN _).mono ?_
 rintro e w1 ⟨rfl, rfl⟩
 go_wp2_with fail
 refine (hC _).mono ?_
 rintro e w1 ⟨rfl, rfl⟩
 go_wp2_with fail
 refine (hD _).mono ?_
 rintro e w1 ⟨rfl, rfl⟩
 go_wp2
 go_loop [6] (fun i => ∃ j : Nat, k + j ≤ t.size ∧ i = .int .i64 ((k : Int) + j) ∧ Hid (∀ m, m < j → figB (by8 t (k + m)) = true)) (fun i => t.size - (intOf i).toNat)
 case atStart => exact ⟨0, by omega, by go_num, hidOf fun m h => by omega⟩
 case round =>
  obtain ⟨j, hj, rfl, HA⟩ := hrel
  clear hN hC hD
  by_cases hlt : k + j < t.size
  ·have hA : (0 : Int) ≤ (k : Int) + j := by omega
   have hB : (k : Int) + j < (t.size : Int) := by omega
   have hbj := by8_range t (k + j)
   have hix : ((k : Int) + j).toNat = k + j := by omega
   have h2 := fun W => sFig_any (by8 t (k + j)) W
   cases hQ : figB (by8 t (k + j))
   ·rw [hQ] at h2
    have hS : spn figB t k = j := spn_is j k hj HA.out (fun _ => hQ)
    rw [hS] at HH
    clear hS hQ
    by_cases hbg : 12 < j
    ·have hok : SgAnsOk t k 0 ⟨#[]⟩ 0 := sgOk_none (by rw [HH.out]; unfold capN; rw [if_pos hbg])
     have HO := hidOf hok
     clear hok
     go_wp2_with (go_at_call 134; refine (h2 _).mono ?_; rintro e w1 ⟨rfl, rfl⟩)
     refine bodyPost_ret (results_agg4 rfl _ _ w.heap.size (.int .i64 0) (.string ⟨#[]⟩) (.int .i64 0) (.bool false) _ rfl (by simp) (by simp) (by simp) (by simp) Tryz.underlying105 rfl infoSg4) rfl ?_
     exact ⟨(Below.refl _ _).alloc (Nat.le_refl _) _, _, _, _, 0, rfl, fun h => absurd rfl h, HO.out⟩
    ·have hok : SgAnsOk t k 2 (t.extract k (k + j)) j := sgOk_same (by rw [HH.out]; unfold capN; rw [if_neg hbg]) (by omega)
     have hsl := str_slice (P := Tryz.prog) 9 t k (k + j) (k : Int) ((k : Int) + j) Tryz.underlying9 rfl (by omega) (by omega) hj
     obtain ⟨u, hu⟩ : ∃ u, u = t.extract k (k + j) := ⟨_, rfl⟩
     rw [← hu] at hok hsl
     clear hu
     have HO := hidOf hok
     clear hok
     go_wp2_with (go_at_call 134; refine (h2 _).mono ?_; rintro e w1 ⟨rfl, rfl⟩)
     refine bodyPost_ret (results_agg4 rfl _ _ w.heap.size (.int .i64 2) (.string u) (.int .i64 k) (.bool false) _ rfl (by simp) (by simp) (by simp) (by simp) Tryz.underlying105 rfl infoSg4) rfl ?_
     exact ⟨(Below.refl _ _).alloc (Nat.le_refl _) _, _, _, _, j, ret_an (by omega), fun _ => rfl, HO.out⟩
   ·rw [hQ] at h2
    have HP := hidOf hQ
    clear hQ
    go_wp2_with (go_at_call 134; refine (h2 _).mono ?_; rintro e w1 ⟨rfl, rfl⟩)
    refine ⟨⟨j + 1, by omega, by go_num, hidOf fun m hm => ?_⟩, ?_⟩
    ·by_cases e : m = j
     ·subst e; exact HP.out
     ·exact HA.out m (by omega)
    ·simp only [intOf]; omega
  ·have hS : spn figB t k = j := spn_is j k hj HA.out (fun h => by omega)
   rw [hS] at HH
   clear hS
   by_cases hbg : 12 < j
   ·have hok : SgAnsOk t k 0 ⟨#[]⟩ 0 := sgOk_none (by rw [HH.out]; unfold capN; rw [if_pos hbg])
    have HO := hidOf hok
    clear hok
    go_wp2
    refine bodyPost_ret (results_agg4 rfl _ _ w.heap.size (.int .i64 0) (.string ⟨#[]⟩) (.int .i64 0) (.bool false) _ rfl (by simp) (by simp) (by simp) (by simp) Tryz.underlying105 rfl infoSg4) rfl ?_
    exact ⟨(Below.refl _ _).alloc (Nat.le_refl _) _, _, _, _, 0, rfl, fun h => absurd rfl h, HO.out⟩
   ·have hok : SgAnsOk t k 2 (t.extract k (k + j)) j := sgOk_same (by rw [HH.out]; unfold capN; rw [if_neg hbg]) (by omega)
    have hsl := str_slice (P := Tryz.prog) 9 t k (k + j) (k : Int) ((k : Int) + j) Tryz.underlying9 rfl (by omega) (by omega) hj
    obtain ⟨u, hu⟩ : ∃ u, u = t.extract k (k + j) := ⟨_, rfl⟩
    rw [← hu] at hok hsl
    clear hu
    have HO := hidOf hok
    clear hok
    go_wp2
    refine bodyPost_ret (results_agg4 rfl _ _ w.heap.size (.int .i64 2) (.string u) (.int .i64 k) (.bool false) _ rfl (by simp) (by simp) (by simp) (by simp) Tryz.underlying105 rfl infoSg4) rfl ?_
    exact ⟨(Below.refl _ _).alloc (Nat.le_refl _) _, _, _, _, j, ret_an (by omega), fun _ => rfl, HO.out⟩
end Go.Proofs.YtcbbnphpkgifoaaGreatDoor
