/- What the specification's helpers on signs answer: kinds of bytes, notes, texts and marks. -/
import Derived.Test.YtlpbhhgikgbfhaaDoorSignLib
import Derived.Test.YtlpbhhgikgbfhaaDoorMkSa
import Derived.BigQuiet
import Derived.Deep.QuietTactic
namespace Go.Proofs.YtlpbhhgikgbfhaaDoor
open Go.RowKit

set_option maxHeartbeats 1600000 in
theorem sFig_any (r : Int) (w : World) : Calls Tryd.prog 31 #[.int .u8 r] w fun e w' => e = .returned (.bool (figB r)) ∧ w' = w := by
  by_cases h1 : 48 ≤ r
  all_goals go_enter Tryd.func31, Tryd.ntmps31
  all_goals go_wp2
  all_goals go_ret
  all_goals exact ⟨ret_bool (by first | (simp [figB, *]; done) | (simp [figB]; omega)), rfl⟩

set_option maxHeartbeats 1600000 in
theorem sPla_any (r : Int) (w : World) : Calls Tryd.prog 45 #[.int .u8 r] w fun e w' => e = .returned (.bool (plaB r)) ∧ w' = w := by
  by_cases h1 : 32 ≤ r
  all_goals go_enter Tryd.func45, Tryd.ntmps45
  all_goals go_wp2
  all_goals go_ret
  all_goals exact ⟨ret_bool (by first | (simp [plaB, *]; done) | (simp [plaB]; omega)), rfl⟩

set_option maxHeartbeats 1600000 in
theorem sFir_any (r : Int) (w : World) : Calls Tryd.prog 30 #[.int .u8 r] w fun e w' => e = .returned (.bool (firB r)) ∧ w' = w := by
  have key : (97 ≤ r ∧ r ≤ 122) ∨ (97 ≤ r ∧ 122 < r ∧ 65 ≤ r ∧ 90 < r ∧ (r == 95) = false) ∨ (r < 97 ∧ 65 ≤ r ∧ r ≤ 90) ∨ (r < 97 ∧ 65 ≤ r ∧ 90 < r ∧ (r == 95) = true) ∨ (r < 97 ∧ 65 ≤ r ∧ 90 < r ∧ (r == 95) = false) ∨ (r < 97 ∧ r < 65 ∧ (r == 95) = false) := by
    simp only [beq_iff_eq, beq_eq_false_iff_ne]
    omega
  rcases key with ⟨h1, h2⟩ | ⟨h1, h2, h3, h4, h5⟩ | ⟨h1, h3, h4⟩ | ⟨h1, h3, h4, h5⟩ | ⟨h1, h3, h4, h5⟩ | ⟨h1, h3, h5⟩
  all_goals go_enter Tryd.func30, Tryd.ntmps30
  all_goals go_wp2
  all_goals go_ret
  all_goals refine ⟨ret_bool ?_, rfl⟩
  all_goals (rw [Bool.eq_iff_iff]; simp [firB]; (try simp at h5); (try omega))

theorem two_is {t : ByteArray} {k : Nat} (h : k + 2 ≤ t.size) : ((t.extract k (k + 2)).toList == [47, 47]) = ((by8 t k == 47) && (by8 t (k + 1) == 47)) := by
  have key : ∀ u : UInt8, (u == (47 : UInt8)) = ((u.toNat : Int) == 47) := fun u => by
    rw [Bool.eq_iff_iff]
    simp only [beq_iff_eq]
    constructor
    · rintro rfl; rfl
    · intro h
      have h47 : u.toNat = 47 := by omega
      exact UInt8.toNat_inj.1 (by rw [h47]; rfl)
  rw [ByteArray.toList_eq, bytes_ext, List.drop_take, show k + 2 - k = 2 by omega, drop_at t k (by omega), drop_at t (k + 1) (by omega)]
  unfold by8
  rw [← key, ← key]
  simp [List.take_succ_cons]

/-- How long the note at a place is; 0: there is none, or it has a byte that may not be. -/
def ntRaw (t : ByteArray) (k : Nat) : Nat := if by8 t k = 47 ∧ by8 t (k + 1) = 47 then (if k + spn plaB t k < t.size ∧ by8 t (k + spn plaB t k) ≠ 10 then 0 else spn plaB t k) else 0

set_option maxHeartbeats 1600000 in
theorem sNote_any (t : ByteArray) (k : Nat) (w : World) (hs : t.size ≤ 4194304) (hk : k < t.size) :
    Calls Tryd.prog 28 #[.string t, .int .i64 k] w fun e w' => e = .returned (.int .i64 (ntRaw t k)) ∧ w' = w := by
  by_cases h2 : k + 2 ≤ t.size
  · have hT := two_is h2
    have hsl := str_slice (P := Tryd.prog) 9 t k (k + 2) (k : Int) ((k : Int) + 2) Tryd.underlying9 rfl (by omega) (by omega) h2
    obtain ⟨u, hu⟩ : ∃ u, u = t.extract k (k + 2) := ⟨_, rfl⟩
    rw [← hu] at hT hsl
    clear hu
    cases hN : ((by8 t k == 47) && (by8 t (k + 1) == 47))
    · have hM : (u.toList == [47, 47]) = false := by rw [hT, hN]
      have hr : ntRaw t k = 0 := by
        unfold ntRaw
        rw [if_neg (fun h => by simp [h.1, h.2] at hN)]
      rw [hr]
      clear hT hN hr
      go_enter Tryd.func28, Tryd.ntmps28
      go_wp2
      go_ret
      exact ⟨rfl, rfl⟩
    · have hM : (u.toList == [47, 47]) = true := by rw [hT, hN]
      have hr : ntRaw t k = (if k + spn plaB t k < t.size ∧ by8 t (k + spn plaB t k) ≠ 10 then 0 else spn plaB t k) := by
        unfold ntRaw
        rw [if_pos (by simpa using hN)]
      have HR := hidOf hr
      clear hT hN hr
      have hby := by8_at t
      go_enter Tryd.func28, Tryd.ntmps28
      go_wp2
      go_loop [5] (fun i => ∃ j : Nat, k + j ≤ t.size ∧ i = .int .i64 ((k : Int) + j) ∧ Hid (∀ m, m < j → plaB (by8 t (k + m)) = true)) (fun i => t.size - (intOf i).toNat)
      case atStart => exact ⟨0, by omega, by go_num, hidOf fun m h => by omega⟩
      case round =>
        obtain ⟨j, hj, rfl, HA⟩ := hrel
        by_cases hlt : k + j < t.size
        · have hA : (0 : Int) ≤ (k : Int) + j := by omega
          have hB : (k : Int) + j < (t.size : Int) := by omega
          have hbr := by8_range t (k + j)
          have hix : ((k : Int) + j).toNat = k + j := by omega
          by_cases h10 : by8 t (k + j) = 10
          · have hS : spn plaB t k = j := spn_is j k hj HA.out (fun _ => by rw [h10]; rfl)
            have HS := hidOf hS
            have h10' : (by8 t (k + j) != 10) = false := by simp [h10]
            have H10 := hidOf h10
            clear h10 hS
            go_wp2
            go_ret
            exact ⟨ret_int (by rw [HR.out, HS.out, if_neg (fun h => h.2 H10.out)]; omega), rfl⟩
          · have h10' : (by8 t (k + j) != 10) = true := by simpa using h10
            have H10 := hidOf h10
            clear h10
            have hP := fun W => sPla_any (by8 t (k + j)) W
            cases hpl : plaB (by8 t (k + j))
            · rw [hpl] at hP
              have hS : spn plaB t k = j := spn_is j k hj HA.out (fun _ => hpl)
              have HS := hidOf hS
              clear hS hpl
              go_wp2_with fail
              refine (hP _).mono ?_
              rintro e w ⟨rfl, rfl⟩
              go_wp2
              go_ret
              exact ⟨ret_int (by rw [HR.out, HS.out, if_pos ⟨by omega, H10.out⟩]; rfl), rfl⟩
            · rw [hpl] at hP
              have HP := hidOf hpl
              clear hpl
              go_wp2_with fail
              refine (hP _).mono ?_
              rintro e w ⟨rfl, rfl⟩
              go_wp2
              go_round
              case rel => exact ⟨j + 1, by omega, by go_num, hidOf fun m hm => by
                by_cases e : m = j
                · subst e; exact HP.out
                · exact HA.out m (by omega)⟩
              case measure => simp [intOf]; omega
        · have hS : spn plaB t k = j := spn_is j k hj HA.out (fun h => by omega)
          have HS := hidOf hS
          clear hS
          go_wp2
          go_ret
          exact ⟨ret_int (by rw [HR.out, HS.out, if_neg (fun h => hlt h.1)]; omega), rfl⟩
  · have hr : ntRaw t k = 0 := by
      unfold ntRaw
      rw [if_neg (fun h => by have := by8_past (t := t) (k := k + 1) (by omega); omega)]
    rw [hr]
    clear hr
    go_enter Tryd.func28, Tryd.ntmps28
    go_wp2
    go_ret
    exact ⟨rfl, rfl⟩
end Go.Proofs.YtlpbhhgikgbfhaaDoor
