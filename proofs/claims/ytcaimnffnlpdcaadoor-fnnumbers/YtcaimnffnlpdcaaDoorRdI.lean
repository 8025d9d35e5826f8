/- Contracts of the program's own functions alone. -/
import Derived.Test.YtcaimnffnlpdcaaDoorDecK
import Derived.WalkMore
namespace Go.Proofs.YtcaimnffnlpdcaaDoor
open Go.RowKit

def RdAns (s : ByteArray) (e : Ending) : Prop :=
  (RdOk s → e = .returned (.tuple #[.int .i64 (vl s s.size), .bool true])) ∧ (¬ RdOk s → e = .returned (.tuple #[.int .i64 0, .bool false]))

theorem rdAns_no {s : ByteArray} {e : Ending} (h : ¬ RdOk s) (he : e = .returned (.tuple #[.int .i64 0, .bool false])) : RdAns s e := ⟨fun h' => absurd h' h, fun _ => he⟩

theorem rdAns_yes {s : ByteArray} {e : Ending} (h : RdOk s) (he : e = .returned (.tuple #[.int .i64 (vl s s.size), .bool true])) : RdAns s e := ⟨fun _ => he, fun h' => absurd h h'⟩

theorem not_dig {s : ByteArray} {k : Nat} (hk : k < s.size) (h : ¬ (48 ≤ by8 s k ∧ by8 s k ≤ 57)) : ¬ RdOk s := fun r => h (r.2.2.1 k hk)

theorem not_great {s : ByteArray} {k : Nat} (hk : k ≤ s.size) (h : 1000000000 < vl s k) : ¬ RdOk s := fun r => by
  have h1 := r.2.2.2
  have h2 := vl_mono s k (s.size - k)
  rw [show k + (s.size - k) = s.size by omega] at h2
  omega

theorem isEmpty_yes {s : ByteArray} (h : s.size = 0) : s.toList.isEmpty = true := by
  rw [ByteArray.toList_eq]
  have hl : s.data.toList.length = s.size := by simp
  rw [h] at hl
  rw [List.length_eq_zero_iff.1 hl]
  rfl

theorem isEmpty_no {s : ByteArray} (h : s.size ≠ 0) : s.toList.isEmpty = false := by
  rw [ByteArray.toList_eq]
  have hl : s.data.toList.length = s.size := by simp
  cases he : s.data.toList with
  | nil => rw [he] at hl; simp at hl; omega
  | cons a t => rfl

set_option maxHeartbeats 1600000 in
set_option maxRecDepth 20000 in
theorem iRd_any (s : ByteArray) (w : World) (hs : s.size ≤ 1048576) :
    Calls Tryd.prog 10 #[.string s] w fun e w' => RdAns s e ∧ w' = w := by
  have hby := by8_at s
  by_cases h0 : s.size = 0
  · have he : s.toList.isEmpty = true := isEmpty_yes h0
    have HZ := hidOf h0
    clear h0
    go_enter Tryd.func10, Tryd.ntmps10
    go_wp2
    go_step3
    go_wp2
    try rw [Exit.noGoto_ret]
    go_ret2
    exact ⟨rdAns_no (fun r => by have := r.1; have := HZ.out; omega) rfl, rfl⟩
  · have he : s.toList.isEmpty = false := isEmpty_no h0
    by_cases hlead : 1 < s.size ∧ by8 s 0 = 48
    · have h1 : 1 < s.size := hlead.1
      have h48 : (by8 s 0 == 48) = true := by simpa using hlead.2
      have HL := hidOf hlead
      clear hlead
      go_enter Tryd.func10, Tryd.ntmps10
      go_wp2
      go_step3
      go_wp2
      try rw [Exit.noGoto_ret]
      go_ret2
      exact ⟨rdAns_no (fun r => by have := r.2.1; have := HL.out; omega) rfl, rfl⟩
    · have HL : Hid (s.size = 1 ∨ by8 s 0 ≠ 48) := by show s.size = 1 ∨ by8 s 0 ≠ 48; omega
      have hpart : ¬ 1 < s.size ∨ (1 < s.size ∧ (by8 s 0 == 48) = false) := by
        by_cases h1 : 1 < s.size
        · right; exact ⟨h1, by simp; omega⟩
        · left; exact h1
      clear hlead
      rcases hpart with hp1 | ⟨hp1, hp2⟩
      all_goals
        go_enter Tryd.func10, Tryd.ntmps10
        go_wp2
        go_step3
        go_wp2
        go_step3
        go_wp2
        go_loop [4, 5, 6] (fun n i _ => ∃ (k N : Nat), k ≤ s.size ∧ i = .int .i64 k ∧ n = .int .i64 N ∧ N ≤ 10000000009 ∧ Hid (N = vl s k) ∧ Hid (Dig s k))
          (fun _ i _ => s.size - (intOf i).toNat)
        case atStart => exact ⟨0, 0, Nat.zero_le _, rfl, rfl, by omega, rfl, fun j hj => by omega⟩
        case round =>
          obtain ⟨k, N, hk, rfl, rfl, hN, HN, HD⟩ := hrel
          have hr := by8_range s k
          by_cases hlt : k < s.size
          · by_cases hd : 48 ≤ by8 s k ∧ by8 s k ≤ 57
            · obtain ⟨hd1, hd2⟩ := hd
              by_cases hbig : N ≤ 1000000000
              · go_wp2
                go_round
                case rel =>
                  have hdig := dig_succ HD.out hd1 hd2
                  have e : vl s (k + 1) = N * 10 + (by8 s k - 48).toNat := by rw [HN.out]; rfl
                  exact ⟨k + 1, vl s (k + 1), by omega, by go_num, by rw [e]; go_num, by omega, rfl, hdig⟩
                case measure => simp [intOf]; omega
              · go_wp2
                try rw [Exit.noGoto_ret]
                go_ret2
                exact ⟨rdAns_no (not_great hk (by rw [← HN.out]; omega)) rfl, rfl⟩
            · go_wp2
              all_goals
                first
                | (exfalso; omega)
                | (try rw [Exit.noGoto_ret]
                   go_ret2
                   exact ⟨rdAns_no (not_dig hlt hd) rfl, rfl⟩)
          · have hke : k = s.size := by omega
            have HK := hidOf hke
            clear hke
            by_cases hbig : 1000000000 < N
            · go_wp2
              try rw [Exit.noGoto_ret]
              go_ret2
              exact ⟨rdAns_no (not_great hk (by rw [← HN.out]; omega)) rfl, rfl⟩
            · go_wp2
              try rw [Exit.noGoto_ret]
              go_ret2
              exact ⟨rdAns_yes ⟨by omega, HL.out, by rw [← HK.out]; exact HD.out, by rw [← HK.out, ← HN.out]; omega⟩ (by rw [← HK.out, ← HN.out]; rfl), rfl⟩
end Go.Proofs.YtcaimnffnlpdcaaDoor
