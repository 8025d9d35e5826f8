/- What impl.ReadDecimal and spec.ReadDecimal answer, and the law on them. -/
import Derived.Test.YtcaimnffnlpdcaaDec
import Derived.WalkMore
namespace Go.Proofs.Ytcaimnffnlpdcaa
open Go.RowKit

def RdAns (s : ByteArray) (e : Ending) : Prop :=
  (RdOk s → e = .returned (.tuple #[.int .i64 (vl s s.size), .bool true])) ∧ (¬ RdOk s → e = .returned (.tuple #[.int .i64 0, .bool false]))
theorem rdAns_no {s : ByteArray} {e : Ending} (h : ¬ RdOk s) (he : e = .returned (.tuple #[.int .i64 0, .bool false])) : RdAns s e := ⟨fun h' => absurd h' h, fun _ => he⟩
theorem rdAns_yes {s : ByteArray} {e : Ending} (h : RdOk s) (he : e = .returned (.tuple #[.int .i64 (vl s s.size), .bool true])) : RdAns s e := ⟨fun _ => he, fun h' => absurd h h'⟩
theorem not_dig {s : ByteArray} {k : Nat} (hk : k < s.size) (h : ¬ (48 ≤ by8 s k ∧ by8 s k ≤ 57)) : ¬ RdOk s := fun r => h (r.2.2.1 k hk)
theorem not_great {s : ByteArray} {k : Nat} (hk : k ≤ s.size) (h : 1000000000 < vl s k) : ¬ RdOk s := fun r => by
  have h1 := r.2.2.2
  have h2 := vl_mono s k (s.size - k)
  rw [show k + (s.size - k) = s.size by omega] at h2
  omega
theorem not_long {s : ByteArray} (h : 10 < s.size) : ¬ RdOk s := fun r => by
  have h0 := r.2.2.1 0 (by omega)
  have hf : 48 < by8 s 0 := by have := r.2.1; omega
  have hd : Dig s 11 := fun j hj => r.2.2.1 j (by omega)
  -- eleven figures, the first no 0, tell more than there may be
  have e1 := vl_first hf 1 (by omega)
  have m1 := vl_mono s 11 (s.size - 11)
  rw [show 11 + (s.size - 11) = s.size by omega] at m1
  have g : ∀ k m, m = k + 1 → vl s m ≥ vl s k * 10 := fun k m e => by subst e; rw [vl]; omega
  have g1 := g 1 2 rfl; have g2 := g 2 3 rfl; have g3 := g 3 4 rfl; have g4 := g 4 5 rfl; have g5 := g 5 6 rfl; have g6 := g 6 7 rfl; have g7 := g 7 8 rfl; have g8 := g 8 9 rfl; have g9 := g 9 10 rfl; have g10 := g 10 11 rfl
  have := r.2.2.2
  omega

set_option maxHeartbeats 800000 in
set_option maxRecDepth 20000 in
theorem sRd_any (s : ByteArray) (w : World) (hs : s.size ≤ 1048576) :
    Calls Try.prog 22 #[.string s] w fun e w' => RdAns s e ∧ Below w.heap.size w w' := by
  have hby := by8_at s
  by_cases hlong : 10 < s.size
  · go_enter Try.func22, Try.ntmps22
    go_wp2
    go_ret2
    exact ⟨rdAns_no (not_long hlong) rfl, Below.refl _ _⟩
  · go_enter Try.func22, Try.ntmps22
    go_wp2
    go_loop [4, 5] (fun n i => ∃ (k N : Nat), k ≤ s.size ∧ i = .int .i64 k ∧ n = .int .i64 N ∧ N < 10000000000 ∧ Hid (N = vl s k) ∧ Hid (Dig s k))
      (fun _ i => s.size - (intOf i).toNat)
    case atStart => exact ⟨0, 0, Nat.zero_le _, rfl, rfl, by omega, rfl, fun j hj => by omega⟩
    case round =>
      obtain ⟨k, N, hk, rfl, rfl, hN, HN, HD⟩ := hrel
      have hr := by8_range s k
      by_cases hlt : k < s.size
      · by_cases hd : 48 ≤ by8 s k ∧ by8 s k ≤ 57
        · obtain ⟨hd1, hd2⟩ := hd
          go_wp2
          go_round
          case rel =>
            have hdig := dig_succ HD.out hd1 hd2
            have e : vl s (k + 1) = N * 10 + (by8 s k - 48).toNat := by rw [HN.out]; rfl
            have hp := vl_pow hdig
            have hp2 : 10 ^ (k + 1) ≤ 10 ^ 10 := Nat.pow_le_pow_right (by omega) (by omega)
            exact ⟨k + 1, vl s (k + 1), by omega, by go_num, by rw [e]; go_num, by omega, rfl, hdig⟩
          case measure => simp [intOf]; omega
        · go_wp2
          all_goals
            first
            | (exfalso; omega)
            | (go_ret2
               exact ⟨rdAns_no (not_dig hlt hd) rfl, Below.refl _ _⟩)
      · have hke : k = s.size := by omega
        have HK := hidOf hke
        clear hke
        by_cases hbig : 1000000000 < N
        · go_wp2
          go_ret2
          exact ⟨rdAns_no (not_great (Nat.le_refl _) (by rw [← HK.out, ← HN.out]; exact hbig)) rfl, Below.refl _ _⟩
        · have hbd : decide (1000000000 < (N : Int)) = false := by simp; omega
          by_cases hok : 0 < s.size ∧ (s.size = 1 ∨ by8 s 0 ≠ 48)
          · have heq : (Lib.itoa (N : Int) == s.toList) = true := by
              rw [← ByteArray.toList_mk (Lib.itoa (N : Int))]
              refine str_same ?_
              have h1 := rd_eq (s := s) (by rw [← HK.out]; exact HD.out) hok.1 hok.2
              rw [← HK.out, ← HN.out] at h1
              rw [Lib.itoa, if_neg (by omega)]
              exact h1
            have hr : RdOk s := ⟨hok.1, hok.2, by rw [← HK.out]; exact HD.out, by rw [← HK.out, ← HN.out]; omega⟩
            have HR := hidOf hr
            clear hr hok
            go_wp2_with fail
            refine (dec_any _ _ (by omega) (by omega)).mono ?_
            rintro e w1 ⟨rfl, hb⟩
            go_wp2
            go_ret2
            exact ⟨rdAns_yes HR.out (by rw [← HK.out, ← HN.out]; rfl), hb⟩
          · have heq : (Lib.itoa (N : Int) == s.toList) = false := by
              rw [← ByteArray.toList_mk (Lib.itoa (N : Int)), str_beq]
              have h1 := rd_ne (s := s) (by omega) (by rw [← HK.out]; exact HD.out) hok
              rw [← HK.out, ← HN.out] at h1
              rw [Lib.itoa, if_neg (by omega)]
              simpa using h1
            have HO := hidOf hok
            clear hok
            go_wp2_with fail
            refine (dec_any _ _ (by omega) (by omega)).mono ?_
            rintro e w1 ⟨rfl, hb⟩
            go_wp2
            go_ret2
            exact ⟨rdAns_no (fun r => HO.out ⟨r.1, r.2.1⟩) rfl, hb⟩

theorem isEmpty_yes {s : ByteArray} (h : s.size = 0) : s.toList.isEmpty = true := by
  rw [ByteArray.toList_eq]
  have hl : s.data.toList.length = s.size := by simp
  rw [h] at hl
  rw [List.length_eq_zero_iff.1 hl]
  rfl
theorem isEmpty_no {s : ByteArray} (h : s.size ≠ 0) : s.toList.isEmpty = false := by
  rw [ByteArray.toList_eq]
  have hl : s.data.toList.length = s.size := by simp
  cases he : s.data.toList with
  | nil => rw [he] at hl; simp at hl; omega
  | cons a t => rfl

set_option maxHeartbeats 1600000 in
set_option maxRecDepth 20000 in
theorem iRd_any (s : ByteArray) (w : World) (hs : s.size ≤ 1048576) :
    Calls Try.prog 23 #[.string s] w fun e w' => RdAns s e ∧ w' = w := by
  have hby := by8_at s
  by_cases h0 : s.size = 0
  · have he : s.toList.isEmpty = true := isEmpty_yes h0
    have HZ := hidOf h0
    clear h0
    go_enter Try.func23, Try.ntmps23
    go_wp2
    go_step3
    go_wp2
    try rw [Exit.noGoto_ret]
    go_ret2
    exact ⟨rdAns_no (fun r => by have := r.1; have := HZ.out; omega) rfl, rfl⟩
  · have he : s.toList.isEmpty = false := isEmpty_no h0
    by_cases hlead : 1 < s.size ∧ by8 s 0 = 48
    · have h1 : 1 < s.size := hlead.1
      have h48 : (by8 s 0 == 48) = true := by simpa using hlead.2
      have HL := hidOf hlead
      clear hlead
      go_enter Try.func23, Try.ntmps23
      go_wp2
      go_step3
      go_wp2
      try rw [Exit.noGoto_ret]
      go_ret2
      exact ⟨rdAns_no (fun r => by have := r.2.1; have := HL.out; omega) rfl, rfl⟩
    · have HL : Hid (s.size = 1 ∨ by8 s 0 ≠ 48) := by show s.size = 1 ∨ by8 s 0 ≠ 48; omega
      have hpart : ¬ 1 < s.size ∨ (1 < s.size ∧ (by8 s 0 == 48) = false) := by
        by_cases h1 : 1 < s.size
        · right; exact ⟨h1, by simp; omega⟩
        · left; exact h1
      clear hlead
      rcases hpart with hp1 | ⟨hp1, hp2⟩
      all_goals
        go_enter Try.func23, Try.ntmps23
        go_wp2
        go_step3
        go_wp2
        go_step3
        go_wp2
        go_loop [4, 5, 6] (fun n i _ => ∃ (k N : Nat), k ≤ s.size ∧ i = .int .i64 k ∧ n = .int .i64 N ∧ N ≤ 10000000009 ∧ Hid (N = vl s k) ∧ Hid (Dig s k))
          (fun _ i _ => s.size - (intOf i).toNat)
        case atStart => exact ⟨0, 0, Nat.zero_le _, rfl, rfl, by omega, rfl, fun j hj => by omega⟩
        case round =>
          obtain ⟨k, N, hk, rfl, rfl, hN, HN, HD⟩ := hrel
          have hr := by8_range s k
          by_cases hlt : k < s.size
          · by_cases hd : 48 ≤ by8 s k ∧ by8 s k ≤ 57
            · obtain ⟨hd1, hd2⟩ := hd
              by_cases hbig : N ≤ 1000000000
              · go_wp2
                go_round
                case rel =>
                  have hdig := dig_succ HD.out hd1 hd2
                  have e : vl s (k + 1) = N * 10 + (by8 s k - 48).toNat := by rw [HN.out]; rfl
                  exact ⟨k + 1, vl s (k + 1), by omega, by go_num, by rw [e]; go_num, by omega, rfl, hdig⟩
                case measure => simp [intOf]; omega
              · go_wp2
                try rw [Exit.noGoto_ret]
                go_ret2
                exact ⟨rdAns_no (not_great hk (by rw [← HN.out]; omega)) rfl, rfl⟩
            · go_wp2
              all_goals
                first
                | (exfalso; omega)
                | (try rw [Exit.noGoto_ret]
                   go_ret2
                   exact ⟨rdAns_no (not_dig hlt hd) rfl, rfl⟩)
          · have hke : k = s.size := by omega
            have HK := hidOf hke
            clear hke
            by_cases hbig : 1000000000 < N
            · go_wp2
              try rw [Exit.noGoto_ret]
              go_ret2
              exact ⟨rdAns_no (not_great hk (by rw [← HN.out]; omega)) rfl, rfl⟩
            · go_wp2
              try rw [Exit.noGoto_ret]
              go_ret2
              exact ⟨rdAns_yes ⟨by omega, HL.out, by rw [← HK.out]; exact HD.out, by rw [← HK.out, ← HN.out]; omega⟩ (by rw [← HK.out, ← HN.out]; rfl), rfl⟩

theorem rdAns_is {s : ByteArray} : ∃ (n : Int) (b : Bool), ∀ e, RdAns s e → e = .returned (.tuple #[.int .i64 n, .bool b]) := by
  by_cases h : RdOk s
  · exact ⟨_, _, fun e he => he.1 h⟩
  · exact ⟨_, _, fun e he => he.2 h⟩

theorem lawReadDecimal (s : ByteArray) (w : World) (hs : s.size ≤ maxLen) :
    Calls Try.prog 9 #[.string s] w fun e w' => e = .returned (.bool true) ∧ Below w.heap.size w w' := by
  unfold maxLen at hs
  by_cases h0 : 1048576 < s.size
  · go_enter Try.func9, Try.ntmps9
    go_wp2
    go_ret
    exact ⟨rfl, Below.refl _ _⟩
  · obtain ⟨t, b, ht⟩ := rdAns_is (s := s)
    have H1 := hidOf (fun w => (sRd_any s w (by omega)).mono (fun e w' h => And.intro (ht e h.1) h.2))
    have H2 := hidOf (fun w => (iRd_any s w (by omega)).mono (fun e w' h => And.intro (ht e h.1) h.2))
    clear ht
    go_enter Try.func9, Try.ntmps9
    go_wp2_with fail
    refine (H1.out _).mono ?_
    rintro e w1 ⟨rfl, hb1⟩
    go_wp2_with fail
    refine (H2.out _).mono ?_
    rintro e w2 ⟨rfl, rfl⟩
    go_wp2
    go_ret
    exact ⟨rfl, hb1⟩
end Go.Proofs.Ytcaimnffnlpdcaa
