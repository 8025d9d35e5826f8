/- Contracts of the program's own functions alone. -/
import Derived.Test.YtcaimnffnlpdcaaDoorVarI
import Derived.WalkMore
namespace Go.Proofs.YtcaimnffnlpdcaaDoor
open Go.RowKit

/-- What a figure counts for, -1 for what is none. -/
def hv (x : Int) : Int := if 48 ≤ x ∧ x ≤ 57 then x - 48 else if 97 ≤ x ∧ x ≤ 102 then x - 87 else -1

theorem hv_range (x : Int) : -1 ≤ hv x ∧ hv x ≤ 15 := by
  unfold hv
  split
  · omega
  · split <;> omega

def unL (s : ByteArray) : Nat → List Int
  | 0 => []
  | k + 1 => unL s k ++ [16 * hv (by8 s (2 * k)) + hv (by8 s (2 * k + 1))]

theorem unL_len (s : ByteArray) : ∀ k, (unL s k).length = k
  | 0 => rfl
  | k + 1 => by simp [unL, unL_len s k]

def Pairs (s : ByteArray) (k : Nat) : Prop := ∀ j, j < k → 0 ≤ hv (by8 s (2 * j)) ∧ 0 ≤ hv (by8 s (2 * j + 1))

theorem pairs_succ {s : ByteArray} {k : Nat} (h : Pairs s k) (h1 : 0 ≤ hv (by8 s (2 * k))) (h2 : 0 ≤ hv (by8 s (2 * k + 1))) : Pairs s (k + 1) := by
  intro j hj
  by_cases e : j = k
  · subst e; exact ⟨h1, h2⟩
  · exact h j (by omega)

/-- The answer, out of whether all pairs are right. -/
def UnAns (s : ByteArray) (e : Ending) : Prop :=
  (Pairs s (s.size / 2) → e = .returned (.tuple #[.string (strOfNums (unL s (s.size / 2))), .bool true])) ∧ (¬ Pairs s (s.size / 2) → e = .returned (.tuple #[.string ⟨#[]⟩, .bool false]))

theorem unAns_no {s : ByteArray} {e : Ending} {k : Nat} (hk : 2 * k + 1 < s.size) (h : ¬ (0 ≤ hv (by8 s (2 * k)) ∧ 0 ≤ hv (by8 s (2 * k + 1)))) (he : e = .returned (.tuple #[.string ⟨#[]⟩, .bool false])) : UnAns s e :=
  ⟨fun hp => absurd (hp k (by omega)) h, fun _ => he⟩

theorem unAns_yes {s : ByteArray} {e : Ending} {k : Nat} (hk : Pairs s k) (h : k = s.size / 2) (he : e = .returned (.tuple #[.string (strOfNums (unL s k)), .bool true])) : UnAns s e := by
  subst h
  exact ⟨fun _ => he, fun hn => absurd hk hn⟩

theorem hexValue_yes (x : Int) (w : World) (h : 0 ≤ hv x) (h0 : 0 ≤ x) (h1 : x ≤ 255) :
    Calls Tryd.prog 31 #[.int .u8 x] w fun e w' => e = .returned (.tuple #[.int .u8 (hv x), .bool true]) ∧ w' = w := by
  by_cases ha : 48 ≤ x ∧ x ≤ 57
  · have e : hv x = x - 48 := by rw [hv, if_pos ha]
    obtain ⟨h2, h3⟩ := ha
    rw [e]
    clear e h
    go_enter Tryd.func31, Tryd.ntmps31
    go_wp2
    go_ret2
    exact ⟨rfl, rfl⟩
  · by_cases hb : 97 ≤ x ∧ x ≤ 102
    · have e : hv x = x - 97 + 10 := by rw [hv, if_neg ha, if_pos hb]; omega
      obtain ⟨h2, h3⟩ := hb
      rw [e]
      have h4 : ¬ x ≤ 57 := by omega
      have h5 : 48 ≤ x := by omega
      clear e h ha
      go_enter Tryd.func31, Tryd.ntmps31
      go_wp2
      go_ret2
      exact ⟨rfl, rfl⟩
    · rw [hv, if_neg ha, if_neg hb] at h
      omega

theorem hexValue_no (x : Int) (w : World) (h : hv x < 0) (h0 : 0 ≤ x) (h1 : x ≤ 255) :
    Calls Tryd.prog 31 #[.int .u8 x] w fun e w' => e = .returned (.tuple #[.int .u8 0, .bool false]) ∧ w' = w := by
  have ha : ¬ (48 ≤ x ∧ x ≤ 57) := by
    intro ha
    rw [hv, if_pos ha] at h
    omega
  have hb : ¬ (97 ≤ x ∧ x ≤ 102) := by
    intro hb
    rw [hv, if_neg ha, if_pos hb] at h
    omega
  clear h
  go_enter Tryd.func31, Tryd.ntmps31
  go_wp2
  all_goals
    first
    | (exfalso; omega)
    | (go_ret2
       exact ⟨rfl, rfl⟩)

set_option maxHeartbeats 1600000 in
set_option maxRecDepth 20000 in
theorem iUn_any (s : ByteArray) (w : World) (h : s.size ≤ 40000) (h2 : s.size % 2 = 0) :
    Calls Tryd.prog 16 #[.string s] w fun e w' => UnAns s e ∧ Below w.heap.size w w' := by
  obtain ⟨i0, hi, hz0, hz1, hz2⟩ := info_parts infoU8
  have hby := by8_at s
  have he2 : (s.size : Int) % 2 = 0 := by omega
  have hdv : ((s.size / 2 : Nat) : Int) = (s.size : Int) / 2 := by omega
  go_enter Tryd.func16, Tryd.ntmps16
  go_wp2
  go_step3
  go_wp2_with (at_make; refine wpList_make_own _ rfl _ _ 22 rfl w.heap.size 5 i0 (.int .u8 0) 1 Tryd.underlying22 hi hz0 hz1 _ _ _ (s.size / 2) rfl rfl (by omega) (by rw [hz2]; omega) (by unfold maxLen; omega) (Nat.le_refl _) ?_)
  intro w1 hown1 hgrow1
  clear hdv
  go_wp2
  go_step3
  go_wp2
  go_loopw [4, 5] (fun v i wr => ∃ (k q : Nat), q ≤ s.size ∧ i = .int .i64 q ∧ Hid (q = 2 * k ∧ Pairs s k) ∧ k ≤ 20000 ∧ wr.ownsRow w.heap.size 5 1 v k ((unL s k).map (Value.int .u8)) ∧ Below w.heap.size w wr)
    (fun _ i _ => s.size - (intOf i).toNat)
  case atStart => exact ⟨0, 0, Nat.zero_le _, rfl, ⟨rfl, fun j hj => by omega⟩, by omega, hown1, (Below.refl _ w).grown hgrow1 (Nat.le_refl _) (fun _ h => by cases h)⟩
  case round =>
    obtain ⟨k, q, hq, rfl, HQ, hk, hown, hb⟩ := hrel
    obtain ⟨ao, cv, rfl⟩ := owns_slice hown
    have hsz := hb.size
    by_cases hlt : q < s.size
    · have hq1 : q + 1 < s.size := by have := HQ.out.1; omega
      have hr1 := by8_range s q
      have hr2 := by8_range s (q + 1)
      have hv1 := hv_range (by8 s q)
      have hv2 := hv_range (by8 s (q + 1))
      have hhalf : (k : Int) < (s.size : Int) / 2 := by have := HQ.out.1; omega
      go_wp2
      go_loop [6, 7] (fun val j => ∃ (r : Nat) (x : Int), r ≤ q + 2 ∧ j = .int .i64 r ∧ val = .int .u8 x ∧ Hid ((r = q ∧ x = 0) ∨ (r = q + 1 ∧ x = hv (by8 s q) ∧ 0 ≤ hv (by8 s q)) ∨ (r = q + 2 ∧ x = 16 * hv (by8 s q) + hv (by8 s (q + 1)) ∧ 0 ≤ hv (by8 s q) ∧ 0 ≤ hv (by8 s (q + 1)))))
        (fun _ j => q + 2 - (intOf j).toNat)
      case atStart => exact ⟨q, 0, by omega, rfl, rfl, Or.inl ⟨rfl, rfl⟩⟩
      case round =>
        obtain ⟨r, x, hrq, rfl, rfl, HX⟩ := hrel
        rcases HX.out with ⟨rfl, rfl⟩ | ⟨rfl, rfl, hx1⟩ | ⟨rfl, rfl, hx1, hx2⟩
        · by_cases hx1 : 0 ≤ hv (by8 s r)
          · go_wp2_with fail
            refine (hexValue_yes _ _ hx1 (by omega) (by omega)).mono ?_
            rintro e w2 ⟨rfl, rfl⟩
            go_wp2
            go_round
            case rel => exact ⟨r + 1, hv (by8 s r), by omega, by go_num, by go_num, Or.inr (Or.inl ⟨rfl, rfl, hx1⟩)⟩
            case measure => simp [intOf]
          · go_wp2_with fail
            refine (hexValue_no _ _ (by omega) (by omega) (by omega)).mono ?_
            rintro e w2 ⟨rfl, rfl⟩
            go_wp2
            try rw [Exit.noGoto_ret]
            go_ret2
            exact ⟨unAns_no (k := k) (by have := HQ.out.1; omega) (by rw [← HQ.out.1]; omega) rfl, hb⟩
        · by_cases hx2 : 0 ≤ hv (by8 s (q + 1))
          · go_wp2_with fail
            refine (hexValue_yes _ _ hx2 (by omega) (by omega)).mono ?_
            rintro e w2 ⟨rfl, rfl⟩
            go_wp2
            go_round
            case rel => exact ⟨q + 2, 16 * hv (by8 s q) + hv (by8 s (q + 1)), by omega, by go_num, by go_num, Or.inr (Or.inr ⟨rfl, rfl, hx1, hx2⟩)⟩
            case measure => simp [intOf]; omega
          · go_wp2_with fail
            refine (hexValue_no _ _ (by omega) (by omega) (by omega)).mono ?_
            rintro e w2 ⟨rfl, rfl⟩
            go_wp2
            try rw [Exit.noGoto_ret]
            go_ret2
            exact ⟨unAns_no (k := k) (by have := HQ.out.1; omega) (by rw [← HQ.out.1]; omega) rfl, hb⟩
        · go_wp2_with (at_builtin; refine wpList_append_own _ rfl _ _ 22 rfl w.heap.size 5 i0 (.int .u8 0) 1 1 Tryd.underlying22 hi hz0 hz1 hz2 rfl (by decide) _ _ _ rfl (hown.alloc _) ⟨wr.heap.size, 0, none⟩ 1 1 [.int .u8 (16 * hv (by8 s q) + hv (by8 s (q + 1)))] rfl rfl (cell_one_new _ _ _) (fun x hx => by simp at hx; subst hx; rfl) (by unfold maxLen; omega) (by omega) (by simp; omega) ?_; intro v' w3 hown' hgrow3 hnil3)
          go_roundw
          case rel =>
            have e := HQ.out.1
            refine ⟨k + 1, q + 2, by omega, by go_num, ⟨by omega, pairs_succ HQ.out.2 (by rw [← e]; exact hx1) (by rw [← e]; exact hx2)⟩, by omega, ?_, (hb.alloc (by omega) _).grown hgrow3 (by simp; omega) (fun q hq => (hown.lt q hq).1)⟩
            simpa [unL, ← e] using hown'
          case measure => simp [intOf]; omega
    · have hke : k = s.size / 2 := by have := HQ.out.1; omega
      have hhalf : ¬ (k : Int) < (s.size : Int) / 2 := by omega
      have hcv := conv_owned (P := Tryd.prog) 22 9 5 w.heap.size _ _ _ Tryd.underlying22 Tryd.underlying5 Tryd.underlying9 hown
      have HK := hidOf hke
      clear hke
      go_wp2
      try rw [Exit.noGoto_ret]
      go_ret2
      exact ⟨unAns_yes HQ.out.2 HK.out rfl, hb⟩

theorem iUn_no (s : ByteArray) (w : World) (h : 40000 < s.size ∨ s.size % 2 = 1) :
    Calls Tryd.prog 16 #[.string s] w fun e w' => e = .returned (.tuple #[.string ⟨#[]⟩, .bool false]) ∧ w' = w := by
  by_cases h1 : s.size % 2 = 1
  · have he : (((s.size : Int) % 2) != 0) = true := by rw [bne_iff_ne]; omega
    clear h
    go_enter Tryd.func16, Tryd.ntmps16
    go_wp2
    go_step3
    go_wp2
    try rw [Exit.noGoto_ret]
    go_ret2
    exact ⟨rfl, rfl⟩
  · have h2 : 40000 < s.size := by omega
    have he : (((s.size : Int) % 2) != 0) = false := by simp; omega
    clear h
    go_enter Tryd.func16, Tryd.ntmps16
    go_wp2
    go_step3
    go_wp2
    try rw [Exit.noGoto_ret]
    go_ret2
    exact ⟨rfl, rfl⟩
end Go.Proofs.YtcaimnffnlpdcaaDoor
