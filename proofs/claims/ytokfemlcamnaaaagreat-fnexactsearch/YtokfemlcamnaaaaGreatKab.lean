/- What impl.Compare answers. -/
import Derived.Test.YtokfemlcamnaaaaGreatCmpS
import Derived.Test.YtokfemlcamnaaaaGreatStLib
namespace Go.Proofs.YtokfemlcamnaaaaGreat
open Go.RowKit

set_option maxHeartbeats 1600000 in
theorem cmpI_any (x y : Int) (w : World) : Calls Tryz.prog 99 #[.int .i64 x, .int .i64 y] w fun e w' => e = .returned (.int .i64 (cmp1 x y)) ∧ w' = w := by
  have hx : (x != x) = false := by simp
  have hy : (y != y) = false := by simp
  unfold cmp1
  by_cases h1 : x < y
  · rw [if_pos h1]
    go_enter Tryz.func99, Tryz.ntmps99
    go_wp2
    go_ret
    exact ⟨rfl, rfl⟩
  · by_cases h2 : y < x
    · rw [if_neg h1, if_pos h2]
      have h3 : x > y := h2
      go_enter Tryz.func99, Tryz.ntmps99
      go_wp2
      go_ret
      exact ⟨rfl, rfl⟩
    · rw [if_neg h1, if_neg h2]
      have h3 : ¬ x > y := h2
      go_enter Tryz.func99, Tryz.ntmps99
      go_wp2
      go_ret
      exact ⟨rfl, rfl⟩

set_option maxHeartbeats 4000000 in
theorem slCmp_any (a1 a2 : Option Addr) (c1 c2 : Nat) (us bs : List Int) (w : World) (hm0 : us.length ≤ 1048576) (hn0 : bs.length ≤ 1048576) (h1 : KidsAt w a1 us) (h2 : KidsAt w a2 bs) :
    Calls Tryz.prog 88 #[.slice a1 us.length c1, .slice a2 bs.length c2] w fun e w' => e = .returned (.int .i64 (cmpL us bs)) ∧ w' = w := by
  unfold KidsAt at h1 h2
  obtain ⟨n, hn⟩ : ∃ n, n = us.length := ⟨_, rfl⟩
  obtain ⟨m, hm⟩ : ∃ m, m = bs.length := ⟨_, rfl⟩
  rw [← hn] at h1 hm0 ⊢
  rw [← hm] at h2 hn0 ⊢
  have HN := hidOf hn
  have HM := hidOf hm
  clear hn hm
  go_enter Tryz.func88, Tryz.ntmps88
  go_wp2
  go_loop [11] (fun i => ∃ k : Nat, k ≤ n ∧ k ≤ m ∧ i = .int .i64 k ∧ Hid (cmpL (us.drop k) (bs.drop k) = cmpL us bs)) (fun i => n - (intOf i).toNat)
  case atStart => exact ⟨0, Nat.zero_le _, Nat.zero_le _, rfl, hidOf rfl⟩
  case round =>
    obtain ⟨k, hk, hk2, rfl, HC⟩ := hrel
    have hA : (0 : Int) ≤ (k : Int) := by omega
    by_cases hlt : k < n
    · have hB : (k : Int) < (n : Int) := by omega
      obtain ⟨x, ex⟩ : ∃ x, us[k]? = some x := ⟨_, List.getElem?_eq_getElem (by rw [← HN.out]; exact hlt)⟩
      obtain ⟨b1, o1, rfl, hb1, hc1⟩ := h1 (by omega)
      have p1 := hc1 k x ex
      by_cases hlt2 : k < m
      · have hB2 : (k : Int) < (m : Int) := by omega
        obtain ⟨y, ey⟩ : ∃ y, bs[k]? = some y := ⟨_, List.getElem?_eq_getElem (by rw [← HM.out]; exact hlt2)⟩
        obtain ⟨b2, o2, rfl, hb2, hc2⟩ := h2 (by omega)
        have p2 := hc2 k y ey
        have EX := hidOf ex
        have EY := hidOf ey
        clear ex ey hc1 hc2 h1 h2
        have hq := fun W => cmpI_any x y W
        by_cases g1 : x < y
        · rw [show cmp1 x y = -1 by unfold cmp1; rw [if_pos g1]] at hq
          have G := hidOf g1
          clear g1
          go_wp2_with (go_at_call 99; refine (hq _).mono ?_; rintro e w ⟨rfl, rfl⟩)
          go_ret
          exact ⟨ret_int (by rw [← HC.out, cmp_lt EX.out EY.out G.out]), rfl⟩
        · by_cases g2 : y < x
          · rw [show cmp1 x y = 1 by unfold cmp1; rw [if_neg g1, if_pos g2]] at hq
            have G := hidOf g2
            clear g1 g2
            go_wp2_with (go_at_call 99; refine (hq _).mono ?_; rintro e w ⟨rfl, rfl⟩)
            go_ret
            exact ⟨ret_int (by rw [← HC.out, cmp_gt EX.out EY.out G.out]), rfl⟩
          · rw [show cmp1 x y = 0 by unfold cmp1; rw [if_neg g1, if_neg g2]] at hq
            have G1 := hidOf g1
            have G2 := hidOf g2
            clear g1 g2
            go_wp2_with (go_at_call 99; refine (hq _).mono ?_; rintro e w ⟨rfl, rfl⟩)
            go_round
            case rel => exact ⟨k + 1, by omega, by omega, by go_num, hidOf (by rw [← HC.out, cmp_eq EX.out EY.out (by have := G1.out; omega) (by have := G2.out; omega)])⟩
            case measure => simp [intOf]; omega
      · have hB2 : (k : Int) ≥ (m : Int) := by omega
        clear ex hc1 h1 h2
        go_wp2
        go_ret
        exact ⟨ret_int (by rw [← HC.out, cmp_long (by rw [← HN.out]; exact hlt) (by rw [← HM.out]; omega)]), rfl⟩
    · clear h1 h2
      by_cases hlt2 : n < m
      · go_wp2
        go_ret
        exact ⟨ret_int (by rw [← HC.out, cmp_short (by rw [← HN.out]; omega) (by rw [← HM.out]; omega)]), rfl⟩
      · go_wp2
        go_ret
        exact ⟨ret_int (by rw [← HC.out, cmp_end (by rw [← HN.out]; omega) (by rw [← HM.out]; omega)]), rfl⟩

set_option maxHeartbeats 1600000 in
theorem iCmp_any (a1 a2 : Option Addr) (c1 c2 : Nat) (us bs : List Int) (w : World) (hm0 : us.length ≤ 1048576) (hn0 : bs.length ≤ 1048576) (h1 : KidsAt w a1 us) (h2 : KidsAt w a2 bs) :
    Calls Tryz.prog 77 #[.slice a1 us.length c1, .slice a2 bs.length c2] w fun e w' => e = .returned (.int .i64 (cmpL us bs)) ∧ w' = w := by
  go_enter Tryz.func77, Tryz.ntmps77
  go_wp2_with fail
  refine (slCmp_any a1 a2 c1 c2 us bs _ hm0 hn0 h1 h2).mono ?_
  rintro e w ⟨rfl, rfl⟩
  go_wp2
  go_ret
  exact ⟨rfl, rfl⟩

end Go.Proofs.YtokfemlcamnaaaaGreat
/- What StateLess answers, on both sides. -/
namespace Go.Proofs.YtokfemlcamnaaaaGreat
open Go.RowKit

set_option maxHeartbeats 1600000 in
theorem iSL_any (p q : Sp) (w : World) (hp : p.st.vals.length ≤ 1048576) (hq : q.st.vals.length ≤ 1048576) (k1 : KidsAt w p.a p.st.vals) (k2 : KidsAt w q.a q.st.vals) :
    Calls Tryz.prog 60 #[.agg #[.slice p.a p.st.vals.length p.c, .int .i64 p.st.sum], .agg #[.slice q.a q.st.vals.length q.c, .int .i64 q.st.sum]] w fun e w' => e = .returned (.bool (spLess p q)) ∧ Below w.heap.size w w' := by
  have HB : ∀ o1 o2 : Obj, Below w.heap.size w ((w.alloc o1).alloc o2) := fun o1 o2 => ((Below.refl _ _).alloc (Nat.le_refl _) _).alloc (by simp) _
  by_cases h1 : p.st.sum < q.st.sum
  · clear k1 k2
    go_enter Tryz.func60, Tryz.ntmps60
    go_wp2
    go_ret
    exact ⟨ret_bool (by simp [spLess, stLess, h1]), HB _ _⟩
  · by_cases h2 : p.st.sum = q.st.sum
    · have hE : (p.st.sum == q.st.sum) = true := by simpa using h2
      have hC : ∀ W : World, Below w.heap.size w W → Calls Tryz.prog 77 #[.slice p.a p.st.vals.length p.c, .slice q.a q.st.vals.length q.c] W fun e w' => e = .returned (.int .i64 (cmpL p.st.vals q.st.vals)) ∧ w' = W := fun W hW => iCmp_any p.a q.a p.c q.c p.st.vals q.st.vals W hp hq (k1.below hW (Nat.le_refl _)) (k2.below hW (Nat.le_refl _))
      have HR := hidOf (show spLess p q = decide (cmpL p.st.vals q.st.vals < 0) by simp [spLess, stLess, h2])
      have HC := hidOf hC
      have H1 := hidOf h1
      clear k1 k2 hC h2
      generalize cmpL p.st.vals q.st.vals = z at *
      by_cases h3 : z < 0
      · go_enter Tryz.func60, Tryz.ntmps60
        go_wp2_with (go_at_call 77; refine (HC.out _ (HB _ _)).mono ?_; rintro e w1 ⟨rfl, rfl⟩)
        go_ret
        exact ⟨ret_bool (by rw [HR.out]; try simpa using h3), HB _ _⟩
      · go_enter Tryz.func60, Tryz.ntmps60
        go_wp2_with (go_at_call 77; refine (HC.out _ (HB _ _)).mono ?_; rintro e w1 ⟨rfl, rfl⟩)
        go_ret
        exact ⟨ret_bool (by rw [HR.out]; try simpa using h3), HB _ _⟩
    · have hE : (p.st.sum == q.st.sum) = false := by simpa using h2
      clear k1 k2
      go_enter Tryz.func60, Tryz.ntmps60
      go_wp2
      go_ret
      exact ⟨ret_bool (by simp [spLess, stLess, h1, h2]), HB _ _⟩

set_option maxHeartbeats 1600000 in
theorem sSL_any (p q : Sp) (w : World) (hp : p.st.vals.length ≤ 1048576) (hq : q.st.vals.length ≤ 1048576) (k1 : KidsAt w p.a p.st.vals) (k2 : KidsAt w q.a q.st.vals) :
    Calls Tryz.prog 49 #[.agg #[.slice p.a p.st.vals.length p.c, .int .i64 p.st.sum], .agg #[.slice q.a q.st.vals.length q.c, .int .i64 q.st.sum]] w fun e w' => e = .returned (.bool (spLess p q)) ∧ Below w.heap.size w w' := by
  have HB : ∀ o1 o2 : Obj, Below w.heap.size w ((w.alloc o1).alloc o2) := fun o1 o2 => ((Below.refl _ _).alloc (Nat.le_refl _) _).alloc (by simp) _
  by_cases h1 : p.st.sum < q.st.sum
  · clear k1 k2
    go_enter Tryz.func49, Tryz.ntmps49
    go_wp2
    go_ret
    exact ⟨ret_bool (by simp [spLess, stLess, h1]), HB _ _⟩
  · by_cases h2 : p.st.sum = q.st.sum
    · have hE : (p.st.sum == q.st.sum) = true := by simpa using h2
      have hC : ∀ W : World, Below w.heap.size w W → Calls Tryz.prog 22 #[.slice p.a p.st.vals.length p.c, .slice q.a q.st.vals.length q.c] W fun e w' => e = .returned (.int .i64 (cmpL p.st.vals q.st.vals)) ∧ Below W.heap.size W w' := fun W hW => sCmp_any p.a q.a p.c q.c p.st.vals q.st.vals W hp hq (k1.below hW (Nat.le_refl _)) (k2.below hW (Nat.le_refl _))
      have HR := hidOf (show spLess p q = decide (cmpL p.st.vals q.st.vals < 0) by simp [spLess, stLess, h2])
      have HC := hidOf hC
      have H1 := hidOf h1
      clear k1 k2 hC h2
      generalize cmpL p.st.vals q.st.vals = z at *
      by_cases h3 : z < 0
      · go_enter Tryz.func49, Tryz.ntmps49
        go_wp2_with (go_at_call 22; refine (HC.out _ (HB _ _)).mono ?_; rintro e w1 ⟨rfl, hb1⟩)
        go_ret
        exact ⟨ret_bool (by rw [HR.out]; try simpa using h3), (HB _ _).trans (hb1.mono (HB _ _).size)⟩
      · go_enter Tryz.func49, Tryz.ntmps49
        go_wp2_with (go_at_call 22; refine (HC.out _ (HB _ _)).mono ?_; rintro e w1 ⟨rfl, hb1⟩)
        go_ret
        exact ⟨ret_bool (by rw [HR.out]; try simpa using h3), (HB _ _).trans (hb1.mono (HB _ _).size)⟩
    · have hE : (p.st.sum == q.st.sum) = false := by simpa using h2
      clear k1 k2
      go_enter Tryz.func49, Tryz.ntmps49
      go_wp2
      go_ret
      exact ⟨ret_bool (by simp [spLess, stLess, h1, h2]), HB _ _⟩
end Go.Proofs.YtokfemlcamnaaaaGreat
