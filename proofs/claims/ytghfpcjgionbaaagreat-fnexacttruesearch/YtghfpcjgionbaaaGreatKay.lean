/- What spec.CostOf answers. -/
import Derived.Test.YtghfpcjgionbaaaGreatKat
import Derived.Test.YtghfpcjgionbaaaGreatKax
import Derived.Test.YtghfpcjgionbaaaGreatOkS2
namespace Go.Proofs.YtghfpcjgionbaaaGreat
open Go.RowKit

set_option maxHeartbeats 8000000 in
set_option maxRecDepth 20000 in
theorem sCost_yes (p : Pc) (l : Pl) (a : Option Addr) (c : Nat) (vs : List Int) (wd : Int) (w : World) (hF : PcFew p) (hm0 : vs.length ≤ 1048576) (hp : PcIn w p l) (hv : KidsAt w a vs) (h1 : Right p) (h2 : ValOk p vs) :
    Calls Tryz.prog 55 #[pcV p l, .slice a vs.length c, .int .i64 wd] w fun e w' => CoAns (costOver p vs wd) (costSum p vs) w e w' := by
  show Calls _ _ #[.agg #[.int .i64 p.indent, .slice l.a1 p.rules.length l.c1, .slice l.a2 p.chunks.length l.c2, .slice l.a3 p.spans.length l.c3, .slice l.a4 p.ties.length l.c4], _, _] _ _
  obtain ⟨ov, hov⟩ : ∃ ov, ov = costOver p vs wd := ⟨_, rfl⟩
  obtain ⟨sm, hsm⟩ : ∃ sm, sm = costSum p vs := ⟨_, rfl⟩
  have qR := fun W hP hK => sCostR_any p l a c vs wd W hF hm0 hP hK h1 h2
  rw [← hov, ← hsm] at qR
  rw [← hov, ← hsm]
  clear hov hsm
  obtain ⟨W0, hW0, X0, B0, S0⟩ := boxed w p l 37
  have hX : w.heap.size < W0.heap.size := by omega
  have I0 := hp.below B0 (Nat.le_refl _)
  have V0 := hv.below B0 (Nat.le_refl _)
  go_enter Tryz.func55, Tryz.ntmps55
  go_wp2_with fail
  rw [← hW0]
  obtain ⟨W1, hW1⟩ : ∃ W1, W1 = W0.alloc (.cells #[.int .i64 0, .int .i64 0] 58) := ⟨_, rfl⟩
  rw [← hW1]
  have B1 : Below W0.heap.size W0 W1 := by rw [hW1]; exact (Below.refl _ _).alloc (Nat.le_refl _) _
  have F1 : W1.heap[w.heap.size + 1]? = some (.cells #[.int .i64 0, .int .i64 0] 58 (0, 0)) := by rw [hW1, ← S0]; exact heap_alloc_new W0 _
  have z1 : w.heap.size + 1 < W1.heap.size := by rw [hW1]; simp; omega
  clear hW0 hW1 hp hv S0
  refine (sOk_any p l _ hF (I0.below B1 (Nat.le_refl _))).mono ?_
  rintro e w1 hq
  obtain ⟨rfl, A1⟩ := hq.yes h1
  clear hq
  have C1 := B1.trans (A1.mono B1.size)
  obtain ⟨-, c0, c1, c2, c3, c4⟩ := X0.below C1 hX
  go_wp2_with fail
  refine (sVal_any p l a c vs _ hF.rules hm0 (noLeast_right h1.rules) (I0.rules.below C1 (Nat.le_refl _)) (V0.below C1 (Nat.le_refl _))).mono ?_
  rintro e w2 hq
  obtain ⟨rfl, hb2⟩ := hq.yes h2
  have A2 := A1.trans (hb2.mono A1.size)
  have C2 := B1.trans (A2.mono B1.size)
  clear hq hb2 A1 C1 c0 c1 c2 c3 c4
  obtain ⟨-, c0, c1, c2, c3, c4⟩ := X0.below C2 hX
  go_wp2_with fail
  refine (qR _ (I0.below C2 (Nat.le_refl _)) (V0.below C2 (Nat.le_refl _))).mono ?_
  rintro e w3 ⟨rfl, hb3⟩
  have A3 := A2.trans (hb3.mono A2.size)
  have F3 := (A3.block (w.heap.size + 1) z1).trans F1
  have y0 : w3.cell? ⟨w.heap.size + 1, 0, none⟩ = some (.int .i64 0) := by rw [Lib.cell_of_heap F3]; rfl
  have y1 : w3.cell? ⟨w.heap.size + 1, 1, none⟩ = some (.int .i64 0) := by rw [Lib.cell_of_heap F3]; rfl
  have f0 := Lib.frozen_of_heap F3 0
  have f1 := Lib.frozen_of_heap F3 1
  have BW : Below w.heap.size w w3 := B0.trans ((B1.trans (A3.mono B1.size)).mono B0.size)
  clear c0 c1 c2 c3 c4 qR A2 A3 hb3 C2 F1
  go_wp2
  refine bodyPost_ret (results_one2 rfl _ _ (w.heap.size + 1) (.int .i64 ov) (.int .i64 sm) _ rfl ?_ ?_ Tryz.underlying58 rfl infoCoI) rfl ?_
  · go_simp
  · go_simp
  · have q1 : w.heap.size ≤ w.heap.size + 1 := by omega
    exact ⟨rfl, (BW.setCell q1 _).setCell q1 _⟩

set_option maxHeartbeats 8000000 in
set_option maxRecDepth 20000 in
theorem sCost_no (p : Pc) (l : Pl) (a : Option Addr) (c : Nat) (vs : List Int) (wd : Int) (w : World) (hF : PcFew p) (hm0 : vs.length ≤ 1048576) (hp : PcIn w p l) (hv : KidsAt w a vs) (hno : ¬ (Right p ∧ ValOk p vs)) :
    Calls Tryz.prog 55 #[pcV p l, .slice a vs.length c, .int .i64 wd] w fun e w' => CoAns 1000000 0 w e w' := by
  show Calls _ _ #[.agg #[.int .i64 p.indent, .slice l.a1 p.rules.length l.c1, .slice l.a2 p.chunks.length l.c2, .slice l.a3 p.spans.length l.c3, .slice l.a4 p.ties.length l.c4], _, _] _ _
  obtain ⟨W0, hW0, X0, B0, S0⟩ := boxed w p l 37
  have hX : w.heap.size < W0.heap.size := by omega
  have I0 := hp.below B0 (Nat.le_refl _)
  have V0 := hv.below B0 (Nat.le_refl _)
  go_enter Tryz.func55, Tryz.ntmps55
  go_wp2_with fail
  rw [← hW0]
  obtain ⟨W1, hW1⟩ : ∃ W1, W1 = W0.alloc (.cells #[.int .i64 0, .int .i64 0] 58) := ⟨_, rfl⟩
  rw [← hW1]
  have B1 : Below W0.heap.size W0 W1 := by rw [hW1]; exact (Below.refl _ _).alloc (Nat.le_refl _) _
  have F1 : W1.heap[w.heap.size + 1]? = some (.cells #[.int .i64 0, .int .i64 0] 58 (0, 0)) := by rw [hW1, ← S0]; exact heap_alloc_new W0 _
  have z1 : w.heap.size + 1 < W1.heap.size := by rw [hW1]; simp; omega
  clear hW0 hW1 hp hv S0
  have q1 : w.heap.size ≤ w.heap.size + 1 := by omega
  refine (sOk_any p l _ hF (I0.below B1 (Nat.le_refl _))).mono ?_
  rintro e w1 hq
  by_cases h1 : Right p
  · obtain ⟨rfl, A1⟩ := hq.yes h1
    clear hq
    have C1 := B1.trans (A1.mono B1.size)
    obtain ⟨-, c0, c1, c2, c3, c4⟩ := X0.below C1 hX
    go_wp2_with fail
    refine (sVal_any p l a c vs _ hF.rules hm0 (noLeast_right h1.rules) (I0.rules.below C1 (Nat.le_refl _)) (V0.below C1 (Nat.le_refl _))).mono ?_
    rintro e w3 hq
    obtain ⟨rfl, hb2⟩ := hq.no (fun h => hno ⟨h1, h⟩)
    have A3 := A1.trans (hb2.mono A1.size)
    have F3 := (A3.block (w.heap.size + 1) z1).trans F1
    have y0 : w3.cell? ⟨w.heap.size + 1, 0, none⟩ = some (.int .i64 0) := by rw [Lib.cell_of_heap F3]; rfl
    have y1 : w3.cell? ⟨w.heap.size + 1, 1, none⟩ = some (.int .i64 0) := by rw [Lib.cell_of_heap F3]; rfl
    have f0 := Lib.frozen_of_heap F3 0
    have f1 := Lib.frozen_of_heap F3 1
    have BW : Below w.heap.size w w3 := B0.trans ((B1.trans (A3.mono B1.size)).mono B0.size)
    clear c0 c1 c2 c3 c4 A1 A3 C1 F1 hq hb2
    go_wp2
    refine bodyPost_ret (results_one2 rfl _ _ (w.heap.size + 1) (.int .i64 1000000) (.int .i64 0) _ rfl ?_ ?_ Tryz.underlying58 rfl infoCoI) rfl ?_
    · go_simp
    · go_simp
    · exact ⟨rfl, (BW.setCell q1 _).setCell q1 _⟩
  · obtain ⟨rfl, A3⟩ := hq.no h1
    obtain ⟨w3, hw3⟩ : ∃ w3, w3 = w1 := ⟨_, rfl⟩
    subst hw3
    have F3 := (A3.block (w.heap.size + 1) z1).trans F1
    have y0 : w3.cell? ⟨w.heap.size + 1, 0, none⟩ = some (.int .i64 0) := by rw [Lib.cell_of_heap F3]; rfl
    have y1 : w3.cell? ⟨w.heap.size + 1, 1, none⟩ = some (.int .i64 0) := by rw [Lib.cell_of_heap F3]; rfl
    have f0 := Lib.frozen_of_heap F3 0
    have f1 := Lib.frozen_of_heap F3 1
    have BW : Below w.heap.size w w3 := B0.trans ((B1.trans (A3.mono B1.size)).mono B0.size)
    clear A3 F1 hq
    go_wp2
    refine bodyPost_ret (results_one2 rfl _ _ (w.heap.size + 1) (.int .i64 1000000) (.int .i64 0) _ rfl ?_ ?_ Tryz.underlying58 rfl infoCoI) rfl ?_
    · go_simp
    · go_simp
    · exact ⟨rfl, (BW.setCell q1 _).setCell q1 _⟩
end Go.Proofs.YtghfpcjgionbaaaGreat
/- What spec.TiesHold answers, where no rule has the least number that there is. -/
namespace Go.Proofs.YtghfpcjgionbaaaGreat
open Go.RowKit

theorem st_out {vs : List Int} {r : Int} (h : ¬ (0 ≤ r ∧ r ≤ (vs.length : Int) - 1)) : st vs r = 0 := by
  unfold st
  rw [if_neg (by omega)]

set_option maxHeartbeats 8000000 in
theorem sTie_any (p : Pc) (l : Pl) (a : Option Addr) (c : Nat) (vs : List Int) (w : World) (hF : PcFew p) (hm0 : vs.length ≤ 1048576) (hR : NoLeast p.rules) (hp : PcIn w p l) (hv : KidsAt w a vs) :
    Calls Tryz.prog 56 #[pcV p l, .slice a vs.length c] w fun e w' => Tells (TiesHold p vs) w e w' := by
  show Calls _ _ #[.agg #[.int .i64 p.indent, .slice l.a1 p.rules.length l.c1, .slice l.a2 p.chunks.length l.c2, .slice l.a3 p.spans.length l.c3, .slice l.a4 p.ties.length l.c4], _] _ _
  go_enter Tryz.func56, Tryz.ntmps56
  go_wp2_with fail
  obtain ⟨W0, hW0, X0, B0, S0⟩ := boxed w p l 37
  rw [← hW0]
  have I0 := hp.below B0 (Nat.le_refl _)
  have V0 := hv.below B0 (Nat.le_refl _)
  have hX : w.heap.size < W0.heap.size := by omega
  clear hW0 S0 hp hv
  have c4 := X0.c4
  obtain ⟨-, c0, c1, c2, c3, -⟩ := X0
  refine (sVal_any p l a c vs _ hF.rules hm0 hR I0.rules V0).mono ?_
  rintro e w1 hq
  by_cases h2 : ValOk p vs
  · obtain ⟨rfl, A1⟩ := hq.yes h2
    clear hq
    have T1 := I0.ties
    have V1 := V0
    have hft := hF.ties
    have HV2 := hidOf h2
    obtain ⟨n, hn⟩ : ∃ n, n = p.ties.length := ⟨_, rfl⟩
    have HN := hidOf hn
    unfold RowsAt at T1
    unfold KidsAt at V1
    rw [← hn] at T1 c4 hft ⊢
    obtain ⟨m, hm⟩ : ∃ m, m = vs.length := ⟨_, rfl⟩
    have HM := hidOf hm
    rw [← hm] at V1 hm0 ⊢
    clear hn h2 I0 V0 hm c0 c1 c2 c3
    go_wp2
    go_loopw [5] (fun i wr => ∃ k : Nat, k ≤ n ∧ i = .int .i64 k ∧ Hid (∀ (j : Nat) (x : Ti), j < k → p.ties[j]? = some x → TieOk vs x) ∧ Below W0.heap.size W0 wr) (fun i _ => n - (intOf i).toNat)
    case atStart => exact ⟨0, Nat.zero_le _, rfl, hidOf fun j x h => by omega, A1⟩
    case round =>
      obtain ⟨k, hk, rfl, HA, hb⟩ := hrel
      have BW := B0.trans (hb.mono B0.size)
      have d4 := (hb.cell (p := ⟨w.heap.size, 4, none⟩) hX).trans c4
      by_cases hlt : k < n
      · obtain ⟨x, ex⟩ : ∃ x, p.ties[k]? = some x := ⟨_, List.getElem?_eq_getElem (by rw [← HN.out]; exact hlt)⟩
        obtain ⟨b1, o1, ea, hb1, hc1⟩ := T1 (by omega)
        obtain ⟨p0, p1⟩ := tiC (w := wr) (fun j hj => by rw [hb.cell hb1]; exact hc1 k x ex j hj)
        rw [ea] at d4 ⊢
        have EX := hidOf ex
        have HB : ∀ o1 : Obj, Below W0.heap.size W0 (wr.alloc o1) := fun o1 => hb.alloc hb.size _
        have HBW : ∀ o1 : Obj, Below w.heap.size w (wr.alloc o1) := fun o1 => BW.alloc BW.size _
        clear ex hc1 T1 ea
        have hA : (0 : Int) ≤ (k : Int) := by omega
        have hB : (k : Int) < (n : Int) := by omega
        have no : ∀ (s t : Nat), st vs x.kid = s → st vs x.up = t → holdB s t = false → ¬ TiesHold p vs := fun s t e1 e2 e3 h => by
          have := h.ties k x EX.out
          unfold TieOk at this
          rw [e1, e2, e3] at this
          cases this
        have NO := hidOf no
        clear no
        have q0 := fun W => sIn_any x.kid 0 ((m : Int) - 1) W
        have q1 := fun W => sIn_any x.up 0 ((m : Int) - 1) W
        by_cases h0 : 0 ≤ x.kid ∧ x.kid ≤ (m : Int) - 1
        · rw [inB_yes h0.1 h0.2] at q0
          obtain ⟨r, er⟩ := Int.eq_ofNat_of_zero_le h0.1
          by_cases h1 : 0 ≤ x.up ∧ x.up ≤ (m : Int) - 1
          · rw [inB_yes h1.1 h1.2] at q1
            obtain ⟨u, eu⟩ := Int.eq_ofNat_of_zero_le h1.1
            obtain ⟨z, ez⟩ : ∃ z, vs[r]? = some z := ⟨_, List.getElem?_eq_getElem (by rw [← HM.out]; omega)⟩
            obtain ⟨y, ey⟩ : ∃ y, vs[u]? = some y := ⟨_, List.getElem?_eq_getElem (by rw [← HM.out]; omega)⟩
            obtain ⟨b2, o2, eb, hb2, hc2⟩ := V1 (by omega)
            have zc := fun ob : Obj => (((HB ob).cell (p := ⟨b2, o2 + r, none⟩) hb2).trans (hc2 r z ez))
            have yc := fun ob : Obj => (((HB ob).cell (p := ⟨b2, o2 + u, none⟩) hb2).trans (hc2 u y ey))
            have hyl : 0 ≤ y := by
              have hu := (List.getElem?_eq_some_iff.1 ey).1
              rw [HV2.out.len] at hu
              exact (HV2.out.all u y _ ey (List.getElem?_eq_getElem hu)).1
            have s1 := hidOf (show st vs x.kid = if 0 < z then 2 else 1 by rw [er]; exact st_in ez)
            have s2 := hidOf (show st vs x.up = if 0 < y then 2 else 1 by rw [eu]; exact st_in ey)
            have hA2 : (0 : Int) ≤ (r : Int) := by omega
            have hB2 : (r : Int) < (m : Int) := by omega
            have hA3 : (0 : Int) ≤ (u : Int) := by omega
            have hB3 : (u : Int) < (m : Int) := by omega
            rw [er] at p0 q0
            rw [eu] at p1 q1
            rw [eb]
            clear er eu ez ey hc2 V1 eb h0 h1
            by_cases hz : 0 < z
            · by_cases hy : y = 0
              · rw [hy] at yc
                have e1 := s1.out
                have e2 := s2.out
                rw [if_pos hz] at e1
                rw [if_neg (by omega)] at e2
                have HNO := hidOf (NO.out _ _ e1 e2 rfl)
                clear e1 e2 s1 s2 hy hyl
                go_wp2_with (first | (go_at_call_of 61 (r); refine (q0 _).mono ?_; rintro e w9 ⟨rfl, rfl⟩) | (go_at_call_of 61 (u); refine (q1 _).mono ?_; rintro e w9 ⟨rfl, rfl⟩))
                go_ret
                exact tells_no HNO.out (HBW _)
              · have e1 := s1.out
                have e2 := s2.out
                rw [if_pos hz] at e1
                rw [if_pos (by omega)] at e2
                have HOK := hidOf (show TieOk vs x by unfold TieOk; rw [e1, e2]; rfl)
                have hy2 : (y == 0) = false := by simpa using hy
                clear e1 e2 s1 s2 hyl
                go_wp2_with (first | (go_at_call_of 61 (r); refine (q0 _).mono ?_; rintro e w9 ⟨rfl, rfl⟩) | (go_at_call_of 61 (u); refine (q1 _).mono ?_; rintro e w9 ⟨rfl, rfl⟩))
                go_roundw
                case rel => exact ⟨k + 1, by omega, by go_num, hidOf (upto_step HA.out EX.out HOK.out), HB _⟩
                case measure => simp [intOf]; omega
            · have e1 := s1.out
              rw [if_neg hz] at e1
              have HOK := hidOf (show TieOk vs x by unfold TieOk; rw [e1, s2.out]; split <;> rfl)
              clear e1 s1 s2 hyl
              go_wp2_with (first | (go_at_call_of 61 (r); refine (q0 _).mono ?_; rintro e w9 ⟨rfl, rfl⟩) | (go_at_call_of 61 (u); refine (q1 _).mono ?_; rintro e w9 ⟨rfl, rfl⟩))
              go_roundw
              case rel => exact ⟨k + 1, by omega, by go_num, hidOf (upto_step HA.out EX.out HOK.out), HB _⟩
              case measure => simp [intOf]; omega
          · rw [inB_no h1] at q1
            have e2 : st vs x.up = 0 := st_out (by rw [← HM.out]; exact h1)
            have HNO := hidOf (NO.out _ _ rfl e2 (by rcases st_cases vs x.kid with h | h | h <;> rw [h] <;> rfl))
            rw [er] at p0 q0
            clear er h0 h1 e2
            go_wp2_with (first | (go_at_call_of 61 (r); refine (q0 _).mono ?_; rintro e w9 ⟨rfl, rfl⟩) | (go_at_call_of 61 (x.up); refine (q1 _).mono ?_; rintro e w9 ⟨rfl, rfl⟩))
            go_ret
            exact tells_no HNO.out (HBW _)
        · rw [inB_no h0] at q0
          have e1 : st vs x.kid = 0 := st_out (by rw [← HM.out]; exact h0)
          have HNO := hidOf (NO.out _ _ e1 rfl (by rcases st_cases vs x.up with h | h | h <;> rw [h] <;> rfl))
          clear h0 e1
          go_wp2_with (go_at_call_of 61 (x.kid); refine (q0 _).mono ?_; rintro e w9 ⟨rfl, rfl⟩)
          go_ret
          exact tells_no HNO.out (HBW _)
      · go_wp2
        go_ret
        exact tells_yes ⟨HV2.out, upto_all (by have := HN.out; omega) HA.out⟩ BW
  · obtain ⟨rfl, A1⟩ := hq.no h2
    go_wp2
    go_ret
    exact tells_no (fun h => h2 h.vals) (B0.trans (A1.mono B0.size))
end Go.Proofs.YtghfpcjgionbaaaGreat
