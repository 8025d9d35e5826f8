/- What impl.CostOf answers. -/
import Derived.Test.YtlejdjbhbkknlaaGreatKal
import Derived.Test.YtlejdjbhbkknlaaGreatKav
import Derived.Test.YtlejdjbhbkknlaaGreatProg
import Derived.Test.YtlejdjbhbkknlaaGreatKaa
import Derived.BigQuiet
import Derived.Deep.QuietTactic
namespace Go.Proofs.YtlejdjbhbkknlaaGreat
open Go.RowKit

set_option maxHeartbeats 8000000 in
set_option maxRecDepth 20000 in
theorem iCost_yes (p : Pc) (l : Pl) (a : Option Addr) (c : Nat) (vs : List Int) (wd : Int) (w : World) (hF : PcFew p) (hm0 : vs.length ≤ 1048576) (hcap : p.chunks.length ≤ l.c2) (hp : PcIn w p l) (hv : KidsAt w a vs) (h1 : Right p) (h2 : ValOk p vs) :
    Calls Tryz.prog 88 #[pcV p l, .slice a vs.length c, .int .i64 wd] w fun e w' => CoAns (costOver p vs wd) (costSum p vs) w e w' := by
  show Calls _ _ #[.agg #[.int .i64 p.indent, .slice l.a1 p.rules.length l.c1, .slice l.a2 p.chunks.length l.c2, .slice l.a3 p.spans.length l.c3, .slice l.a4 p.ties.length l.c4], _, _] _ _
  obtain ⟨ov, hov⟩ : ∃ ov, ov = costOver p vs wd := ⟨_, rfl⟩
  obtain ⟨sm, hsm⟩ : ∃ sm, sm = costSum p vs := ⟨_, rfl⟩
  have qR := fun W hP hK => iCostR_any p l a c vs wd W hF hm0 hcap hP hK h1 h2
  rw [← hov, ← hsm] at qR
  rw [← hov, ← hsm]
  clear hov hsm
  obtain ⟨W0, hW0, X0, B0, S0⟩ := boxed w p l 35
  have hX : w.heap.size < W0.heap.size := by omega
  have I0 := hp.below B0 (Nat.le_refl _)
  have V0 := hv.below B0 (Nat.le_refl _)
  go_enter Tryz.func88, Tryz.ntmps88
  go_wp2_with fail
  rw [← hW0]
  obtain ⟨W1, hW1⟩ : ∃ W1, W1 = W0.alloc (.cells #[.int .i64 0, .int .i64 0] 47) := ⟨_, rfl⟩
  rw [← hW1]
  have B1 : Below W0.heap.size W0 W1 := by rw [hW1]; exact (Below.refl _ _).alloc (Nat.le_refl _) _
  have F1 : W1.heap[w.heap.size + 1]? = some (.cells #[.int .i64 0, .int .i64 0] 47 (0, 0)) := by rw [hW1, ← S0]; exact heap_alloc_new W0 _
  have z1 : w.heap.size + 1 < W1.heap.size := by rw [hW1]; simp; omega
  clear hW0 hW1 hp hv S0
  refine (iOk_any p l _ hF (I0.below B1 (Nat.le_refl _))).mono ?_
  rintro e w1 hq
  obtain ⟨rfl, A1⟩ := hq.yes h1
  clear hq
  have C1 := B1.trans (A1.mono B1.size)
  obtain ⟨-, c0, c1, c2, c3, c4⟩ := X0.below C1 hX
  go_wp2_with fail
  refine (iVal_any p l a c vs _ hF.rules hm0 (noLeast_right h1.rules) (I0.rules.below C1 (Nat.le_refl _)) (V0.below C1 (Nat.le_refl _))).mono ?_
  rintro e w2 hq
  obtain ⟨rfl, hb2⟩ := hq.yes h2
  have A2 := A1.trans (hb2.mono A1.size)
  have C2 := B1.trans (A2.mono B1.size)
  clear hq hb2 A1 C1 c0 c1 c2 c3 c4
  obtain ⟨-, c0, c1, c2, c3, c4⟩ := X0.below C2 hX
  go_wp2_with fail
  refine (qR _ (I0.below C2 (Nat.le_refl _)) (V0.below C2 (Nat.le_refl _))).mono ?_
  rintro e w3 ⟨rfl, hb3⟩
  have A3 := A2.trans (hb3.mono A2.size)
  have F3 := (A3.block (w.heap.size + 1) z1).trans F1
  have y0 : w3.cell? ⟨w.heap.size + 1, 0, none⟩ = some (.int .i64 0) := by rw [Lib.cell_of_heap F3]; rfl
  have y1 : w3.cell? ⟨w.heap.size + 1, 1, none⟩ = some (.int .i64 0) := by rw [Lib.cell_of_heap F3]; rfl
  have f0 := Lib.frozen_of_heap F3 0
  have f1 := Lib.frozen_of_heap F3 1
  have BW : Below w.heap.size w w3 := B0.trans ((B1.trans (A3.mono B1.size)).mono B0.size)
  clear c0 c1 c2 c3 c4 qR A2 A3 hb3 C2 F1
  go_wp2
  refine bodyPost_ret (results_one2 rfl _ _ (w.heap.size + 1) (.int .i64 ov) (.int .i64 sm) _ rfl ?_ ?_ Tryz.underlying47 rfl infoCoI) rfl ?_
  · go_simp
  · go_simp
  · have q1 : w.heap.size ≤ w.heap.size + 1 := by omega
    exact ⟨rfl, (BW.setCell q1 _).setCell q1 _⟩

set_option maxHeartbeats 8000000 in
set_option maxRecDepth 20000 in
theorem iCost_no (p : Pc) (l : Pl) (a : Option Addr) (c : Nat) (vs : List Int) (wd : Int) (w : World) (hF : PcFew p) (hm0 : vs.length ≤ 1048576) (hp : PcIn w p l) (hv : KidsAt w a vs) (hno : ¬ (Right p ∧ ValOk p vs)) :
    Calls Tryz.prog 88 #[pcV p l, .slice a vs.length c, .int .i64 wd] w fun e w' => CoAns 1000000 0 w e w' := by
  show Calls _ _ #[.agg #[.int .i64 p.indent, .slice l.a1 p.rules.length l.c1, .slice l.a2 p.chunks.length l.c2, .slice l.a3 p.spans.length l.c3, .slice l.a4 p.ties.length l.c4], _, _] _ _
  obtain ⟨W0, hW0, X0, B0, S0⟩ := boxed w p l 35
  have hX : w.heap.size < W0.heap.size := by omega
  have I0 := hp.below B0 (Nat.le_refl _)
  have V0 := hv.below B0 (Nat.le_refl _)
  go_enter Tryz.func88, Tryz.ntmps88
  go_wp2_with fail
  rw [← hW0]
  obtain ⟨W1, hW1⟩ : ∃ W1, W1 = W0.alloc (.cells #[.int .i64 0, .int .i64 0] 47) := ⟨_, rfl⟩
  rw [← hW1]
  have B1 : Below W0.heap.size W0 W1 := by rw [hW1]; exact (Below.refl _ _).alloc (Nat.le_refl _) _
  have F1 : W1.heap[w.heap.size + 1]? = some (.cells #[.int .i64 0, .int .i64 0] 47 (0, 0)) := by rw [hW1, ← S0]; exact heap_alloc_new W0 _
  have z1 : w.heap.size + 1 < W1.heap.size := by rw [hW1]; simp; omega
  clear hW0 hW1 hp hv S0
  have q1 : w.heap.size ≤ w.heap.size + 1 := by omega
  refine (iOk_any p l _ hF (I0.below B1 (Nat.le_refl _))).mono ?_
  rintro e w1 hq
  by_cases h1 : Right p
  · obtain ⟨rfl, A1⟩ := hq.yes h1
    clear hq
    have C1 := B1.trans (A1.mono B1.size)
    obtain ⟨-, c0, c1, c2, c3, c4⟩ := X0.below C1 hX
    go_wp2_with fail
    refine (iVal_any p l a c vs _ hF.rules hm0 (noLeast_right h1.rules) (I0.rules.below C1 (Nat.le_refl _)) (V0.below C1 (Nat.le_refl _))).mono ?_
    rintro e w3 hq
    obtain ⟨rfl, hb2⟩ := hq.no (fun h => hno ⟨h1, h⟩)
    have A3 := A1.trans (hb2.mono A1.size)
    have F3 := (A3.block (w.heap.size + 1) z1).trans F1
    have y0 : w3.cell? ⟨w.heap.size + 1, 0, none⟩ = some (.int .i64 0) := by rw [Lib.cell_of_heap F3]; rfl
    have y1 : w3.cell? ⟨w.heap.size + 1, 1, none⟩ = some (.int .i64 0) := by rw [Lib.cell_of_heap F3]; rfl
    have f0 := Lib.frozen_of_heap F3 0
    have f1 := Lib.frozen_of_heap F3 1
    have BW : Below w.heap.size w w3 := B0.trans ((B1.trans (A3.mono B1.size)).mono B0.size)
    clear c0 c1 c2 c3 c4 A1 A3 C1 F1 hq hb2
    go_wp2
    refine bodyPost_ret (results_one2 rfl _ _ (w.heap.size + 1) (.int .i64 1000000) (.int .i64 0) _ rfl ?_ ?_ Tryz.underlying47 rfl infoCoI) rfl ?_
    · go_simp
    · go_simp
    · exact ⟨rfl, (BW.setCell q1 _).setCell q1 _⟩
  · obtain ⟨rfl, A3⟩ := hq.no h1
    obtain ⟨w3, hw3⟩ : ∃ w3, w3 = w1 := ⟨_, rfl⟩
    subst hw3
    have F3 := (A3.block (w.heap.size + 1) z1).trans F1
    have y0 : w3.cell? ⟨w.heap.size + 1, 0, none⟩ = some (.int .i64 0) := by rw [Lib.cell_of_heap F3]; rfl
    have y1 : w3.cell? ⟨w.heap.size + 1, 1, none⟩ = some (.int .i64 0) := by rw [Lib.cell_of_heap F3]; rfl
    have f0 := Lib.frozen_of_heap F3 0
    have f1 := Lib.frozen_of_heap F3 1
    have BW : Below w.heap.size w w3 := B0.trans ((B1.trans (A3.mono B1.size)).mono B0.size)
    clear A3 F1 hq
    go_wp2
    refine bodyPost_ret (results_one2 rfl _ _ (w.heap.size + 1) (.int .i64 1000000) (.int .i64 0) _ rfl ?_ ?_ Tryz.underlying47 rfl infoCoI) rfl ?_
    · go_simp
    · go_simp
    · exact ⟨rfl, (BW.setCell q1 _).setCell q1 _⟩
end Go.Proofs.YtlejdjbhbkknlaaGreat
/- What slices.Equal answers of two lists of numbers. -/
namespace Go.Proofs.YtlejdjbhbkknlaaGreat
open Go.RowKit

theorem li_len {ks ls : List Int} (h : ks.length ≠ ls.length) : (ks == ls) = false := by
  rw [beq_eq_false_iff_ne]
  rintro rfl
  exact h rfl
theorem li_not {ks ls : List Int} {j : Nat} {x y : Int} (h1 : ks[j]? = some x) (h2 : ls[j]? = some y) (h : x ≠ y) : (ks == ls) = false := by
  rw [beq_eq_false_iff_ne]
  rintro rfl
  rw [h1] at h2
  injection h2 with h2
  exact h h2
theorem li_yes {ks ls : List Int} (hl : ks.length = ls.length) (h : ∀ (j : Nat) (x y : Int), ks[j]? = some x → ls[j]? = some y → x = y) : (ks == ls) = true := by
  rw [beq_iff_eq]
  apply List.ext_getElem hl
  intro j h1 h2
  exact h j _ _ (List.getElem?_eq_getElem h1) (List.getElem?_eq_getElem h2)
set_option maxHeartbeats 1600000 in
theorem eqSl_any (a1 a2 : Option Addr) (c1 c2 : Nat) (ks ls : List Int) (w : World) (hx0 : ks.length ≤ 4611686018427387904) (hy : ls.length ≤ 4611686018427387904) (h1 : KidsAt w a1 ks) (h2 : KidsAt w a2 ls) :
    Calls Tryz.prog 87 #[.slice a1 ks.length c1, .slice a2 ls.length c2] w fun e w' => e = .returned (.bool (ks == ls)) ∧ Below w.heap.size w w' := by
  have hx := hx0
  clear hx0
  by_cases hl : ks.length = ls.length
  · unfold KidsAt at h1 h2
    rw [← hl] at h2
    rw [← hl] at hy
    obtain ⟨n, hn⟩ : ∃ n, n = ks.length := ⟨_, rfl⟩
    rw [← hn] at h1 h2 hx hy
    rw [← hl, ← hn]
    have HN := hidOf hn
    have HL := hidOf hl
    clear hn hl
    obtain ⟨u, hu⟩ : ∃ u, u = (ks == ls) := ⟨_, rfl⟩
    rw [← hu]
    have HU := hidOf hu
    clear hu
    go_enter Tryz.func87, Tryz.ntmps87
    go_wp2
    go_loopw [13] (fun i wr => ∃ k q : Nat, k ≤ n ∧ i = .int .i64 k ∧ wr = w.drewN q ∧ Hid (∀ (j : Nat) (x y : Int), j < k → ks[j]? = some x → ls[j]? = some y → x = y)) (fun i _ => n - (intOf i).toNat)
    case atStart => exact ⟨0, 0, Nat.zero_le _, rfl, rfl, hidOf fun j x y h => by omega⟩
    case round =>
      obtain ⟨k, q, hk, rfl, rfl, HA⟩ := hrel
      by_cases hlt : k < n
      · obtain ⟨x, ex⟩ : ∃ x, ks[k]? = some x := ⟨_, List.getElem?_eq_getElem (by rw [← HN.out]; exact hlt)⟩
        obtain ⟨y, ey⟩ : ∃ y, ls[k]? = some y := ⟨_, List.getElem?_eq_getElem (by rw [← HL.out, ← HN.out]; exact hlt)⟩
        obtain ⟨b1, o1, rfl, hb1, hc1⟩ := h1 (by omega)
        obtain ⟨b2, o2, rfl, hb2, hc2⟩ := h2 (by omega)
        have p0 := hc1 k x ex
        have q0 := hc2 k y ey
        have EX := hidOf ex
        have EY := hidOf ey
        clear ex ey hc1 hc2 h1 h2
        have hA : (0 : Int) ≤ (k : Int) := by omega
        have hB : (k : Int) < (n : Int) := by omega
        cases hk1 : (x == y)
        · have hm1 : (x != y) = true := by simp [bne, hk1]
          go_wp2
          go_quiet (fail)
          go_wp2
          go_ret
          exact ⟨ret_bool (by rw [HU.out, li_not EX.out EY.out (by simpa using hk1)]), bel_drewN (below_drewN _ _) _⟩
        · have hm1 : (x != y) = false := by simp [bne, hk1]
          go_wp2
          go_quiet (fail)
          go_wp2
          go_roundw
          case rel => exact ⟨k + 1, q + nq, by omega, by go_num, rfl, hidOf fun j x' y' h1 h2 h3 => by
            by_cases e : j = k
            · subst e
              have e1 := EX.out
              have e2 := EY.out
              rw [h2] at e1
              rw [h3] at e2
              cases e1
              cases e2
              simpa using hk1
            · exact HA.out j x' y' (by omega) h2 h3⟩
          case measure => simp [intOf]; omega
      · go_wp2
        go_ret
        exact ⟨ret_bool (by rw [HU.out, li_yes HL.out (fun j x y h2 h3 => HA.out j x y (by have := (List.getElem?_eq_some_iff.1 h2).1; rw [← HN.out] at this; omega) h2 h3)]), below_drewN _ _⟩
  · have hne : ((ks.length : Int) == (ls.length : Int)) = false := by rw [beq_eq_false_iff_ne]; omega
    have HL := hidOf hl
    clear hl h1 h2
    go_enter Tryz.func87, Tryz.ntmps87
    go_wp2
    go_ret
    exact ⟨ret_bool (li_len HL.out).symm, Below.refl _ _⟩
end Go.Proofs.YtlejdjbhbkknlaaGreat
