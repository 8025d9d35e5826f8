/- What spec.l09Cost and spec.CostOf answer. -/
import Derived.Test.YtbjfkfohkpdlfaaCostR
import Derived.Test.YtbjfkfohkpdlfaaOverS
import Derived.Test.YtbjfkfohkpdlfaaSmS
namespace Go.Proofs.Ytbjfkfohkpdlfaa
open Go.RowKit

set_option maxHeartbeats 8000000 in
set_option maxRecDepth 20000 in
theorem sCostR_any (p : Pc) (l : Pl) (a : Option Addr) (c : Nat) (vs : List Int) (wd : Int) (w : World) (hF : PcFew p) (hm0 : vs.length ≤ 1048576) (hp : PcIn w p l) (hv : KidsAt w a vs) (h1 : Right p) (h2 : ValOk p vs) :
    Calls Try.prog 41 #[pcV p l, .slice a vs.length c, .int .i64 wd] w fun e w' => e = .returned (coV (costOver p vs wd) (costSum p vs)) ∧ Below w.heap.size w w' := by
  show Calls _ _ #[.agg #[.int .i64 p.indent, .slice l.a1 p.rules.length l.c1, .slice l.a2 p.chunks.length l.c2, .slice l.a3 p.spans.length l.c3, .slice l.a4 p.ties.length l.c4], _, _] _ _
  have hwi := wid_le wd
  have qO := fun W hP hK => sOver_any p l a c vs (wid wd) W hF hm0 hP hK h1 h2 hwi.1 hwi.2
  have qW := fun W => sWid_any wd W
  have qS := fun W hP hK => sSum_any p l a c vs W hF hm0 hP hK h1 h2
  unfold costOver
  obtain ⟨d, hd⟩ : ∃ d, d = wid wd := ⟨_, rfl⟩
  obtain ⟨sm, hsm⟩ : ∃ sm, sm = costSum p vs := ⟨_, rfl⟩
  rw [← hd] at qO qW
  rw [← hd, ← hsm]
  rw [← hsm] at qS
  obtain ⟨ov, hov⟩ : ∃ ov, ov = ovr d (linesOf p vs) := ⟨_, rfl⟩
  rw [← hov] at qO
  rw [← hov]
  clear hsm hov hd hwi
  obtain ⟨W0, hW0, X0, B0, S0⟩ := boxed w p l 29
  have hX : w.heap.size < W0.heap.size := by omega
  have I0 := hp.below B0 (Nat.le_refl _)
  have V0 := hv.below B0 (Nat.le_refl _)
  go_enter Try.func41, Try.ntmps41
  go_wp2
  rw [← hW0]
  obtain ⟨W1, hW1⟩ : ∃ W1, W1 = W0.alloc (.cells #[.int .i64 0, .int .i64 0] 34) := ⟨_, rfl⟩
  rw [← hW1]
  have B1 : Below W0.heap.size W0 W1 := by rw [hW1]; exact (Below.refl _ _).alloc (Nat.le_refl _) _
  have F1 : W1.heap[w.heap.size + 1]? = some (.cells #[.int .i64 0, .int .i64 0] 34 (0, 0)) := by rw [hW1, ← S0]; exact heap_alloc_new W0 _
  have z1 : w.heap.size + 1 < W1.heap.size := by rw [hW1]; simp; omega
  have z0 : w.heap.size < W1.heap.size := by omega
  have I1 := I0.below B1 (Nat.le_refl _)
  have V1 := V0.below B1 (Nat.le_refl _)
  obtain ⟨-, c0, c1, c2, c3, c4⟩ := X0.below B1 hX
  have g0 : W1.cell? ⟨w.heap.size + 1, 0, none⟩ = some (.int .i64 0) := by rw [Lib.cell_of_heap F1]; rfl
  have g1 : W1.cell? ⟨w.heap.size + 1, 1, none⟩ = some (.int .i64 0) := by rw [Lib.cell_of_heap F1]; rfl
  have f0 := Lib.frozen_of_heap F1 0
  have f1 := Lib.frozen_of_heap F1 1
  have hne : w.heap.size ≠ w.heap.size + 1 := by omega
  have ID := I1.below (Below.refl W1.heap.size W1).drew (Nat.le_refl _)
  have VD := V1.below (Below.refl W1.heap.size W1).drew (Nat.le_refl _)
  clear hW0 hW1 hp hv S0
  go_region_held3 (fun W => ((W.cell? ⟨w.heap.size, 0, none⟩ = some (.int .i64 p.indent) ∧ W.cell? ⟨w.heap.size, 1, none⟩ = some (.slice l.a1 p.rules.length l.c1) ∧ W.cell? ⟨w.heap.size, 2, none⟩ = some (.slice l.a2 p.chunks.length l.c2) ∧ W.cell? ⟨w.heap.size, 3, none⟩ = some (.slice l.a3 p.spans.length l.c3) ∧ W.cell? ⟨w.heap.size, 4, none⟩ = some (.slice l.a4 p.ties.length l.c4)))) (first | trivial | go_keep)
    ((first
    | (go_at_call 80; refine (qW _).mono ?_; rintro e w0 ⟨rfl, rfl⟩)
    | (go_at_call 79; refine (qO _ ID VD).mono ?_; rintro e w1 ⟨rfl, hb1⟩; have A1 := (Below.refl W1.heap.size W1).drew.trans hb1; have hc1 := (bcell A1).1; have hd1 := (bcell A1).2)
    | (go_at_call 81; refine (qS _ (I1.below A1 (Nat.le_refl _)) (V1.below A1 (Nat.le_refl _))).mono ?_; rintro e w3 ⟨rfl, hb2⟩; have A3 := A1.trans (hb2.mono A1.size); have hc2 := (bcell A3).1; have hd2 := (bcell A3).2)))
  have F3 := (A3.block (w.heap.size + 1) z1).trans F1
  have y0 : w3.cell? ⟨w.heap.size + 1, 0, none⟩ = some (.int .i64 0) := by rw [Lib.cell_of_heap F3]; rfl
  have y1 : w3.cell? ⟨w.heap.size + 1, 1, none⟩ = some (.int .i64 0) := by rw [Lib.cell_of_heap F3]; rfl
  have BW : Below w.heap.size w w3 := B0.trans ((B1.trans (A3.mono B1.size)).mono B0.size)
  clear qO qW qS c0 c1 c2 c3 c4 g0 g1 f0 f1 hc1 hc2 hd1 hd2 hb1 hb2 A1 A3 I0 I1 V0 V1 ID VD F1 X0
  go_wp2
  refine bodyPost_ret (results_one2 rfl _ _ (w.heap.size + 1) (.int .i64 ov) (.int .i64 sm) _ rfl ?_ ?_ Try.underlying34 rfl infoCoI) rfl ?_
  · go_simp
  · go_simp
  · have q1 : w.heap.size ≤ w.heap.size + 1 := by omega
    exact ⟨rfl, (BW.setCell q1 _).setCell q1 _⟩

set_option maxHeartbeats 8000000 in
set_option maxRecDepth 20000 in
theorem sCost_yes (p : Pc) (l : Pl) (a : Option Addr) (c : Nat) (vs : List Int) (wd : Int) (w : World) (hF : PcFew p) (hm0 : vs.length ≤ 1048576) (hp : PcIn w p l) (hv : KidsAt w a vs) (h1 : Right p) (h2 : ValOk p vs) :
    Calls Try.prog 10 #[pcV p l, .slice a vs.length c, .int .i64 wd] w fun e w' => CoAns (costOver p vs wd) (costSum p vs) w e w' := by
  show Calls _ _ #[.agg #[.int .i64 p.indent, .slice l.a1 p.rules.length l.c1, .slice l.a2 p.chunks.length l.c2, .slice l.a3 p.spans.length l.c3, .slice l.a4 p.ties.length l.c4], _, _] _ _
  obtain ⟨ov, hov⟩ : ∃ ov, ov = costOver p vs wd := ⟨_, rfl⟩
  obtain ⟨sm, hsm⟩ : ∃ sm, sm = costSum p vs := ⟨_, rfl⟩
  have qR := fun W hP hK => sCostR_any p l a c vs wd W hF hm0 hP hK h1 h2
  rw [← hov, ← hsm] at qR
  rw [← hov, ← hsm]
  clear hov hsm
  obtain ⟨W0, hW0, X0, B0, S0⟩ := boxed w p l 29
  have hX : w.heap.size < W0.heap.size := by omega
  have I0 := hp.below B0 (Nat.le_refl _)
  have V0 := hv.below B0 (Nat.le_refl _)
  go_enter Try.func10, Try.ntmps10
  go_wp2_with fail
  rw [← hW0]
  obtain ⟨W1, hW1⟩ : ∃ W1, W1 = W0.alloc (.cells #[.int .i64 0, .int .i64 0] 34) := ⟨_, rfl⟩
  rw [← hW1]
  have B1 : Below W0.heap.size W0 W1 := by rw [hW1]; exact (Below.refl _ _).alloc (Nat.le_refl _) _
  have F1 : W1.heap[w.heap.size + 1]? = some (.cells #[.int .i64 0, .int .i64 0] 34 (0, 0)) := by rw [hW1, ← S0]; exact heap_alloc_new W0 _
  have z1 : w.heap.size + 1 < W1.heap.size := by rw [hW1]; simp; omega
  clear hW0 hW1 hp hv S0
  refine (sOk_any p l _ hF (I0.below B1 (Nat.le_refl _))).mono ?_
  rintro e w1 hq
  obtain ⟨rfl, A1⟩ := hq.yes h1
  clear hq
  have C1 := B1.trans (A1.mono B1.size)
  obtain ⟨-, c0, c1, c2, c3, c4⟩ := X0.below C1 hX
  go_wp2_with fail
  refine (sVal_any p l a c vs _ hF.rules hm0 (noLeast_right h1.rules) (I0.rules.below C1 (Nat.le_refl _)) (V0.below C1 (Nat.le_refl _))).mono ?_
  rintro e w2 hq
  obtain ⟨rfl, hb2⟩ := hq.yes h2
  have A2 := A1.trans (hb2.mono A1.size)
  have C2 := B1.trans (A2.mono B1.size)
  clear hq hb2 A1 C1 c0 c1 c2 c3 c4
  obtain ⟨-, c0, c1, c2, c3, c4⟩ := X0.below C2 hX
  go_wp2_with fail
  refine (qR _ (I0.below C2 (Nat.le_refl _)) (V0.below C2 (Nat.le_refl _))).mono ?_
  rintro e w3 ⟨rfl, hb3⟩
  have A3 := A2.trans (hb3.mono A2.size)
  have F3 := (A3.block (w.heap.size + 1) z1).trans F1
  have y0 : w3.cell? ⟨w.heap.size + 1, 0, none⟩ = some (.int .i64 0) := by rw [Lib.cell_of_heap F3]; rfl
  have y1 : w3.cell? ⟨w.heap.size + 1, 1, none⟩ = some (.int .i64 0) := by rw [Lib.cell_of_heap F3]; rfl
  have f0 := Lib.frozen_of_heap F3 0
  have f1 := Lib.frozen_of_heap F3 1
  have BW : Below w.heap.size w w3 := B0.trans ((B1.trans (A3.mono B1.size)).mono B0.size)
  clear c0 c1 c2 c3 c4 qR A2 A3 hb3 C2 F1
  go_wp2
  refine bodyPost_ret (results_one2 rfl _ _ (w.heap.size + 1) (.int .i64 ov) (.int .i64 sm) _ rfl ?_ ?_ Try.underlying34 rfl infoCoI) rfl ?_
  · go_simp
  · go_simp
  · have q1 : w.heap.size ≤ w.heap.size + 1 := by omega
    exact ⟨rfl, (BW.setCell q1 _).setCell q1 _⟩

set_option maxHeartbeats 8000000 in
set_option maxRecDepth 20000 in
theorem sCost_no (p : Pc) (l : Pl) (a : Option Addr) (c : Nat) (vs : List Int) (wd : Int) (w : World) (hF : PcFew p) (hm0 : vs.length ≤ 1048576) (hp : PcIn w p l) (hv : KidsAt w a vs) (hno : ¬ (Right p ∧ ValOk p vs)) :
    Calls Try.prog 10 #[pcV p l, .slice a vs.length c, .int .i64 wd] w fun e w' => CoAns 1000000 0 w e w' := by
  show Calls _ _ #[.agg #[.int .i64 p.indent, .slice l.a1 p.rules.length l.c1, .slice l.a2 p.chunks.length l.c2, .slice l.a3 p.spans.length l.c3, .slice l.a4 p.ties.length l.c4], _, _] _ _
  obtain ⟨W0, hW0, X0, B0, S0⟩ := boxed w p l 29
  have hX : w.heap.size < W0.heap.size := by omega
  have I0 := hp.below B0 (Nat.le_refl _)
  have V0 := hv.below B0 (Nat.le_refl _)
  go_enter Try.func10, Try.ntmps10
  go_wp2_with fail
  rw [← hW0]
  obtain ⟨W1, hW1⟩ : ∃ W1, W1 = W0.alloc (.cells #[.int .i64 0, .int .i64 0] 34) := ⟨_, rfl⟩
  rw [← hW1]
  have B1 : Below W0.heap.size W0 W1 := by rw [hW1]; exact (Below.refl _ _).alloc (Nat.le_refl _) _
  have F1 : W1.heap[w.heap.size + 1]? = some (.cells #[.int .i64 0, .int .i64 0] 34 (0, 0)) := by rw [hW1, ← S0]; exact heap_alloc_new W0 _
  have z1 : w.heap.size + 1 < W1.heap.size := by rw [hW1]; simp; omega
  clear hW0 hW1 hp hv S0
  have q1 : w.heap.size ≤ w.heap.size + 1 := by omega
  refine (sOk_any p l _ hF (I0.below B1 (Nat.le_refl _))).mono ?_
  rintro e w1 hq
  by_cases h1 : Right p
  · obtain ⟨rfl, A1⟩ := hq.yes h1
    clear hq
    have C1 := B1.trans (A1.mono B1.size)
    obtain ⟨-, c0, c1, c2, c3, c4⟩ := X0.below C1 hX
    go_wp2_with fail
    refine (sVal_any p l a c vs _ hF.rules hm0 (noLeast_right h1.rules) (I0.rules.below C1 (Nat.le_refl _)) (V0.below C1 (Nat.le_refl _))).mono ?_
    rintro e w3 hq
    obtain ⟨rfl, hb2⟩ := hq.no (fun h => hno ⟨h1, h⟩)
    have A3 := A1.trans (hb2.mono A1.size)
    have F3 := (A3.block (w.heap.size + 1) z1).trans F1
    have y0 : w3.cell? ⟨w.heap.size + 1, 0, none⟩ = some (.int .i64 0) := by rw [Lib.cell_of_heap F3]; rfl
    have y1 : w3.cell? ⟨w.heap.size + 1, 1, none⟩ = some (.int .i64 0) := by rw [Lib.cell_of_heap F3]; rfl
    have f0 := Lib.frozen_of_heap F3 0
    have f1 := Lib.frozen_of_heap F3 1
    have BW : Below w.heap.size w w3 := B0.trans ((B1.trans (A3.mono B1.size)).mono B0.size)
    clear c0 c1 c2 c3 c4 A1 A3 C1 F1 hq hb2
    go_wp2
    refine bodyPost_ret (results_one2 rfl _ _ (w.heap.size + 1) (.int .i64 1000000) (.int .i64 0) _ rfl ?_ ?_ Try.underlying34 rfl infoCoI) rfl ?_
    · go_simp
    · go_simp
    · exact ⟨rfl, (BW.setCell q1 _).setCell q1 _⟩
  · obtain ⟨rfl, A3⟩ := hq.no h1
    obtain ⟨w3, hw3⟩ : ∃ w3, w3 = w1 := ⟨_, rfl⟩
    subst hw3
    have F3 := (A3.block (w.heap.size + 1) z1).trans F1
    have y0 : w3.cell? ⟨w.heap.size + 1, 0, none⟩ = some (.int .i64 0) := by rw [Lib.cell_of_heap F3]; rfl
    have y1 : w3.cell? ⟨w.heap.size + 1, 1, none⟩ = some (.int .i64 0) := by rw [Lib.cell_of_heap F3]; rfl
    have f0 := Lib.frozen_of_heap F3 0
    have f1 := Lib.frozen_of_heap F3 1
    have BW : Below w.heap.size w w3 := B0.trans ((B1.trans (A3.mono B1.size)).mono B0.size)
    clear A3 F1 hq
    go_wp2
    refine bodyPost_ret (results_one2 rfl _ _ (w.heap.size + 1) (.int .i64 1000000) (.int .i64 0) _ rfl ?_ ?_ Try.underlying34 rfl infoCoI) rfl ?_
    · go_simp
    · go_simp
    · exact ⟨rfl, (BW.setCell q1 _).setCell q1 _⟩
end Go.Proofs.Ytbjfkfohkpdlfaa
