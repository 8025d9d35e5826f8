/- What impl.costOfRight answers. -/
import Derived.Test.YtbjfkfohkpdlfaaOverI
import Derived.Test.YtbjfkfohkpdlfaaSumI
import Derived.Test.YtbjfkfohkpdlfaaLess
import Derived.Test.YtbjfkfohkpdlfaaValP
import Derived.Test.YtbjfkfohkpdlfaaToCh
import Derived.Deep.RegionHeld3
import Derived.Lib.Builder
namespace Go.Proofs.Ytbjfkfohkpdlfaa
open Go.RowKit

theorem infoCoI : (Try.prog.info? 34).map (·.size) = some 2 := by kernel_rfl
/-- Two cells of a result. -/
theorem results_one2 {P : Program} {fn : Func} {p : Tmp} {ty : TypeId} (h : fn.results = #[.cell p ty]) (tmps : Array Value) (w : World) (g : Nat) (c0 c1 : Value) (d : TypeDesc)
    (hp : tmps.getD p undef = .pointer (some ⟨g, 0, none⟩)) (h0 : w.cell? ⟨g, 0, none⟩ = some c0) (h1 : w.cell? ⟨g, 1, none⟩ = some c1)
    (hu : P.underlying ty = some d) (hd : d.isRow = true) (hi : (P.info? ty).map (·.size) = some 2) :
    (results fn tmps).run P w = .ok (.agg #[c0, c1]) w := by
  have hr : w.rangeAt g 0 [c0, c1] := by
    intro j v hv
    match j with
    | 0 => simpa using h0.trans hv
    | 1 => simpa using h1.trans hv
    | j + 2 => simp at hv
  have hp' : tmps[p]?.getD undef = .pointer (some ⟨g, 0, none⟩) := by simpa using hp
  simp [results, h, hp', asAddr, run_loadVar_mid w g 0 ty [c0, c1] d hr hu hd (by simpa using hi)]
/-- Sums that fit. -/
theorem vcost_le : ∀ (rs : List Ru) (vs : List Int), (∀ (j : Nat) (y : Ru) (z : Int), rs[j]? = some y → vs[j]? = some z → 0 ≤ y.cost * z ∧ y.cost * z ≤ 18) → 0 ≤ vcost rs vs ∧ vcost rs vs ≤ 18 * rs.length
  | [], vs, _ => by rw [vcost]; exact ⟨Int.le_refl _, by simp⟩
  | r :: rs, [], _ => by rw [vcost]; omega
  | r :: rs, v :: vs, h => by
    have h0 := h 0 r v rfl rfl
    have ih := vcost_le rs vs (fun j y z hy hz => h (j + 1) y z (by simpa using hy) (by simpa using hz))
    rw [vcost, List.length_cons]
    omega
theorem scost_le (cs : List Ch) (vs : List Int) : ∀ (xs : List Sn), (∀ x ∈ xs, 0 ≤ x.cost ∧ x.cost ≤ 9) → 0 ≤ scost cs vs xs ∧ scost cs vs xs ≤ 9 * xs.length
  | [], _ => by rw [scost]; exact ⟨Int.le_refl _, by simp⟩
  | x :: xs, h => by
    have h0 := h x (by simp)
    have ih := scost_le cs vs xs (fun y hy => h y (by simp [hy]))
    rw [scost, List.length_cons]
    split <;> omega
theorem sums_le {p : Pc} {vs : List Int} (h1 : Right p) (h2 : ValOk p vs) : (0 ≤ vcost p.rules vs ∧ vcost p.rules vs ≤ 144) ∧ 0 ≤ scost p.chunks vs p.spans ∧ scost p.chunks vs p.spans ≤ 360 := by
  have a := vcost_le p.rules vs (fun j y z hy hz => one_cost h1 h2 hy hz)
  have b := scost_le p.chunks vs p.spans (fun x hx => by obtain ⟨j, hj⟩ := List.mem_iff_getElem?.1 hx; exact (h1.spans.all j x hj).2.2)
  have := h1.rules.1
  have := h1.spans.most
  omega

set_option maxHeartbeats 8000000 in
set_option maxRecDepth 20000 in
theorem iCostR_any (p : Pc) (l : Pl) (a : Option Addr) (c : Nat) (vs : List Int) (wd : Int) (w : World) (hF : PcFew p) (hm0 : vs.length ≤ 1048576) (hcap : p.chunks.length ≤ l.c2) (hp : PcIn w p l) (hv : KidsAt w a vs) (h1 : Right p) (h2 : ValOk p vs) :
    Calls Try.prog 34 #[pcV p l, .slice a vs.length c, .int .i64 wd] w fun e w' => e = .returned (coV (costOver p vs wd) (costSum p vs)) ∧ Below w.heap.size w w' := by
  show Calls _ _ #[.agg #[.int .i64 p.indent, .slice l.a1 p.rules.length l.c1, .slice l.a2 p.chunks.length l.c2, .slice l.a3 p.spans.length l.c3, .slice l.a4 p.ties.length l.c4], _, _] _ _
  have hsu := sums_le h1 h2
  unfold costSum
  obtain ⟨vc, hvc⟩ : ∃ vc, vc = vcost p.rules vs := ⟨_, rfl⟩
  obtain ⟨sc, hsc⟩ : ∃ sc, sc = scost p.chunks vs p.spans := ⟨_, rfl⟩
  obtain ⟨ov, hov⟩ : ∃ ov, ov = costOver p vs wd := ⟨_, rfl⟩
  have qO := fun W hP hK => iOver_any p l a c vs wd W hF hm0 hP hK h1 h2
  have qV := fun W hP hK => iVaCost_any p l a c vs W hm0 hP hK h1 h2
  have qS := fun W hP hK => iSpCost_any p l a c vs W hF hm0 hcap hP hK h1 h2
  rw [← hvc, ← hsc] at hsu
  rw [← hvc, ← hsc, ← hov]
  rw [← hov] at qO
  rw [← hvc] at qV
  rw [← hsc] at qS
  clear hvc hsc hov
  obtain ⟨⟨u1, u2⟩, u3, u4⟩ := hsu
  have hws : IntKind.i64.wrap (vc + sc) = vc + sc := IntWalk.i64_in _ ⟨by omega, by omega⟩
  obtain ⟨W0, hW0, X0, B0, S0⟩ := boxed w p l 29
  have hX : w.heap.size < W0.heap.size := by omega
  have I0 := hp.below B0 (Nat.le_refl _)
  have V0 := hv.below B0 (Nat.le_refl _)
  go_enter Try.func34, Try.ntmps34
  go_wp2
  rw [← hW0]
  obtain ⟨W1, hW1⟩ : ∃ W1, W1 = W0.alloc (.cells #[.int .i64 0, .int .i64 0] 34) := ⟨_, rfl⟩
  rw [← hW1]
  have B1 : Below W0.heap.size W0 W1 := by rw [hW1]; exact (Below.refl _ _).alloc (Nat.le_refl _) _
  have F1 : W1.heap[w.heap.size + 1]? = some (.cells #[.int .i64 0, .int .i64 0] 34 (0, 0)) := by rw [hW1, ← S0]; exact heap_alloc_new W0 _
  have z1 : w.heap.size + 1 < W1.heap.size := by rw [hW1]; simp; omega
  have z0 : w.heap.size < W1.heap.size := by omega
  have I1 := I0.below B1 (Nat.le_refl _)
  have V1 := V0.below B1 (Nat.le_refl _)
  obtain ⟨-, c0, c1, c2, c3, c4⟩ := X0.below B1 hX
  have g0 : W1.cell? ⟨w.heap.size + 1, 0, none⟩ = some (.int .i64 0) := by rw [Lib.cell_of_heap F1]; rfl
  have g1 : W1.cell? ⟨w.heap.size + 1, 1, none⟩ = some (.int .i64 0) := by rw [Lib.cell_of_heap F1]; rfl
  have f0 := Lib.frozen_of_heap F1 0
  have f1 := Lib.frozen_of_heap F1 1
  have hne : w.heap.size ≠ w.heap.size + 1 := by omega
  have ID := I1.below (Below.refl W1.heap.size W1).drew (Nat.le_refl _)
  have VD := V1.below (Below.refl W1.heap.size W1).drew (Nat.le_refl _)
  clear hW0 hW1 hp hv S0
  go_region_held3 (fun W => ((W.cell? ⟨w.heap.size, 0, none⟩ = some (.int .i64 p.indent) ∧ W.cell? ⟨w.heap.size, 1, none⟩ = some (.slice l.a1 p.rules.length l.c1) ∧ W.cell? ⟨w.heap.size, 2, none⟩ = some (.slice l.a2 p.chunks.length l.c2) ∧ W.cell? ⟨w.heap.size, 3, none⟩ = some (.slice l.a3 p.spans.length l.c3) ∧ W.cell? ⟨w.heap.size, 4, none⟩ = some (.slice l.a4 p.ties.length l.c4)))) (first | trivial | go_keep)
    ((first
    | (go_at_call 71; refine (qO _ ID VD).mono ?_; rintro e w1 ⟨rfl, hb1⟩; have A1 := (Below.refl W1.heap.size W1).drew.trans hb1; have hc1 := (bcell A1).1; have hd1 := (bcell A1).2)
    | (go_at_call 72; refine (qV _ (I1.below A1 (Nat.le_refl _)) (V1.below A1 (Nat.le_refl _))).mono ?_; rintro e w2 ⟨rfl, hb2⟩; have A2 := A1.trans (hb2.mono A1.size); have hc2 := (bcell A2).1; have hd2 := (bcell A2).2)
    | (go_at_call 73; refine (qS _ (I1.below A2 (Nat.le_refl _)) (V1.below A2 (Nat.le_refl _))).mono ?_; rintro e w3 ⟨rfl, hb3⟩; have A3 := A2.trans (hb3.mono A2.size); have hc3 := (bcell A3).1; have hd3 := (bcell A3).2)))
  have F3 := (A3.block (w.heap.size + 1) z1).trans F1
  have y0 : w3.cell? ⟨w.heap.size + 1, 0, none⟩ = some (.int .i64 0) := by rw [Lib.cell_of_heap F3]; rfl
  have y1 : w3.cell? ⟨w.heap.size + 1, 1, none⟩ = some (.int .i64 0) := by rw [Lib.cell_of_heap F3]; rfl
  have BW : Below w.heap.size w w3 := B0.trans ((B1.trans (A3.mono B1.size)).mono B0.size)
  clear qO qV qS c0 c1 c2 c3 c4 g0 g1 f0 f1 hc1 hc2 hc3 hd1 hd2 hd3 hb1 hb2 hb3 A1 A2 A3 I0 I1 V0 V1 ID VD F1 X0
  go_wp2
  refine bodyPost_ret (results_one2 rfl _ _ (w.heap.size + 1) (.int .i64 ov) (.int .i64 (vc + sc)) _ rfl ?_ ?_ Try.underlying34 rfl infoCoI) rfl ?_
  · go_simp
  · go_simp
  · have q1 : w.heap.size ≤ w.heap.size + 1 := by omega
    exact ⟨rfl, (BW.setCell q1 _).setCell q1 _⟩

/-- What CostOf answers. -/
def CoAns (o s : Int) (w : World) (e : Ending) (w' : World) : Prop := e = .returned (coV o s) ∧ Below w.heap.size w w'

end Go.Proofs.Ytbjfkfohkpdlfaa
