/- What impl.isSplit answers. -/
import Derived.Test.YtokfemlcamnaaaaRenLib
import Derived.Test.YtokfemlcamnaaaaOkI3
import Derived.Test.YtokfemlcamnaaaaValLib
import Derived.Test.YtokfemlcamnaaaaOkS2
import Derived.Test.YtokfemlcamnaaaaValP
namespace Go.Proofs.Ytokfemlcamnaaaa
open Go.RowKit

set_option maxHeartbeats 4000000 in
theorem isSpl_any (x : Ch) (a : Option Addr) (c : Nat) (vs : List Int) (r : Nat) (w : World) (hm0 : vs.length ≤ 1048576) (hr : x.rule = (r : Int)) (hrl : r < vs.length) (hv : KidsAt w a vs) :
    Calls Try.prog 78 #[.agg #[.int .i64 x.rule, .int .i64 x.frm, .bool x.space, .int .i64 x.nest], .slice a vs.length c] w fun e w' => e = .returned (.bool (spl vs x)) ∧ Below w.heap.size w w' := by
  have hm1 := hm0
  clear hm0
  have HB : ∀ o1 : Obj, Below w.heap.size w (w.alloc o1) := fun o1 => (Below.refl _ _).alloc (Nat.le_refl _) _
  have ez := List.getElem?_eq_getElem hrl
  obtain ⟨z, hz⟩ : ∃ z, z = vs[r] := ⟨_, rfl⟩
  rw [← hz] at ez
  clear hz
  obtain ⟨b2, o2, eb, hb2, hc2⟩ := hv (by omega)
  have zc := fun ob : Obj => ((HB ob).cell (p := ⟨b2, o2 + r, none⟩) hb2).trans (hc2 r z ez)
  rw [spl_of hr ez, hr, eb]
  clear hc2 eb ez hv
  have hA2 : (0 : Int) ≤ (r : Int) := by omega
  have hB2 : (r : Int) < (vs.length : Int) := by omega
  by_cases hf : x.frm ≤ z
  · have hfd : decide (z ≥ x.frm) = true := by rw [decide_eq_true_eq]; exact hf
    have hft : decide (x.frm ≤ z) = true := by rw [decide_eq_true_eq]; exact hf
    rw [hft]
    clear hft
    go_enter Try.func78, Try.ntmps78
    go_wp2
    go_quiet (fail)
    go_wp2
    go_ret
    exact ⟨rfl, bel_drewN (HB _) _⟩
  · have hfd : decide (z ≥ x.frm) = false := by rw [decide_eq_false_iff_not]; omega
    have hft : decide (x.frm ≤ z) = false := by rw [decide_eq_false_iff_not]; omega
    rw [hft]
    clear hft
    go_enter Try.func78, Try.ntmps78
    go_wp2
    go_quiet (fail)
    go_wp2
    go_ret
    exact ⟨rfl, bel_drewN (HB _) _⟩
end Go.Proofs.Ytokfemlcamnaaaa
/- What spec.l08At answers, and splits in plain words. -/
namespace Go.Proofs.Ytokfemlcamnaaaa
open Go.RowKit

theorem at_yes {p : Pc} {vs : List Int} {k : Nat} {x : Ch} {r : Nat} {z : Int} (h : Right p) (hv : ValOk p vs) (hk : (k : Int) ≤ (p.chunks.length : Int) - 2) (hx : p.chunks[k]? = some x) (hr : x.rule = (r : Int)) (hz : vs[r]? = some z) (hf : x.frm ≤ z) : SplitAt p vs (k : Int) :=
  ⟨h, hv, Int.natCast_nonneg k, hk, fun x' z' hx' hz' => by
    rw [Int.toNat_natCast, hx] at hx'
    cases hx'
    rw [hr, Int.toNat_natCast, hz] at hz'
    cases hz'
    exact hf⟩
theorem at_no {p : Pc} {vs : List Int} {k : Nat} {x : Ch} {r : Nat} {z : Int} (hx : p.chunks[k]? = some x) (hr : x.rule = (r : Int)) (hz : vs[r]? = some z) (hf : ¬ x.frm ≤ z) : ¬ SplitAt p vs (k : Int) := fun h =>
  hf (h.splits x z (by rw [Int.toNat_natCast]; exact hx) (by rw [hr, Int.toNat_natCast]; exact hz))

set_option maxHeartbeats 8000000 in
theorem s08At_any (p : Pc) (l : Pl) (a : Option Addr) (c : Nat) (vs : List Int) (k : Nat) (w : World) (hF : PcFew p) (hm0 : vs.length ≤ 1048576) (hp : PcIn w p l) (hv : KidsAt w a vs) (h1 : Right p) (h2 : ValOk p vs) (hk : (k : Int) ≤ (p.chunks.length : Int) - 2) :
    Calls Try.prog 89 #[pcV p l, .slice a vs.length c, .int .i64 k] w fun e w' => Tells (SplitAt p vs k) w e w' := by
  show Calls _ _ #[.agg #[.int .i64 p.indent, .slice l.a1 p.rules.length l.c1, .slice l.a2 p.chunks.length l.c2, .slice l.a3 p.spans.length l.c3, .slice l.a4 p.ties.length l.c4], _, _] _ _
  have hcl := hF.chunks
  have hm1 := hm0
  clear hm0
  have HB : ∀ o1 : Obj, Below w.heap.size w (w.alloc o1) := fun o1 => (Below.refl _ _).alloc (Nat.le_refl _) _
  have HB2 : ∀ o1 o2 : Obj, Below w.heap.size w ((w.alloc o1).alloc o2) := fun o1 o2 => ((Below.refl _ _).alloc (Nat.le_refl _) _).alloc (by simp) _
  obtain ⟨x, r, z, ex, er, hr, ez⟩ := split_val h1 h2 hk
  obtain ⟨b1, o1, ea, hb1, hc1⟩ := hp.chunks (by omega)
  obtain ⟨b2, o2, eb, hb2, hc2⟩ := hv (by omega)
  have hch := fun ob : Obj => chC (w := w.alloc ob) (fun j hj => by rw [(HB ob).cell hb1]; exact hc1 k x ex j hj)
  rw [er] at hch
  have p0 := fun ob => (hch ob).1
  have p1 := fun ob => (hch ob).2.1
  have p2 := fun ob => (hch ob).2.2.1
  have p3 := fun ob => (hch ob).2.2.2.1
  have p4 := fun ob => (hch ob).2.2.2.2
  have zc := fun ob oc : Obj => ((HB2 ob oc).cell (p := ⟨b2, o2 + r, none⟩) hb2).trans (hc2 r z ez)
  rw [ea, eb]
  have HX := hidOf ex
  have HR := hidOf er
  have HZ := hidOf ez
  have H1 := hidOf h1
  have H2 := hidOf h2
  have HK := hidOf hk
  clear ex er ez hc1 hc2 ea eb h1 h2 hch hp hv
  have hA : (0 : Int) ≤ (k : Int) := by omega
  have hB : (k : Int) < (p.chunks.length : Int) := by omega
  have hA2 : (0 : Int) ≤ (r : Int) := by omega
  have hB2 : (r : Int) < (vs.length : Int) := by omega
  by_cases hf : x.frm ≤ z
  · have hfd : decide (z ≥ x.frm) = true := by rw [decide_eq_true_eq]; exact hf
    have HF2 := hidOf hf
    go_enter Try.func89, Try.ntmps89
    go_wp2
    go_quiet (fail)
    go_wp2
    go_ret
    exact tells_yes (at_yes H1.out H2.out HK.out HX.out HR.out HZ.out HF2.out) (bel_drewN (HB2 _ _) _)
  · have hfd : decide (z ≥ x.frm) = false := by rw [decide_eq_false_iff_not]; omega
    have HF2 := hidOf hf
    go_enter Try.func89, Try.ntmps89
    go_wp2
    go_quiet (fail)
    go_wp2
    go_ret
    exact tells_no (at_no HX.out HR.out HZ.out (by have := HF2.out; omega)) (bel_drewN (HB2 _ _) _)

end Go.Proofs.Ytokfemlcamnaaaa
/- What impl.SplitsAt and spec.SplitsAt answer. -/
namespace Go.Proofs.Ytokfemlcamnaaaa
open Go.RowKit

set_option maxHeartbeats 8000000 in
theorem iAt_any (p : Pc) (l : Pl) (a : Option Addr) (c : Nat) (vs : List Int) (i : Int) (w : World) (hF : PcFew p) (hm0 : vs.length ≤ 1048576) (hp : PcIn w p l) (hv : KidsAt w a vs) :
    Calls Try.prog 14 #[pcV p l, .slice a vs.length c, .int .i64 i] w fun e w' => Tells (SplitAt p vs i) w e w' := by
  show Calls _ _ #[.agg #[.int .i64 p.indent, .slice l.a1 p.rules.length l.c1, .slice l.a2 p.chunks.length l.c2, .slice l.a3 p.spans.length l.c3, .slice l.a4 p.ties.length l.c4], _, _] _ _
  have hcl := hF.chunks
  have q0 := fun W => iIn_any i 0 ((p.chunks.length : Int) - 2) W
  by_cases hi : 0 ≤ i ∧ i ≤ (p.chunks.length : Int) - 2
  · rw [inB_yes hi.1 hi.2] at q0
    obtain ⟨k, rfl⟩ := Int.eq_ofNat_of_zero_le hi.1
    have hk := hi.2
    clear hi
    go_enter Try.func14, Try.ntmps14
    go_wp2_with fail
    obtain ⟨W0, hW0, X0, B0, S0⟩ := boxed w p l 29
    rw [← hW0]
    have I0 := hp.below B0 (Nat.le_refl _)
    have V0 := hv.below B0 (Nat.le_refl _)
    have hX : w.heap.size < W0.heap.size := by omega
    clear hW0 S0 hp hv
    obtain ⟨-, c0, c1, c2, c3, c4⟩ := X0
    refine (q0 _).mono ?_
    rintro e W0 ⟨rfl, rfl⟩
    go_wp2_with fail
    refine (iOk_any p l _ hF I0).mono ?_
    rintro e w1 hq
    by_cases h1 : Right p
    · obtain ⟨rfl, A1⟩ := hq.yes h1
      have k1 := fun o => A1.cell (p := ⟨w.heap.size, o, none⟩) hX
      clear hq
      go_wp2_with fail
      refine (iVal_any p l a c vs _ hF.rules hm0 (noLeast_right h1.rules) (I0.rules.below A1 (Nat.le_refl _)) (V0.below A1 (Nat.le_refl _))).mono ?_
      rintro e w2 hq
      by_cases h2 : ValOk p vs
      · obtain ⟨rfl, hb2⟩ := hq.yes h2
        have A2 := A1.trans (hb2.mono A1.size)
        have k2 := fun o => A2.cell (p := ⟨w.heap.size, o, none⟩) hX
        have BW := B0.trans (A2.mono B0.size)
        clear hq hb2 k1
        obtain ⟨x, r, z, ex, er, hr, ez⟩ := split_val h1 h2 hk
        obtain ⟨b1, o1, ea, hb1, hc1⟩ := I0.chunks (by omega)
        obtain ⟨p0, p1, p2, p3, p4⟩ := chC (w := w2) (fun j hj => by rw [A2.cell hb1]; exact hc1 k x ex j hj)
        rw [ea] at c2
        rw [ea]
        have HX := hidOf ex
        have HR := hidOf er
        have H1 := hidOf h1
        have H2 := hidOf h2
        have HK := hidOf hk
        clear ex er ez hc1 ea h1 h2
        have hA : (0 : Int) ≤ (k : Int) := by omega
        have hB : (k : Int) < (p.chunks.length : Int) := by omega
        go_wp2_with fail
        refine (isSpl_any x a c vs r _ hm0 HR.out hr (V0.below A2 (Nat.le_refl _))).mono ?_
        rintro e w3 ⟨rfl, hb3⟩
        go_wp2
        go_ret
        exact ⟨_, rfl, (spl_at H1.out H2.out HK.out HX.out).symm, BW.trans (hb3.mono BW.size)⟩
      · obtain ⟨rfl, hb2⟩ := hq.no h2
        have A2 := A1.trans (hb2.mono A1.size)
        go_wp2
        go_ret
        exact tells_no (fun h => h2 h.vals) (B0.trans (A2.mono B0.size))
    · obtain ⟨rfl, A1⟩ := hq.no h1
      go_wp2
      go_ret
      exact tells_no (fun h => h1 h.right) (B0.trans (A1.mono B0.size))
  · rw [inB_no hi] at q0
    have HI := hidOf hi
    have HB : ∀ o1 : Obj, Below w.heap.size w (w.alloc o1) := fun o1 => (Below.refl _ _).alloc (Nat.le_refl _) _
    clear hi hp hv
    go_enter Try.func14, Try.ntmps14
    go_wp2_with (go_at_call 77; refine (q0 _).mono ?_; rintro e w1 ⟨rfl, rfl⟩)
    go_ret
    exact tells_no (fun h => HI.out ⟨h.low, h.high⟩) (HB _)

set_option maxHeartbeats 8000000 in
theorem sAt_any (p : Pc) (l : Pl) (a : Option Addr) (c : Nat) (vs : List Int) (i : Int) (w : World) (hF : PcFew p) (hm0 : vs.length ≤ 1048576) (hp : PcIn w p l) (hv : KidsAt w a vs) :
    Calls Try.prog 23 #[pcV p l, .slice a vs.length c, .int .i64 i] w fun e w' => Tells (SplitAt p vs i) w e w' := by
  show Calls _ _ #[.agg #[.int .i64 p.indent, .slice l.a1 p.rules.length l.c1, .slice l.a2 p.chunks.length l.c2, .slice l.a3 p.spans.length l.c3, .slice l.a4 p.ties.length l.c4], _, _] _ _
  have hcl := hF.chunks
  go_enter Try.func23, Try.ntmps23
  go_wp2_with fail
  obtain ⟨W0, hW0, X0, B0, S0⟩ := boxed w p l 29
  rw [← hW0]
  have I0 := hp.below B0 (Nat.le_refl _)
  have V0 := hv.below B0 (Nat.le_refl _)
  have hX : w.heap.size < W0.heap.size := by omega
  clear hW0 S0 hp hv
  obtain ⟨-, c0, c1, c2, c3, c4⟩ := X0
  refine (sOk_any p l _ hF I0).mono ?_
  rintro e w1 hq
  by_cases h1 : Right p
  · obtain ⟨rfl, A1⟩ := hq.yes h1
    have k1 := fun o => A1.cell (p := ⟨w.heap.size, o, none⟩) hX
    clear hq
    go_wp2_with fail
    refine (sVal_any p l a c vs _ hF.rules hm0 (noLeast_right h1.rules) (I0.rules.below A1 (Nat.le_refl _)) (V0.below A1 (Nat.le_refl _))).mono ?_
    rintro e w2 hq
    by_cases h2 : ValOk p vs
    · obtain ⟨rfl, hb2⟩ := hq.yes h2
      have A2 := A1.trans (hb2.mono A1.size)
      have k2 := fun o => A2.cell (p := ⟨w.heap.size, o, none⟩) hX
      have BW := B0.trans (A2.mono B0.size)
      clear hq hb2 k1
      have q0 := fun W => sIn_any i 0 ((p.chunks.length : Int) - 2) W
      by_cases hi : 0 ≤ i ∧ i ≤ (p.chunks.length : Int) - 2
      · rw [inB_yes hi.1 hi.2] at q0
        obtain ⟨k, rfl⟩ := Int.eq_ofNat_of_zero_le hi.1
        have hk := hi.2
        clear hi
        go_wp2_with fail
        refine (q0 _).mono ?_
        rintro e w2 ⟨rfl, rfl⟩
        go_wp2_with fail
        refine (s08At_any p l a c vs k _ hF hm0 (I0.below A2 (Nat.le_refl _)) (V0.below A2 (Nat.le_refl _)) h1 h2 hk).mono ?_
        rintro e w3 hq
        by_cases h3 : SplitAt p vs (k : Int)
        · obtain ⟨rfl, hb3⟩ := hq.yes h3
          go_wp2
          go_ret
          exact tells_yes h3 (BW.trans (hb3.mono BW.size))
        · obtain ⟨rfl, hb3⟩ := hq.no h3
          go_wp2
          go_ret
          exact tells_no h3 (BW.trans (hb3.mono BW.size))
      · rw [inB_no hi] at q0
        have HI := hidOf hi
        clear hi
        go_wp2_with fail
        refine (q0 _).mono ?_
        rintro e w2 ⟨rfl, rfl⟩
        go_wp2
        go_ret
        exact tells_no (fun h => HI.out ⟨h.low, h.high⟩) BW
    · obtain ⟨rfl, hb2⟩ := hq.no h2
      have A2 := A1.trans (hb2.mono A1.size)
      go_wp2
      go_ret
      exact tells_no (fun h => h2 h.vals) (B0.trans (A2.mono B0.size))
  · obtain ⟨rfl, A1⟩ := hq.no h1
    go_wp2
    go_ret
    exact tells_no (fun h => h1 h.right) (B0.trans (A1.mono B0.size))
end Go.Proofs.Ytokfemlcamnaaaa
