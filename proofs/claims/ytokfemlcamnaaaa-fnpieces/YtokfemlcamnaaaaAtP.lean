/- What impl.SplitsAt and spec.SplitsAt answer. -/
import Derived.Test.YtokfemlcamnaaaaValP
import Derived.Test.YtokfemlcamnaaaaAt8
namespace Go.Proofs.Ytokfemlcamnaaaa
open Go.RowKit

set_option maxHeartbeats 8000000 in
theorem iAt_any (p : Pc) (l : Pl) (a : Option Addr) (c : Nat) (vs : List Int) (i : Int) (w : World) (hF : PcFew p) (hm0 : vs.length ≤ 1048576) (hp : PcIn w p l) (hv : KidsAt w a vs) :
    Calls Try.prog 14 #[pcV p l, .slice a vs.length c, .int .i64 i] w fun e w' => Tells (SplitAt p vs i) w e w' := by
  show Calls _ _ #[.agg #[.int .i64 p.indent, .slice l.a1 p.rules.length l.c1, .slice l.a2 p.chunks.length l.c2, .slice l.a3 p.spans.length l.c3, .slice l.a4 p.ties.length l.c4], _, _] _ _
  have hcl := hF.chunks
  have q0 := fun W => iIn_any i 0 ((p.chunks.length : Int) - 2) W
  by_cases hi : 0 ≤ i ∧ i ≤ (p.chunks.length : Int) - 2
  · rw [inB_yes hi.1 hi.2] at q0
    obtain ⟨k, rfl⟩ := Int.eq_ofNat_of_zero_le hi.1
    have hk := hi.2
    clear hi
    go_enter Try.func14, Try.ntmps14
    go_wp2_with fail
    obtain ⟨W0, hW0, X0, B0, S0⟩ := boxed w p l 29
    rw [← hW0]
    have I0 := hp.below B0 (Nat.le_refl _)
    have V0 := hv.below B0 (Nat.le_refl _)
    have hX : w.heap.size < W0.heap.size := by omega
    clear hW0 S0 hp hv
    obtain ⟨-, c0, c1, c2, c3, c4⟩ := X0
    refine (q0 _).mono ?_
    rintro e W0 ⟨rfl, rfl⟩
    go_wp2_with fail
    refine (iOk_any p l _ hF I0).mono ?_
    rintro e w1 hq
    by_cases h1 : Right p
    · obtain ⟨rfl, A1⟩ := hq.yes h1
      have k1 := fun o => A1.cell (p := ⟨w.heap.size, o, none⟩) hX
      clear hq
      go_wp2_with fail
      refine (iVal_any p l a c vs _ hF.rules hm0 (noLeast_right h1.rules) (I0.rules.below A1 (Nat.le_refl _)) (V0.below A1 (Nat.le_refl _))).mono ?_
      rintro e w2 hq
      by_cases h2 : ValOk p vs
      · obtain ⟨rfl, hb2⟩ := hq.yes h2
        have A2 := A1.trans (hb2.mono A1.size)
        have k2 := fun o => A2.cell (p := ⟨w.heap.size, o, none⟩) hX
        have BW := B0.trans (A2.mono B0.size)
        clear hq hb2 k1
        obtain ⟨x, r, z, ex, er, hr, ez⟩ := split_val h1 h2 hk
        obtain ⟨b1, o1, ea, hb1, hc1⟩ := I0.chunks (by omega)
        obtain ⟨p0, p1, p2, p3, p4⟩ := chC (w := w2) (fun j hj => by rw [A2.cell hb1]; exact hc1 k x ex j hj)
        rw [ea] at c2
        rw [ea]
        have HX := hidOf ex
        have HR := hidOf er
        have H1 := hidOf h1
        have H2 := hidOf h2
        have HK := hidOf hk
        clear ex er ez hc1 ea h1 h2
        have hA : (0 : Int) ≤ (k : Int) := by omega
        have hB : (k : Int) < (p.chunks.length : Int) := by omega
        go_wp2_with fail
        refine (isSpl_any x a c vs r _ hm0 HR.out hr (V0.below A2 (Nat.le_refl _))).mono ?_
        rintro e w3 ⟨rfl, hb3⟩
        go_wp2
        go_ret
        exact ⟨_, rfl, (spl_at H1.out H2.out HK.out HX.out).symm, BW.trans (hb3.mono BW.size)⟩
      · obtain ⟨rfl, hb2⟩ := hq.no h2
        have A2 := A1.trans (hb2.mono A1.size)
        go_wp2
        go_ret
        exact tells_no (fun h => h2 h.vals) (B0.trans (A2.mono B0.size))
    · obtain ⟨rfl, A1⟩ := hq.no h1
      go_wp2
      go_ret
      exact tells_no (fun h => h1 h.right) (B0.trans (A1.mono B0.size))
  · rw [inB_no hi] at q0
    have HI := hidOf hi
    have HB : ∀ o1 : Obj, Below w.heap.size w (w.alloc o1) := fun o1 => (Below.refl _ _).alloc (Nat.le_refl _) _
    clear hi hp hv
    go_enter Try.func14, Try.ntmps14
    go_wp2_with (go_at_call 77; refine (q0 _).mono ?_; rintro e w1 ⟨rfl, rfl⟩)
    go_ret
    exact tells_no (fun h => HI.out ⟨h.low, h.high⟩) (HB _)

set_option maxHeartbeats 8000000 in
theorem sAt_any (p : Pc) (l : Pl) (a : Option Addr) (c : Nat) (vs : List Int) (i : Int) (w : World) (hF : PcFew p) (hm0 : vs.length ≤ 1048576) (hp : PcIn w p l) (hv : KidsAt w a vs) :
    Calls Try.prog 23 #[pcV p l, .slice a vs.length c, .int .i64 i] w fun e w' => Tells (SplitAt p vs i) w e w' := by
  show Calls _ _ #[.agg #[.int .i64 p.indent, .slice l.a1 p.rules.length l.c1, .slice l.a2 p.chunks.length l.c2, .slice l.a3 p.spans.length l.c3, .slice l.a4 p.ties.length l.c4], _, _] _ _
  have hcl := hF.chunks
  go_enter Try.func23, Try.ntmps23
  go_wp2_with fail
  obtain ⟨W0, hW0, X0, B0, S0⟩ := boxed w p l 29
  rw [← hW0]
  have I0 := hp.below B0 (Nat.le_refl _)
  have V0 := hv.below B0 (Nat.le_refl _)
  have hX : w.heap.size < W0.heap.size := by omega
  clear hW0 S0 hp hv
  obtain ⟨-, c0, c1, c2, c3, c4⟩ := X0
  refine (sOk_any p l _ hF I0).mono ?_
  rintro e w1 hq
  by_cases h1 : Right p
  · obtain ⟨rfl, A1⟩ := hq.yes h1
    have k1 := fun o => A1.cell (p := ⟨w.heap.size, o, none⟩) hX
    clear hq
    go_wp2_with fail
    refine (sVal_any p l a c vs _ hF.rules hm0 (noLeast_right h1.rules) (I0.rules.below A1 (Nat.le_refl _)) (V0.below A1 (Nat.le_refl _))).mono ?_
    rintro e w2 hq
    by_cases h2 : ValOk p vs
    · obtain ⟨rfl, hb2⟩ := hq.yes h2
      have A2 := A1.trans (hb2.mono A1.size)
      have k2 := fun o => A2.cell (p := ⟨w.heap.size, o, none⟩) hX
      have BW := B0.trans (A2.mono B0.size)
      clear hq hb2 k1
      have q0 := fun W => sIn_any i 0 ((p.chunks.length : Int) - 2) W
      by_cases hi : 0 ≤ i ∧ i ≤ (p.chunks.length : Int) - 2
      · rw [inB_yes hi.1 hi.2] at q0
        obtain ⟨k, rfl⟩ := Int.eq_ofNat_of_zero_le hi.1
        have hk := hi.2
        clear hi
        go_wp2_with fail
        refine (q0 _).mono ?_
        rintro e w2 ⟨rfl, rfl⟩
        go_wp2_with fail
        refine (s08At_any p l a c vs k _ hF hm0 (I0.below A2 (Nat.le_refl _)) (V0.below A2 (Nat.le_refl _)) h1 h2 hk).mono ?_
        rintro e w3 hq
        by_cases h3 : SplitAt p vs (k : Int)
        · obtain ⟨rfl, hb3⟩ := hq.yes h3
          go_wp2
          go_ret
          exact tells_yes h3 (BW.trans (hb3.mono BW.size))
        · obtain ⟨rfl, hb3⟩ := hq.no h3
          go_wp2
          go_ret
          exact tells_no h3 (BW.trans (hb3.mono BW.size))
      · rw [inB_no hi] at q0
        have HI := hidOf hi
        clear hi
        go_wp2_with fail
        refine (q0 _).mono ?_
        rintro e w2 ⟨rfl, rfl⟩
        go_wp2
        go_ret
        exact tells_no (fun h => HI.out ⟨h.low, h.high⟩) BW
    · obtain ⟨rfl, hb2⟩ := hq.no h2
      have A2 := A1.trans (hb2.mono A1.size)
      go_wp2
      go_ret
      exact tells_no (fun h => h2 h.vals) (B0.trans (A2.mono B0.size))
  · obtain ⟨rfl, A1⟩ := hq.no h1
    go_wp2
    go_ret
    exact tells_no (fun h => h1 h.right) (B0.trans (A1.mono B0.size))
end Go.Proofs.Ytokfemlcamnaaaa
