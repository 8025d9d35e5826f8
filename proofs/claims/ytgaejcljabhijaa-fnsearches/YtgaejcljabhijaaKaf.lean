/- What impl.chunksOk and impl.PieceOk answer. -/
import Derived.Test.YtgaejcljabhijaaKae
import Derived.Test.YtgaejcljabhijaaBoxPc
import Derived.Test.YtgaejcljabhijaaKad
namespace Go.Proofs.Ytgaejcljabhijaa
open Go.RowKit

set_option maxHeartbeats 8000000 in
theorem iChunks_any (p : Pc) (l : Pl) (w : World) (hF : PcFew p) (hp : PcIn w p l) :
    Calls Try.prog 99 #[pcV p l] w fun e w' => Tells (ChunksOk p) w e w' := by
  show Calls _ _ #[.agg #[.int .i64 p.indent, .slice l.a1 p.rules.length l.c1, .slice l.a2 p.chunks.length l.c2, .slice l.a3 p.spans.length l.c3, .slice l.a4 p.ties.length l.c4]] _ _
  have hr0 := hF.rules
  have HF := hidOf hF
  clear hF
  by_cases hn : 1 ≤ (p.chunks.length : Int) ∧ (p.chunks.length : Int) ≤ 80
  · have i0 := inB_yes hn.1 hn.2
    have HNN := hidOf hn
    go_enter Try.func99, Try.ntmps99
    go_wp2_with fail
    obtain ⟨W0, hW0, X0, B0, S0⟩ := boxed w p l 29
    rw [← hW0]
    have I0 := hp.below B0 (Nat.le_refl _)
    have hX : w.heap.size < W0.heap.size := by omega
    clear hW0 S0 hp
    obtain ⟨-, c0, c1, c2, c3, c4⟩ := X0
    refine (iIn_any _ _ _ _).mono ?_
    rintro e W0 ⟨rfl, rfl⟩
    obtain ⟨n, hn'⟩ : ∃ n, n = p.chunks.length := ⟨_, rfl⟩
    have HN := hidOf hn'
    have R0 := I0.rules
    have K0 := I0.chunks
    unfold RowsAt at K0
    rw [← hn'] at hn c2 K0 i0 ⊢
    clear hn' I0
    obtain ⟨hn1, hn2⟩ := hn
    go_wp2
    clear i0
    go_loopw [18] (fun i wr => ∃ k : Nat, k ≤ n ∧ i = .int .i64 k ∧ Hid (∀ (j : Nat) (x : Ch), j < k → p.chunks[j]? = some x → Plain x.text ∧ (j + 1 < p.chunks.length → SplitOk p.rules x)) ∧ Below W0.heap.size W0 wr) (fun i _ => n - (intOf i).toNat)
    case atStart => exact ⟨0, Nat.zero_le _, rfl, hidOf fun j x h => by omega, Below.refl _ _⟩
    case round =>
      obtain ⟨k, hk, rfl, HA, hb⟩ := hrel
      have BW := B0.trans (hb.mono B0.size)
      have hXr : w.heap.size < wr.heap.size := by have := hb.size; omega
      have hcc := fun o => hb.cell (p := ⟨w.heap.size, o, none⟩) hX
      by_cases hlt : k < n
      · obtain ⟨x, ex⟩ : ∃ x, p.chunks[k]? = some x := ⟨_, List.getElem?_eq_getElem (by rw [← HN.out]; exact hlt)⟩
        obtain ⟨b1, o1, ea, hb1, hc1⟩ := K0 (by omega)
        obtain ⟨p0, p1, p2, p3, p4⟩ := chC (w := wr) (fun j hj => by rw [hb.cell hb1]; exact hc1 k x ex j hj)
        have hxt := HF.out.texts k x ex
        rw [ea]
        have EX := hidOf ex
        have HB : ∀ o1 : Obj, Below W0.heap.size W0 (wr.alloc o1) := fun o1 => hb.alloc hb.size _
        have HBW : ∀ o1 : Obj, Below w.heap.size w (wr.alloc o1) := fun o1 => BW.alloc BW.size _
        clear ex hc1 K0 ea
        have hA : (0 : Int) ≤ (k : Int) := by omega
        have hB : (k : Int) < (n : Int) := by omega
        by_cases hP : Plain x.text
        · by_cases hl : k + 1 < n
          · have hl' : (k : Int) < (n : Int) - 1 := by omega
            by_cases hS : SplitOk p.rules x
            · go_wp2_with (first | (go_at_call 117; refine (iPlain_any _ _ hxt).mono ?_; rintro e w1 hq; obtain ⟨rfl, rfl⟩ := hq.yes hP) | (go_at_call 118; refine (iSplit_any _ _ _ x _ hr0 (R0.below (HB _) (Nat.le_refl _))).mono ?_; rintro e w1 hq; obtain ⟨rfl, hb2⟩ := hq.yes hS))
              go_roundw
              case rel => exact ⟨k + 1, by omega, by go_num, hidOf (fun j y hj hy => by
                by_cases e : j = k
                · subst e
                  have e1 := EX.out
                  rw [hy] at e1
                  cases e1
                  exact ⟨hP, fun _ => hS⟩
                · exact HA.out j y (by omega) hy), (HB _).trans (hb2.mono (HB _).size)⟩
              case measure => simp [intOf]; omega
            · go_wp2_with (first | (go_at_call 117; refine (iPlain_any _ _ hxt).mono ?_; rintro e w1 hq; obtain ⟨rfl, rfl⟩ := hq.yes hP) | (go_at_call 118; refine (iSplit_any _ _ _ x _ hr0 (R0.below (HB _) (Nat.le_refl _))).mono ?_; rintro e w1 hq; obtain ⟨rfl, hb2⟩ := hq.no hS))
              go_ret
              exact tells_no (fun h => hS ((h.texts k x EX.out).2 (by have := HN.out; omega))) ((HBW _).trans (hb2.mono (HBW _).size))
          · have hl' : ¬ (k : Int) < (n : Int) - 1 := by omega
            go_wp2_with (go_at_call 117; refine (iPlain_any _ _ hxt).mono ?_; rintro e w1 hq; obtain ⟨rfl, rfl⟩ := hq.yes hP)
            go_roundw
            case rel => exact ⟨k + 1, by omega, by go_num, hidOf (fun j y hj hy => by
              by_cases e : j = k
              · subst e
                have e1 := EX.out
                rw [hy] at e1
                cases e1
                exact ⟨hP, fun h => by have := HN.out; omega⟩
              · exact HA.out j y (by omega) hy), HB _⟩
            case measure => simp [intOf]; omega
        · go_wp2_with (go_at_call 117; refine (iPlain_any _ _ hxt).mono ?_; rintro e w1 hq; obtain ⟨rfl, rfl⟩ := hq.no hP)
          go_ret
          exact tells_no (fun h => hP (h.texts k x EX.out).1) (HBW _)
      · obtain ⟨x, ex⟩ : ∃ x, p.chunks[n - 1]? = some x := ⟨_, List.getElem?_eq_getElem (by rw [← HN.out]; omega)⟩
        obtain ⟨b1, o1, ea, hb1, hc1⟩ := K0 (by omega)
        obtain ⟨p0, p1, p2, p3, p4⟩ := chC (w := wr) (fun j hj => by rw [hb.cell hb1]; exact hc1 (n - 1) x ex j hj)
        rw [ea] at c2 ⊢
        obtain ⟨m, hm⟩ : ∃ m, n = m + 1 := ⟨n - 1, by omega⟩
        subst hm
        simp only [Nat.add_sub_cancel] at p0 p1 p2 p3 p4 ex
        have EX := hidOf ex
        clear ex hc1 K0 ea
        have hA : (0 : Int) ≤ (m : Int) := by omega
        have HL : ∀ y, p.chunks[p.chunks.length - 1]? = some y → y = x := fun y hy => by
          rw [← HN.out, Nat.add_sub_cancel, EX.out] at hy
          exact (Option.some.inj hy).symm
        have HX : p.chunks[p.chunks.length - 1]? = some x := by rw [← HN.out, Nat.add_sub_cancel]; exact EX.out
        have HLL := hidOf HL
        have HXX := hidOf HX
        clear HL HX
        go_wp2
        all_goals go_ret
        rotate_left 1
        all_goals first
          | exact tells_no (P := ChunksOk p) (fun h => by obtain ⟨h1, h2, h3, h4⟩ := h.last x HXX.out; first | contradiction | (have q := ‹x.space = true›; rw [h3] at q; cases q)) BW
          | skip
        exact tells_yes ⟨by have := HN.out; omega, by have := HN.out; omega, fun j y hy => HA.out j y (by have := (List.getElem?_eq_some_iff.1 hy).1; have := HN.out; omega) hy, fun y hy => by rw [HLL.out y hy]; exact ⟨by assumption, by assumption, by simpa using ‹¬ x.space = true›, by assumption⟩⟩ BW
  · have i0 := inB_no hn
    have HNN := hidOf hn
    have HB0 : ∀ o1 : Obj, Below w.heap.size w (w.alloc o1) := fun o1 => (Below.refl _ _).alloc (Nat.le_refl _) _
    clear hn
    go_enter Try.func99, Try.ntmps99
    go_wp2_with (go_at_call 97; refine (iIn_any _ _ _ _).mono ?_; rintro e w1 ⟨rfl, rfl⟩)
    go_ret
    exact tells_no (fun h => HNN.out ⟨by have := h.least; omega, by have := h.most; omega⟩) (HB0 _)

set_option maxHeartbeats 8000000 in
theorem iOk_any (p : Pc) (l : Pl) (w : World) (hF : PcFew p) (hp : PcIn w p l) :
    Calls Try.prog 64 #[pcV p l] w fun e w' => Tells (Right p) w e w' := by
  show Calls _ _ #[.agg #[.int .i64 p.indent, .slice l.a1 p.rules.length l.c1, .slice l.a2 p.chunks.length l.c2, .slice l.a3 p.spans.length l.c3, .slice l.a4 p.ties.length l.c4]] _ _
  go_enter Try.func64, Try.ntmps64
  go_wp2_with fail
  obtain ⟨W0, hW0, X0, B0, S0⟩ := boxed w p l 29
  rw [← hW0]
  have I0 := hp.below B0 (Nat.le_refl _)
  have hX : w.heap.size < W0.heap.size := by omega
  clear hW0 S0 hp
  refine (iIn_any _ _ _ _).mono ?_
  rintro e W0 ⟨rfl, rfl⟩
  by_cases h0 : 0 ≤ p.indent ∧ p.indent ≤ 60
  · have i0 := inB_yes h0.1 h0.2
    have H0 := hidOf h0
    clear h0
    obtain ⟨-, c0, c1, c2, c3, c4⟩ := X0
    go_wp2_with fail
    refine (iRules_any _ _ _ _ hF.rules I0.rules).mono ?_
    rintro e w1 hq
    by_cases h1 : RulesOk p.rules
    · obtain ⟨rfl, A1⟩ := hq.yes h1
      have k1 := fun o => A1.cell (p := ⟨w.heap.size, o, none⟩) hX
      clear hq
      go_wp2_with fail
      refine (iChunks_any p l _ hF (I0.below A1 (Nat.le_refl _))).mono ?_
      rintro e w2 hq
      by_cases h2 : ChunksOk p
      · obtain ⟨rfl, hb2⟩ := hq.yes h2
        have A2 := A1.trans (hb2.mono A1.size)
        have k2 := fun o => A2.cell (p := ⟨w.heap.size, o, none⟩) hX
        clear hq hb2 k1
        go_wp2_with fail
        refine (iSpans_any p l _ hF.spans hF.chunks (I0.spans.below A2 (Nat.le_refl _))).mono ?_
        rintro e w3 hq
        by_cases h3 : SpansOk p
        · obtain ⟨rfl, hb3⟩ := hq.yes h3
          have A3 := A2.trans (hb3.mono A2.size)
          have k3 := fun o => A3.cell (p := ⟨w.heap.size, o, none⟩) hX
          clear hq hb3 k2
          go_wp2_with fail
          refine (iTies_any p l _ hF.ties hF.rules (I0.ties.below A3 (Nat.le_refl _))).mono ?_
          rintro e w4 hq
          by_cases h4 : TiesOk p
          · obtain ⟨rfl, hb4⟩ := hq.yes h4
            have A4 := A3.trans (hb4.mono A3.size)
            go_wp2
            go_ret
            exact tells_yes ⟨H0.out, h1, h2, h3, h4⟩ (B0.trans (A4.mono B0.size))
          · obtain ⟨rfl, hb4⟩ := hq.no h4
            have A4 := A3.trans (hb4.mono A3.size)
            go_wp2
            go_ret
            exact tells_no (fun h => h4 h.ties) (B0.trans (A4.mono B0.size))
        · obtain ⟨rfl, hb3⟩ := hq.no h3
          have A3 := A2.trans (hb3.mono A2.size)
          go_wp2
          go_ret
          exact tells_no (fun h => h3 h.spans) (B0.trans (A3.mono B0.size))
      · obtain ⟨rfl, hb2⟩ := hq.no h2
        have A2 := A1.trans (hb2.mono A1.size)
        go_wp2
        go_ret
        exact tells_no (fun h => h2 h.chunks) (B0.trans (A2.mono B0.size))
    · obtain ⟨rfl, A1⟩ := hq.no h1
      go_wp2
      go_ret
      exact tells_no (fun h => h1 h.rules) (B0.trans (A1.mono B0.size))
  · have i0 := inB_no h0
    have H0 := hidOf h0
    clear h0
    go_wp2
    go_ret
    exact tells_no (fun h => H0.out h.indent) B0
end Go.Proofs.Ytgaejcljabhijaa
/- What impl.isSplit answers. -/
namespace Go.Proofs.Ytgaejcljabhijaa
open Go.RowKit

set_option maxHeartbeats 4000000 in
theorem isSpl_any (x : Ch) (a : Option Addr) (c : Nat) (vs : List Int) (r : Nat) (w : World) (hm0 : vs.length ≤ 1048576) (hr : x.rule = (r : Int)) (hrl : r < vs.length) (hv : KidsAt w a vs) :
    Calls Try.prog 128 #[.agg #[.int .i64 x.rule, .int .i64 x.frm, .bool x.space, .int .i64 x.nest], .slice a vs.length c] w fun e w' => e = .returned (.bool (spl vs x)) ∧ Below w.heap.size w w' := by
  have hm1 := hm0
  clear hm0
  have HB : ∀ o1 : Obj, Below w.heap.size w (w.alloc o1) := fun o1 => (Below.refl _ _).alloc (Nat.le_refl _) _
  have ez := List.getElem?_eq_getElem hrl
  obtain ⟨z, hz⟩ : ∃ z, z = vs[r] := ⟨_, rfl⟩
  rw [← hz] at ez
  clear hz
  obtain ⟨b2, o2, eb, hb2, hc2⟩ := hv (by omega)
  have zc := fun ob : Obj => ((HB ob).cell (p := ⟨b2, o2 + r, none⟩) hb2).trans (hc2 r z ez)
  rw [spl_of hr ez, hr, eb]
  clear hc2 eb ez hv
  have hA2 : (0 : Int) ≤ (r : Int) := by omega
  have hB2 : (r : Int) < (vs.length : Int) := by omega
  by_cases hf : x.frm ≤ z
  · have hfd : decide (z ≥ x.frm) = true := by rw [decide_eq_true_eq]; exact hf
    have hft : decide (x.frm ≤ z) = true := by rw [decide_eq_true_eq]; exact hf
    rw [hft]
    clear hft
    go_enter Try.func128, Try.ntmps128
    go_wp2
    go_quiet (fail)
    go_wp2
    go_ret
    exact ⟨rfl, bel_drewN (HB _) _⟩
  · have hfd : decide (z ≥ x.frm) = false := by rw [decide_eq_false_iff_not]; omega
    have hft : decide (x.frm ≤ z) = false := by rw [decide_eq_false_iff_not]; omega
    rw [hft]
    clear hft
    go_enter Try.func128, Try.ntmps128
    go_wp2
    go_quiet (fail)
    go_wp2
    go_ret
    exact ⟨rfl, bel_drewN (HB _) _⟩
end Go.Proofs.Ytgaejcljabhijaa
/- What impl.nextLine, impl.lineIn, impl.hasBlank and impl.lineLength answer. -/
namespace Go.Proofs.Ytgaejcljabhijaa
open Go.RowKit

set_option maxHeartbeats 8000000 in
theorem next_any (p : Pc) (l : Pl) (a : Option Addr) (c : Nat) (vs : List Int) (k0 : Nat) (w : World) (hF : PcFew p) (hm0 : vs.length ≤ 1048576) (hp : PcIn w p l) (hv : KidsAt w a vs) (h1 : Right p) (h2 : ValOk p vs) (hk0 : k0 < p.chunks.length) :
    Calls Try.prog 119 #[pcV p l, .slice a vs.length c, .int .i64 k0] w fun e w' => ∃ n : Nat, e = .returned (.int .i64 n) ∧ Seg vs p.chunks k0 n ∧ Below w.heap.size w w' := by
  show Calls _ _ #[.agg #[.int .i64 p.indent, .slice l.a1 p.rules.length l.c1, .slice l.a2 p.chunks.length l.c2, .slice l.a3 p.spans.length l.c3, .slice l.a4 p.ties.length l.c4], _, _] _ _
  have hcl := hF.chunks
  have H1 := hidOf h1
  have H2 := hidOf h2
  clear h1 h2
  obtain ⟨W0, hW0, X0, B0, S0⟩ := boxed w p l 29
  have I0 := hp.below B0 (Nat.le_refl _)
  have V0 := hv.below B0 (Nat.le_refl _)
  have hX : w.heap.size < W0.heap.size := by omega
  have x2 := X0.c2
  go_enter Try.func119, Try.ntmps119
  go_wp2
  rw [← hW0]
  clear hW0 S0 hp hv X0
  go_loopw [8] (fun i wr => ∃ k : Nat, k0 ≤ k ∧ k + 1 ≤ p.chunks.length ∧ i = .int .i64 k ∧ Below W0.heap.size W0 wr ∧ Hid (∀ (i : Nat) (x : Ch), k0 ≤ i → i < k → p.chunks[i]? = some x → spl vs x = false)) (fun i _ => p.chunks.length - (intOf i).toNat)
  case atStart => exact ⟨k0, Nat.le_refl _, hk0, rfl, Below.refl _ _, hidOf fun i x h h' => by omega⟩
  case round =>
    obtain ⟨k, hkk, hk, rfl, hb, HA⟩ := hrel
    have BW := B0.trans (hb.mono B0.size)
    have d2 := (hb.cell (p := ⟨w.heap.size, 2, none⟩) hX).trans x2
    by_cases hlt : (k : Int) < (p.chunks.length : Int) - 1
    · obtain ⟨x, r, z, ex, er, hr, ez⟩ := split_val H1.out H2.out (k := k) (by omega)
      obtain ⟨b1, o1, ea, hb1, hc1⟩ := I0.chunks (by omega)
      obtain ⟨p0, p1, p2, p3, p4⟩ := chC (w := wr) (fun j hj => by rw [hb.cell hb1]; exact hc1 k x ex j hj)
      have q0 := fun W hK => isSpl_any x a c vs r W hm0 er hr hK
      rw [ea] at d2
      rw [ea]
      have HX := hidOf ex
      clear ex er ez hc1 ea
      have hA : (0 : Int) ≤ (k : Int) := by omega
      have hB : (k : Int) < (p.chunks.length : Int) := by omega
      cases hs : spl vs x with
      | true =>
        rw [hs] at q0
        have HS := hidOf hs
        clear hs
        go_wp2_with fail
        refine (q0 _ (V0.below hb (Nat.le_refl _))).mono ?_
        rintro e w1 ⟨rfl, hb2⟩
        go_wp2
        go_ret
        refine ⟨k + 1, ret_int (by omega), ⟨by omega, by omega, fun i y h1 h2 h3 => HA.out i y h1 (by omega) h3, fun y h1 h2 => ?_⟩, BW.trans (hb2.mono BW.size)⟩
        have e1 := HX.out
        rw [show k + 1 - 1 = k by omega, e1] at h2
        cases h2
        exact HS.out
      | false =>
        rw [hs] at q0
        have HS := hidOf hs
        clear hs
        go_wp2_with fail
        refine (q0 _ (V0.below hb (Nat.le_refl _))).mono ?_
        rintro e w1 ⟨rfl, hb2⟩
        have hbb := hb.trans (hb2.mono hb.size)
        go_wp2
        go_roundw
        case rel => exact ⟨k + 1, by omega, by omega, by go_num, hbb, hidOf (fun i y h1 h2 h3 => by
          by_cases e : i = k
          · subst e
            have e1 := HX.out
            rw [e1] at h3
            cases h3
            exact HS.out
          · exact HA.out i y h1 (by omega) h3)⟩
        case measure => simp [intOf]; omega
    · go_wp2
      go_ret
      exact ⟨p.chunks.length, rfl, ⟨hk0, Nat.le_refl _, fun i y h1 h2 h3 => HA.out i y h1 (by omega) h3, fun y h => by omega⟩, BW⟩

set_option maxHeartbeats 4000000 in
theorem lineIn_any (p : Pc) (l : Pl) (k : Nat) (w : World) (hF : PcFew p) (hp : PcIn w p l) (h1 : Right p) (hk : k < p.chunks.length) :
    Calls Try.prog 129 #[pcV p l, .int .i64 k] w fun e w' => e = .returned (.int .i64 (inOf p k)) ∧ Below w.heap.size w w' := by
  show Calls _ _ #[.agg #[.int .i64 p.indent, .slice l.a1 p.rules.length l.c1, .slice l.a2 p.chunks.length l.c2, .slice l.a3 p.spans.length l.c3, .slice l.a4 p.ties.length l.c4], _] _ _
  have hcl := hF.chunks
  have HB : ∀ o1 : Obj, Below w.heap.size w (w.alloc o1) := fun o1 => (Below.refl _ _).alloc (Nat.le_refl _) _
  have hin := h1.indent
  by_cases h0 : k = 0
  · subst h0
    rw [inOf_zero]
    go_enter Try.func129, Try.ntmps129
    go_wp2
    go_ret
    exact ⟨rfl, HB _⟩
  · obtain ⟨j, rfl⟩ : ∃ j, k = j + 1 := ⟨k - 1, by omega⟩
    obtain ⟨x, ex⟩ : ∃ x, p.chunks[j]? = some x := ⟨_, List.getElem?_eq_getElem (by omega)⟩
    rw [inOf_at h0 (show p.chunks[j + 1 - 1]? = some x from ex)]
    obtain ⟨-, hs⟩ := h1.chunks.texts j _ ex
    obtain ⟨-, -, hn1, hn2⟩ := hs hk
    obtain ⟨b1, o1, ea, hb1, hc1⟩ := hp.chunks (by omega)
    have hch := fun ob : Obj => chC (w := w.alloc ob) (fun i hi => by rw [(HB ob).cell hb1]; exact hc1 j x ex i hi)
    have p4 := fun ob => (hch ob).2.2.2.2
    rw [ea, show ((j + 1 : Nat) : Int) = (j : Int) + 1 by omega]
    clear ex hc1 ea hch hp hs h0
    have hA : (0 : Int) ≤ (j : Int) := by omega
    have hB : (j : Int) < (p.chunks.length : Int) := by omega
    have hne : ((j : Int) + 1 == 0) = false := by simp; omega
    have hwv : IntKind.i64.wrap (p.indent + x.nest) = p.indent + x.nest := IntWalk.i64_in _ ⟨by omega, by omega⟩
    have hwj : IntKind.i64.wrap ((j : Int) + 1 - 1) = (j : Int) := by rw [show (j : Int) + 1 - 1 = j by omega]; exact IntWalk.i64_in _ ⟨by omega, by omega⟩
    have hwj2 : IntKind.i64.wrap (j : Int) = (j : Int) := IntWalk.i64_in _ ⟨by omega, by omega⟩
    go_enter Try.func129, Try.ntmps129
    go_wp2
    go_quiet (fail)
    go_wp2
    go_ret
    exact ⟨rfl, bel_drewN (HB _) _⟩

set_option maxHeartbeats 4000000 in
theorem blank_any (p : Pc) (l : Pl) (k n : Nat) (x : Ch) (w : World) (hF : PcFew p) (hp : RowsAt 5 chCells w l.a2 p.chunks) (hk : k < n) (hn : n ≤ p.chunks.length) (hx : p.chunks[k]? = some x) :
    Calls Try.prog 130 #[pcV p l, .int .i64 k, .int .i64 n] w fun e w' => e = .returned (.bool (decide (k + 1 < n) && x.space)) ∧ Below w.heap.size w w' := by
  show Calls _ _ #[.agg #[.int .i64 p.indent, .slice l.a1 p.rules.length l.c1, .slice l.a2 p.chunks.length l.c2, .slice l.a3 p.spans.length l.c3, .slice l.a4 p.ties.length l.c4], _, _] _ _
  have hcl := hF.chunks
  have HB : ∀ o1 : Obj, Below w.heap.size w (w.alloc o1) := fun o1 => (Below.refl _ _).alloc (Nat.le_refl _) _
  by_cases hlt : k + 1 < n
  · obtain ⟨b1, o1, ea, hb1, hc1⟩ := hp (by omega)
    have hch := fun ob : Obj => chC (w := w.alloc ob) (fun i hi => by rw [(HB ob).cell hb1]; exact hc1 k x hx i hi)
    have p3 := fun ob => (hch ob).2.2.2.1
    rw [ea, decide_eq_true hlt, Bool.true_and]
    clear hx hc1 ea hch hp
    have hA : (0 : Int) ≤ (k : Int) := by omega
    have hB : (k : Int) < (p.chunks.length : Int) := by omega
    have hC : (k : Int) < (n : Int) - 1 := by omega
    go_enter Try.func130, Try.ntmps130
    go_wp2
    go_ret
    exact ⟨rfl, HB _⟩
  · rw [decide_eq_false hlt, Bool.false_and]
    have hC : ¬ (k : Int) < (n : Int) - 1 := by omega
    clear hx hp
    go_enter Try.func130, Try.ntmps130
    go_wp2
    go_ret
    exact ⟨rfl, HB _⟩

/-- A line is no shorter than its beginning. -/
theorem lin_ge : ∀ (cs : List Ch) (s : ByteArray), s.size ≤ (lin s cs).size
  | [], s => by rw [lin]; exact Nat.le_refl _
  | [x], s => by rw [lin, app_size]; omega
  | x :: y :: cs, s => by
    have ih := lin_ge (y :: cs) (s ++ x.text ++ sp1 x)
    rw [app_size, app_size] at ih
    rw [lin]
    omega
theorem lin_none {cs : List Ch} {n k : Nat} (s : ByteArray) (h : n ≤ k) : lin s ((cs.take n).drop k) = s := by
  rw [List.drop_of_length_le (by rw [List.length_take]; omega), lin]

set_option maxHeartbeats 8000000 in
theorem len_any (p : Pc) (l : Pl) (k0 n : Nat) (w : World) (hF : PcFew p) (hp : PcIn w p l) (h1 : Right p) (hk0 : k0 < n) (hn : n ≤ p.chunks.length) :
    Calls Try.prog 120 #[pcV p l, .int .i64 k0, .int .i64 n] w fun e w' => e = .returned (.int .i64 (lineOf p k0 n).size) ∧ Below w.heap.size w w' := by
  show Calls _ _ #[.agg #[.int .i64 p.indent, .slice l.a1 p.rules.length l.c1, .slice l.a2 p.chunks.length l.c2, .slice l.a3 p.spans.length l.c3, .slice l.a4 p.ties.length l.c4], _, _] _ _
  have hcl := hF.chunks
  obtain ⟨L, hL⟩ : ∃ L, L = lineOf p k0 n := ⟨_, rfl⟩
  have hLs : L.size ≤ 83886260 := by rw [hL]; exact lineOf_size h1 hF (by omega)
  rw [← hL]
  have HL := hidOf hL
  clear hL
  obtain ⟨W0, hW0, X0, B0, S0⟩ := boxed w p l 29
  have I0 := hp.below B0 (Nat.le_refl _)
  have hX : w.heap.size < W0.heap.size := by omega
  go_enter Try.func120, Try.ntmps120
  go_wp2_with fail
  rw [← hW0]
  clear hW0 S0 hp
  have hin := inOf_le h1 (show k0 < p.chunks.length by omega)
  refine (lineIn_any p l k0 _ hF I0 h1 (by omega)).mono ?_
  rintro e w1 ⟨rfl, hb1⟩
  clear h1
  have e0 : inOf p k0 = ((blanks (inOf p k0)).size : Int) := by rw [blanks_size]; omega
  rw [e0]
  clear e0
  go_wp2
  go_loopw [7, 8] (fun m i wr => ∃ (k : Nat) (s : ByteArray), k ≤ n ∧ i = .int .i64 k ∧ m = .int .i64 s.size ∧ Below W0.heap.size W0 wr ∧ Hid (lin s ((p.chunks.take n).drop k) = L)) (fun _ i _ => n - (intOf i).toNat)
  case atStart => exact ⟨k0, blanks (inOf p k0), by omega, rfl, rfl, hb1, hidOf (by rw [HL.out]; rfl)⟩
  case round =>
    obtain ⟨k, s, hk, rfl, rfl, hb, HI⟩ := hrel
    have BW := B0.trans (hb.mono B0.size)
    obtain ⟨-, c0, c1, c2, c3, c4⟩ := X0.below hb hX
    have hss : s.size ≤ 83886260 := by have h := lin_ge ((p.chunks.take n).drop k) s; rw [HI.out] at h; omega
    by_cases hlt : k < n
    · obtain ⟨x, ex⟩ : ∃ x, p.chunks[k]? = some x := ⟨_, List.getElem?_eq_getElem (by omega)⟩
      have hxs := hF.texts k x ex
      obtain ⟨b1, o1, ea, hb1, hc1⟩ := I0.chunks (by omega)
      obtain ⟨p0, p1, p2, p3, p4⟩ := chC (w := wr) (fun j hj => by rw [hb.cell hb1]; exact hc1 k x ex j hj)
      have q0 := fun W hR => blank_any p l k n x W hF hR hlt hn ex
      have HX := hidOf ex
      have hA : (0 : Int) ≤ (k : Int) := by omega
      have hB : (k : Int) < (p.chunks.length : Int) := by omega
      have hM : (k : Int) < (n : Int) := by omega
      have R0 := I0.chunks.below hb (Nat.le_refl _)
      have e2 := hidOf ea
      rw [ea] at c2
      clear ex hc1
      have q1 := q0 wr R0
      rw [show pcV p l = .agg #[.int .i64 p.indent, .slice l.a1 p.rules.length l.c1, .slice (some ⟨b1, o1, none⟩) p.chunks.length l.c2, .slice l.a3 p.spans.length l.c3, .slice l.a4 p.ties.length l.c4] by show Value.agg _ = _; rw [ea]] at q1
      clear ea q0 R0
      by_cases hm : k + 1 < n
      · cases hsp : x.space with
        | true =>
          rw [hsp, decide_eq_true hm] at q1
          have HE := hidOf (show lin (s ++ x.text ++ ⟨#[32]⟩) ((p.chunks.take n).drop (k + 1)) = L by rw [← sp1_yes hsp, ← lin_more s HX.out hm hn]; exact HI.out)
          clear hsp
          go_wp2_with fail
          refine q1.mono ?_
          rintro e w2 ⟨rfl, hb2⟩
          have hbb := hb.trans (hb2.mono hb.size)
          clear q1
          go_wp2
          go_roundw
          case rel => exact ⟨k + 1, _, by omega, by go_num, congrArg (Value.int .i64) (by rw [app_size, app_size]; show (s.size : Int) + x.text.size + 1 = ((s.size + x.text.size + 1 : Nat) : Int); omega), hbb, HE⟩
          case measure => simp [intOf]; omega
        | false =>
          rw [hsp, decide_eq_true hm] at q1
          have HE := hidOf (show lin (s ++ x.text) ((p.chunks.take n).drop (k + 1)) = L by rw [← app_none (s ++ x.text), ← sp1_no hsp, ← lin_more s HX.out hm hn]; exact HI.out)
          clear hsp
          go_wp2_with fail
          refine q1.mono ?_
          rintro e w2 ⟨rfl, hb2⟩
          have hbb := hb.trans (hb2.mono hb.size)
          clear q1
          go_wp2
          go_roundw
          case rel => exact ⟨k + 1, _, by omega, by go_num, congrArg (Value.int .i64) (by rw [app_size]; omega), hbb, HE⟩
          case measure => simp [intOf]; omega
      · rw [decide_eq_false hm, Bool.false_and] at q1
        have HE := hidOf (show lin (s ++ x.text) ((p.chunks.take n).drop (k + 1)) = L by rw [lin_none _ (by omega), ← lin_last s HX.out (show k + 1 = n by omega) hn]; exact HI.out)
        go_wp2_with fail
        refine q1.mono ?_
        rintro e w2 ⟨rfl, hb2⟩
        have hbb := hb.trans (hb2.mono hb.size)
        clear q1
        go_wp2
        go_roundw
        case rel => exact ⟨k + 1, _, by omega, by go_num, congrArg (Value.int .i64) (by rw [app_size]; omega), hbb, HE⟩
        case measure => simp [intOf]; omega
    · have hM : ¬ (k : Int) < (n : Int) := by omega
      have HE := hidOf (show s = L by rw [← lin_none s (show n ≤ k by omega)]; exact HI.out)
      go_wp2
      go_ret
      exact ⟨ret_int (by rw [HE.out]), BW⟩
end Go.Proofs.Ytgaejcljabhijaa
