/- What impl.chunksOk and impl.PieceOk answer. -/
import Derived.Test.YtghfpcjgionbaaaKah
import Derived.Test.YtghfpcjgionbaaaBoxPc
import Derived.Test.YtghfpcjgionbaaaKag
namespace Go.Proofs.Ytghfpcjgionbaaa
open Go.RowKit

set_option maxHeartbeats 8000000 in
theorem iChunks_any (p : Pc) (l : Pl) (w : World) (hF : PcFew p) (hp : PcIn w p l) :
    Calls Try.prog 85 #[pcV p l] w fun e w' => Tells (ChunksOk p) w e w' := by
  show Calls _ _ #[.agg #[.int .i64 p.indent, .slice l.a1 p.rules.length l.c1, .slice l.a2 p.chunks.length l.c2, .slice l.a3 p.spans.length l.c3, .slice l.a4 p.ties.length l.c4]] _ _
  have hr0 := hF.rules
  have HF := hidOf hF
  clear hF
  by_cases hn : 1 ≤ (p.chunks.length : Int) ∧ (p.chunks.length : Int) ≤ 80
  · have i0 := inB_yes hn.1 hn.2
    have HNN := hidOf hn
    go_enter Try.func85, Try.ntmps85
    go_wp2_with fail
    obtain ⟨W0, hW0, X0, B0, S0⟩ := boxed w p l 29
    rw [← hW0]
    have I0 := hp.below B0 (Nat.le_refl _)
    have hX : w.heap.size < W0.heap.size := by omega
    clear hW0 S0 hp
    obtain ⟨-, c0, c1, c2, c3, c4⟩ := X0
    refine (iIn_any _ _ _ _).mono ?_
    rintro e W0 ⟨rfl, rfl⟩
    obtain ⟨n, hn'⟩ : ∃ n, n = p.chunks.length := ⟨_, rfl⟩
    have HN := hidOf hn'
    have R0 := I0.rules
    have K0 := I0.chunks
    unfold RowsAt at K0
    rw [← hn'] at hn c2 K0 i0 ⊢
    clear hn' I0
    obtain ⟨hn1, hn2⟩ := hn
    go_wp2
    clear i0
    go_loopw [18] (fun i wr => ∃ k : Nat, k ≤ n ∧ i = .int .i64 k ∧ Hid (∀ (j : Nat) (x : Ch), j < k → p.chunks[j]? = some x → Plain x.text ∧ (j + 1 < p.chunks.length → SplitOk p.rules x)) ∧ Below W0.heap.size W0 wr) (fun i _ => n - (intOf i).toNat)
    case atStart => exact ⟨0, Nat.zero_le _, rfl, hidOf fun j x h => by omega, Below.refl _ _⟩
    case round =>
      obtain ⟨k, hk, rfl, HA, hb⟩ := hrel
      have BW := B0.trans (hb.mono B0.size)
      have hXr : w.heap.size < wr.heap.size := by have := hb.size; omega
      have hcc := fun o => hb.cell (p := ⟨w.heap.size, o, none⟩) hX
      by_cases hlt : k < n
      · obtain ⟨x, ex⟩ : ∃ x, p.chunks[k]? = some x := ⟨_, List.getElem?_eq_getElem (by rw [← HN.out]; exact hlt)⟩
        obtain ⟨b1, o1, ea, hb1, hc1⟩ := K0 (by omega)
        obtain ⟨p0, p1, p2, p3, p4⟩ := chC (w := wr) (fun j hj => by rw [hb.cell hb1]; exact hc1 k x ex j hj)
        have hxt := HF.out.texts k x ex
        rw [ea]
        have EX := hidOf ex
        have HB : ∀ o1 : Obj, Below W0.heap.size W0 (wr.alloc o1) := fun o1 => hb.alloc hb.size _
        have HBW : ∀ o1 : Obj, Below w.heap.size w (wr.alloc o1) := fun o1 => BW.alloc BW.size _
        clear ex hc1 K0 ea
        have hA : (0 : Int) ≤ (k : Int) := by omega
        have hB : (k : Int) < (n : Int) := by omega
        by_cases hP : Plain x.text
        · by_cases hl : k + 1 < n
          · have hl' : (k : Int) < (n : Int) - 1 := by omega
            by_cases hS : SplitOk p.rules x
            · go_wp2_with (first | (go_at_call 100; refine (iPlain_any _ _ hxt).mono ?_; rintro e w1 hq; obtain ⟨rfl, rfl⟩ := hq.yes hP) | (go_at_call 101; refine (iSplit_any _ _ _ x _ hr0 (R0.below (HB _) (Nat.le_refl _))).mono ?_; rintro e w1 hq; obtain ⟨rfl, hb2⟩ := hq.yes hS))
              go_roundw
              case rel => exact ⟨k + 1, by omega, by go_num, hidOf (fun j y hj hy => by
                by_cases e : j = k
                · subst e
                  have e1 := EX.out
                  rw [hy] at e1
                  cases e1
                  exact ⟨hP, fun _ => hS⟩
                · exact HA.out j y (by omega) hy), (HB _).trans (hb2.mono (HB _).size)⟩
              case measure => simp [intOf]; omega
            · go_wp2_with (first | (go_at_call 100; refine (iPlain_any _ _ hxt).mono ?_; rintro e w1 hq; obtain ⟨rfl, rfl⟩ := hq.yes hP) | (go_at_call 101; refine (iSplit_any _ _ _ x _ hr0 (R0.below (HB _) (Nat.le_refl _))).mono ?_; rintro e w1 hq; obtain ⟨rfl, hb2⟩ := hq.no hS))
              go_ret
              exact tells_no (fun h => hS ((h.texts k x EX.out).2 (by have := HN.out; omega))) ((HBW _).trans (hb2.mono (HBW _).size))
          · have hl' : ¬ (k : Int) < (n : Int) - 1 := by omega
            go_wp2_with (go_at_call 100; refine (iPlain_any _ _ hxt).mono ?_; rintro e w1 hq; obtain ⟨rfl, rfl⟩ := hq.yes hP)
            go_roundw
            case rel => exact ⟨k + 1, by omega, by go_num, hidOf (fun j y hj hy => by
              by_cases e : j = k
              · subst e
                have e1 := EX.out
                rw [hy] at e1
                cases e1
                exact ⟨hP, fun h => by have := HN.out; omega⟩
              · exact HA.out j y (by omega) hy), HB _⟩
            case measure => simp [intOf]; omega
        · go_wp2_with (go_at_call 100; refine (iPlain_any _ _ hxt).mono ?_; rintro e w1 hq; obtain ⟨rfl, rfl⟩ := hq.no hP)
          go_ret
          exact tells_no (fun h => hP (h.texts k x EX.out).1) (HBW _)
      · obtain ⟨x, ex⟩ : ∃ x, p.chunks[n - 1]? = some x := ⟨_, List.getElem?_eq_getElem (by rw [← HN.out]; omega)⟩
        obtain ⟨b1, o1, ea, hb1, hc1⟩ := K0 (by omega)
        obtain ⟨p0, p1, p2, p3, p4⟩ := chC (w := wr) (fun j hj => by rw [hb.cell hb1]; exact hc1 (n - 1) x ex j hj)
        rw [ea] at c2 ⊢
        obtain ⟨m, hm⟩ : ∃ m, n = m + 1 := ⟨n - 1, by omega⟩
        subst hm
        simp only [Nat.add_sub_cancel] at p0 p1 p2 p3 p4 ex
        have EX := hidOf ex
        clear ex hc1 K0 ea
        have hA : (0 : Int) ≤ (m : Int) := by omega
        have HL : ∀ y, p.chunks[p.chunks.length - 1]? = some y → y = x := fun y hy => by
          rw [← HN.out, Nat.add_sub_cancel, EX.out] at hy
          exact (Option.some.inj hy).symm
        have HX : p.chunks[p.chunks.length - 1]? = some x := by rw [← HN.out, Nat.add_sub_cancel]; exact EX.out
        have HLL := hidOf HL
        have HXX := hidOf HX
        clear HL HX
        go_wp2
        all_goals go_ret
        rotate_left 1
        all_goals first
          | exact tells_no (P := ChunksOk p) (fun h => by obtain ⟨h1, h2, h3, h4⟩ := h.last x HXX.out; first | contradiction | (have q := ‹x.space = true›; rw [h3] at q; cases q)) BW
          | skip
        exact tells_yes ⟨by have := HN.out; omega, by have := HN.out; omega, fun j y hy => HA.out j y (by have := (List.getElem?_eq_some_iff.1 hy).1; have := HN.out; omega) hy, fun y hy => by rw [HLL.out y hy]; exact ⟨by assumption, by assumption, by simpa using ‹¬ x.space = true›, by assumption⟩⟩ BW
  · have i0 := inB_no hn
    have HNN := hidOf hn
    have HB0 : ∀ o1 : Obj, Below w.heap.size w (w.alloc o1) := fun o1 => (Below.refl _ _).alloc (Nat.le_refl _) _
    clear hn
    go_enter Try.func85, Try.ntmps85
    go_wp2_with (go_at_call 83; refine (iIn_any _ _ _ _).mono ?_; rintro e w1 ⟨rfl, rfl⟩)
    go_ret
    exact tells_no (fun h => HNN.out ⟨by have := h.least; omega, by have := h.most; omega⟩) (HB0 _)

set_option maxHeartbeats 8000000 in
theorem iOk_any (p : Pc) (l : Pl) (w : World) (hF : PcFew p) (hp : PcIn w p l) :
    Calls Try.prog 63 #[pcV p l] w fun e w' => Tells (Right p) w e w' := by
  show Calls _ _ #[.agg #[.int .i64 p.indent, .slice l.a1 p.rules.length l.c1, .slice l.a2 p.chunks.length l.c2, .slice l.a3 p.spans.length l.c3, .slice l.a4 p.ties.length l.c4]] _ _
  go_enter Try.func63, Try.ntmps63
  go_wp2_with fail
  obtain ⟨W0, hW0, X0, B0, S0⟩ := boxed w p l 29
  rw [← hW0]
  have I0 := hp.below B0 (Nat.le_refl _)
  have hX : w.heap.size < W0.heap.size := by omega
  clear hW0 S0 hp
  refine (iIn_any _ _ _ _).mono ?_
  rintro e W0 ⟨rfl, rfl⟩
  by_cases h0 : 0 ≤ p.indent ∧ p.indent ≤ 60
  · have i0 := inB_yes h0.1 h0.2
    have H0 := hidOf h0
    clear h0
    obtain ⟨-, c0, c1, c2, c3, c4⟩ := X0
    go_wp2_with fail
    refine (iRules_any _ _ _ _ hF.rules I0.rules).mono ?_
    rintro e w1 hq
    by_cases h1 : RulesOk p.rules
    · obtain ⟨rfl, A1⟩ := hq.yes h1
      have k1 := fun o => A1.cell (p := ⟨w.heap.size, o, none⟩) hX
      clear hq
      go_wp2_with fail
      refine (iChunks_any p l _ hF (I0.below A1 (Nat.le_refl _))).mono ?_
      rintro e w2 hq
      by_cases h2 : ChunksOk p
      · obtain ⟨rfl, hb2⟩ := hq.yes h2
        have A2 := A1.trans (hb2.mono A1.size)
        have k2 := fun o => A2.cell (p := ⟨w.heap.size, o, none⟩) hX
        clear hq hb2 k1
        go_wp2_with fail
        refine (iSpans_any p l _ hF.spans hF.chunks (I0.spans.below A2 (Nat.le_refl _))).mono ?_
        rintro e w3 hq
        by_cases h3 : SpansOk p
        · obtain ⟨rfl, hb3⟩ := hq.yes h3
          have A3 := A2.trans (hb3.mono A2.size)
          have k3 := fun o => A3.cell (p := ⟨w.heap.size, o, none⟩) hX
          clear hq hb3 k2
          go_wp2_with fail
          refine (iTies_any p l _ hF.ties hF.rules (I0.ties.below A3 (Nat.le_refl _))).mono ?_
          rintro e w4 hq
          by_cases h4 : TiesOk p
          · obtain ⟨rfl, hb4⟩ := hq.yes h4
            have A4 := A3.trans (hb4.mono A3.size)
            go_wp2
            go_ret
            exact tells_yes ⟨H0.out, h1, h2, h3, h4⟩ (B0.trans (A4.mono B0.size))
          · obtain ⟨rfl, hb4⟩ := hq.no h4
            have A4 := A3.trans (hb4.mono A3.size)
            go_wp2
            go_ret
            exact tells_no (fun h => h4 h.ties) (B0.trans (A4.mono B0.size))
        · obtain ⟨rfl, hb3⟩ := hq.no h3
          have A3 := A2.trans (hb3.mono A2.size)
          go_wp2
          go_ret
          exact tells_no (fun h => h3 h.spans) (B0.trans (A3.mono B0.size))
      · obtain ⟨rfl, hb2⟩ := hq.no h2
        have A2 := A1.trans (hb2.mono A1.size)
        go_wp2
        go_ret
        exact tells_no (fun h => h2 h.chunks) (B0.trans (A2.mono B0.size))
    · obtain ⟨rfl, A1⟩ := hq.no h1
      go_wp2
      go_ret
      exact tells_no (fun h => h1 h.rules) (B0.trans (A1.mono B0.size))
  · have i0 := inB_no h0
    have H0 := hidOf h0
    clear h0
    go_wp2
    go_ret
    exact tells_no (fun h => H0.out h.indent) B0
end Go.Proofs.Ytghfpcjgionbaaa
/- What impl.isSplit answers. -/
namespace Go.Proofs.Ytghfpcjgionbaaa
open Go.RowKit

set_option maxHeartbeats 4000000 in
theorem isSpl_any (x : Ch) (a : Option Addr) (c : Nat) (vs : List Int) (r : Nat) (w : World) (hm0 : vs.length ≤ 1048576) (hr : x.rule = (r : Int)) (hrl : r < vs.length) (hv : KidsAt w a vs) :
    Calls Try.prog 124 #[.agg #[.int .i64 x.rule, .int .i64 x.frm, .bool x.space, .int .i64 x.nest], .slice a vs.length c] w fun e w' => e = .returned (.bool (spl vs x)) ∧ Below w.heap.size w w' := by
  have hm1 := hm0
  clear hm0
  have HB : ∀ o1 : Obj, Below w.heap.size w (w.alloc o1) := fun o1 => (Below.refl _ _).alloc (Nat.le_refl _) _
  have ez := List.getElem?_eq_getElem hrl
  obtain ⟨z, hz⟩ : ∃ z, z = vs[r] := ⟨_, rfl⟩
  rw [← hz] at ez
  clear hz
  obtain ⟨b2, o2, eb, hb2, hc2⟩ := hv (by omega)
  have zc := fun ob : Obj => ((HB ob).cell (p := ⟨b2, o2 + r, none⟩) hb2).trans (hc2 r z ez)
  rw [spl_of hr ez, hr, eb]
  clear hc2 eb ez hv
  have hA2 : (0 : Int) ≤ (r : Int) := by omega
  have hB2 : (r : Int) < (vs.length : Int) := by omega
  by_cases hf : x.frm ≤ z
  · have hfd : decide (z ≥ x.frm) = true := by rw [decide_eq_true_eq]; exact hf
    have hft : decide (x.frm ≤ z) = true := by rw [decide_eq_true_eq]; exact hf
    rw [hft]
    clear hft
    go_enter Try.func124, Try.ntmps124
    go_wp2
    go_quiet (fail)
    go_wp2
    go_ret
    exact ⟨rfl, bel_drewN (HB _) _⟩
  · have hfd : decide (z ≥ x.frm) = false := by rw [decide_eq_false_iff_not]; omega
    have hft : decide (x.frm ≤ z) = false := by rw [decide_eq_false_iff_not]; omega
    rw [hft]
    clear hft
    go_enter Try.func124, Try.ntmps124
    go_wp2
    go_quiet (fail)
    go_wp2
    go_ret
    exact ⟨rfl, bel_drewN (HB _) _⟩
end Go.Proofs.Ytghfpcjgionbaaa
