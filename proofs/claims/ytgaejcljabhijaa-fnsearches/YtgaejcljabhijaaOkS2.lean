/- What spec.PieceOk answers. -/
import Derived.Test.YtgaejcljabhijaaOkS1
import Derived.Test.YtgaejcljabhijaaBoxPc
import Derived.Test.YtgaejcljabhijaaBCell
import Derived.Test.YtgaejcljabhijaaPcLib
import Derived.BigQuiet
import Derived.Deep.QuietTactic
import Derived.Test.YtgaejcljabhijaaProg
import Derived.Deep.RegionHeld3
namespace Go.Proofs.Ytgaejcljabhijaa
open Go.RowKit

set_option maxHeartbeats 16000000 in
set_option maxRecDepth 20000 in
theorem sOk_any (p : Pc) (l : Pl) (w : World) (hF : PcFew p) (hp : PcIn w p l) :
    Calls Try.prog 37 #[pcV p l] w fun e w' => Tells (Right p) w e w' := by
  show Calls _ _ #[.agg #[.int .i64 p.indent, .slice l.a1 p.rules.length l.c1, .slice l.a2 p.chunks.length l.c2, .slice l.a3 p.spans.length l.c3, .slice l.a4 p.ties.length l.c4]] _ _
  have f1 := hF.rules
  have f2 := hF.chunks
  have f3 := hF.spans
  have f4 := hF.ties
  have HF := hidOf hF
  have HI := hidOf hp
  clear hF hp
  have q0 := fun W => sIn_any p.indent 0 60 W
  have q1 := fun W => sIn_any (p.chunks.length : Int) 1 80 W
  have HB0 : ∀ o1 : Obj, Below w.heap.size w (w.alloc o1) := fun o1 => (Below.refl _ _).alloc (Nat.le_refl _) _
  by_cases h0 : 0 ≤ p.indent ∧ p.indent ≤ 60
  · rw [inB_yes h0.1 h0.2] at q0
    by_cases h1 : (p.rules.length : Int) ≤ 8
    · by_cases h2 : 1 ≤ (p.chunks.length : Int) ∧ (p.chunks.length : Int) ≤ 80
      · rw [inB_yes h2.1 h2.2] at q1
        by_cases h3 : (p.spans.length : Int) ≤ 40
        · by_cases h4 : (p.ties.length : Int) ≤ 20
          · have H0 := hidOf h0
            have H2 := hidOf h2
            clear h0
            go_enter Try.func37, Try.ntmps37
            go_wp2_with fail
            obtain ⟨W0, hW0, X0, B0, S0⟩ := boxed w p l 29
            rw [← hW0]
            have I0 := HI.out.below B0 (Nat.le_refl _)
            have hX : w.heap.size < W0.heap.size := by omega
            clear hW0 S0 HB0
            obtain ⟨-, c0, c1, c2, c3, c4⟩ := X0
            refine (q0 _).mono ?_
            rintro e W0 ⟨rfl, rfl⟩
            go_wp2_with (go_at_call_of 36 (p.chunks); refine (q1 _).mono ?_; rintro e W0 ⟨rfl, rfl⟩)
            clear q0 q1
            obtain ⟨nr, hnr⟩ : ∃ n, n = p.rules.length := ⟨_, rfl⟩
            obtain ⟨nc, hnc⟩ : ∃ n, n = p.chunks.length := ⟨_, rfl⟩
            obtain ⟨ns, hns⟩ : ∃ n, n = p.spans.length := ⟨_, rfl⟩
            obtain ⟨nt, hnt⟩ : ∃ n, n = p.ties.length := ⟨_, rfl⟩
            obtain ⟨R0, K0, N0, T0⟩ := I0
            unfold RowsAt at K0 N0 T0
            rw [← hnr] at c1 f1 h1 ⊢
            rw [← hnc] at c2 f2 h2 K0 ⊢
            rw [← hns] at c3 f3 h3 N0 ⊢
            rw [← hnt] at c4 f4 h4 T0 ⊢
            have HR := hidOf hnr
            have HC := hidOf hnc
            have HS := hidOf hns
            have HT := hidOf hnt
            clear hnr hnc hns hnt
            go_loop [4] (fun i => ∃ k : Nat, k ≤ nr ∧ i = .int .i64 k ∧ Hid (∀ (j : Nat) (x : Ru), j < k → p.rules[j]? = some x → RuOk x)) (fun i => nr - (intOf i).toNat)
            case atStart => exact ⟨0, Nat.zero_le _, rfl, hidOf fun j x h => by omega⟩
            case round =>
              obtain ⟨k, hk, rfl, HA⟩ := hrel
              by_cases hlt : k < nr
              · obtain ⟨x, ex⟩ : ∃ x, p.rules[k]? = some x := ⟨_, List.getElem?_eq_getElem (by rw [← HR.out]; exact hlt)⟩
                obtain ⟨b1, o1, ea, hb1, hc1⟩ := R0 (by have := HR.out; omega)
                obtain ⟨p0, p1⟩ := ruC (w := W0) (fun j hj => hc1 k x ex j hj)
                rw [ea] at c1 ⊢
                have EX := hidOf ex
                clear ex hc1 R0 ea K0 N0 T0
                have hA : (0 : Int) ≤ (k : Int) := by omega
                have hB : (k : Int) < (nr : Int) := by omega
                have q0 := fun W => sIn_any x.values 2 3 W
                have q1 := fun W => sIn_any x.cost 0 9 W
                by_cases hv : 2 ≤ x.values ∧ x.values ≤ 3
                · rw [inB_yes hv.1 hv.2] at q0
                  have HV := hidOf hv
                  clear hv
                  by_cases hc : 0 ≤ x.cost ∧ x.cost ≤ 9
                  · rw [inB_yes hc.1 hc.2] at q1
                    have HC2 := hidOf hc
                    clear hc
                    go_wp2_with (first | (go_at_call_of 36 (x.values); refine (q0 _).mono ?_; rintro e W0 ⟨rfl, rfl⟩) | (go_at_call_of 36 (x.cost); refine (q1 _).mono ?_; rintro e W0 ⟨rfl, rfl⟩))
                    go_round
                    case rel => exact ⟨k + 1, by omega, by go_num, hidOf (upto_step HA.out EX.out ⟨HV.out, HC2.out⟩)⟩
                    case measure => simp [intOf]; omega
                  · rw [inB_no hc] at q1
                    have HC2 := hidOf hc
                    clear hc
                    go_wp2_with (first | (go_at_call_of 36 (x.values); refine (q0 _).mono ?_; rintro e W0 ⟨rfl, rfl⟩) | (go_at_call_of 36 (x.cost); refine (q1 _).mono ?_; rintro e W0 ⟨rfl, rfl⟩))
                    go_ret
                    exact tells_no (fun h => HC2.out (h.rules.2 k x EX.out).2) B0
                · rw [inB_no hv] at q0
                  have HV := hidOf hv
                  clear hv
                  go_wp2_with (go_at_call_of 36 (x.values); refine (q0 _).mono ?_; rintro e W0 ⟨rfl, rfl⟩)
                  go_ret
                  exact tells_no (fun h => HV.out (h.rules.2 k x EX.out).1) B0
              · have HRO := hidOf (show RulesOk p.rules from ⟨by have := HR.out; omega, upto_all (by have := HR.out; omega) HA.out⟩)
                clear HA
                go_wp2
                go_loopw [5] (fun i wr => ∃ k : Nat, k ≤ nc ∧ i = .int .i64 k ∧ Hid (∀ (j : Nat) (x : Ch), j < k → p.chunks[j]? = some x → Plain x.text ∧ (j + 1 < p.chunks.length → SplitOk p.rules x)) ∧ Below W0.heap.size W0 wr) (fun i _ => nc - (intOf i).toNat)
                case atStart => exact ⟨0, Nat.zero_le _, rfl, hidOf fun j x h => by omega, Below.refl _ _⟩
                case round =>
                  obtain ⟨k2, hk2, rfl, HA, hb⟩ := hrel
                  have BW := B0.trans (hb.mono B0.size)
                  have hXr : w.heap.size < wr.heap.size := by have := hb.size; omega
                  have d0 := (hb.cell (p := ⟨w.heap.size, 0, none⟩) hX).trans c0
                  have d1 := (hb.cell (p := ⟨w.heap.size, 1, none⟩) hX).trans c1
                  have d2 := (hb.cell (p := ⟨w.heap.size, 2, none⟩) hX).trans c2
                  have d3 := (hb.cell (p := ⟨w.heap.size, 3, none⟩) hX).trans c3
                  have d4 := (hb.cell (p := ⟨w.heap.size, 4, none⟩) hX).trans c4
                  by_cases hlt2 : k2 < nc
                  · obtain ⟨x, ex⟩ : ∃ x, p.chunks[k2]? = some x := ⟨_, List.getElem?_eq_getElem (by rw [← HC.out]; exact hlt2)⟩
                    obtain ⟨b1, o1, ea, hb1, hc1⟩ := K0 (by omega)
                    obtain ⟨p0, p1, p2, p3, p4⟩ := chC (w := wr) (fun j hj => by rw [hb.cell hb1]; exact hc1 k2 x ex j hj)
                    have hxt := HF.out.texts k2 x ex
                    have hbr : b1 < wr.heap.size := Nat.lt_of_lt_of_le hb1 hb.size
                    rw [ea] at d2 ⊢
                    have EX := hidOf ex
                    have HEA := hidOf ea
                    clear ex hc1 K0 ea N0 T0 c0 c1 c2 c3 c4
                    have hA : (0 : Int) ≤ (k2 : Int) := by omega
                    have hB : (k2 : Int) < (nc : Int) := by omega
                    have hw1 : IntKind.i64.wrap ((k2 : Int) + 1) = (k2 : Int) + 1 := IntWalk.i64_in _ ⟨by omega, by omega⟩
                    by_cases hP : Plain x.text
                    · have qP := fun W => (sPlain_any x.text W hxt).mono (fun e w' h => h.yes hP)
                      by_cases hl : k2 + 1 < nc
                      · have hd : decide ((k2 : Int) + 1 < (nc : Int)) = true := by rw [decide_eq_true_eq]; omega
                        have hl2 : (k2 : Int) + 1 < (nc : Int) := by omega
                        have RR := (R0.below hb (Nat.le_refl _)).below (Below.refl wr.heap.size wr).drew (Nat.le_refl _)
                        have qS : ∀ W, RowsAt 2 ruCells W l.a1 p.rules → Calls Try.prog 79 #[.agg #[.int .i64 p.indent, .slice l.a1 nr l.c1, .slice (some ⟨b1, o1, none⟩) nc l.c2, .slice l.a3 ns l.c3, .slice l.a4 nt l.c4], .agg #[.int .i64 x.rule, .int .i64 x.frm, .bool x.space, .int .i64 x.nest]] W fun e w' => Tells (SplitOk p.rules x) W e w' := fun W h => by
                          have q := sSplit_any p l x W (by rw [← HR.out]; exact f1) h
                          unfold pcV at q
                          rw [← HR.out, ← HC.out, ← HS.out, ← HT.out, HEA.out] at q
                          exact q
                        by_cases hS : SplitOk p.rules x
                        · go_wp2
                          go_region_held3 (fun W => (W.cell? ⟨w.heap.size, 0, none⟩ = some (.int .i64 p.indent) ∧ W.cell? ⟨w.heap.size, 1, none⟩ = some (.slice l.a1 nr l.c1) ∧ W.cell? ⟨w.heap.size, 2, none⟩ = some (.slice (some ⟨b1, o1, none⟩) nc l.c2) ∧ W.cell? ⟨w.heap.size, 3, none⟩ = some (.slice l.a3 ns l.c3) ∧ W.cell? ⟨w.heap.size, 4, none⟩ = some (.slice l.a4 nt l.c4)) ∧ W.cell? ⟨b1, o1 + k2 * 5, none⟩ = some (.string x.text) ∧ W.cell? ⟨b1, o1 + k2 * 5 + 1, none⟩ = some (.int .i64 x.rule) ∧ W.cell? ⟨b1, o1 + k2 * 5 + 2, none⟩ = some (.int .i64 x.frm) ∧ W.cell? ⟨b1, o1 + k2 * 5 + 3, none⟩ = some (.bool x.space) ∧ W.cell? ⟨b1, o1 + k2 * 5 + 4, none⟩ = some (.int .i64 x.nest)) (first | trivial | go_keep)
                            ((first
                            | (go_at_call 78; refine (qP _).mono ?_; rintro e w1 ⟨rfl, rfl⟩)
                            | (go_at_call 79; refine (qS _ RR).mono ?_; rintro e w1 hq; obtain ⟨rfl, hb2⟩ := hq.yes hS; have hc2 := bcelld hb2)))
                          go_wp2
                          go_roundw
                          case rel => exact ⟨k2 + 1, by omega, by go_num, hidOf (fun j y hj hy => by
                            by_cases e : j = k2
                            · subst e
                              have e1 := EX.out
                              rw [hy] at e1
                              cases e1
                              exact ⟨hP, fun _ => hS⟩
                            · exact HA.out j y (by omega) hy), hb.drew.trans (hb2.mono hb.size)⟩
                          case measure => simp [intOf]; omega
                        · go_wp2
                          go_region_held3 (fun W => (W.cell? ⟨w.heap.size, 0, none⟩ = some (.int .i64 p.indent) ∧ W.cell? ⟨w.heap.size, 1, none⟩ = some (.slice l.a1 nr l.c1) ∧ W.cell? ⟨w.heap.size, 2, none⟩ = some (.slice (some ⟨b1, o1, none⟩) nc l.c2) ∧ W.cell? ⟨w.heap.size, 3, none⟩ = some (.slice l.a3 ns l.c3) ∧ W.cell? ⟨w.heap.size, 4, none⟩ = some (.slice l.a4 nt l.c4)) ∧ W.cell? ⟨b1, o1 + k2 * 5, none⟩ = some (.string x.text) ∧ W.cell? ⟨b1, o1 + k2 * 5 + 1, none⟩ = some (.int .i64 x.rule) ∧ W.cell? ⟨b1, o1 + k2 * 5 + 2, none⟩ = some (.int .i64 x.frm) ∧ W.cell? ⟨b1, o1 + k2 * 5 + 3, none⟩ = some (.bool x.space) ∧ W.cell? ⟨b1, o1 + k2 * 5 + 4, none⟩ = some (.int .i64 x.nest)) (first | trivial | go_keep)
                            ((first
                            | (go_at_call 78; refine (qP _).mono ?_; rintro e w1 ⟨rfl, rfl⟩)
                            | (go_at_call 79; refine (qS _ RR).mono ?_; rintro e w1 hq; obtain ⟨rfl, hb2⟩ := hq.no hS; have hc2 := bcelld hb2)))
                          go_wp2
                          go_ret
                          exact tells_no (fun h => hS ((h.chunks.texts k2 x EX.out).2 (by have := HC.out; omega))) (BW.drew.trans (hb2.mono BW.size))
                      · have hd : decide ((k2 : Int) + 1 < (nc : Int)) = false := by rw [decide_eq_false_iff_not]; omega
                        have hl2 : ¬ (k2 : Int) + 1 < (nc : Int) := by omega
                        go_wp2
                        go_quiet ((go_at_call 78; exact Calls.quiet_of_same (qP _)))
                        go_wp2
                        go_roundw
                        case rel => exact ⟨k2 + 1, by omega, by go_num, hidOf (fun j y hj hy => by
                          by_cases e : j = k2
                          · subst e
                            have e1 := EX.out
                            rw [hy] at e1
                            cases e1
                            exact ⟨hP, fun h => by have := HC.out; omega⟩
                          · exact HA.out j y (by omega) hy), bel_drewN hb _⟩
                        case measure => simp [intOf]; omega
                    · have qP := fun W => (sPlain_any x.text W hxt).mono (fun e w' h => h.no hP)
                      go_wp2
                      go_quiet ((go_at_call 78; exact Calls.quiet_of_same (qP _)))
                      go_wp2
                      go_ret
                      exact tells_no (fun h => hP (h.chunks.texts k2 x EX.out).1) (bel_drewN BW _)
                  · obtain ⟨x, ex⟩ : ∃ x, p.chunks[nc - 1]? = some x := ⟨_, List.getElem?_eq_getElem (by rw [← HC.out]; omega)⟩
                    obtain ⟨b1, o1, ea, hb1, hc1⟩ := K0 (by omega)
                    obtain ⟨p0, p1, p2, p3, p4⟩ := chC (w := wr) (fun j hj => by rw [hb.cell hb1]; exact hc1 (nc - 1) x ex j hj)
                    rw [ea] at d2 ⊢
                    have HX : p.chunks[p.chunks.length - 1]? = some x := by rw [← HC.out]; exact ex
                    obtain ⟨m, hm⟩ : ∃ m, m = nc - 1 := ⟨_, rfl⟩
                    rw [← hm] at p0 p1 p2 p3 p4
                    have hm1 : (nc : Int) - 1 = (m : Int) := by omega
                    have hm2 : (m : Int) < (nc : Int) := by omega
                    have HXX := hidOf HX
                    have C1 := hidOf c1
                    have C3 := hidOf c3
                    have C4 := hidOf c4
                    clear ex hc1 K0 ea HX c0 c1 c2 c3 c4 hm
                    have hA : (0 : Int) ≤ (m : Int) := by omega
                    by_cases hBl : Blank x
                    · have HCO := hidOf (show ChunksOk p from ⟨by have := HC.out; omega, by have := HC.out; omega, fun j y hy => HA.out j y (by have := (List.getElem?_eq_some_iff.1 hy).1; have := HC.out; omega) hy, fun y hy => by rw [HXX.out] at hy; cases hy; exact hBl⟩)
                      obtain ⟨e1, e2, e3, e4⟩ := hBl
                      rw [e1] at p1
                      rw [e2] at p2
                      rw [e3] at p3
                      rw [e4] at p4
                      clear e1 e2 e3 e4 HA
                      go_wp2
                      go_loopw [6] (fun i wr => ∃ k : Nat, k ≤ ns ∧ i = .int .i64 k ∧ Hid (∀ (j : Nat) (x : Sn), j < k → p.spans[j]? = some x → SnOk p.chunks.length x) ∧ Below W0.heap.size W0 wr) (fun i _ => ns - (intOf i).toNat)
                      case atStart => exact ⟨0, Nat.zero_le _, rfl, hidOf fun j x h => by omega, hb⟩
                      case round =>
                        clear hb BW hXr d0 d1 d2 d3 d4 p0 p1 p2 p3 p4 hb1
                        obtain ⟨k3, hk3, rfl, HA, hb⟩ := hrel
                        have BW := B0.trans (hb.mono B0.size)
                        have hXr : w.heap.size < wr.heap.size := by have := hb.size; omega
                        have d1 := (hb.cell (p := ⟨w.heap.size, 1, none⟩) hX).trans C1.out
                        have d3 := (hb.cell (p := ⟨w.heap.size, 3, none⟩) hX).trans C3.out
                        have d4 := (hb.cell (p := ⟨w.heap.size, 4, none⟩) hX).trans C4.out
                        by_cases hlt3 : k3 < ns
                        · obtain ⟨x, ex⟩ : ∃ x, p.spans[k3]? = some x := ⟨_, List.getElem?_eq_getElem (by rw [← HS.out]; exact hlt3)⟩
                          obtain ⟨b1, o1, ea, hb1, hc1⟩ := N0 (by omega)
                          obtain ⟨p0, p1, p2⟩ := snC (w := wr) (fun j hj => by rw [hb.cell hb1]; exact hc1 k3 x ex j hj)
                          rw [ea] at d3 ⊢
                          have EX := hidOf ex
                          have HB : ∀ o1 : Obj, Below W0.heap.size W0 (wr.alloc o1) := fun o1 => hb.alloc hb.size _
                          have HBW : ∀ o1 : Obj, Below w.heap.size w (wr.alloc o1) := fun o1 => BW.alloc BW.size _
                          clear ex hc1 N0 ea T0 R0
                          have hA3 : (0 : Int) ≤ (k3 : Int) := by omega
                          have hB3 : (k3 : Int) < (ns : Int) := by omega
                          by_cases ht : 0 ≤ x.til ∧ x.til ≤ (nc : Int) - 2
                          · have i1 := inB_yes ht.1 ht.2
                            have HTt := hidOf ht
                            clear ht
                            by_cases hf : 0 ≤ x.frm ∧ x.frm ≤ x.til
                            · have i2 := inB_yes hf.1 hf.2
                              have HFf := hidOf hf
                              clear hf
                              by_cases hc : 0 ≤ x.cost ∧ x.cost ≤ 9
                              · have i3 := inB_yes hc.1 hc.2
                                have HCc := hidOf hc
                                clear hc
                                go_wp2_with (go_at_call 36; refine (sIn_any _ _ _ _).mono ?_; rintro e w1 ⟨rfl, rfl⟩)
                                go_roundw
                                case rel => exact ⟨k3 + 1, by omega, by go_num, hidOf (upto_step HA.out EX.out ⟨by have := HTt.out; have := HC.out; omega, HFf.out, HCc.out⟩), HB _⟩
                                case measure => simp [intOf]; omega
                              · have i3 := inB_no hc
                                have HCc := hidOf hc
                                clear hc
                                go_wp2_with (go_at_call 36; refine (sIn_any _ _ _ _).mono ?_; rintro e w1 ⟨rfl, rfl⟩)
                                go_ret
                                exact tells_no (fun h => HCc.out (h.spans.all k3 x EX.out).2.2) (HBW _)
                            · have i2 := inB_no hf
                              have HFf := hidOf hf
                              clear hf
                              go_wp2_with (go_at_call 36; refine (sIn_any _ _ _ _).mono ?_; rintro e w1 ⟨rfl, rfl⟩)
                              go_ret
                              exact tells_no (fun h => HFf.out (h.spans.all k3 x EX.out).2.1) (HBW _)
                          · have i1 := inB_no ht
                            have HTt := hidOf ht
                            clear ht
                            go_wp2_with (go_at_call 36; refine (sIn_any _ _ _ _).mono ?_; rintro e w1 ⟨rfl, rfl⟩)
                            go_ret
                            exact tells_no (fun h => HTt.out (by have := (h.spans.all k3 x EX.out).1; have := HC.out; omega)) (HBW _)
                        · have HSO := hidOf (show SpansOk p from ⟨by have := HS.out; omega, upto_all (by have := HS.out; omega) HA.out⟩)
                          clear HA
                          go_wp2
                          go_loopw [8] (fun i wr => ∃ k : Nat, k ≤ nt ∧ i = .int .i64 k ∧ Hid (∀ (j : Nat) (x : Ti), j < k → p.ties[j]? = some x → TiOk p.rules.length x) ∧ Below W0.heap.size W0 wr) (fun i _ => nt - (intOf i).toNat)
                          case atStart => exact ⟨0, Nat.zero_le _, rfl, hidOf fun j x h => by omega, hb⟩
                          case round =>
                            clear hb BW hXr d1 d3 d4
                            obtain ⟨k4, hk4, rfl, HA, hb⟩ := hrel
                            have BW := B0.trans (hb.mono B0.size)
                            have hXr : w.heap.size < wr.heap.size := by have := hb.size; omega
                            have d1 := (hb.cell (p := ⟨w.heap.size, 1, none⟩) hX).trans C1.out
                            have d4 := (hb.cell (p := ⟨w.heap.size, 4, none⟩) hX).trans C4.out
                            by_cases hlt4 : k4 < nt
                            · obtain ⟨x, ex⟩ : ∃ x, p.ties[k4]? = some x := ⟨_, List.getElem?_eq_getElem (by rw [← HT.out]; exact hlt4)⟩
                              obtain ⟨b1, o1, ea, hb1, hc1⟩ := T0 (by omega)
                              obtain ⟨p0, p1⟩ := tiC (w := wr) (fun j hj => by rw [hb.cell hb1]; exact hc1 k4 x ex j hj)
                              rw [ea] at d4 ⊢
                              have EX := hidOf ex
                              have HB : ∀ o1 : Obj, Below W0.heap.size W0 (wr.alloc o1) := fun o1 => hb.alloc hb.size _
                              have HBW : ∀ o1 : Obj, Below w.heap.size w (wr.alloc o1) := fun o1 => BW.alloc BW.size _
                              have d1a := fun ob : Obj => ((Below.refl wr.heap.size wr).alloc (Nat.le_refl _) ob).cell (p := ⟨w.heap.size, 1, none⟩) hXr
                              clear ex hc1 N0 ea T0 R0
                              have hA4 : (0 : Int) ≤ (k4 : Int) := by omega
                              have hB4 : (k4 : Int) < (nt : Int) := by omega
                              by_cases ht : 0 ≤ x.kid ∧ x.kid ≤ (nr : Int) - 1
                              · have i1 := inB_yes ht.1 ht.2
                                have HTt := hidOf ht
                                clear ht
                                by_cases hf : 0 ≤ x.up ∧ x.up ≤ (nr : Int) - 1
                                · have i2 := inB_yes hf.1 hf.2
                                  have HFf := hidOf hf
                                  clear hf
                                  cases hc : (x.kid == x.up)
                                  · go_wp2_with (go_at_call 36; refine (sIn_any _ _ _ _).mono ?_; rintro e w1 ⟨rfl, rfl⟩)
                                    go_roundw
                                    case rel => exact ⟨k4 + 1, by omega, by go_num, hidOf (upto_step HA.out EX.out ⟨by have := HTt.out; have := HR.out; omega, by have := HFf.out; have := HR.out; omega, by simpa using hc⟩), HB _⟩
                                    case measure => simp [intOf]; omega
                                  · go_wp2_with (go_at_call 36; refine (sIn_any _ _ _ _).mono ?_; rintro e w1 ⟨rfl, rfl⟩)
                                    go_ret
                                    exact tells_no (fun h => (h.ties.all k4 x EX.out).2.2 (by simpa using hc)) (HBW _)
                                · have i2 := inB_no hf
                                  have HFf := hidOf hf
                                  clear hf
                                  go_wp2_with (go_at_call 36; refine (sIn_any _ _ _ _).mono ?_; rintro e w1 ⟨rfl, rfl⟩)
                                  go_ret
                                  exact tells_no (fun h => HFf.out (by have := (h.ties.all k4 x EX.out).2.1; have := HR.out; omega)) (HBW _)
                              · have i1 := inB_no ht
                                have HTt := hidOf ht
                                clear ht
                                go_wp2_with (go_at_call 36; refine (sIn_any _ _ _ _).mono ?_; rintro e w1 ⟨rfl, rfl⟩)
                                go_ret
                                exact tells_no (fun h => HTt.out (by have := (h.ties.all k4 x EX.out).1; have := HR.out; omega)) (HBW _)
                            · have HTO := hidOf (show TiesOk p from ⟨by have := HT.out; omega, upto_all (by have := HT.out; omega) HA.out⟩)
                              clear HA
                              go_wp2
                              go_ret
                              exact tells_yes ⟨H0.out, HRO.out, HCO.out, HSO.out, HTO.out⟩ BW
                    · have HBl := hidOf hBl
                      clear hBl HA
                      have HNO := hidOf (show ¬ Right p from fun h => HBl.out (h.chunks.last x HXX.out))
                      by_cases e1 : x.rule = 0
                      · by_cases e2 : x.frm = 0
                        · cases e3 : x.space
                          · have e4 : ¬ x.nest = 0 := fun e4 => HBl.out ⟨e1, e2, e3, e4⟩
                            rw [e3] at p3
                            clear e3
                            go_wp2
                            go_ret
                            exact tells_no HNO.out BW
                          · rw [e3] at p3
                            clear e3
                            go_wp2
                            go_ret
                            exact tells_no HNO.out BW
                        · go_wp2
                          go_ret
                          exact tells_no HNO.out BW
                      · go_wp2
                        go_ret
                        exact tells_no HNO.out BW
          · have h4' : (20 : Int) < (p.ties.length : Int) := by omega
            have H4 := hidOf h4'
            clear h4 h0 h2
            go_enter Try.func37, Try.ntmps37
            go_wp2_with (first | (go_at_call_of 36 (p.indent); refine (q0 _).mono ?_; rintro e w1 ⟨rfl, rfl⟩) | (go_at_call_of 36 (p.chunks); refine (q1 _).mono ?_; rintro e w1 ⟨rfl, rfl⟩))
            go_ret
            exact tells_no (fun h => by have := H4.out; have := h.ties.most; omega) (HB0 _)
        · have h3' : (40 : Int) < (p.spans.length : Int) := by omega
          have H3 := hidOf h3'
          clear h3 h0 h2
          go_enter Try.func37, Try.ntmps37
          go_wp2_with (first | (go_at_call_of 36 (p.indent); refine (q0 _).mono ?_; rintro e w1 ⟨rfl, rfl⟩) | (go_at_call_of 36 (p.chunks); refine (q1 _).mono ?_; rintro e w1 ⟨rfl, rfl⟩))
          go_ret
          exact tells_no (fun h => by have := H3.out; have := h.spans.most; omega) (HB0 _)
      · rw [inB_no h2] at q1
        have H2 := hidOf h2
        clear h0 h2
        go_enter Try.func37, Try.ntmps37
        go_wp2_with (first | (go_at_call_of 36 (p.indent); refine (q0 _).mono ?_; rintro e w1 ⟨rfl, rfl⟩) | (go_at_call_of 36 (p.chunks); refine (q1 _).mono ?_; rintro e w1 ⟨rfl, rfl⟩))
        go_ret
        exact tells_no (fun h => H2.out (by have := h.chunks.most; have := h.chunks.least; omega)) (HB0 _)
    · have h1' : (8 : Int) < (p.rules.length : Int) := by omega
      have H1 := hidOf h1'
      clear h0 h1 q1
      go_enter Try.func37, Try.ntmps37
      go_wp2_with (go_at_call_of 36 (p.indent); refine (q0 _).mono ?_; rintro e w1 ⟨rfl, rfl⟩)
      go_ret
      exact tells_no (fun h => by have := H1.out; have := h.rules.1; omega) (HB0 _)
  · rw [inB_no h0] at q0
    have H0 := hidOf h0
    clear h0 q1
    go_enter Try.func37, Try.ntmps37
    go_wp2_with (go_at_call_of 36 (p.indent); refine (q0 _).mono ?_; rintro e w1 ⟨rfl, rfl⟩)
    go_ret
    exact tells_no (fun h => H0.out h.indent) (HB0 _)
end Go.Proofs.Ytgaejcljabhijaa
