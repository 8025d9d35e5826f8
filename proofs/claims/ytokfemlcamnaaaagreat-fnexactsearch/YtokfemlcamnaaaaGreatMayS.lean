/- What spec.TiesMay answers. -/
import Derived.Test.YtokfemlcamnaaaaGreatKao
import Derived.Test.YtokfemlcamnaaaaGreatKai
import Derived.Test.YtokfemlcamnaaaaGreatKah
namespace Go.Proofs.YtokfemlcamnaaaaGreat
open Go.RowKit

set_option maxHeartbeats 8000000 in
theorem sMay_any (p : Pc) (l : Pl) (a : Option Addr) (c : Nat) (vs : List Int) (w : World) (hF : PcFew p) (hm0 : vs.length ≤ 1048576) (hp : PcIn w p l) (hv : KidsAt w a vs) :
    Calls Tryz.prog 24 #[pcV p l, .slice a vs.length c] w fun e w' => e = .returned (.bool (mayB p vs)) ∧ Below w.heap.size w w' := by
  show Calls _ _ #[.agg #[.int .i64 p.indent, .slice l.a1 p.rules.length l.c1, .slice l.a2 p.chunks.length l.c2, .slice l.a3 p.spans.length l.c3, .slice l.a4 p.ties.length l.c4], _] _ _
  obtain ⟨W0, hW0, X0, B0, S0⟩ := boxed w p l 37
  have hX : w.heap.size < W0.heap.size := by omega
  have T1 := hp.ties.below B0 (Nat.le_refl _)
  have V1 := hv.below B0 (Nat.le_refl _)
  have hft := hF.ties
  have c4 := X0.c4
  obtain ⟨n, hn⟩ : ∃ n, n = p.ties.length := ⟨_, rfl⟩
  have HN := hidOf hn
  unfold RowsAt at T1
  unfold KidsAt at V1
  rw [← hn] at T1 hft c4 hW0 ⊢
  obtain ⟨m, hm⟩ : ∃ m, m = vs.length := ⟨_, rfl⟩
  have HM := hidOf hm
  rw [← hm] at V1 hm0 ⊢
  clear hn hm hp hv X0
  go_enter Tryz.func24, Tryz.ntmps24
  go_wp2
  rw [← hW0]
  clear hW0 S0
  go_loopw [6] (fun i wr => ∃ k : Nat, k ≤ n ∧ i = .int .i64 k ∧ Hid (∀ (j : Nat) (x : Ti), j < k → p.ties[j]? = some x → brk vs x = false) ∧ Below W0.heap.size W0 wr) (fun i _ => n - (intOf i).toNat)
  case atStart => exact ⟨0, Nat.zero_le _, rfl, hidOf fun j x h => by omega, Below.refl _ _⟩
  case round =>
    obtain ⟨k, hk, rfl, HA, hb⟩ := hrel
    have BW := B0.trans (hb.mono B0.size)
    have d4 := (hb.cell (p := ⟨w.heap.size, 4, none⟩) hX).trans c4
    by_cases hlt : k < n
    · obtain ⟨x, ex⟩ : ∃ x, p.ties[k]? = some x := ⟨_, List.getElem?_eq_getElem (by rw [← HN.out]; exact hlt)⟩
      obtain ⟨b1, o1, ea, hb1, hc1⟩ := T1 (by omega)
      obtain ⟨p0, p1⟩ := tiC (w := wr) (fun j hj => by rw [hb.cell hb1]; exact hc1 k x ex j hj)
      rw [ea] at d4
      have EX := hidOf ex
      have HB : ∀ o1 : Obj, Below W0.heap.size W0 (wr.alloc o1) := fun o1 => hb.alloc hb.size _
      have HBW : ∀ o1 : Obj, Below w.heap.size w (wr.alloc o1) := fun o1 => BW.alloc BW.size _
      clear ex hc1 T1 ea c4
      have hA : (0 : Int) ≤ (k : Int) := by omega
      have hB : (k : Int) < (n : Int) := by omega
      have q0 := fun W => sIn_any x.kid 0 ((m : Int) - 1) W
      have q1 := fun W => sIn_any x.up 0 ((m : Int) - 1) W
      by_cases h0 : 0 ≤ x.kid ∧ x.kid ≤ (m : Int) - 1
      · rw [inB_yes h0.1 h0.2] at q0
        obtain ⟨r, er⟩ := Int.eq_ofNat_of_zero_le h0.1
        by_cases h1 : 0 ≤ x.up ∧ x.up ≤ (m : Int) - 1
        · rw [inB_yes h1.1 h1.2] at q1
          obtain ⟨u, eu⟩ := Int.eq_ofNat_of_zero_le h1.1
          obtain ⟨z, ez⟩ : ∃ z, vs[r]? = some z := ⟨_, List.getElem?_eq_getElem (by rw [← HM.out]; omega)⟩
          obtain ⟨y, ey⟩ : ∃ y, vs[u]? = some y := ⟨_, List.getElem?_eq_getElem (by rw [← HM.out]; omega)⟩
          obtain ⟨b2, o2, eb, hb2, hc2⟩ := V1 (by omega)
          have zc := fun ob : Obj => (((HB ob).cell (p := ⟨b2, o2 + r, none⟩) hb2).trans (hc2 r z ez))
          have yc := fun ob : Obj => (((HB ob).cell (p := ⟨b2, o2 + u, none⟩) hb2).trans (hc2 u y ey))
          have HE := hidOf (brk_of er eu ez ey)
          have hA2 : (0 : Int) ≤ (r : Int) := by omega
          have hB2 : (r : Int) < (m : Int) := by omega
          have hA3 : (0 : Int) ≤ (u : Int) := by omega
          have hB3 : (u : Int) < (m : Int) := by omega
          rw [er] at p0 q0
          rw [eu] at p1 q1
          rw [eb]
          clear er eu ez ey hc2 V1 eb h0 h1
          by_cases hz : 0 < z
          · by_cases hy : y = 0
            · have HF2 := hidOf (show brk vs x = true by rw [HE.out, decide_eq_true hz, decide_eq_true hy]; rfl)
              rw [hy] at yc
              clear hy
              go_wp2_with (first | (go_at_call_of 43 (r); refine (q0 _).mono ?_; rintro e w9 ⟨rfl, rfl⟩) | (go_at_call_of 43 (u); refine (q1 _).mono ?_; rintro e w9 ⟨rfl, rfl⟩))
              go_ret
              exact ⟨ret_bool (may_no EX.out HF2.out).symm, HBW _⟩
            · have HF2 := hidOf (show brk vs x = false by rw [HE.out, decide_eq_false hy, Bool.and_false])
              have hy2 : (y == 0) = false := by simpa using hy
              go_wp2_with (first | (go_at_call_of 43 (r); refine (q0 _).mono ?_; rintro e w9 ⟨rfl, rfl⟩) | (go_at_call_of 43 (u); refine (q1 _).mono ?_; rintro e w9 ⟨rfl, rfl⟩))
              go_roundw
              case rel => exact ⟨k + 1, by omega, by go_num, hidOf (upto_step HA.out EX.out HF2.out), HB _⟩
              case measure => simp [intOf]; omega
          · have HF2 := hidOf (show brk vs x = false by rw [HE.out, decide_eq_false hz, Bool.false_and])
            go_wp2_with (first | (go_at_call_of 43 (r); refine (q0 _).mono ?_; rintro e w9 ⟨rfl, rfl⟩) | (go_at_call_of 43 (u); refine (q1 _).mono ?_; rintro e w9 ⟨rfl, rfl⟩))
            go_roundw
            case rel => exact ⟨k + 1, by omega, by go_num, hidOf (upto_step HA.out EX.out HF2.out), HB _⟩
            case measure => simp [intOf]; omega
        · rw [inB_no h1] at q1
          have HF2 := hidOf (show brk vs x = false from brk_out2 (by rw [← HM.out]; exact h1))
          rw [er] at p0 q0
          clear er h0 h1
          go_wp2_with (first | (go_at_call_of 43 (r); refine (q0 _).mono ?_; rintro e w9 ⟨rfl, rfl⟩) | (go_at_call_of 43 (x.up); refine (q1 _).mono ?_; rintro e w9 ⟨rfl, rfl⟩))
          go_roundw
          case rel => exact ⟨k + 1, by omega, by go_num, hidOf (upto_step HA.out EX.out HF2.out), HB _⟩
          case measure => simp [intOf]; omega
      · rw [inB_no h0] at q0
        have HF2 := hidOf (show brk vs x = false from brk_out1 (by rw [← HM.out]; exact h0))
        clear h0
        go_wp2_with (go_at_call_of 43 (x.kid); refine (q0 _).mono ?_; rintro e w9 ⟨rfl, rfl⟩)
        go_roundw
        case rel => exact ⟨k + 1, by omega, by go_num, hidOf (upto_step HA.out EX.out HF2.out), HB _⟩
        case measure => simp [intOf]; omega
    · go_wp2
      go_ret
      exact ⟨ret_bool (may_yes (upto_all (by have := HN.out; omega) HA.out)).symm, BW⟩
end Go.Proofs.YtokfemlcamnaaaaGreat
