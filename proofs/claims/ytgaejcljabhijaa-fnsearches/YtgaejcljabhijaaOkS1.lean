/- What the specification's parts of PieceOk answer: l08Plain, l08Split. -/
import Derived.Test.YtgaejcljabhijaaRightLib
import Derived.Test.YtgaejcljabhijaaCntI
import Derived.Test.YtgaejcljabhijaaOkI1
import Derived.Deep.RegionWith
namespace Go.Proofs.Ytgaejcljabhijaa
open Go.RowKit

def plB (z : Int) : Bool := decide (32 ≤ z) && decide (z ≤ 126)
theorem plB_yes {z : Int} (h1 : 32 ≤ z) (h2 : z ≤ 126) : plB z = true := by simp [plB, h1, h2]
theorem plB_no {z : Int} (h : ¬ (32 ≤ z ∧ z ≤ 126)) : plB z = false := by
  unfold plB
  rw [Bool.and_eq_false_iff]
  simp only [decide_eq_false_iff_not]
  omega
set_option maxHeartbeats 1600000 in
theorem s04_any (z : Int) (w : World) : Calls Try.prog 113 #[.int .u8 z] w fun e w' => e = .returned (.bool (plB z)) ∧ w' = w := by
  by_cases h1 : 32 ≤ z
  · by_cases h2 : z ≤ 126
    · rw [plB_yes h1 h2]
      go_enter Try.func113, Try.ntmps113
      go_wp2
      go_ret
      exact ⟨rfl, rfl⟩
    · rw [plB_no (fun h => h2 h.2)]
      go_enter Try.func113, Try.ntmps113
      go_wp2
      go_ret
      exact ⟨rfl, rfl⟩
  · rw [plB_no (fun h => h1 h.1)]
    go_enter Try.func113, Try.ntmps113
    go_wp2
    go_ret
    exact ⟨rfl, rfl⟩

set_option maxHeartbeats 1600000 in
theorem sPlain_any (s : ByteArray) (w : World) (hs : s.size ≤ 1048576) :
    Calls Try.prog 78 #[.string s] w fun e w' => TellsQ (Plain s) w e w' := by
  have hat := by8_at s
  go_enter Try.func78, Try.ntmps78
  go_wp2
  go_loop [3] (fun i => ∃ k : Nat, k ≤ s.size ∧ i = .int .i64 k ∧ Hid (∀ j, j < k → 32 ≤ by8 s j ∧ by8 s j ≤ 126)) (fun i => s.size - (intOf i).toNat)
  case atStart => exact ⟨0, Nat.zero_le _, rfl, hidOf fun j h => by omega⟩
  case round =>
    obtain ⟨k, hk, rfl, HA⟩ := hrel
    by_cases hlt : k < s.size
    · have hA : (0 : Int) ≤ (k : Int) := by omega
      have hB : (k : Int) < (s.size : Int) := by omega
      by_cases h1 : 32 ≤ by8 s k ∧ by8 s k ≤ 126
      · have i1 := plB_yes h1.1 h1.2
        have H1 := hidOf h1
        clear h1
        go_wp2_with (go_at_call 113; refine (s04_any _ _).mono ?_; rintro e w1 ⟨rfl, rfl⟩)
        go_round
        case rel => exact ⟨k + 1, by omega, by go_num, hidOf fun j hj => by
          by_cases e : j = k
          · subst e; exact H1.out
          · exact HA.out j (by omega)⟩
        case measure => simp [intOf]; omega
      · have i1 := plB_no h1
        have H1 := hidOf h1
        clear h1
        go_wp2_with (go_at_call 113; refine (s04_any _ _).mono ?_; rintro e w1 ⟨rfl, rfl⟩)
        go_ret
        exact tellsQ_no (fun h => H1.out (h k hlt))
    · go_wp2
      go_ret
      exact tellsQ_yes (fun j hj => HA.out j (by omega))

set_option maxHeartbeats 4000000 in
theorem sSplit_any (p : Pc) (l : Pl) (x : Ch) (w : World) (hn0 : p.rules.length ≤ 1048576) (h : RowsAt 2 ruCells w l.a1 p.rules) :
    Calls Try.prog 79 #[pcV p l, .agg #[.int .i64 x.rule, .int .i64 x.frm, .bool x.space, .int .i64 x.nest]] w fun e w' => Tells (SplitOk p.rules x) w e w' := by
  show Calls _ _ #[.agg #[.int .i64 p.indent, .slice l.a1 p.rules.length l.c1, .slice l.a2 p.chunks.length l.c2, .slice l.a3 p.spans.length l.c3, .slice l.a4 p.ties.length l.c4], _] _ _
  unfold RowsAt at h
  have HB : ∀ o1 o2 : Obj, Below w.heap.size w ((w.alloc o1).alloc o2) := fun o1 o2 => ((Below.refl _ _).alloc (Nat.le_refl _) _).alloc (by simp) _
  by_cases hr : 0 ≤ x.rule ∧ x.rule ≤ (p.rules.length : Int) - 1
  · have i0 := inB_yes hr.1 hr.2
    obtain ⟨k, y, ek, hk, ey⟩ := rule_at hr.1 hr.2
    obtain ⟨b1, o1, ea, hb1, hc1⟩ := h (by omega)
    have p01 := fun ob oc : Obj => ruC (w := (w.alloc ob).alloc oc) (fun j hj => by rw [(HB ob oc).cell hb1]; exact hc1 k y ey j hj)
    have p0 := fun ob oc => (p01 ob oc).1
    have HK := hidOf ek
    have HY := hidOf (show p.rules[x.rule.toNat]? = some y by rw [ek]; exact ey)
    rw [ek] at i0 ⊢
    rw [ea]
    clear ek hc1 h p01 ey hr ea
    obtain ⟨n, hn⟩ : ∃ n, n = p.rules.length := ⟨_, rfl⟩
    rw [← hn] at hk hn0 i0 ⊢
    have HN := hidOf hn
    clear hn
    have hA : (0 : Int) ≤ (k : Int) := by omega
    have hB : (k : Int) < (n : Int) := by omega
    obtain ⟨f, hwf⟩ : ∃ f, wrap64 (y.values - 1) = f := ⟨_, rfl⟩
    have hwg : IntKind.i64.wrap (y.values - 1) = f := (IntWalk.i64_left _).trans hwf
    have hw1 : IntKind.i64.wrap ((n : Int) - 1) = (n : Int) - 1 := IntWalk.i64_in _ ⟨by omega, by omega⟩
    have HWF := hidOf hwf
    have q0 := fun W => sIn_any (k : Int) 0 ((n : Int) - 1) W
    have q1 := fun W => sIn_any x.frm 1 f W
    have q2 := fun W => sIn_any x.nest 0 40 W
    rw [i0] at q0
    clear i0
    by_cases hf : 1 ≤ x.frm ∧ x.frm ≤ f
    · rw [inB_yes hf.1 hf.2] at q1
      have HF := hidOf hf
      clear hf
      by_cases hm : 0 ≤ x.nest ∧ x.nest ≤ 40
      · rw [inB_yes hm.1 hm.2] at q2
        have HM := hidOf hm
        clear hm
        go_enter Try.func79, Try.ntmps79
        go_wp2
        go_quiet ((first | (go_at_call_of 36 (k); exact Calls.quiet_of_same (q0 _)) | (go_at_call_of 36 (x.frm); exact Calls.quiet_of_same (q1 _)) | (go_at_call_of 36 (x.nest); exact Calls.quiet_of_same (q2 _))))
        go_wp2
        go_ret
        exact tells_yes ⟨by rw [HK.out]; exact hA, ⟨y, HY.out, HF.out.1, by rw [HWF.out]; exact HF.out.2⟩, HM.out⟩ (bel_drewN (HB _ _) _)
      · rw [inB_no hm] at q2
        have HM := hidOf hm
        clear hm
        go_enter Try.func79, Try.ntmps79
        go_wp2
        go_quiet ((first | (go_at_call_of 36 (k); exact Calls.quiet_of_same (q0 _)) | (go_at_call_of 36 (x.frm); exact Calls.quiet_of_same (q1 _)) | (go_at_call_of 36 (x.nest); exact Calls.quiet_of_same (q2 _))))
        go_wp2
        go_ret
        exact tells_no (fun h => HM.out h.2.2) (bel_drewN (HB _ _) _)
    · rw [inB_no hf] at q1
      have HF := hidOf hf
      clear hf
      go_enter Try.func79, Try.ntmps79
      go_wp2
      go_quiet ((first | (go_at_call_of 36 (k); exact Calls.quiet_of_same (q0 _)) | (go_at_call_of 36 (x.frm); exact Calls.quiet_of_same (q1 _))))
      go_wp2
      go_ret
      refine tells_no (fun h => ?_) (bel_drewN (HB _ _) _)
      obtain ⟨-, ⟨y', hy', h1, h2⟩, -⟩ := h
      rw [HY.out] at hy'
      cases hy'
      rw [HWF.out] at h2
      exact HF.out ⟨h1, h2⟩
  · have i0 := inB_no hr
    have HR := hidOf hr
    obtain ⟨n, hn⟩ : ∃ n, n = p.rules.length := ⟨_, rfl⟩
    rw [← hn] at hn0 i0 ⊢
    have hw1 : IntKind.i64.wrap ((n : Int) - 1) = (n : Int) - 1 := IntWalk.i64_in _ ⟨by omega, by omega⟩
    have q0 := fun W => sIn_any x.rule 0 ((n : Int) - 1) W
    rw [i0] at q0
    clear hr h hn i0
    go_enter Try.func79, Try.ntmps79
    go_wp2
    go_quiet ((go_at_call_of 36 (x.rule); exact Calls.quiet_of_same (q0 _)))
    go_wp2
    go_ret
    exact tells_no (rule_none HR.out rfl) (bel_drewN (HB _ _) _)
end Go.Proofs.Ytgaejcljabhijaa
