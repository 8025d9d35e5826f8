/- What impl's parts of PieceOk answer: plainBytes, rulesOk, splitOk. -/
import Derived.Test.YtgaejcljabhijaaRightLib
import Derived.Test.YtgaejcljabhijaaCntI
namespace Go.Proofs.Ytgaejcljabhijaa
open Go.RowKit

set_option maxHeartbeats 1600000 in
theorem iPlain_any (s : ByteArray) (w : World) (hs : s.size ≤ 1048576) :
    Calls Try.prog 117 #[.string s] w fun e w' => TellsQ (Plain s) w e w' := by
  have hat := by8_at s
  go_enter Try.func117, Try.ntmps117
  go_wp2
  go_loop [3] (fun i => ∃ k : Nat, k ≤ s.size ∧ i = .int .i64 k ∧ Hid (∀ j, j < k → 32 ≤ by8 s j ∧ by8 s j ≤ 126)) (fun i => s.size - (intOf i).toNat)
  case atStart => exact ⟨0, Nat.zero_le _, rfl, hidOf fun j h => by omega⟩
  case round =>
    obtain ⟨k, hk, rfl, HA⟩ := hrel
    by_cases hlt : k < s.size
    · have hA : (0 : Int) ≤ (k : Int) := by omega
      have hB : (k : Int) < (s.size : Int) := by omega
      by_cases h1 : by8 s k < 32
      · go_wp2
        go_ret
        exact tellsQ_no (fun h => by have := (h k hlt).1; omega)
      · by_cases h2 : by8 s k > 126
        · go_wp2
          go_ret
          exact tellsQ_no (fun h => by have := (h k hlt).2; omega)
        · go_wp2
          go_round
          case rel => exact ⟨k + 1, by omega, by go_num, hidOf fun j hj => by
            by_cases e : j = k
            · subst e; omega
            · exact HA.out j (by omega)⟩
          case measure => simp [intOf]; omega
    · go_wp2
      go_ret
      exact tellsQ_yes (fun j hj => HA.out j (by omega))

set_option maxHeartbeats 4000000 in
theorem iRules_any (a : Option Addr) (c : Nat) (rs : List Ru) (w : World) (hn0 : rs.length ≤ 1048576) (h : RowsAt 2 ruCells w a rs) :
    Calls Try.prog 98 #[.slice a rs.length c] w fun e w' => Tells (RulesOk rs) w e w' := by
  unfold RowsAt at h
  by_cases h8 : rs.length ≤ 8
  · have H8 := hidOf h8
    obtain ⟨n, hn⟩ : ∃ n, n = rs.length := ⟨_, rfl⟩
    rw [← hn] at h hn0 h8 ⊢
    have HN := hidOf hn
    clear hn
    go_enter Try.func98, Try.ntmps98
    go_wp2
    go_loopw [10] (fun i wr => ∃ k : Nat, k ≤ n ∧ i = .int .i64 k ∧ Hid (∀ (j : Nat) (x : Ru), j < k → rs[j]? = some x → RuOk x) ∧ Below w.heap.size w wr) (fun i _ => n - (intOf i).toNat)
    case atStart => exact ⟨0, Nat.zero_le _, rfl, hidOf fun j x h => by omega, Below.refl _ _⟩
    case round =>
      obtain ⟨k, hk, rfl, HA, hb⟩ := hrel
      by_cases hlt : k < n
      · obtain ⟨x, ex⟩ : ∃ x, rs[k]? = some x := ⟨_, List.getElem?_eq_getElem (by rw [← HN.out]; exact hlt)⟩
        obtain ⟨b1, o1, rfl, hb1, hc1⟩ := h (by omega)
        obtain ⟨p0, p1⟩ := ruC (w := wr) (fun j hj => by rw [hb.cell hb1]; exact hc1 k x ex j hj)
        have EX := hidOf ex
        have HB : ∀ o1 : Obj, Below w.heap.size w (wr.alloc o1) := fun o1 => hb.alloc hb.size _
        clear ex hc1 h
        have hA : (0 : Int) ≤ (k : Int) := by omega
        have hB : (k : Int) < (n : Int) := by omega
        have hin := fun W => iIn_any x.values 2 3 W
        have hin2 := fun W => iIn_any x.cost 0 9 W
        by_cases hv : 2 ≤ x.values ∧ x.values ≤ 3
        · rw [inB_yes hv.1 hv.2] at hin
          have HV := hidOf hv
          clear hv
          by_cases hc : 0 ≤ x.cost ∧ x.cost ≤ 9
          · rw [inB_yes hc.1 hc.2] at hin2
            have HC := hidOf hc
            clear hc
            go_wp2_with fail
            refine (hin _).mono ?_
            rintro e w1 ⟨rfl, rfl⟩
            go_wp2_with fail
            refine (hin2 _).mono ?_
            rintro e w1 ⟨rfl, rfl⟩
            go_wp2
            go_roundw
            case rel => exact ⟨k + 1, by omega, by go_num, hidOf (upto_step HA.out EX.out ⟨HV.out, HC.out⟩), HB _⟩
            case measure => simp [intOf]; omega
          · rw [inB_no hc] at hin2
            have HC := hidOf hc
            clear hc
            go_wp2_with fail
            refine (hin _).mono ?_
            rintro e w1 ⟨rfl, rfl⟩
            go_wp2_with fail
            refine (hin2 _).mono ?_
            rintro e w1 ⟨rfl, rfl⟩
            go_wp2
            go_ret
            exact tells_no (fun h => HC.out (h.2 k x EX.out).2) (HB _)
        · rw [inB_no hv] at hin
          have HV := hidOf hv
          clear hv
          go_wp2_with fail
          refine (hin _).mono ?_
          rintro e w1 ⟨rfl, rfl⟩
          go_wp2
          go_ret
          exact tells_no (fun h => HV.out (h.2 k x EX.out).1) (HB _)
      · go_wp2
        go_ret
        exact tells_yes ⟨H8.out, upto_all (by have := HN.out; omega) HA.out⟩ hb
  · have H8 := hidOf h8
    have h8' : (8 : Int) < (rs.length : Int) := by omega
    clear h h8
    go_enter Try.func98, Try.ntmps98
    go_wp2
    go_ret
    exact tells_no (fun h => H8.out h.1) (Below.refl _ _)

/-- The number of a rule that there is. -/
theorem rule_at {rs : List Ru} {r : Int} (h0 : 0 ≤ r) (h1 : r ≤ (rs.length : Int) - 1) : ∃ (k : Nat) (y : Ru), r = (k : Int) ∧ k < rs.length ∧ rs[k]? = some y := by
  obtain ⟨k, rfl⟩ := Int.eq_ofNat_of_zero_le h0
  have hk : k < rs.length := by omega
  exact ⟨k, _, rfl, hk, List.getElem?_eq_getElem hk⟩
theorem rule_none {rs : List Ru} {r : Int} (h : ¬ (0 ≤ r ∧ r ≤ (rs.length : Int) - 1)) {x : Ch} (hx : x.rule = r) : ¬ SplitOk rs x := by
  rintro ⟨h0, ⟨y, hy, -⟩, -⟩
  rw [hx] at h0 hy
  have := (List.getElem?_eq_some_iff.1 hy).1
  omega

set_option maxHeartbeats 4000000 in
theorem iSplit_any (a : Option Addr) (c : Nat) (rs : List Ru) (x : Ch) (w : World) (hn0 : rs.length ≤ 1048576) (h : RowsAt 2 ruCells w a rs) :
    Calls Try.prog 118 #[.slice a rs.length c, .agg #[.int .i64 x.rule, .int .i64 x.frm, .bool x.space, .int .i64 x.nest]] w fun e w' => Tells (SplitOk rs x) w e w' := by
  unfold RowsAt at h
  have HB : ∀ o1 : Obj, Below w.heap.size w (w.alloc o1) := fun o1 => (Below.refl _ _).alloc (Nat.le_refl _) _
  have hin := fun W => iIn_any x.rule 0 ((rs.length : Int) - 1) W
  by_cases hr : 0 ≤ x.rule ∧ x.rule ≤ (rs.length : Int) - 1
  · rw [inB_yes hr.1 hr.2] at hin
    obtain ⟨k, y, ek, hk, ey⟩ := rule_at hr.1 hr.2
    obtain ⟨b1, o1, rfl, hb1, hc1⟩ := h (by omega)
    have p01 := fun ob : Obj => ruC (w := w.alloc ob) (fun j hj => by rw [(HB ob).cell hb1]; exact hc1 k y ey j hj)
    have p0 := fun ob => (p01 ob).1
    have HK := hidOf ek
    have HY := hidOf (show rs[x.rule.toNat]? = some y by rw [ek]; exact ey)
    rw [ek] at hin ⊢
    clear ek hc1 h p01 ey hr
    obtain ⟨n, hn⟩ : ∃ n, n = rs.length := ⟨_, rfl⟩
    rw [← hn] at hk hn0 hin ⊢
    have HN := hidOf hn
    clear hn
    have hA : (0 : Int) ≤ (k : Int) := by omega
    have hB : (k : Int) < (n : Int) := by omega
    obtain ⟨f, hwf⟩ : ∃ f, wrap64 (y.values - 1) = f := ⟨_, rfl⟩
    have hwg : IntKind.i64.wrap (y.values - 1) = f := (IntWalk.i64_left _).trans hwf
    have HWF := hidOf hwf
    by_cases hf : 1 ≤ x.frm ∧ x.frm ≤ f
    · have i1 := inB_yes hf.1 hf.2
      have HF := hidOf hf
      clear hf
      by_cases hm : 0 ≤ x.nest ∧ x.nest ≤ 40
      · have i2 := inB_yes hm.1 hm.2
        have HM := hidOf hm
        clear hm
        go_enter Try.func118, Try.ntmps118
        go_wp2_with fail
        refine (hin _).mono ?_
        rintro e w1 ⟨rfl, rfl⟩
        go_wp2
        go_quiet ((go_at_call 97; exact Calls.quiet_of_same (iIn_any _ _ _ _)))
        go_wp2
        go_ret
        exact tells_yes ⟨by rw [HK.out]; exact hA, ⟨y, HY.out, HF.out.1, by rw [HWF.out]; exact HF.out.2⟩, HM.out⟩ (bel_drewN (HB _) _)
      · have i2 := inB_no hm
        have HM := hidOf hm
        clear hm
        go_enter Try.func118, Try.ntmps118
        go_wp2_with fail
        refine (hin _).mono ?_
        rintro e w1 ⟨rfl, rfl⟩
        go_wp2
        go_quiet ((go_at_call 97; exact Calls.quiet_of_same (iIn_any _ _ _ _)))
        go_wp2
        go_ret
        exact tells_no (fun h => HM.out h.2.2) (bel_drewN (HB _) _)
    · have i1 := inB_no hf
      have HF := hidOf hf
      clear hf
      go_enter Try.func118, Try.ntmps118
      go_wp2_with fail
      refine (hin _).mono ?_
      rintro e w1 ⟨rfl, rfl⟩
      go_wp2
      go_quiet ((go_at_call 97; exact Calls.quiet_of_same (iIn_any _ _ _ _)))
      go_wp2
      go_ret
      refine tells_no (fun h => ?_) (bel_drewN (HB _) _)
      obtain ⟨-, ⟨y', hy', h1, h2⟩, -⟩ := h
      rw [HY.out] at hy'
      cases hy'
      rw [HWF.out] at h2
      exact HF.out ⟨h1, h2⟩
  · rw [inB_no hr] at hin
    have HR := hidOf hr
    clear hr h
    go_enter Try.func118, Try.ntmps118
    go_wp2_with fail
    refine (hin _).mono ?_
    rintro e w1 ⟨rfl, rfl⟩
    go_wp2
    go_ret
    exact tells_no (rule_none HR.out rfl) (HB _)
end Go.Proofs.Ytgaejcljabhijaa
