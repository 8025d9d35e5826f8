/- Texts and blanks of nodes: the program. -/
import Derived.Test.YtabbfpkhlofccaaGreatDoorAheadI
import Derived.Test.YtabbfpkhlofccaaGreatDoorKah
namespace Go.Proofs.YtabbfpkhlofccaaGreatDoor
open Go.RowKit

set_option maxHeartbeats 2500000 in
set_option maxRecDepth 100000 in
theorem ahead_nil (r : ByteArray) (w : World) (hs : r.size ≤ 4194304) (h0 : 0 < r.size) (h4 : (hd r).1 ≠ 4) :
    Calls Tryz.prog 64 #[.string r, .map none] w fun e w' => e = .returned (.tuple #[.int .i64 (hd r).1, .int .i64 (hd r).2]) ∧ Below w.heap.size w w' := by
  have hF := span_fig r w hs
  have hpf := spn_pos (p := figB) (s := r) (k := 0) h0
  have hlf := spn_le (p := figB) (s := r) (k := 0) (by omega)
  have hpn := spn_pos (p := namB) (s := r) (k := 0) h0
  have hln := spn_le (p := namB) (s := r) (k := 0) (by omega)
  cases hf : figB (by8 r 0)
  · rw [hf] at hpf
    have hz : spn figB r 0 = 0 := by simpa using hpf
    rw [hz] at hF
    have hnf : namB (by8 r 0) = firB (by8 r 0) := by unfold namB; rw [hf, Bool.or_false]
    rw [hnf] at hpn
    cases hn : firB (by8 r 0)
    · rw [hn] at hpn
      have hzn : spn namB r 0 = 0 := by simpa using hpn
      have hN := fun W => span_nam r W hs
      rw [hzn] at hN
      have hP1 := fun W => has_any r ⟨#[39]⟩ W
      rw [show (⟨#[39]⟩ : ByteArray).data.toList = [39] from rfl, pre1_is _ _ (by decide), show ((UInt8.toNat 39 : Nat) : Int) = 39 from rfl] at hP1
      have hP2 := fun W => has_any r ⟨#[47, 47]⟩ W
      rw [show (⟨#[47, 47]⟩ : ByteArray).data.toList = [47, 47] from rfl, pre2_is] at hP2
      cases hq : (by8 r 0 == 39)
      · have hq' : by8 r 0 ≠ 39 := by simpa using hq
        rw [hq] at hP1
        cases hnt : ((by8 r 0 == 47) && (by8 r 1 == 47))
        · have hnt' : ¬ (by8 r 0 = 47 ∧ by8 r 1 = 47) := by
            intro h
            simp [h.1, h.2] at hnt
          rw [hnt] at hP2
          exact absurd (by rw [hd_mk hf hn hq' hnt']) h4
        · have hnt' : by8 r 0 = 47 ∧ by8 r 1 = 47 := by simpa using hnt
          rw [hnt] at hP2
          rw [hd_nt hnt']
          clear hf hn hq hq' hnt hnt' hz hzn hpf hpn hlf hln hnf
          go_enter Tryz.func64, Tryz.ntmps64
          go_wp2_with fail
          refine hF.mono ?_
          rintro e w1 ⟨rfl, hb1⟩
          go_wp2_with fail
          refine (hN _).mono ?_
          rintro e w2 ⟨rfl, hb2⟩
          have B2 := hb1.trans (hb2.mono hb1.size)
          go_wp2_with fail
          refine (hP1 _).mono ?_
          rintro e w2 ⟨rfl, rfl⟩
          go_wp2_with fail
          refine (hP2 _).mono ?_
          rintro e w2 ⟨rfl, rfl⟩
          go_wp2_with fail
          refine (noteSz_any r _ hs).mono ?_
          rintro e w3 ⟨rfl, hb3⟩
          go_wp2
          go_ret2
          exact ⟨rfl, B2.trans (hb3.mono B2.size)⟩
      · have hq' : by8 r 0 = 39 := by simpa using hq
        rw [hq] at hP1
        rw [hd_qt hf hn hq']
        clear hf hn hq hq' hz hzn hpf hpn hlf hln hnf hP2
        go_enter Tryz.func64, Tryz.ntmps64
        go_wp2_with fail
        refine hF.mono ?_
        rintro e w1 ⟨rfl, hb1⟩
        go_wp2_with fail
        refine (hN _).mono ?_
        rintro e w2 ⟨rfl, hb2⟩
        have B2 := hb1.trans (hb2.mono hb1.size)
        go_wp2_with fail
        refine (hP1 _).mono ?_
        rintro e w2 ⟨rfl, rfl⟩
        go_wp2_with fail
        refine (textSz_any r _ hs h0).mono ?_
        rintro e w3 ⟨rfl, hb3⟩
        go_wp2
        go_ret2
        exact ⟨rfl, B2.trans (hb3.mono B2.size)⟩
    · rw [hn] at hpn
      have hzn : 0 < spn namB r 0 := by simpa using hpn
      have hN := fun W => span_nam r W hs
      rw [hd_nam hf hn]
      obtain ⟨n, en⟩ : ∃ n, n = spn namB r 0 := ⟨_, rfl⟩
      rw [← en] at hN hzn hln ⊢
      have hU := fun W => upTo_any 30 n W
      obtain ⟨c, ec⟩ : ∃ c, c = capN 30 n := ⟨_, rfl⟩
      rw [← ec] at hU ⊢
      clear hf hn hz hpf hpn hlf hnf en ec
      go_enter Tryz.func64, Tryz.ntmps64
      go_wp2_with fail
      refine hF.mono ?_
      rintro e w1 ⟨rfl, hb1⟩
      go_wp2_with fail
      refine (hN _).mono ?_
      rintro e w2 ⟨rfl, hb2⟩
      have B2 := hb1.trans (hb2.mono hb1.size)
      go_wp2_with fail
      refine (hU _).mono ?_
      rintro e w2 ⟨rfl, rfl⟩
      go_wp2
      go_ret2
      exact ⟨rfl, B2⟩
  · rw [hf] at hpf
    have hz : 0 < spn figB r 0 := by simpa using hpf
    rw [hd_fig hf]
    obtain ⟨n, en⟩ : ∃ n, n = spn figB r 0 := ⟨_, rfl⟩
    rw [← en] at hF hz hlf ⊢
    have hU := fun W => upTo_any 12 n W
    obtain ⟨c, ec⟩ : ∃ c, c = capN 12 n := ⟨_, rfl⟩
    rw [← ec] at hU ⊢
    clear hf hpf hpn hln en ec
    go_enter Tryz.func64, Tryz.ntmps64
    go_wp2_with fail
    refine hF.mono ?_
    rintro e w1 ⟨rfl, hb1⟩
    go_wp2_with fail
    refine (hU _).mono ?_
    rintro e w2 ⟨rfl, rfl⟩
    go_wp2
    go_ret2
    exact ⟨rfl, hb1⟩
/-- It says yes; nothing that was there has turned. -/
def YesB (w : World) (e : Ending) (w' : World) : Prop := e = .returned (.bool true) ∧ Below w.heap.size w w'
set_option maxHeartbeats 1600000 in
set_option maxRecDepth 100000 in
theorem iSignT {k : Int} {t : ByteArray} (w : World) (h : Whole k t) (h4 : k ≠ 4) (h0 : 0 < t.size) (hs : t.size ≤ 3000) : Calls Tryz.prog 41 #[.string t, .int .i64 k] w (YesB w) := by
  have hA := fun W => ahead_nil t W (by omega) h0 (by rw [show hd t = (k, t.size) from h]; exact h4)
  rw [show hd t = (k, t.size) from h] at hA
  have hne : (t.toList == []) = false := by
    rw [beq_eq_false_iff_ne]
    intro e
    rw [ByteArray.toList_eq] at e
    have : t.data.toList.length = 0 := by rw [e]; rfl
    have h9 : t.size = t.data.toList.length := by simp
    omega
  have hgt : ¬ (3000 : Int) < (t.size : Int) := by omega
  clear h h4
  go_enter Tryz.func41, Tryz.ntmps41
  go_wp2_with fail
  refine (hA _).mono ?_
  rintro e w1 ⟨rfl, b1⟩
  go_wp2
  go_ret
  exact ⟨by simp, b1⟩
set_option maxHeartbeats 1600000 in
set_option maxRecDepth 100000 in
theorem iChainM {t : ByteArray} (w : World) (h : lvl t ≠ 0) : Calls Tryz.prog 209 #[.string t] w (YesB w) := by
  rcases lvl_cases h with rfl | rfl | rfl | rfl | rfl | rfl | rfl
  all_goals clear h
  all_goals go_enter Tryz.func209, Tryz.ntmps209
  all_goals go_wp2
  all_goals go_ret
  all_goals exact ⟨rfl, Below.refl _ _⟩
set_option maxHeartbeats 1600000 in
set_option maxRecDepth 100000 in
theorem iStepK (k : Int) (w : World) : Calls Tryz.prog 210 #[.int .i64 k] w (TelQ (StepK k) w) := by
  have key : (12 ≤ k ∧ k ≤ 17) ∨ (12 ≤ k ∧ ¬ k ≤ 17) ∨ ¬ 12 ≤ k := by omega
  rcases key with ⟨h1, h2⟩ | ⟨h1, h2⟩ | h1
  · go_enter Tryz.func210, Tryz.ntmps210
    go_wp2
    go_ret
    exact telQ_yes (.inl ⟨h1, h2⟩)
  all_goals go_enter Tryz.func210, Tryz.ntmps210
  all_goals go_wp2
  all_goals go_ret
  all_goals refine ⟨_, rfl, ?_, rfl⟩
  all_goals unfold StepK
  all_goals simp
  all_goals omega
set_option maxHeartbeats 1600000 in
set_option maxRecDepth 100000 in
theorem iMembK (k : Int) (w : World) : Calls Tryz.prog 211 #[.int .i64 k] w (TelQ (MembK k) w) := by
  by_cases h1 : k = 12
  · subst h1
    go_enter Tryz.func211, Tryz.ntmps211
    go_wp2
    go_ret
    exact telQ_yes (.inl rfl)
  have n1 : (k == 12) = false := by rw [beq_eq_false_iff_ne]; exact h1
  by_cases h2 : k = 20
  · subst h2
    go_enter Tryz.func211, Tryz.ntmps211
    go_wp2
    go_ret
    exact telQ_yes (.inr (.inl rfl))
  have n2 : (k == 20) = false := by rw [beq_eq_false_iff_ne]; exact h2
  go_enter Tryz.func211, Tryz.ntmps211
  go_wp2
  go_ret
  refine ⟨_, rfl, ?_, rfl⟩
  unfold MembK
  simp [h1, h2]
end Go.Proofs.YtabbfpkhlofccaaGreatDoor
