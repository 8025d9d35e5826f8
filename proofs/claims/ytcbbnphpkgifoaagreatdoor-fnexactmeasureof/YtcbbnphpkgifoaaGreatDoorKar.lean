/- Texts and blanks of nodes: the program. -/
import Derived.Test.YtcbbnphpkgifoaaGreatDoorAheadI
import Derived.Test.YtcbbnphpkgifoaaGreatDoorKaf
import Derived.Test.YtcbbnphpkgifoaaGreatDoorTrS3
import Derived.Test.YtcbbnphpkgifoaaGreatDoorKap
namespace Go.Proofs.YtcbbnphpkgifoaaGreatDoor
open Go.RowKit
set_option maxHeartbeats 2500000
set_option maxRecDepth 100000
theorem ahead_nil (r : ByteArray) (w : World) (hs : r.size ≤ 4194304) (h0 : 0 < r.size) (h4 : (hd r).1 ≠ 4) :
  Calls Tryz.prog 103 #[.string r, .map none] w fun e w' => e = .returned (.tuple #[.int .i64 (hd r).1, .int .i64 (hd r).2]) ∧ Below w.heap.size w w' := by
 have hF := span_fig r w hs
 have hpf := spn_pos (p := figB) (s := r) (k := 0) h0
 have hlf := spn_le (p := figB) (s := r) (k := 0) (by omega)
 have hpn := spn_pos (p := namB) (s := r) (k := 0) h0
 have hln := spn_le (p := namB) (s := r) (k := 0) (by omega)
 cases hf : figB (by8 r 0)
 ·rw [hf] at hpf
  have hz : spn figB r 0 = 0 := by simpa using hpf
  rw [hz] at hF
  have hnf : namB (by8 r 0) = firB (by8 r 0) := by unfold namB; rw [hf, Bool.or_false]
  rw [hnf] at hpn
  cases hn : firB (by8 r 0)
  ·rw [hn] at hpn
   have hzn : spn namB r 0 = 0 := by simpa using hpn
   have hN := fun W => span_nam r W hs
   rw [hzn] at hN
   have hP1 := fun W => has_any r ⟨#[39]⟩ W
   rw [show (⟨#[39]⟩ : ByteArray).data.toList = [39] from rfl, pre1_is _ _ (by decide), show ((UInt8.toNat 39 : Nat) : Int) = 39 from rfl] at hP1
   have hP2 := fun W => has_any r ⟨#[47, 47]⟩ W
   rw [show (⟨#[47, 47]⟩ : ByteArray).data.toList = [47, 47] from rfl, pre2_is] at hP2
   cases hq : (by8 r 0 == 39)
   ·have hq' : by8 r 0 ≠ 39 := by simpa using hq
    rw [hq] at hP1
    cases hnt : ((by8 r 0 == 47) && (by8 r 1 == 47))
    ·have hnt' : ¬ (by8 r 0 = 47 ∧ by8 r 1 = 47) := by
      intro h
      simp [h.1, h.2] at hnt
     rw [hnt] at hP2
     exact absurd (by rw [hd_mk hf hn hq' hnt']) h4
    ·have hnt' : by8 r 0 = 47 ∧ by8 r 1 = 47 := by simpa using hnt
     rw [hnt] at hP2
     rw [hd_nt hnt']
     clear hf hn hq hq' hnt hnt' hz hzn hpf hpn hlf hln hnf
     go_enter Tryz.func103, Tryz.ntmps103
     go_wp2_with fail
     refine hF.mono ?_
     rintro e w1 ⟨rfl, hb1⟩
     go_wp2_with fail
     refine (hN _).mono ?_
     rintro e w2 ⟨rfl, hb2⟩
     have B2 := hb1.trans (hb2.mono hb1.size)
     go_wp2_with fail
     refine (hP1 _).mono ?_
     rintro e w2 ⟨rfl, rfl⟩
     go_wp2_with fail
     refine (hP2 _).mono ?_
     rintro e w2 ⟨rfl, rfl⟩
     go_wp2_with fail
     refine (noteSz_any r _ hs).mono ?_
     rintro e w3 ⟨rfl, hb3⟩
     go_wp2
     go_ret2
     exact ⟨rfl, B2.trans (hb3.mono B2.size)⟩
   ·have hq' : by8 r 0 = 39 := by simpa using hq
    rw [hq] at hP1
    rw [hd_qt hf hn hq']
    clear hf hn hq hq' hz hzn hpf hpn hlf hln hnf hP2
    go_enter Tryz.func103, Tryz.ntmps103
    go_wp2_with fail
    refine hF.mono ?_
    rintro e w1 ⟨rfl, hb1⟩
    go_wp2_with fail
    refine (hN _).mono ?_
    rintro e w2 ⟨rfl, hb2⟩
    have B2 := hb1.trans (hb2.mono hb1.size)
    go_wp2_with fail
    refine (hP1 _).mono ?_
    rintro e w2 ⟨rfl, rfl⟩
    go_wp2_with fail
    refine (textSz_any r _ hs h0).mono ?_
    rintro e w3 ⟨rfl, hb3⟩
    go_wp2
    go_ret2
    exact ⟨rfl, B2.trans (hb3.mono B2.size)⟩
  ·rw [hn] at hpn
   have hzn : 0 < spn namB r 0 := by simpa using hpn
   have hN := fun W => span_nam r W hs
   rw [hd_nam hf hn]
   obtain ⟨n, en⟩ : ∃ n, n = spn namB r 0 := ⟨_, rfl⟩
   rw [← en] at hN hzn hln ⊢
   have hU := fun W => upTo_any 30 n W
   obtain ⟨c, ec⟩ : ∃ c, c = capN 30 n := ⟨_, rfl⟩
   rw [← ec] at hU ⊢
   clear hf hn hz hpf hpn hlf hnf en ec
   go_enter Tryz.func103, Tryz.ntmps103
   go_wp2_with fail
   refine hF.mono ?_
   rintro e w1 ⟨rfl, hb1⟩
   go_wp2_with fail
   refine (hN _).mono ?_
   rintro e w2 ⟨rfl, hb2⟩
   have B2 := hb1.trans (hb2.mono hb1.size)
   go_wp2_with fail
   refine (hU _).mono ?_
   rintro e w2 ⟨rfl, rfl⟩
   go_wp2
   go_ret2
   exact ⟨rfl, B2⟩
 ·rw [hf] at hpf
  have hz : 0 < spn figB r 0 := by simpa using hpf
  rw [hd_fig hf]
  obtain ⟨n, en⟩ : ∃ n, n = spn figB r 0 := ⟨_, rfl⟩
  rw [← en] at hF hz hlf ⊢
  have hU := fun W => upTo_any 12 n W
  obtain ⟨c, ec⟩ : ∃ c, c = capN 12 n := ⟨_, rfl⟩
  rw [← ec] at hU ⊢
  clear hf hpf hpn hln en ec
  go_enter Tryz.func103, Tryz.ntmps103
  go_wp2_with fail
  refine hF.mono ?_
  rintro e w1 ⟨rfl, hb1⟩
  go_wp2_with fail
  refine (hU _).mono ?_
  rintro e w2 ⟨rfl, rfl⟩
  go_wp2
  go_ret2
  exact ⟨rfl, hb1⟩
def YesB (w : World) (e : Ending) (w' : World) : Prop := e = .returned (.bool true) ∧ Below w.heap.size w w'
theorem iSignT {k : Int} {t : ByteArray} (w : World) (h : Whole k t) (h4 : k ≠ 4) (h0 : 0 < t.size) (hs : t.size ≤ 3000) : Calls Tryz.prog 207 #[.string t, .int .i64 k] w (YesB w) := by
 have hA := fun W => ahead_nil t W (by omega) h0 (by rw [show hd t = (k, t.size) from h]; exact h4)
 rw [show hd t = (k, t.size) from h] at hA
 have hne : (t.toList == []) = false := by
  rw [beq_eq_false_iff_ne]
  intro e
  rw [ByteArray.toList_eq] at e
  have : t.data.toList.length = 0 := by rw [e]; rfl
  have h9 : t.size = t.data.toList.length := by simp
  omega
 have hgt : ¬ (3000 : Int) < (t.size : Int) := by omega
 clear h h4
 go_enter Tryz.func207, Tryz.ntmps207
 go_wp2_with fail
 refine (hA _).mono ?_
 rintro e w1 ⟨rfl, b1⟩
 go_wp2
 go_ret
 exact ⟨by simp, b1⟩
theorem iChainM {t : ByteArray} (w : World) (h : lvl t ≠ 0) : Calls Tryz.prog 208 #[.string t] w (YesB w) := by
 rcases lvl_cases h with rfl | rfl | rfl | rfl | rfl | rfl | rfl
 all_goals clear h
 all_goals go_enter Tryz.func208, Tryz.ntmps208
 all_goals go_wp2
 all_goals go_ret
 all_goals exact ⟨rfl, Below.refl _ _⟩
theorem iStepK (k : Int) (w : World) : Calls Tryz.prog 70 #[.int .i64 k] w (TelQ (StepK k) w) := by
 have key : (12 ≤ k ∧ k ≤ 17) ∨ (12 ≤ k ∧ ¬ k ≤ 17) ∨ ¬ 12 ≤ k := by omega
 rcases key with ⟨h1, h2⟩ | ⟨h1, h2⟩ | h1
 ·go_enter Tryz.func70, Tryz.ntmps70
  go_wp2
  go_ret
  exact telQ_yes (.inl ⟨h1, h2⟩)
 all_goals go_enter Tryz.func70, Tryz.ntmps70
 all_goals go_wp2
 all_goals go_ret
 all_goals refine ⟨_, rfl, ?_, rfl⟩
 all_goals unfold StepK
 all_goals simp
 all_goals omega
theorem iMembK (k : Int) (w : World) : Calls Tryz.prog 209 #[.int .i64 k] w (TelQ (MembK k) w) := by
 by_cases h1 : k = 12
 ·subst h1
  go_enter Tryz.func209, Tryz.ntmps209
  go_wp2
  go_ret
  exact telQ_yes (.inl rfl)
 have n1 : (k == 12) = false := by rw [beq_eq_false_iff_ne]; exact h1
 by_cases h2 : k = 20
 ·subst h2
  go_enter Tryz.func209, Tryz.ntmps209
  go_wp2
  go_ret
  exact telQ_yes (.inr (.inl rfl))
 have n2 : (k == 20) = false := by rw [beq_eq_false_iff_ne]; exact h2
 go_enter Tryz.func209, Tryz.ntmps209
 go_wp2
 go_ret
 refine ⟨_, rfl, ?_, rfl⟩
 unfold MembK
 simp [h1, h2]
set_option maxHeartbeats 3000000
set_option maxRecDepth 100000
def agN (q : Np) : Value := .agg #[.int .i64 q.nd.kind, .string q.nd.text, .slice q.a q.nd.kids.length q.c, .bool q.nd.blank]
theorem iNText {q : Np} (w : World) (hk : 1 ≤ q.nd.kind ∧ q.nd.kind ≤ 22) (hS : SafeNd q.nd) : Calls Tryz.prog 160 #[agN q] w (YesB w) := by
 have hs := hS.few
 have h := hS.text
 unfold agN
 clear hS
 obtain ⟨⟨k, t, ks, bl⟩, ka, kc⟩ := q
 simp only at hk hs h ⊢
 unfold TxOk at h
 rcases kind_cases hk with rfl | rfl | rfl | rfl | rfl | rfl | rfl | rfl | rfl | rfl | rfl | rfl | rfl | rfl | rfl | rfl | rfl | rfl | rfl | rfl | rfl | rfl
 all_goals simp at h
 all_goals clear hk
 all_goals first
  | (subst h
     go_enter Tryz.func160, Tryz.ntmps160
     go_wp2
     go_ret
     exact ⟨rfl, below_new _ _⟩)
  | (first
      | (have q := fun W => iSignT W h.1 (by decide) (by have := (whole_nam h.1).1; omega) hs)
      | (have q := fun W => iSignT W h (by decide) (by have := (whole_num h).1; omega) hs)
      | (have q := fun W => iSignT W h (by decide) (by have := (whole_txt h).1; omega) hs)
      | (have q := fun W => iSignT W h (by decide) (by have := (whole_nt h).1; omega) hs)
      | (have q := fun W => iChainM W h)
     clear h
     go_enter Tryz.func160, Tryz.ntmps160
     go_wp2_with fail
     refine (q _).mono ?_
     rintro e w1 ⟨rfl, b1⟩
     go_wp2
     go_ret
     exact ⟨rfl, (below_new _ _).trans (b1.mono (below_new _ _).size)⟩)
theorem iBlankN (q : Np) (w : World) : Calls Tryz.prog 161 #[agN q] w (TelB (q.nd.blank = true → StepK q.nd.kind ∨ q.nd.kind = 20 ∨ q.nd.kind = 21) w) := by
 unfold agN
 have q1 := fun W => iStepK q.nd.kind W
 have q2 := fun W => iMembK q.nd.kind W
 obtain ⟨⟨k, t, ks, bl⟩, ka, kc⟩ := q
 simp only at q1 q2 ⊢
 cases bl with
 | false =>
  go_enter Tryz.func161, Tryz.ntmps161
  go_wp2
  go_ret
  exact telB_yes (fun e => by cases e) (below_new _ _)
 | true =>
  by_cases h1 : StepK k
  ·have H1 := hidOf h1
   clear h1
   go_enter Tryz.func161, Tryz.ntmps161
   go_wp2_with fail
   refine (q1 _).mono ?_
   rintro e w3 h9
   obtain ⟨rfl, rfl⟩ := h9.yes H1.out
   clear h9
   go_wp2
   go_ret
   exact telB_yes (fun _ => .inl H1.out) (below_new _ _)
  by_cases h2 : MembK k
  ·have H1 := hidOf h1
   have H2 := hidOf h2
   have H3 := hidOf (show StepK k ∨ k = 20 ∨ k = 21 by unfold MembK at h2; unfold StepK; omega)
   clear h1 h2
   go_enter Tryz.func161, Tryz.ntmps161
   go_wp2_with fail
   refine (q1 _).mono ?_
   rintro e w3 h9
   obtain ⟨rfl, rfl⟩ := h9.no H1.out
   clear h9
   go_wp2_with fail
   refine (q2 _).mono ?_
   rintro e w3 h9
   obtain ⟨rfl, rfl⟩ := h9.yes H2.out
   clear h9
   go_wp2
   go_ret
   exact telB_yes (fun _ => H3.out) (below_new _ _)
  ·have H1 := hidOf h1
   have H2 := hidOf h2
   have H3 := hidOf (show k ≠ 20 from fun e => h2 (.inr (.inl e)))
   clear h1 h2
   obtain ⟨bb, hbb⟩ : ∃ bb, bb = (k == 21) := ⟨_, rfl⟩
   have HB := hidOf (show bb = true ↔ k = 21 by rw [hbb]; simp)
   go_enter Tryz.func161, Tryz.ntmps161
   go_wp2_with fail
   refine (q1 _).mono ?_
   rintro e w3 h9
   obtain ⟨rfl, rfl⟩ := h9.no H1.out
   clear h9
   go_wp2_with fail
   refine (q2 _).mono ?_
   rintro e w3 h9
   obtain ⟨rfl, rfl⟩ := h9.no H2.out
   clear h9
   go_wp2
   rw [← hbb]
   go_ret
   exact ⟨bb, rfl, HB.out.trans ⟨fun e _ => .inr (.inr e), fun e => by
    rcases e trivial with h | h | h
    ·exact absurd h H1.out
    ·exact absurd h H3.out
    ·exact h⟩, below_new _ _⟩
set_option maxHeartbeats 4000000
set_option maxRecDepth 100000
theorem Nds.kidOf {w : World} {B : Nat} {a : Option Addr} {c : Nat} {qs : List Np} {q : Np} (h : Nds w B a c qs) (hq : q ∈ qs) : ∀ (i : Nat) (z : Int), q.nd.kids[i]? = some z → ∃ b, q.a = some ⟨b, 0, none⟩ ∧ b < w.heap.size ∧ w.cell? ⟨b, i, none⟩ = some (.int .i64 z) := fun i z hz => by
 obtain ⟨k, hk⟩ := List.mem_iff_getElem?.1 hq
 exact h.kid hk hz
theorem iCalled {w : World} {B : Nat} {a : Option Addr} {c : Nat} {qs : List Np} {q : Np} (h : Nds w B a c qs) (hq : q ∈ qs) : Calls Tryz.prog 204 #[.slice a qs.length c, agN q] w (TelB (CallK (qs.map Np.nd) q.nd) w) := by
 have HH := hidOf (h.kidOf hq)
 obtain ⟨P, hP⟩ : ∃ P, P = CallK (qs.map Np.nd) q.nd := ⟨_, rfl⟩
 have HP := hidOf (show P ↔ CallK (qs.map Np.nd) q.nd by rw [hP])
 rw [← hP]
 unfold agN
 obtain ⟨⟨k, t, ks, bl⟩, ka, kc⟩ := q
 simp only at HH HP ⊢
 have hrw := h.row
 obtain ⟨n, hn⟩ : ∃ n, n = qs.length := ⟨_, rfl⟩
 rw [← hn]
 have HN := hidOf hn
 clear hP h hq hn hrw
 by_cases h5 : k = 5
 ·have h5' : (k != 5) = false := by simp [h5]
  have H5 := hidOf h5
  clear h5
  by_cases h0 : ks.length = 0
  ·have hd : decide ((0 : Int) < (ks.length : Int)) = false := decide_eq_false (by omega)
   have HF := hidOf (show ¬ P from fun hp => by
    obtain ⟨z, hz, -⟩ := HP.out.1 hp H5.out
    have h9 : 0 < ks.length := (List.getElem?_eq_some_iff.1 hz).1
    omega)
   have hd2 : decide (0 < ks.length) = false := decide_eq_false (by omega)
   have hd3 : ¬ 0 < ks.length := by omega
   obtain ⟨nk, hnk⟩ : ∃ nk, nk = ks.length := ⟨_, rfl⟩
   rw [← hnk] at hd hd2 hd3 ⊢
   clear h0 hnk
   go_enter Tryz.func204, Tryz.ntmps204
   go_wp2
   go_ret
   exact telB_no HF.out (below_new _ _)
  ·obtain ⟨z, hz⟩ : ∃ z, ks[0]? = some z := ⟨_, List.getElem?_eq_getElem (by omega)⟩
   obtain ⟨b, rfl, hb, hc⟩ := HH.out 0 z hz
   have hal : ∀ ob : Obj, (w.alloc ob).cell? ⟨b, 0, none⟩ = some (.int .i64 z) := fun ob => (World.cell?_alloc_old _ _ _ (by show b ≠ w.heap.size; omega)).trans hc
   have hd : decide ((0 : Int) < (ks.length : Int)) = true := decide_eq_true (by omega)
   have hpos : (0 : Int) < (ks.length : Int) := by omega
   have HZ := hidOf (show P ↔ (0 ≤ z ∧ z < (n : Int)) by
    rw [HP.out]
    constructor
    ·intro hp
     obtain ⟨z2, hz2, h1, h2⟩ := hp H5.out
     rw [hz] at hz2
     cases hz2
     rw [List.length_map, ← HN.out] at h2
     exact ⟨h1, h2⟩
    ·intro h1 _
     exact ⟨z, hz, h1.1, by rw [List.length_map, ← HN.out]; exact h1.2⟩)
   obtain ⟨nk, hnk⟩ : ∃ nk, nk = ks.length := ⟨_, rfl⟩
   rw [← hnk] at hd hpos ⊢
   clear h0 hz hc hnk
   by_cases hz0 : 0 ≤ z
   ·by_cases hz1 : z < (n : Int)
    ·have d1 : decide (0 ≤ z) = true := decide_eq_true hz0
     have d2 : decide (z < (n : Int)) = true := decide_eq_true hz1
     have HT := hidOf (HZ.out.2 ⟨hz0, hz1⟩)
     clear hz0 hz1
     go_enter Tryz.func204, Tryz.ntmps204
     go_wp2
     go_ret
     exact telB_yes HT.out (below_new _ _)
    ·have d1 : decide (0 ≤ z) = true := decide_eq_true hz0
     have d2 : decide (z < (n : Int)) = false := decide_eq_false hz1
     have HT := hidOf (show ¬ P from fun hp => hz1 (HZ.out.1 hp).2)
     clear hz0 hz1
     go_enter Tryz.func204, Tryz.ntmps204
     go_wp2
     go_ret
     exact telB_no HT.out (below_new _ _)
   ·have d1 : decide (0 ≤ z) = false := decide_eq_false hz0
    have HT := hidOf (show ¬ P from fun hp => hz0 (HZ.out.1 hp).1)
    clear hz0
    go_enter Tryz.func204, Tryz.ntmps204
    go_wp2
    go_ret
    exact telB_no HT.out (below_new _ _)
 ·have h5' : (k != 5) = true := by simpa using h5
  have HT := hidOf (HP.out.2 (fun e => absurd e h5))
  clear h5
  go_enter Tryz.func204, Tryz.ntmps204
  go_wp2
  go_ret
  exact telB_yes HT.out (below_new _ _)
theorem iValK (k : Int) (w : World) : Calls Tryz.prog 243 #[.int .i64 k] w (TelQ (ValK k) w) := by
 by_cases h1 : 1 ≤ k
 ·by_cases h2 : k ≤ 11
  ·have HT := hidOf (show ValK k from ⟨h1, h2⟩)
   have d1 : decide (1 ≤ k) = true := decide_eq_true h1
   have d2 : decide (k ≤ 11) = true := decide_eq_true h2
   go_enter Tryz.func243, Tryz.ntmps243
   go_wp2
   go_ret
   exact telQ_yes HT.out
  ·have HT := hidOf (show ¬ ValK k from fun h => h2 h.2)
   have d1 : decide (1 ≤ k) = true := decide_eq_true h1
   have d2 : decide (k ≤ 11) = false := decide_eq_false h2
   go_enter Tryz.func243, Tryz.ntmps243
   go_wp2
   go_ret
   exact telQ_no HT.out
 ·have HT := hidOf (show ¬ ValK k from fun h => h1 h.1)
  have d1 : decide (1 ≤ k) = false := decide_eq_false h1
  go_enter Tryz.func243, Tryz.ntmps243
  go_wp2
  go_ret
  exact telQ_no HT.out
theorem iFills {w : World} {B : Nat} {a : Option Addr} {c : Nat} {qs : List Np} {q : Np} (r : Nat) (hr : 1 ≤ r ∧ r ≤ 7) (h : Nds w B a c qs) (hq : q ∈ qs) (hC : CallK (qs.map Np.nd) q.nd) : Calls Tryz.prog 205 #[.slice a qs.length c, agN q, .int .i64 (r : Int)] w (TelB (RoleP (qs.map Np.nd) q.nd r) w) := by
 have HH := hidOf (h.kidOf hq)
 have HNd := hidOf (fun (k : Nat) (u : Np) (hk : qs[k]? = some u) => h.node hk)
 obtain ⟨P, hP⟩ : ∃ P, P = RoleP (qs.map Np.nd) q.nd r := ⟨_, rfl⟩
 have HP := hidOf (show P ↔ RoleP (qs.map Np.nd) q.nd r by rw [hP])
 rw [← hP]
 have HC := hidOf hC
 unfold agN
 obtain ⟨⟨k, t, ks, bl⟩, ka, kc⟩ := q
 simp only at HH HP HC ⊢
 obtain ⟨n, hn⟩ : ∃ n, n = qs.length := ⟨_, rfl⟩
 rw [← hn]
 have HN := hidOf hn
 have qV := fun W => iValK k W
 have qS := fun W => iStepK k W
 have qM := fun W => iMembK k W
 clear hP h hq hn hC
 rcases (show r = 1 ∨ r = 2 ∨ r = 3 ∨ r = 4 ∨ r = 5 ∨ r = 6 ∨ r = 7 by omega) with rfl | rfl | rfl | rfl | rfl | rfl | rfl
 ·have HP1 := hidOf (show P ↔ ValK k from HP.out)
  clear HP hr
  go_enter Tryz.func205, Tryz.ntmps205
  go_wp2_with fail
  refine (qV _).mono ?_
  rintro e w1 ⟨b, rfl, hb, rfl⟩
  have HB := hidOf (hb.trans HP1.out.symm)
  clear hb
  go_wp2
  go_ret
  exact ⟨b, rfl, HB.out, below_new _ _⟩
 ·obtain ⟨b, hb⟩ : ∃ b, b = (k == 1) := ⟨_, rfl⟩
  have HB := hidOf (show b = true ↔ P by rw [hb, beq_iff_eq, HP.out]; exact Iff.rfl)
  have hb' : (k == 1) = b := hb.symm
  clear HP hr hb
  go_enter Tryz.func205, Tryz.ntmps205
  go_wp2
  go_ret
  exact ⟨b, rfl, HB.out, below_new _ _⟩
 ·have HP3 := hidOf (show P ↔ nameCall (qs.map Np.nd) ⟨k, t, ks, bl⟩ from HP.out)
  clear HP hr
  by_cases h5 : k = 5
  ·obtain ⟨z, hz, hz0, hz1⟩ := HC.out h5
   rw [List.length_map, ← HN.out] at hz1
   obtain ⟨u, hu⟩ : ∃ u, qs[z.toNat]? = some u := ⟨_, List.getElem?_eq_getElem (by rw [← HN.out]; omega)⟩
   simp only at hz
   obtain ⟨b1, rfl, hb1, hc1⟩ := HH.out 0 z hz
   obtain ⟨b2, rfl, hb2, d0, -⟩ := HNd.out _ u hu
   obtain ⟨m, hm⟩ : ∃ m : Nat, m = z.toNat := ⟨_, rfl⟩
   rw [← hm] at d0
   have hzm : z = (m : Int) := by omega
   rw [hzm] at hc1
   have hal1 : ∀ ob : Obj, (w.alloc ob).cell? ⟨b1, 0, none⟩ = some (.int .i64 (m : Int)) := fun ob => (World.cell?_alloc_old _ _ _ (by show b1 ≠ w.heap.size; omega)).trans hc1
   have hal2 : ∀ ob : Obj, (w.alloc ob).cell? ⟨b2, m * 4, none⟩ = some (.int .i64 u.nd.kind) := fun ob => (World.cell?_alloc_old _ _ _ (by show b2 ≠ w.heap.size; omega)).trans d0
   have hpos : (0 : Int) < (ks.length : Int) := by have := (List.getElem?_eq_some_iff.1 hz).1; omega
   have hm0 : (0 : Int) ≤ (m : Int) := by omega
   have hm1 : (m : Int) < (n : Int) := by omega
   obtain ⟨bb, hbb⟩ : ∃ bb, bb = (u.nd.kind == 1) := ⟨_, rfl⟩
   have HB := hidOf (show bb = true ↔ P by
    rw [hbb, beq_iff_eq, HP3.out]
    constructor
    ·intro e; exact ⟨h5, z, u.nd, hz, by rw [List.getElem?_map, hu]; rfl, e⟩
    ·rintro ⟨-, z2, u2, e1, e2, e3⟩
     simp only at e1
     rw [hz] at e1
     cases e1
     rw [List.getElem?_map, hu] at e2
     cases e2
     exact e3)
   have hbb' : (u.nd.kind == 1) = bb := hbb.symm
   have h5' : (k == 5) = true := by simp [h5]
   obtain ⟨nk, hnk⟩ : ∃ nk, nk = ks.length := ⟨_, rfl⟩
   rw [← hnk] at hpos ⊢
   clear h5 hz hu hc1 d0 hm hzm hbb hnk hz0 hz1
   go_enter Tryz.func205, Tryz.ntmps205
   go_wp2
   go_ret
   exact ⟨bb, rfl, HB.out, below_new _ _⟩
  ·have h5' : (k == 5) = false := by rw [beq_eq_false_iff_ne]; exact h5
   have HF := hidOf (show ¬ P from fun hp => h5 (HP3.out.1 hp).1)
   clear h5
   go_enter Tryz.func205, Tryz.ntmps205
   go_wp2
   go_ret
   exact telB_no HF.out (below_new _ _)
 ·obtain ⟨b, hb⟩ : ∃ b, b = (k == 18) := ⟨_, rfl⟩
  have HB := hidOf (show b = true ↔ P by rw [hb, beq_iff_eq, HP.out]; exact Iff.rfl)
  have hb' : (k == 18) = b := hb.symm
  clear HP hr hb
  go_enter Tryz.func205, Tryz.ntmps205
  go_wp2
  go_ret
  exact ⟨b, rfl, HB.out, below_new _ _⟩
 ·have HP1 := hidOf (show P ↔ StepK k from HP.out)
  clear HP hr
  go_enter Tryz.func205, Tryz.ntmps205
  go_wp2_with fail
  refine (qS _).mono ?_
  rintro e w1 ⟨b, rfl, hb, rfl⟩
  have HB := hidOf (hb.trans HP1.out.symm)
  clear hb
  go_wp2
  go_ret
  exact ⟨b, rfl, HB.out, below_new _ _⟩
 ·have HP1 := hidOf (show P ↔ MembK k from HP.out)
  clear HP hr
  go_enter Tryz.func205, Tryz.ntmps205
  go_wp2_with fail
  refine (qM _).mono ?_
  rintro e w1 ⟨b, rfl, hb, rfl⟩
  have HB := hidOf (hb.trans HP1.out.symm)
  clear hb
  go_wp2
  go_ret
  exact ⟨b, rfl, HB.out, below_new _ _⟩
 ·have HP1 := hidOf (show P ↔ (MembK k ∨ k = 21) from HP.out)
  obtain ⟨b2, hb2⟩ : ∃ b, b = (k == 21) := ⟨_, rfl⟩
  have HB2 := hidOf (show b2 = true ↔ k = 21 by rw [hb2, beq_iff_eq])
  have hb' : (k == 21) = b2 := hb2.symm
  clear HP hr hb2
  go_enter Tryz.func205, Tryz.ntmps205
  go_wp2_with fail
  refine (qM _).mono ?_
  rintro e w1 ⟨b, rfl, hb, rfl⟩
  have HB := hidOf hb
  clear hb
  cases b
  ·have HR := hidOf (show b2 = true ↔ P by
    rw [HP1.out, HB2.out]
    constructor
    ·exact .inr
    ·rintro (h | h)
     ·have := HB.out.2 h; cases this
     ·exact h)
   go_wp2
   go_ret
   exact ⟨b2, rfl, HR.out, below_new _ _⟩
  ·have HT := hidOf (HP1.out.2 (.inl (HB.out.1 rfl)))
   go_wp2
   go_ret
   exact telB_yes HT.out (below_new _ _)
end Go.Proofs.YtcbbnphpkgifoaaGreatDoor
