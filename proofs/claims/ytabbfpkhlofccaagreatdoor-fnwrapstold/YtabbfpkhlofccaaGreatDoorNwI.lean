/- What the ways cost to put words into lines: impl.newWrapping and its methods. -/
import Derived.Test.YtabbfpkhlofccaaGreatDoorRagI
import Derived.BigQuiet
import Derived.Deep.QuietTactic
import Derived.BigRegion
import Derived.Deep.RegionHeld3
namespace Go.Proofs.YtabbfpkhlofccaaGreatDoor
open Go.RowKit

theorem drewN_two' (w : World) (a b : Nat) : (w.drewN a).drewN b = w.drewN (a + b) := by
  unfold World.drewN
  simp [Nat.add_assoc]
/-- The cells of a wrapping. -/
def wpC (n : Nat) (width : Int) (f l : Nat → Int) : List Value := .int .i64 n :: .int .i64 width :: ((List.range 61).map (fun j => Value.int .i64 (f j)) ++ (List.range 61).map (fun j => Value.int .i64 (l j)))
theorem wpC_len (n : Nat) (width : Int) (f l : Nat → Int) : (wpC n width f l).length = 124 := by simp [wpC]
theorem wpC_f (n : Nat) (width : Int) (f l : Nat → Int) {j : Nat} (h : j ≤ 60) : (wpC n width f l)[2 + j]? = some (.int .i64 (f j)) := by
  rw [wpC, show 2 + j = j + 1 + 1 by omega, List.getElem?_cons_succ, List.getElem?_cons_succ, List.getElem?_append_left (by simp; omega)]
  simp [show j < 61 by omega]
theorem wpC_l (n : Nat) (width : Int) (f l : Nat → Int) {j : Nat} (h : j ≤ 60) : (wpC n width f l)[63 + j]? = some (.int .i64 (l j)) := by
  rw [wpC, show 63 + j = 61 + j + 1 + 1 by omega, List.getElem?_cons_succ, List.getElem?_cons_succ, List.getElem?_append_right (by simp)]
  simp [show j < 61 by omega]
def upd (f : Nat → Int) (k : Nat) (x : Int) : Nat → Int := fun j => if j = k then x else f j
theorem wpC_ext {n : Nat} {width : Int} {f l : Nat → Int} {xs : List Value} (h : xs.length = 124) (h0 : xs[0]? = some (.int .i64 n)) (h1 : xs[1]? = some (.int .i64 width)) (hf : ∀ j, j ≤ 60 → xs[2 + j]? = some (.int .i64 (f j))) (hl : ∀ j, j ≤ 60 → xs[63 + j]? = some (.int .i64 (l j))) : xs = wpC n width f l := by
  apply List.ext_getElem?
  intro i
  by_cases h2 : i < 2
  · by_cases hi : i = 0
    · subst hi; rw [h0]; rfl
    · have : i = 1 := by omega
      subst this; rw [h1]; rfl
  · by_cases h3 : i < 63
    · obtain ⟨j, rfl⟩ : ∃ j, i = 2 + j := ⟨i - 2, by omega⟩
      rw [hf j (by omega), wpC_f _ _ _ _ (by omega)]
    · by_cases h4 : i < 124
      · obtain ⟨j, rfl⟩ : ∃ j, i = 63 + j := ⟨i - 63, by omega⟩
        rw [hl j (by omega), wpC_l _ _ _ _ (by omega)]
      · rw [List.getElem?_eq_none (by omega), List.getElem?_eq_none (by rw [wpC_len]; omega)]
theorem wpC_setf (n : Nat) (width : Int) (f l : Nat → Int) {k : Nat} (hk : k ≤ 60) (x : Int) : (wpC n width f l).set (2 + k) (.int .i64 x) = wpC n width (upd f k x) l := by
  apply wpC_ext (by rw [List.length_set, wpC_len])
  · rw [List.getElem?_set_ne (by omega)]; rfl
  · rw [List.getElem?_set_ne (by omega)]; rfl
  · intro j hj
    unfold upd
    by_cases h : j = k
    · subst h
      rw [List.getElem?_set_self (by rw [wpC_len]; omega), if_pos rfl]
    · rw [List.getElem?_set_ne (by omega), if_neg h, wpC_f _ _ _ _ hj]
  · intro j hj
    rw [List.getElem?_set_ne (by omega), wpC_l _ _ _ _ hj]
theorem wpC_setl (n : Nat) (width : Int) (f l : Nat → Int) {k : Nat} (hk : k ≤ 60) (x : Int) : (wpC n width f l).set (63 + k) (.int .i64 x) = wpC n width f (upd l k x) := by
  apply wpC_ext (by rw [List.length_set, wpC_len])
  · rw [List.getElem?_set_ne (by omega)]; rfl
  · rw [List.getElem?_set_ne (by omega)]; rfl
  · intro j hj
    rw [List.getElem?_set_ne (by omega), wpC_f _ _ _ _ hj]
  · intro j hj
    unfold upd
    by_cases h : j = k
    · subst h
      rw [List.getElem?_set_self (by rw [wpC_len]; omega), if_pos rfl]
    · rw [List.getElem?_set_ne (by omega), if_neg h, wpC_l _ _ _ _ hj]
theorem zero_wr : Tryz.zeroCells48.toList = wpC 0 0 (fun _ => 0) (fun _ => 0) := by kernel_rfl
theorem made_wr (n : Nat) (width : Int) : ((Tryz.zeroCells48.setIfInBounds 0 (.int .i64 n)).setIfInBounds 1 (.int .i64 width)).toList = wpC n width (fun _ => 0) (fun _ => 0) := by
  rw [Array.toList_setIfInBounds, Array.toList_setIfInBounds, zero_wr]
  rfl
/-- A wrapping in memory of the call's own. -/
def Wp (w : World) (base p n : Nat) (width : Int) (f l : Nat → Int) : Prop := w.ownsRow base 48 124 (.slice (some ⟨p, 0, none⟩) 1 1) 1 (wpC n width f l)
theorem Wp.lt {w : World} {base p n : Nat} {width : Int} {f l : Nat → Int} (h : Wp w base p n width f l) : base ≤ p ∧ p < w.heap.size := World.ownsRow.lt h p rfl
theorem Wp.c0 {w : World} {base p n : Nat} {width : Int} {f l : Nat → Int} (h : Wp w base p n width f l) : w.cell? ⟨p, 0, none⟩ = some (.int .i64 n) := World.ownsRow.cellAt h 0 (by omega)
theorem Wp.c1 {w : World} {base p n : Nat} {width : Int} {f l : Nat → Int} (h : Wp w base p n width f l) : w.cell? ⟨p, 1, none⟩ = some (.int .i64 width) := World.ownsRow.cellAt h 1 (by omega)
theorem Wp.cf {w : World} {base p n : Nat} {width : Int} {f l : Nat → Int} (h : Wp w base p n width f l) {j : Nat} (hj : j ≤ 60) : w.cell? ⟨p, 2 + j, none⟩ = some (.int .i64 (f j)) := by
  rw [World.ownsRow.cellAt h (2 + j) (by omega), wpC_f _ _ _ _ hj]
theorem Wp.cl {w : World} {base p n : Nat} {width : Int} {f l : Nat → Int} (h : Wp w base p n width f l) {j : Nat} (hj : j ≤ 60) : w.cell? ⟨p, 63 + j, none⟩ = some (.int .i64 (l j)) := by
  rw [World.ownsRow.cellAt h (63 + j) (by omega), wpC_l _ _ _ _ hj]

set_option maxHeartbeats 3000000 in
set_option maxRecDepth 100000 in
theorem iRw_any (p n i e : Nat) (width bi be le : Int) (w : World) (c0 : w.cell? ⟨p, 0, none⟩ = some (.int .i64 n)) (c1 : w.cell? ⟨p, 1, none⟩ = some (.int .i64 width)) (cb : w.cell? ⟨p, 2 + i, none⟩ = some (.int .i64 bi)) (ce : w.cell? ⟨p, 2 + e, none⟩ = some (.int .i64 be)) (cl : w.cell? ⟨p, 63 + e, none⟩ = some (.int .i64 le))
    (hi : i ≤ 60) (he : e ≤ 60) (hb : 0 ≤ bi) (hbe : bi < be) (hbe2 : be ≤ 8388608) (hl0 : 0 ≤ le) (hl1 : le ≤ 1000000000) (hw : width ≤ 9223372036854775807) :
    Calls Tryz.prog 61 #[.pointer (some ⟨p, 0, none⟩), .int .i64 i, .int .i64 e] w fun en w' => en = .returned (.int .i64 (lrag (be - bi - 1) width (decide (e = n)) + le)) ∧ ∃ q, w' = w.drewN q := by
  obtain ⟨la, hla⟩ : ∃ la, la = ((e : Int) == (n : Int)) := ⟨_, rfl⟩
  have hd : la = decide (e = n) := by
    rw [hla, Bool.eq_iff_iff, beq_iff_eq, decide_eq_true_eq]
    omega
  rw [← hd]
  have q := fun W => iLrag_any (be - bi - 1) width la W (by omega) hw
  have hy1 := lrag_ge (be - bi - 1) width la
  have hy2 := lrag_le (be - bi - 1) width la
  obtain ⟨y, hy⟩ : ∃ y, y = lrag (be - bi - 1) width la := ⟨_, rfl⟩
  rw [← hy] at q hy1 hy2 ⊢
  have HLA := hidOf hla.symm
  clear hd hy
  have hi1 : (0 : Int) ≤ (i : Int) := by omega
  have hi2 : (i : Int) < 61 := by omega
  have he1 : (0 : Int) ≤ (e : Int) := by omega
  have he2 : (e : Int) < 61 := by omega
  have hla' : ((e : Int) == (n : Int)) = la := hla.symm
  clear hla
  go_enter Tryz.func61, Tryz.ntmps61
  go_wp2
  go_quiet (fail)
  go_wp2
  go_quiet ((go_at_call 34; refine (q _).mono ?_; rintro e2 w1 ⟨rfl, rfl⟩; exact ⟨rfl, _, rfl⟩))
  go_wp2
  go_ret
  exact ⟨rfl, _, drewN_two' w _ _⟩

/-- What a wrapping tells of words: where each begins, and what the ones behind a place cost. -/
def Told' (ws : List ByteArray) (n : Nat) (f l : Nat → Int) (c : Nat → Int) (m : Nat) : Prop := ws.length = n ∧ n ≤ 60 ∧ bg ws n ≤ 8388608 ∧ (∀ j, j ≤ n → f j = (bg ws j : Int)) ∧ ∀ j, m ≤ j → j ≤ n → l j = c j
theorem rw_told {ws : List ByteArray} {n p base m i e : Nat} {width : Int} {f l c : Nat → Int} {w : World} (h : Wp w base p n width f l) (hT : Told' ws n f l c m) (hC : Costs ws width c) (hw : width ≤ 9223372036854775807) (hie : i < e) (hen : e ≤ n) (hme : m ≤ e) :
    Calls Tryz.prog 61 #[.pointer (some ⟨p, 0, none⟩), .int .i64 i, .int .i64 e] w fun en w' => en = .returned (.int .i64 (lc ws width i e + c e)) ∧ ∃ q, w' = w.drewN q := by
  obtain ⟨hl, h60, hbg, hf, hcl⟩ := hT
  have c2 := h.cf (j := i) (by omega)
  have c3 := h.cf (j := e) (by omega)
  have c4 := h.cl (j := e) (by omega)
  rw [hf i (by omega)] at c2
  rw [hf e hen] at c3
  rw [hcl e hme hen] at c4
  have hb1 := bg_mono (ws := ws) (i := i + 1) (e := e) (by omega)
  have hx : ws[i]? = some (ws[i]'(by omega)) := List.getElem?_eq_getElem (by omega)
  have hb2 := bg_next hx
  have hb3 := bg_mono (ws := ws) (i := e) (e := n) hen
  have q := iRw_any p n i e width (bg ws i) (bg ws e) (c e) w h.c0 h.c1 c2 c3 c4 (by omega) (by omega) (by omega) (by omega) (by omega) (hC.low e) (by have := hC.high e; omega) hw
  unfold lc
  rw [hl]
  exact q

set_option maxHeartbeats 3000000 in
set_option maxRecDepth 100000 in
theorem iLf_any {ws : List ByteArray} {n p base i : Nat} {width : Int} {f l c : Nat → Int} {w : World} (h : Wp w base p n width f l) (hT : Told' ws n f l c (i + 1)) (hC : Costs ws width c) (hw : width ≤ 9223372036854775807) (hi : i < n) :
    Calls Tryz.prog 60 #[.pointer (some ⟨p, 0, none⟩), .int .i64 i] w fun en w' => en = .returned (.int .i64 (c i)) ∧ ∃ q, w' = w.drewN q := by
  have c0 := h.c0
  have h60 := hT.2.1
  have q := fun (e Q : Nat) (h1 : i < e) (h2 : e ≤ n) => rw_told (w := w.drewN Q) h hT hC hw h1 h2 (by omega)
  have hbd : ∀ e, 0 ≤ lc ws width i e + c e ∧ lc ws width i e + c e ≤ 20000000 := fun e => by
    have := lc_ge ws width i e
    have := lc_le ws width i e
    have := hC.low e
    have := hC.high e
    omega
  obtain ⟨R, hR⟩ : ∃ R : Nat → Int, R = fun e => lc ws width i e + c e := ⟨_, rfl⟩
  have hR' : ∀ e, lc ws width i e + c e = R e := fun e => by rw [hR]
  have hmin := hC.2 i (by rw [hT.1]; exact hi)
  rw [hT.1] at hmin
  have HMN : Hid ((∃ e, i < e ∧ e ≤ n ∧ c i = R e) ∧ ∀ e, i < e → e ≤ n → c i ≤ R e) := hidOf (by
    refine ⟨?_, fun e h1 h2 => by rw [← hR']; exact hmin.2 e h1 h2⟩
    obtain ⟨e, h1, h2, h3⟩ := hmin.1
    exact ⟨e, h1, h2, by rw [← hR']; exact h3⟩)
  have HBD := hidOf (show ∀ e, 0 ≤ R e ∧ R e ≤ 20000000 from fun e => by rw [← hR']; exact hbd e)
  have q : Hid (∀ (e Q : Nat), i < e → e ≤ n → Calls Tryz.prog 61 #[.pointer (some ⟨p, 0, none⟩), .int .i64 i, .int .i64 e] (w.drewN Q) fun en w' => en = .returned (.int .i64 (R e)) ∧ ∃ q, w' = w.drewN (Q + q)) := hidOf (fun e Q h1 h2 => by rw [← hR']; exact (q e Q h1 h2).mono (fun e2 w2 ⟨h3, q2, h4⟩ => ⟨h3, q2, h4.trans (drewN_two' w Q q2)⟩))
  clear hR hR' hmin hbd h hT hC
  have hb0 := (HBD.out n).1
  have hb1 := (HBD.out n).2
  have qn := q.out n 0 hi (Nat.le_refl _)
  rw [show w.drewN 0 = w from rfl] at qn
  simp only [Nat.zero_add] at qn
  go_enter Tryz.func60, Tryz.ntmps60
  go_wp2_with fail
  refine qn.mono ?_
  rintro e1 w1 ⟨rfl, Q0, rfl⟩
  clear qn
  have hcN : ∀ Q, (w.drewN Q).cell? ⟨p, 0, none⟩ = some (.int .i64 n) := fun Q => c0
  go_wp2
  go_loopw [5, 6] (fun x y wr => ∃ (e Q : Nat) (r : Int), i < e ∧ e ≤ n ∧ y = .int .i64 e ∧ x = .int .i64 r ∧ wr = w.drewN Q ∧ Hid ((∃ e', i < e' ∧ e' ≤ n ∧ r = R e') ∧ r ≤ R n ∧ ∀ e', i < e' → e' < e → r ≤ R e')) (fun _ y _ => n - (intOf y).toNat)
  case atStart => exact ⟨i + 1, Q0, R n, by omega, by omega, by go_num, rfl, rfl, hidOf ⟨⟨n, hi, Nat.le_refl _, rfl⟩, Int.le_refl _, fun e' h1 h2 => by omega⟩⟩
  case round =>
    obtain ⟨e, Q, r, hie, hen, rfl, rfl, rfl, HI⟩ := hrel
    have hc1 := hcN Q
    by_cases hlt : e < n
    · have qe := q.out e Q hie (by omega)
      obtain ⟨y, hy⟩ : ∃ y, y = R e := ⟨_, rfl⟩
      rw [← hy] at qe
      have HY := hidOf hy
      clear hy
      by_cases hry : r ≤ y
      · go_wp2_with fail
        refine qe.mono ?_
        rintro e1 w1 ⟨rfl, Q1, rfl⟩
        go_wp2
        go_roundw
        case rel => exact ⟨e + 1, Q + Q1, r, by omega, by omega, by go_num, rfl, rfl, hidOf ⟨HI.out.1, HI.out.2.1, fun e' h1 h2 => by
          by_cases h3 : e' = e
          · rw [h3, ← HY.out]; exact hry
          · exact HI.out.2.2 e' h1 (by omega)⟩⟩
        case measure => simp [intOf]; omega
      · go_wp2_with fail
        refine qe.mono ?_
        rintro e1 w1 ⟨rfl, Q1, rfl⟩
        go_wp2
        go_roundw
        case rel => exact ⟨e + 1, Q + Q1, y, by omega, by omega, by go_num, rfl, rfl, hidOf ⟨⟨e, hie, by omega, HY.out⟩, by have := HI.out.2.1; omega, fun e' h1 h2 => by
          by_cases h3 : e' = e
          · rw [h3, ← HY.out]; exact Int.le_refl _
          · have := HI.out.2.2 e' h1 (by omega)
            omega⟩⟩
        case measure => simp [intOf]; omega
    · go_wp2
      go_ret
      refine ⟨ret_int ?_, Q, rfl⟩
      obtain ⟨⟨e1, h1, h2, h3⟩, h4, h5⟩ := HI.out
      obtain ⟨⟨e2, g1, g2, g3⟩, g4⟩ := HMN.out
      have := g4 e1 h1 h2
      by_cases h6 : e2 = n
      · rw [h6] at g3; omega
      · have := h5 e2 g1 (by omega); omega

set_option maxHeartbeats 3000000 in
set_option maxRecDepth 100000 in
theorem iBe_any {ws : List ByteArray} {n p base i : Nat} {width : Int} {f l c : Nat → Int} {w : World} (h : Wp w base p n width f l) (hT : Told' ws n f l c 0) (hC : Costs ws width c) (hw : width ≤ 9223372036854775807) (hi : i < n) :
    Calls Tryz.prog 38 #[.pointer (some ⟨p, 0, none⟩), .int .i64 i] w fun en w' => en = .returned (.int .i64 (bE ws width c i : Nat)) ∧ ∃ q, w' = w.drewN q := by
  have c0 := h.c0
  have h60 := hT.2.1
  have cl := h.cl (j := i) (by omega)
  rw [hT.2.2.2.2 i (by omega) (by omega)] at cl
  have q := fun (e Q : Nat) (h1 : i < e) (h2 : e ≤ n) => rw_told (w := w.drewN Q) h hT hC hw h1 h2 (by omega)
  have HL := hidOf hT.1
  obtain ⟨R, hR⟩ : ∃ R : Nat → Int, R = fun e => lc ws width i e + c e := ⟨_, rfl⟩
  have hR' : ∀ e, lc ws width i e + c e = R e := fun e => by rw [hR]
  have q : Hid (∀ (e Q : Nat), i < e → e ≤ n → Calls Tryz.prog 61 #[.pointer (some ⟨p, 0, none⟩), .int .i64 i, .int .i64 e] (w.drewN Q) fun en w' => en = .returned (.int .i64 (R e)) ∧ ∃ q, w' = w.drewN (Q + q)) := hidOf (fun e Q h1 h2 => by rw [← hR']; exact (q e Q h1 h2).mono (fun e2 w2 ⟨h3, q2, h4⟩ => ⟨h3, q2, h4.trans (drewN_two' w Q q2)⟩))
  obtain ⟨z, hz⟩ : ∃ z, z = c i := ⟨_, rfl⟩
  rw [← hz] at cl
  have HS : Hid (∀ e, bS ws width c i e = decide (R e ≤ z)) := hidOf (fun e => by unfold bS; rw [hR', hz])
  clear hR hR' hz h hT hC
  have hi1 : (0 : Int) ≤ (i : Int) := by omega
  have hi2 : (i : Int) < 61 := by omega
  have hcN : ∀ Q, (w.drewN Q).cell? ⟨p, 0, none⟩ = some (.int .i64 n) ∧ (w.drewN Q).cell? ⟨p, 63 + i, none⟩ = some (.int .i64 z) := fun Q => ⟨c0, cl⟩
  go_enter Tryz.func38, Tryz.ntmps38
  go_wp2
  go_loopw [5] (fun y wr => ∃ (e Q : Nat), i < e ∧ e ≤ n ∧ y = .int .i64 e ∧ wr = w.drewN Q ∧ Hid (bE ws width c i = en ws.length (bS ws width c i) e)) (fun y _ => n - (intOf y).toNat)
  case atStart => exact ⟨i + 1, 0, by omega, by omega, by go_num, rfl, hidOf rfl⟩
  case round =>
    obtain ⟨e, Q, hie, hen, rfl, rfl, HI⟩ := hrel
    obtain ⟨hc1, hc2⟩ := hcN Q
    by_cases hlt : e < n
    · have hd0 : decide ((e : Int) < (n : Int)) = true := decide_eq_true (by omega)
      have qe' := fun Q' => q.out e Q' hie (by omega)
      obtain ⟨y, hy⟩ : ∃ y, y = R e := ⟨_, rfl⟩
      rw [← hy] at qe'
      have HY := hidOf hy
      clear hy
      by_cases hyz : z < y
      · have hd : decide (z < y) = true := decide_eq_true hyz
        go_wp2
        go_quiet ((go_at_call 61; refine (qe' _).mono ?_; rintro e2 w1 ⟨rfl, q2, rfl⟩; exact ⟨rfl, _, by rw [Nat.add_assoc]⟩))
        go_wp2
        go_roundw
        case rel => exact ⟨e + 1, Q + nq, by omega, by omega, by go_num, by first | rfl | exact drewN_two' w Q nq, hidOf (by rw [HI.out, en_go (by rw [HL.out]; exact hlt) (by rw [HS.out, ← HY.out, decide_eq_false_iff_not]; omega)])⟩
        case measure => simp [intOf]; omega
      · have hd : decide (z < y) = false := decide_eq_false hyz
        go_wp2
        go_quiet ((go_at_call 61; refine (qe' _).mono ?_; rintro e2 w1 ⟨rfl, q2, rfl⟩; exact ⟨rfl, _, by rw [Nat.add_assoc]⟩))
        go_wp2
        go_ret
        exact ⟨ret_int (by rw [HI.out, en_stop (by rw [HL.out]; exact hlt) (by rw [HS.out, ← HY.out, decide_eq_true_eq]; omega)]), Q + nq, by first | rfl | exact drewN_two' w Q nq⟩
    · have hd0 : decide ((e : Int) < (n : Int)) = false := decide_eq_false (by omega)
      have HE := hidOf (show en ws.length (bS ws width c i) e = e from en_end (by rw [HL.out]; omega))
      go_wp2
      go_quiet (fail)
      go_wp2
      go_ret
      exact ⟨ret_int (by rw [HI.out, HE.out]), Q + nq, by first | rfl | exact drewN_two' w Q nq⟩
end Go.Proofs.YtabbfpkhlofccaaGreatDoor
