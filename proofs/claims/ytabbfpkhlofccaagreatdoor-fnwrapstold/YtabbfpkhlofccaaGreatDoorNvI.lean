/- What the ways cost to put words into lines: impl.newWrapping, impl.LeastRag, impl.BestWrap. -/
import Derived.Test.YtabbfpkhlofccaaGreatDoorNwI
import Derived.Test.YtabbfpkhlofccaaGreatDoorOkW
import Derived.Test.YtabbfpkhlofccaaGreatDoorWlB
namespace Go.Proofs.YtabbfpkhlofccaaGreatDoor
open Go.RowKit

theorem upd_c {l c : Nat → Int} {i n j : Nat} {z : Int} (hz : z = c i) (hl : ∀ j, i + 1 ≤ j → j ≤ n → l j = c j) (h1 : i ≤ j) (h2 : j ≤ n) : upd l i z j = c j := by
  unfold upd
  by_cases hji : j = i
  · rw [if_pos hji, hji]; exact hz
  · rw [if_neg hji]; exact hl j (by omega) h2

set_option maxHeartbeats 4000000 in
set_option maxRecDepth 100000 in
theorem iNew_any (v : Value) (b n : Nat) (ws : List ByteArray) (width : Int) (c : Nat → Int) (w : World) (hn : n ≤ 60) (hbg : bg ws n ≤ 8388608) (hw : width ≤ 9223372036854775807) (hC : Costs ws width c) (hown : w.ownsRow b 9 1 v n (strVals ws)) :
    Calls Tryz.prog 36 #[v, .int .i64 width] w fun e w' => ∃ (p : Nat) (f l : Nat → Int), e = .returned (.pointer (some ⟨p, 0, none⟩)) ∧ Wp w' w.heap.size p n width f l ∧ Told' ws n f l c 0 ∧ Below w.heap.size w w' := by
  have hl : ws.length = n := by have := hown.1; simpa [strVals] using this
  obtain ⟨ao, cv, rfl⟩ := owns_slice hown
  have HL := hidOf hl
  have HM := hidOf hbg
  have HC := hidOf hC
  have hW0 : Wp (w.alloc (.cells ((Tryz.zeroCells48.setIfInBounds 0 (.int .i64 n)).setIfInBounds 1 (.int .i64 width)) 48)) w.heap.size w.heap.size n width (fun _ => 0) (fun _ => 0) := by
    have h := World.ownsRow_lit (base := w.heap.size) (e := 48) (size := 124) w ((Tryz.zeroCells48.setIfInBounds 0 (.int .i64 n)).setIfInBounds 1 (.int .i64 width)) 1 (Nat.le_refl _) (by decide) (by rw [← Array.length_toList, made_wr, wpC_len])
    rw [made_wr] at h
    exact h
  have HW0 := hidOf hW0
  clear hl hbg hC hW0
  go_enter Tryz.func36, Tryz.ntmps36
  go_wp2
  go_loopw [16] (fun i wr => ∃ (k : Nat) (f : Nat → Int), k ≤ n ∧ i = .int .i64 k ∧ Hid (∀ j, j ≤ k → f j = (bg ws j : Int)) ∧ Wp wr w.heap.size w.heap.size n width f (fun _ => 0) ∧ Below w.heap.size w wr) (fun i _ => n - (intOf i).toNat)
  case atStart => exact ⟨0, fun _ => 0, Nat.zero_le _, rfl, hidOf (fun j hj => by rw [show j = 0 by omega, bg_zero]; rfl), HW0.out, (Below.refl _ w).alloc (Nat.le_refl _) _⟩
  case round =>
    obtain ⟨k, f, hk, rfl, HF, hW, hb⟩ := hrel
    by_cases hlt : k < n
    · obtain ⟨x, hx⟩ : ∃ x, ws[k]? = some x := ⟨_, List.getElem?_eq_getElem (by rw [HL.out]; exact hlt)⟩
      obtain ⟨g, rfl⟩ := owns_at hown (by omega)
      have hc := str_at (owns_below hown hb) hlt hx
      have hnx := bg_next hx
      have hm := bg_mono (ws := ws) (i := k + 1) (e := n) (by omega)
      have hM := HM.out
      have c0 := hW.cf (j := k) (by omega)
      rw [HF.out k (Nat.le_refl _)] at c0
      have c1 := hW.cf (j := k + 1) (by omega)
      have hfz := World.ownsRow.frozenAt hW (2 + (k + 1))
      have hst := World.ownsRow.stored hW (2 + (k + 1)) (.int .i64 ((bg ws k : Int) + x.size + 1))
      rw [wpC_setf n width f _ (by omega)] at hst
      obtain ⟨y, hy⟩ : ∃ y : Nat, y = bg ws k := ⟨_, rfl⟩
      rw [← hy] at hnx c0 hst
      have hy2 : y + x.size + 1 ≤ 8388608 := by omega
      have HY := hidOf hy
      have HN := hidOf hnx
      have HS := hidOf hst
      have hgl := (hW.lt).2
      clear hx hnx hm hM hst hy
      have hA1 : (0 : Int) ≤ (k : Int) := by omega
      have hB1 : (k : Int) < (n : Int) := by omega
      have hA2 : (k : Int) < 61 := by omega
      have hA3 : (k : Int) + 1 < 61 := by omega
      have hA4 : (0 : Int) ≤ (k : Int) + 1 := by omega
      have hA5 : ((k : Int) + 1).toNat = k + 1 := by omega
      go_wp2
      go_region
      go_wp2
      go_roundw
      case rel =>
        refine ⟨k + 1, upd f (k + 1) ((y : Int) + x.size + 1), by omega, by go_num, hidOf (fun j hj => ?_), HS.out.1, (hb.grown HS.out.2 hb.size (fun q hq => by cases hq; exact Nat.le_refl _)).drew⟩
        unfold upd
        by_cases hjk : j = k + 1
        · rw [if_pos hjk, hjk, HN.out]
          omega
        · rw [if_neg hjk, HF.out j (by omega)]
      case measure => simp [intOf]; omega
    · have hke : k = n := by omega
      have HF2 := hidOf (show ∀ j, j ≤ n → f j = (bg ws j : Int) from fun j hj => HF.out j (by omega))
      have c0 := hW.c0
      clear hke HF HW0
      go_wp2
      go_loopw [8] (fun i wr => ∃ (m : Nat) (l : Nat → Int), m ≤ n ∧ i = .int .i64 ((m : Int) - 1) ∧ Hid (∀ j, m ≤ j → j ≤ n → l j = c j) ∧ Wp wr w.heap.size w.heap.size n width f l ∧ Below w.heap.size w wr) (fun i _ => (intOf i + 1).toNat)
      case atStart => exact ⟨n, fun _ => 0, Nat.le_refl _, by go_num, hidOf (fun j h1 h2 => by rw [show j = ws.length by rw [HL.out]; omega, HC.out.1 ws.length (Nat.le_refl _)]), hW, hb⟩
      case round =>
        obtain ⟨m, l, hm, rfl, HLc, hW1, hb1⟩ := hrel
        clear hW hb c0
        by_cases hm0 : m = 0
        · subst hm0
          have HT := hidOf (show Told' ws n f l c 0 from ⟨HL.out, hn, HM.out, HF2.out, HLc.out⟩)
          have HW1 := hidOf hW1
          clear hW1
          go_wp2
          go_ret
          exact ⟨w.heap.size, f, l, rfl, HW1.out, HT.out, hb1⟩
        · obtain ⟨i, rfl⟩ : ∃ i, m = i + 1 := ⟨m - 1, by omega⟩
          rw [show (((i + 1 : Nat) : Int) - 1) = (i : Int) by omega]
          have hT : Told' ws n f l c (i + 1) := ⟨HL.out, hn, HM.out, HF2.out, HLc.out⟩
          have q := iLf_any (w := wr.drew) (i := i) hW1 hT HC.out hw (by omega)
          have hfz := World.ownsRow.frozenAt hW1 (63 + i)
          have c1 := hW1.cl (j := i) (by omega)
          have hst := fun Q : Nat => World.ownsRow.stored (w := wr.drewN Q) hW1 (63 + i) (.int .i64 (c i))
          rw [wpC_setl n width f l (by omega)] at hst
          obtain ⟨z, hz⟩ : ∃ z, z = c i := ⟨_, rfl⟩
          rw [← hz] at q hst
          have HZ := hidOf hz
          have HS := hidOf hst
          have hgl := (hW1.lt).2
          clear hst hz hT hm0 hW1
          have hA1 : (0 : Int) ≤ (i : Int) := by omega
          have hA2 : (i : Int) < 61 := by omega
          go_wp2
          go_region_with (go_at_call 60; refine q.mono ?_; rintro e1 w1 ⟨rfl, q1, rfl⟩)
          all_goals go_wp2
          all_goals go_roundw
          all_goals first | (refine ⟨i, upd l i z, by omega, by go_num, hidOf (fun j h1 h2 => ?_), (HS.out _).1, (bel_drewN hb1 _).grown (HS.out _).2 hb1.size (fun q hq => by cases hq; exact Nat.le_refl _)⟩; exact upd_c HZ.out HLc.out h1 h2) | (simp [intOf]; done) | (simp [intOf]; omega)

set_option maxHeartbeats 3000000 in
set_option maxRecDepth 20000 in
theorem iLeast_any (v : Value) (b n : Nat) (ws : List ByteArray) (width : Int) (c : Nat → Int) (w : World) (hn : n ≤ 1048576) (hbg : bg ws n ≤ 8388608) (hw : width ≤ 9223372036854775807) (hC : Costs ws width c) (hown : w.ownsRow b 9 1 v n (strVals ws)) :
    Calls Tryz.prog 15 #[v, .int .i64 width] w fun e w' => e = .returned (.int .i64 (if wsOk ws then c 0 else 0)) ∧ Below w.heap.size w w' := by
  have hl : ws.length = n := by have := hown.1; simpa [strVals] using this
  have qk := iOk_any v b n ws w (by omega) hown
  cases hok : wsOk ws
  · rw [hok] at qk
    rw [if_neg (by simp)]
    clear hok
    obtain ⟨ao, cv, rfl⟩ := owns_slice hown
    go_enter Tryz.func15, Tryz.ntmps15
    go_wp2_with fail
    refine qk.mono ?_
    rintro e w1 ⟨rfl, rfl⟩
    go_wp2
    go_ret
    exact ⟨rfl, Below.refl _ _⟩
  · have h60 := (wsOk_all hok).1
    rw [hl] at h60
    rw [hok] at qk
    rw [if_pos rfl]
    have q := iNew_any v b n ws width c w h60 hbg hw hC hown
    obtain ⟨ao, cv, rfl⟩ := owns_slice hown
    obtain ⟨z, hz⟩ : ∃ z, z = c 0 := ⟨_, rfl⟩
    rw [← hz]
    have HZ := hidOf hz
    clear hok hl hz
    go_enter Tryz.func15, Tryz.ntmps15
    go_wp2_with fail
    refine qk.mono ?_
    rintro e w1 ⟨rfl, rfl⟩
    go_wp2_with fail
    refine q.mono ?_
    rintro e w2 ⟨p, f, l, rfl, hW, hT, hb⟩
    have c0 := hW.cl (j := 0) (by omega)
    rw [hT.2.2.2.2 0 (Nat.le_refl _) (Nat.zero_le _)] at c0
    rw [← HZ.out] at c0
    clear hT hW
    go_wp2
    go_ret
    exact ⟨rfl, hb⟩

set_option maxHeartbeats 3000000 in
set_option maxRecDepth 20000 in
theorem iBest_any (v : Value) (b n : Nat) (ws : List ByteArray) (width : Int) (c : Nat → Int) (w : World) (hn : n ≤ 1048576) (hbg : bg ws n ≤ 8388608) (hw : width ≤ 9223372036854775807) (hC : Costs ws width c) (hown : w.ownsRow b 9 1 v n (strVals ws)) :
    Calls Tryz.prog 17 #[v, .int .i64 width] w fun e w' => StrsAns (bestW ws width c) 9 w e w' := by
  have hl : ws.length = n := by have := hown.1; simpa [strVals] using this
  have qk := iOk_any v b n ws w (by omega) hown
  have hmf : ∀ (fn : Fn) (first cap : Array Value) (w : World), (Instr.makeFunc fn first cap).run Tryz.prog w = .ok (.func fn first cap) w := fun _ _ _ _ => rfl
  cases hok : wsOk ws
  · rw [hok] at qk
    have HG := hidOf (show bestW ws width c = [] by unfold bestW; rw [hok]; rfl)
    clear hok
    obtain ⟨ao, cv, rfl⟩ := owns_slice hown
    go_enter Tryz.func17, Tryz.ntmps17
    go_wp2_with fail
    refine qk.mono ?_
    rintro e w1 ⟨rfl, rfl⟩
    go_wp2
    go_ret
    rw [HG.out]
    exact ⟨(Below.refl _ _).alloc (Nat.le_refl _) _, _, rfl, World.ownsRow_made w1 #[] 0 (Nat.le_refl _) (by decide) rfl⟩
  · have h60 := (wsOk_all hok).1
    rw [hl] at h60
    rw [hok] at qk
    have HG := hidOf (show bestW ws width c = lnE ws (bE ws width c) 0 by unfold bestW; rw [hok]; rfl)
    have q := iNew_any v b n ws width c w h60 hbg hw hC hown
    have ql := fun (p : Nat) (f l : Nat → Int) (W : World) (hW : Wp W w.heap.size p n width f l) (hT : Told' ws n f l c 0) (hB : Below w.heap.size w W) =>
      wb_lines p v b n ws (bE ws width c) W hn hbg (owns_below hown hB) (by rw [← hl]; exact bE_adv ws width c) (fun i W2 hi hB2 => (iBe_any (w := W2) (owns_below (w := W) hW hB2) hT hC hw hi).mono (fun e w' ⟨he, qq, hq⟩ => ⟨he, by rw [hq]; exact below_drewN W2 qq⟩))
    rw [← HG.out] at ql
    have QL := hidOf ql
    obtain ⟨ao, cv, rfl⟩ := owns_slice hown
    clear hok hl ql
    go_enter Tryz.func17, Tryz.ntmps17
    go_wp2_with fail
    refine qk.mono ?_
    rintro e w1 ⟨rfl, rfl⟩
    go_wp2_with fail
    refine q.mono ?_
    rintro e w2 ⟨p, f, l, rfl, hW, hT, hb⟩
    have q3 := QL.out p f l w2 hW hT hb
    clear hT hW
    go_wp2_with fail
    refine q3.mono ?_
    rintro e w3 ⟨hb3, v3, rfl, ho3⟩
    go_wp2
    go_ret
    exact ⟨hb.trans (hb3.mono hb.size), _, rfl, ownsRow_base ho3 hb.size⟩
end Go.Proofs.YtabbfpkhlofccaaGreatDoor
