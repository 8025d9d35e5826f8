/- What spec.LeastRag and spec.BestWrap answer, where no line is too long to be told. -/
import Derived.Test.YtabbfpkhlofccaaGreatDoorTbS
import Derived.Test.YtabbfpkhlofccaaGreatDoorOkWs
import Derived.Test.YtabbfpkhlofccaaGreatDoorAppPl
namespace Go.Proofs.YtabbfpkhlofccaaGreatDoor
open Go.RowKit

theorem sz_bg {ws : List ByteArray} {n : Nat} (hl : ws.length = n) (hbg : bg ws n ≤ 90000) : ∀ x ∈ ws, x.size ≤ 4194304 := fun x hx => by
  obtain ⟨k, hk⟩ := List.mem_iff_getElem?.1 hx
  have h := (List.getElem?_eq_some_iff.1 hk).1
  have h1 := bg_next hk
  have h2 := bg_mono (ws := ws) (i := k + 1) (e := n) (by omega)
  omega

set_option maxHeartbeats 3000000 in
set_option maxRecDepth 20000 in
theorem sLeast_any (v : Value) (b n : Nat) (ws : List ByteArray) (width : Int) (c : Nat → Int) (w : World) (hn : n ≤ 1048576) (hbg : bg ws n ≤ 90000) (hC : Costs ws width c) (hown : w.ownsRow b 9 1 v n (strVals ws)) :
    Calls Tryz.prog 16 #[v, .int .i64 width] w fun e w' => e = .returned (.int .i64 (if wsOk ws then c 0 else 0)) ∧ Below w.heap.size w w' := by
  have hl : ws.length = n := by have := hown.1; simpa [strVals] using this
  have qk := sOk_any v b n ws w (by omega) (sz_bg hl hbg) hown
  cases hok : wsOk ws
  · rw [hok] at qk
    rw [if_neg (by simp)]
    clear hok
    obtain ⟨ao, cv, rfl⟩ := owns_slice hown
    go_enter Tryz.func16, Tryz.ntmps16
    go_wp2_with fail
    refine qk.mono ?_
    rintro e w1 ⟨rfl, hb1⟩
    go_wp2
    go_ret
    exact ⟨rfl, hb1⟩
  · have h60 := (wsOk_all hok).1
    rw [hl] at h60
    rw [hok] at qk
    rw [if_pos rfl]
    have q := fun (W : World) (hB : Below w.heap.size w W) => sTab_any v b n ws width c W h60 hbg hC (owns_below hown hB)
    have QT := hidOf q
    by_cases h0 : n = 0
    · obtain ⟨ao, cv, rfl⟩ := owns_slice hown
      have hz : c 0 = 0 := hC.1 0 (by omega)
      rw [hz]
      have hd0 : ((n : Int) == 0) = true := by simp; omega
      clear hok hl hz h0
      go_enter Tryz.func16, Tryz.ntmps16
      go_wp2_with fail
      refine qk.mono ?_
      rintro e w1 ⟨rfl, hb1⟩
      go_wp2
      go_ret
      exact ⟨rfl, hb1⟩
    · obtain ⟨ao, cv, rfl⟩ := owns_slice hown
      obtain ⟨z, hz⟩ : ∃ z, z = c 0 := ⟨_, rfl⟩
      rw [← hz]
      have HZ := hidOf hz
      have hd0 : ((n : Int) == 0) = false := by rw [beq_eq_false_iff_ne]; omega
      clear hok hl hz h0
      go_enter Tryz.func16, Tryz.ntmps16
      go_wp2_with fail
      refine qk.mono ?_
      rintro e w1 ⟨rfl, hb1⟩
      have hs1 := hb1.size
      go_wp2_with fail
      refine (QT.out w1 hb1).mono ?_
      rintro e w2 ⟨v1, v2, f, h, rfl, ho1, ho2, hT, hb2⟩
      obtain ⟨a1, c1, rfl⟩ := owns_slice ho1
      obtain ⟨g1, rfl⟩ := owns_at ho1 (by omega)
      have c0 := ho1.cellAt 0 (by omega)
      rw [rng_at _ (by omega), hT.1 0 (Nat.le_refl _) (Nat.zero_le _), ← HZ.out] at c0
      have hp : (0 : Int) < (n : Int) + 1 := by omega
      clear hT ho1 ho2
      go_wp2
      go_ret
      exact ⟨rfl, hb1.trans (hb2.mono hs1)⟩

set_option maxHeartbeats 6000000 in
set_option maxRecDepth 100000 in
theorem sBest_any (v : Value) (b n : Nat) (ws : List ByteArray) (width : Int) (c : Nat → Int) (w : World) (hn : n ≤ 1048576) (hbg : bg ws n ≤ 90000) (hC : Costs ws width c) (hown : w.ownsRow b 9 1 v n (strVals ws)) :
    Calls Tryz.prog 18 #[v, .int .i64 width] w fun e w' => StrsAns (bestW ws width c) 9 w e w' := by
  obtain ⟨i0, hi, hz0, hz1, hz2⟩ := info_parts infoStrW
  have hl : ws.length = n := by have := hown.1; simpa [strVals] using this
  have hown0 := hown.alloc (.cells #[] 9)
  have hB00 : Below w.heap.size w (w.alloc (.cells #[] 9)) := (Below.refl _ w).alloc (Nat.le_refl _) _
  have qk := sOk_any v b n ws (w.alloc (.cells #[] 9)) (by omega) (sz_bg hl hbg) hown0
  have hme := World.ownsRow_made (base := w.heap.size) (e := 9) (size := 1) w #[] 0 (Nat.le_refl _) (by decide) rfl
  cases hok : wsOk ws
  · rw [hok] at qk
    have HG := hidOf (show bestW ws width c = [] by unfold bestW; rw [hok]; rfl)
    obtain ⟨ao, cv, rfl⟩ := owns_slice hown
    clear hok hl
    go_enter Tryz.func18, Tryz.ntmps18
    go_wp2_with fail
    refine qk.mono ?_
    rintro e w1 ⟨rfl, hb1⟩
    go_wp2
    go_ret
    rw [HG.out]
    exact ⟨hB00.trans (hb1.mono (by simp)), _, rfl, owns_below hme hb1⟩
  · rw [hok] at qk
    have h60 := (wsOk_all hok).1
    rw [hl] at h60
    have HG := hidOf (show bestW ws width c = lnE ws (bE ws width c) 0 by unfold bestW; rw [hok]; rfl)
    have QT := hidOf (fun (W : World) (hB : Below w.heap.size w W) => sTab_any v b n ws width c W h60 hbg hC (owns_below hown hB))
    obtain ⟨ao, cv, rfl⟩ := owns_slice hown
    obtain ⟨E, hE⟩ : ∃ E, E = bE ws width c := ⟨_, rfl⟩
    have HADV : Hid (Adv n E) := hidOf (by rw [hE, ← hl]; exact bE_adv ws width c)
    rw [← hE] at HG
    have HE := hidOf hE
    have HL := hidOf hl
    have HM := hidOf hbg
    clear hok hl hbg hC hE
    go_enter Tryz.func18, Tryz.ntmps18
    go_wp2_with fail
    refine qk.mono ?_
    rintro e w1 ⟨rfl, hb1⟩
    have hB1 := hB00.trans (hb1.mono (by simp))
    have hme1 := owns_below hme hb1
    have hs1 := hB1.size
    have hw1 : w.heap.size < w1.heap.size := by have := hb1.size; simp at this; omega
    go_wp2_with fail
    refine (QT.out w1 hB1).mono ?_
    rintro e w2 ⟨v1, v2, f, h, rfl, ho1, ho2, hT, hb2⟩
    obtain ⟨a1, c1, rfl⟩ := owns_slice ho1
    obtain ⟨a2, c2, rfl⟩ := owns_slice ho2
    obtain ⟨g2, rfl⟩ := owns_at ho2 (by omega)
    have hB2 := hB1.trans (hb2.mono hs1)
    have hme2 := owns_below hme1 hb2
    have hs2 := hB2.size
    have HH : Hid (∀ j, j < n → h j = ((E j : Nat) : Int) - j) := hidOf (fun j hj => by rw [HE.out]; exact hT.2 j (Nat.zero_le _) hj)
    have hg2 := (ho2.lt g2 rfl)
    have hcm : Hid (∀ W, Below w2.heap.size w2 W → ∀ j, j < n → W.cell? ⟨g2, j, none⟩ = some (.int .i64 (((E j : Nat) : Int) - j))) := hidOf (fun W hB j hj => by
      rw [(hB.cell hg2.2), ho2.cellAt j (by omega), rng_at _ (by omega), HH.out j hj])
    clear hT ho1 ho2 hme hme1 hown0 qk hb2 hb1 hB00
    go_wp2
    go_loopw [5, 8] (fun v i wr => ∃ (k : Nat) (os : List ByteArray), k ≤ n ∧ i = .int .i64 k ∧ os.length ≤ k ∧ Hid (os ++ lnE ws E k = lnE ws E 0) ∧ wr.ownsRow w.heap.size 9 1 v os.length (strVals os) ∧ v.ownBlock ≠ some g2 ∧ Below w.heap.size w wr ∧ (∀ j, j < n → wr.cell? ⟨g2, j, none⟩ = some (.int .i64 (((E j : Nat) : Int) - j))) ∧ g2 < wr.heap.size)
      (fun _ i _ => n - (intOf i).toNat)
    case atStart => exact ⟨0, [], Nat.zero_le _, rfl, by simp, hidOf rfl, hme2, (fun e => by have h3 : w.heap.size = g2 := Option.some.inj e; have := hg2.1; omega), hB2, fun j hj => hcm.out w2 (Below.refl _ _) j hj, hg2.2⟩
    case round =>
      obtain ⟨k, os, hk, rfl, hol, HI, ho, hne, hb, hcs, hgl⟩ := hrel
      obtain ⟨a3, c3, rfl⟩ := owns_slice ho
      have hsz := hb.size
      by_cases hlt : k < n
      · obtain ⟨h1, h2⟩ := HADV.out k hlt
        obtain ⟨e, he⟩ : ∃ e, e = E k := ⟨_, rfl⟩
        have hc2 := hcs k hlt
        rw [← he] at h1 h2 hc2
        have HEK := hidOf he
        have HCS := hidOf hcs
        obtain ⟨x, hx⟩ : ∃ x, ws[k]? = some x := ⟨_, List.getElem?_eq_getElem (by rw [HL.out]; exact hlt)⟩
        obtain ⟨g, rfl⟩ := owns_at hown (by omega)
        have hownW := owns_below hown hb
        have hc := str_at hownW hlt hx
        have HJ1 := hidOf (jn_one hx)
        clear he hcs hx
        have hA1 : (0 : Int) ≤ (k : Int) := by omega
        have hB1 : (k : Int) < (n : Int) := by omega
        have hB2' : (k : Int) < (n : Int) + 1 := by omega
        go_wp2
        go_loop [9, 10] (fun l j => ∃ (q : Nat) (y : ByteArray), 1 ≤ q ∧ k + q ≤ e ∧ l = .string y ∧ j = .int .i64 q ∧ Hid (y = jn (seg ws k (k + q)))) (fun _ j => e - (intOf j).toNat)
        case atStart => exact ⟨1, x, by omega, by omega, rfl, rfl, hidOf HJ1.out.symm⟩
        case round =>
          obtain ⟨q, y, hq1, hq2, rfl, rfl, HY⟩ := hrel
          have hys : y.size ≤ 90000 := by
            have h3 := jn_size (ws := ws) (i := k) (e := k + q) (by omega) (by rw [HL.out]; omega)
            have h4 := bg_mono (ws := ws) (i := k + q) (e := n) (by omega)
            have h5 := HM.out
            rw [HY.out]
            omega
          by_cases hqe : k + q < e
          · obtain ⟨z, hz⟩ : ∃ z, ws[k + q]? = some z := ⟨_, List.getElem?_eq_getElem (by rw [HL.out]; omega)⟩
            have hcz := str_at hownW (k := k + q) (by omega) hz
            have hzs : z.size ≤ 90000 := by
              have h3 := bg_next hz
              have h4 := bg_mono (ws := ws) (i := k + q + 1) (e := n) (by omega)
              have h5 := HM.out
              omega
            have hjm := jn_more (ws := ws) (i := k) (e := k + q) (by omega) hz
            rw [← HY.out] at hjm
            have HJM := hidOf hjm
            clear hz hjm
            have hd : decide ((q : Int) < (e : Int) - (k : Int)) = true := decide_eq_true (by omega)
            have hA2 : (0 : Int) ≤ (k : Int) + (q : Int) := by omega
            have hA3 : (k : Int) + (q : Int) < (n : Int) := by omega
            have hA4 : ((k : Int) + (q : Int)).toNat = k + q := by omega
            go_wp2
            go_round
            case rel => exact ⟨q + 1, _, by omega, by omega, rfl, by go_num, hidOf HJM.out.symm⟩
            case measure => simp [intOf]; omega
          · have hd : decide ((q : Int) < (e : Int) - (k : Int)) = false := decide_eq_false (by omega)
            have hqe2 : k + q = e := by omega
            have HQE := hidOf hqe2
            clear hqe2
            go_wp2_with (at_builtin; refine wpList_append_own2 rfl _ _ 24 rfl w.heap.size 9 i0 (.string ByteArray.empty) 1 16 Tryz.underlying24 hi hz0 hz1 hz2 rfl (by decide) _ _ _ rfl (ho.alloc _) ⟨wr.heap.size, 0, none⟩ 1 1 [.string y] rfl rfl (cell_one_new _ _ _) (fun x hx => by simp at hx; subst hx; rfl) (by unfold maxLen; omega) (by omega) (by simp; omega) ?_; intro v' w3 hown' hgrow3 hpl3; have HC3 : Hid (∀ j, j < n → w3.cell? ⟨g2, j, none⟩ = some (.int .i64 (((E j : Nat) : Int) - j))) := hidOf (fun j hj => by rw [World.cell?_of_block (hgrow3.block g2 (by simp; omega) (fun e => hne e.symm)), World.cell?_alloc_old _ _ _ (by show g2 ≠ wr.heap.size; omega)]; exact HCS.out j hj); have hc3 := HC3.out k hlt; rw [← HEK.out] at hc3)
            go_roundw
            case rel =>
              refine ⟨e, os ++ [y], h2, by go_num, by simp; omega, hidOf ?_, by simpa [strVals] using hown', fun e2 => ?_, (hb.alloc (by omega) _).grown hgrow3 (by simp; omega) (fun q hq => (ho.lt q hq).1), HC3.out, by have := hgrow3.size; simp at this; omega⟩
              · rw [← HI.out, ln_step (by rw [HL.out]; exact HADV.out) (i := k) (by rw [HL.out]; exact hlt), ← HEK.out, HY.out, HQE.out]
                simp
              · rcases hpl3 g2 e2 with h9 | h9
                · exact hne h9
                · simp at h9; omega
            case measure => simp [intOf]; omega
      · go_wp2
        go_ret
        refine ⟨hb, _, rfl, ?_⟩
        have h9 := HI.out
        rw [ln_end (by rw [HL.out]; omega), List.append_nil] at h9
        rw [HG.out, ← h9]
        exact ho
end Go.Proofs.YtabbfpkhlofccaaGreatDoor
