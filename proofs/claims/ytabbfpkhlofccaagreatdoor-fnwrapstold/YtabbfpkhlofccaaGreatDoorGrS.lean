/- What spec.Greedy answers. -/
import Derived.Test.YtabbfpkhlofccaaGreatDoorOkWs
namespace Go.Proofs.YtabbfpkhlofccaaGreatDoor
open Go.RowKit

theorem word_size {ws : List ByteArray} {k n : Nat} {x : ByteArray} (h : ws[k]? = some x) (hk : k < n) : x.size + bg ws k + 1 ≤ bg ws n := by
  have h1 := bg_next h
  have h2 := bg_mono (ws := ws) (i := k + 1) (e := n) (by omega)
  omega
theorem sizes_bg {ws : List ByteArray} {n : Nat} (hl : ws.length = n) : ∀ x ∈ ws, x.size ≤ bg ws n := fun x hx => by
  obtain ⟨k, hk⟩ := List.mem_iff_getElem?.1 hx
  have h := (List.getElem?_eq_some_iff.1 hk).1
  have := word_size (n := n) hk (by omega)
  omega

set_option maxHeartbeats 3000000 in
set_option maxRecDepth 20000 in
theorem sGreedy_any (v : Value) (b n : Nat) (ws : List ByteArray) (width : Int) (w : World) (hn : n ≤ 1048576) (hbg : bg ws n ≤ 4194304) (hown : w.ownsRow b 9 1 v n (strVals ws)) :
    Calls Tryz.prog 12 #[v, .int .i64 width] w fun e w' => StrsAns (greedy ws width) 9 w e w' := by
  obtain ⟨i0, hi, hz0, hz1, hz2⟩ := info_parts infoStrW
  have hl : ws.length = n := by have := hown.1; simpa [strVals] using this
  obtain ⟨ao, cv, rfl⟩ := owns_slice hown
  have hown0 := hown.alloc (.cells #[] 9)
  have hB00 : Below w.heap.size w (w.alloc (.cells #[] 9)) := (Below.refl _ w).alloc (Nat.le_refl _) _
  have qk := sOk_any (.slice ao n cv) b n ws (w.alloc (.cells #[] 9)) (by omega) (fun x hx => by have := sizes_bg hl x hx; omega) hown0
  have hme := World.ownsRow_made (base := w.heap.size) (e := 9) (size := 1) w #[] 0 (Nat.le_refl _) (by decide) rfl
  have HL := hidOf hl
  have HM := hidOf hbg
  clear hbg
  cases hok : wsOk ws
  · rw [hok] at qk
    have HG := hidOf (show greedy ws width = [] by unfold greedy; rw [hok]; rfl)
    clear hok hl
    go_enter Tryz.func12, Tryz.ntmps12
    go_wp2_with fail
    refine qk.mono ?_
    rintro e w1 ⟨rfl, hb1⟩
    go_wp2
    go_ret
    rw [HG.out]
    exact ⟨hB00.trans (hb1.mono (by simp)), _, rfl, owns_below hme hb1⟩
  · rw [hok] at qk
    have HG := hidOf (show greedy ws width = lnE ws (gE ws width) 0 by unfold greedy; rw [hok]; rfl)
    have h60 := (wsOk_all hok).1
    rw [hl] at h60
    clear hok hl
    go_enter Tryz.func12, Tryz.ntmps12
    go_wp2_with fail
    refine qk.mono ?_
    rintro e w1 ⟨rfl, hb1⟩
    have hB1 := hB00.trans (hb1.mono (by simp))
    have hme1 := owns_below hme hb1
    clear hme hown0
    go_wp2
    go_loopw [5, 6, 7] (fun v l i wr => ∃ (k : Nat) (os : List ByteArray) (line : ByteArray), k ≤ n ∧ l = .string line ∧ i = .int .i64 k ∧ Hid (GInv ws width os line k) ∧ wr.ownsRow w.heap.size 9 1 v os.length (strVals os) ∧ Below w.heap.size w wr)
      (fun _ _ i _ => n - (intOf i).toNat)
    case atStart => exact ⟨0, [], ByteArray.empty, by omega, rfl, rfl, hidOf (ginv_zero ws width), hme1, hB1⟩
    case round =>
      obtain ⟨k, os, line, hk, rfl, rfl, HI, ho, hb⟩ := hrel
      obtain ⟨a1, c1, rfl⟩ := owns_slice ho
      obtain ⟨hls, hol⟩ := ginv_size HI.out (by rw [HL.out]; exact hk)
      have hls2 : line.size ≤ 4194304 := by
        have h2 := bg_mono (ws := ws) (i := k) (e := n) hk
        have h3 := HM.out
        omega
      clear hls
      have hsz := hb.size
      by_cases hlt : k < n
      · obtain ⟨x, hx⟩ : ∃ x, ws[k]? = some x := ⟨_, List.getElem?_eq_getElem (by rw [HL.out]; exact hlt)⟩
        obtain ⟨g, rfl⟩ := owns_at hown (by omega)
        have hc := str_at (owns_below hown hb) hlt hx
        have hxs : x.size ≤ 4194304 := by
          have h2 := word_size (n := n) hx hlt
          have h3 := HM.out
          omega
        have HX := hidOf hx
        clear hx
        have hA1 : (0 : Int) ≤ (k : Int) := by omega
        have hB1 : (k : Int) < (n : Int) := by omega
        by_cases h0 : k = 0
        · have h0' : ¬ (0 : Int) < (k : Int) := by omega
          have HZ := hidOf h0
          clear h0
          go_wp2
          go_roundw
          case rel =>
            obtain ⟨ho0, hI⟩ := ginv_first (by have := HI.out; rw [HZ.out] at this; exact this) (by have := HX.out; rw [HZ.out] at this; exact this)
            exact ⟨k + 1, os, x, by omega, rfl, by go_num, hidOf (by rw [HZ.out, ho0]; exact hI), ho, hb⟩
          case measure => simp [intOf]; omega
        · have h0' : (0 : Int) < (k : Int) := by omega
          have hpos : 0 < k := by omega
          clear h0
          by_cases hw : (line.size : Int) + 1 + (x.size : Int) ≤ width
          · go_wp2
            go_roundw
            case rel => exact ⟨k + 1, os, _, by omega, rfl, by go_num, hidOf (ginv_more HI.out hpos HX.out hw), ho, hb⟩
            case measure => simp [intOf]; omega
          · go_wp2_with (at_builtin; refine wpList_append_own _ rfl _ _ 24 rfl w.heap.size 9 i0 (.string ByteArray.empty) 1 16 Tryz.underlying24 hi hz0 hz1 hz2 rfl (by decide) _ _ _ rfl (ho.alloc _) ⟨wr.heap.size, 0, none⟩ 1 1 [.string line] rfl rfl (cell_one_new _ _ _) (fun x hx => by simp at hx; subst hx; rfl) (by unfold maxLen; omega) (by omega) (by simp; omega) ?_; intro v' w3 hown' hgrow3 hnil3; have hB3 := (hb.alloc (by omega) (.cells #[.string line] 9)).grown hgrow3 (by simp; omega) (fun q hq => (ho.lt q hq).1); have hc3 := str_at (owns_below hown hB3) hlt HX.out)
            go_roundw
            case rel => exact ⟨k + 1, os ++ [line], x, by omega, rfl, by go_num, hidOf (ginv_line HI.out hpos HX.out (by omega)), by simpa [strVals] using hown', hB3⟩
            case measure => simp [intOf]; omega
      · have hke : k = n := by omega
        have HK := hidOf hke
        clear hke
        by_cases h0 : n = 0
        · have HZ := hidOf h0
          have h0' : ¬ (0 : Int) < (n : Int) := by omega
          clear h0
          go_wp2
          go_ret
          refine ⟨hb, _, rfl, ?_⟩
          have h8 : os = [] := by
            have := hol
            rw [HK.out, HZ.out] at this
            exact List.length_eq_zero_iff.1 (by omega)
          have h9 : greedy ws width = os := by rw [HG.out, ln_end (by rw [HL.out, HZ.out]; exact Nat.le_refl _), h8]
          rw [h9]
          exact ho
        · have h0' : (0 : Int) < (n : Int) := by omega
          have hpos : 0 < n := by omega
          clear h0
          go_wp2_with (at_builtin; refine wpList_append_own _ rfl _ _ 24 rfl w.heap.size 9 i0 (.string ByteArray.empty) 1 16 Tryz.underlying24 hi hz0 hz1 hz2 rfl (by decide) _ _ _ rfl (ho.alloc _) ⟨wr.heap.size, 0, none⟩ 1 1 [.string line] rfl rfl (cell_one_new _ _ _) (fun x hx => by simp at hx; subst hx; rfl) (by unfold maxLen; omega) (by omega) (by simp; omega) ?_; intro v' w3 hown' hgrow3 hnil3)
          go_ret
          refine ⟨(hb.alloc (by omega) _).grown hgrow3 (by simp; omega) (fun q hq => (ho.lt q hq).1), _, rfl, ?_⟩
          rw [HG.out, ← ginv_end HI.out (by rw [HK.out]; exact hpos) (by rw [HK.out, HL.out])]
          simpa [strVals] using hown'
end Go.Proofs.YtabbfpkhlofccaaGreatDoor
