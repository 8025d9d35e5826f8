/- What spec.WrapNote answers, where it is told whether the text is a note. -/
import Derived.Test.YtabbfpkhlofccaaGreatDoorKai
import Derived.Test.YtabbfpkhlofccaaGreatDoorGrS
import Derived.Deep.RegionHeld3
import Derived.Test.YtabbfpkhlofccaaGreatDoorAppPl
import Derived.Test.YtabbfpkhlofccaaGreatDoorKam
namespace Go.Proofs.YtabbfpkhlofccaaGreatDoor
open Go.RowKit

theorem wn_inS (x : Int) (w : World) : Calls Tryz.prog 45 #[.int .i64 x, .int .i64 0, .int .i64 60] w fun e w' => e = .returned (.bool (decide (0 ≤ x ∧ x ≤ 60))) ∧ w' = w := by
  by_cases h1 : 0 ≤ x
  · by_cases h2 : x ≤ 60
    · rw [decide_eq_true ⟨h1, h2⟩]
      go_enter Tryz.func45, Tryz.ntmps45
      go_wp2
      go_ret
      exact ⟨rfl, rfl⟩
    · rw [decide_eq_false (fun h => h2 h.2)]
      go_enter Tryz.func45, Tryz.ntmps45
      go_wp2
      go_ret
      exact ⟨rfl, rfl⟩
  · rw [decide_eq_false (fun h => h1 h.1)]
    go_enter Tryz.func45, Tryz.ntmps45
    go_wp2
    go_ret
    exact ⟨rfl, rfl⟩
set_option maxHeartbeats 1600000 in
theorem sBl_any (n : Nat) (w : World) (h1 : n ≤ 1000) :
    Calls Tryz.prog 46 #[.int .i64 n] w fun e w' => e = .returned (.string (bl17 n)) ∧ w' = w := by
  go_enter Tryz.func46, Tryz.ntmps46
  go_wp2
  go_loop [3, 4] (fun s i => ∃ k : Nat, k ≤ n ∧ i = .int .i64 k ∧ s = .string (bl17 k)) (fun _ i => n - (intOf i).toNat)
  case atStart => exact ⟨0, Nat.zero_le _, rfl, rfl⟩
  case round =>
    obtain ⟨k, hk, rfl, rfl⟩ := hrel
    have hs := bl17_size k
    by_cases hlt : k < n
    · have hM : (k : Int) < (n : Int) := by omega
      have HE := hidOf (bl17_more k)
      obtain ⟨s, es⟩ : ∃ s, s = bl17 k := ⟨_, rfl⟩
      rw [← es] at hs HE ⊢
      have hss : s.size ≤ 1000 := by omega
      clear hs es
      go_wp2
      go_round
      case rel => exact ⟨k + 1, by omega, by go_num, by rw [HE.out]⟩
      case measure => simp [intOf]; omega
    · have hM : ¬ (k : Int) < (n : Int) := by omega
      have hke : k = n := by omega
      have HK := hidOf hke
      clear hke
      go_wp2
      go_ret
      exact ⟨ret_str (by rw [HK.out]), rfl⟩

set_option maxHeartbeats 6000000 in
set_option maxRecDepth 100000 in
theorem sWn_any (t : ByteArray) (n width : Int) (note : Bool) (w : World) (hs : t.size ≤ 3000) (hs2 : note = true → 2 ≤ t.size) (hw : width ≤ 9223372036854775807)
    (hN : ∀ W, Calls Tryz.prog 44 #[.string t] W fun e w' => e = .returned (.bool note) ∧ Below W.heap.size W w') :
    Calls Tryz.prog 22 #[.string t, .int .i64 n, .int .i64 width] w fun e w' => StrsAns (wrapN note t n width) 9 w e w' := by
  obtain ⟨i0, hi, hz0, hz1, hz2⟩ := info_parts infoStrW
  have hN0 := hN (w.alloc (.cells #[] 9))
  have hB0 : Below w.heap.size w (w.alloc (.cells #[] 9)) := (Below.refl _ w).alloc (Nat.le_refl _) _
  have hme := World.ownsRow_made (base := w.heap.size) (e := 9) (size := 1) w #[] 0 (Nat.le_refl _) (by decide) rfl
  clear hN
  have qi := fun W => wn_inS n W
  by_cases hno : note = true ∧ 0 ≤ n ∧ n ≤ 60
  · obtain ⟨rfl, hn0, hn60⟩ := hno
    obtain ⟨d, rfl⟩ := Int.eq_ofNat_of_zero_le hn0
    have hd60 : d ≤ 60 := by omega
    rw [decide_eq_true ⟨hn0, hn60⟩] at qi
    have ht2 := hs2 rfl
    have hsl := str_from (P := Tryz.prog) 9 t 2 2 Tryz.underlying9 rfl ht2
    obtain ⟨u, hu⟩ : ∃ u, u = t.extract 2 t.size := ⟨_, rfl⟩
    rw [← hu] at hsl
    have hus : u.size ≤ 3000 := by rw [hu, ByteArray.size_extract]; omega
    obtain ⟨ws, hws⟩ : ∃ ws, ws = wds u := ⟨_, rfl⟩
    have hwl : ws.length ≤ 3001 := by rw [hws]; have := wds_len u; omega
    have hwb : bg ws ws.length ≤ 3001 := by rw [hws]; have := wds_bg u; omega
    obtain ⟨A1, hA1⟩ : ∃ A1, A1 = bl17 d := ⟨_, rfl⟩
    have qb := fun W => sBl_any d W (by omega)
    rw [← hA1] at qb
    have hAs : A1.size = d := by rw [hA1, bl17_size]
    have hy1 : (⟨#[47, 47]⟩ : ByteArray).size = 2 := rfl
    have hy2 : (⟨#[47, 47, 32]⟩ : ByteArray).size = 3 := rfl
    by_cases h0 : ws.length = 0
    · have HR := hidOf (show wrapN true t d width = [A1 ++ (⟨#[47, 47]⟩ : ByteArray)] by
        rw [wrapN_none hd60 (by rw [← hu, ← hws]; exact List.length_eq_zero_iff.1 h0), hA1]; rfl)
      have HW := hidOf hws
      have H0 := hidOf h0
      clear hws h0 hu hA1 hn0 hn60
      go_enter Tryz.func22, Tryz.ntmps22
      go_wp2_with fail
      refine hN0.mono ?_
      rintro e w1 ⟨rfl, hb1⟩
      have hB1 := hB0.trans (hb1.mono (by simp))
      have hme1 := owns_below hme hb1
      go_wp2_with fail
      refine (qi _).mono ?_
      rintro e w1' ⟨rfl, rfl⟩
      go_wp2_with fail
      refine (sWords_any u _ (by omega)).mono ?_
      rw [← HW.out]
      rintro e w3 ⟨hb3, v3, rfl, ho3⟩
      rw [H0.out] at ho3
      obtain ⟨a3, c3, rfl⟩ := owns_slice ho3
      have hB3 := hB1.trans (hb3.mono hB1.size)
      have hs3 := hB3.size
      have hme3 := owns_below hme1 hb3
      clear ho3 hme hme1
      go_wp2_with fail
      refine (qb _).mono ?_
      rintro e w4 ⟨rfl, rfl⟩
      go_wp2_with (at_builtin; refine wpList_append_own _ rfl _ _ 24 rfl w.heap.size 9 i0 (.string ByteArray.empty) 1 16 Tryz.underlying24 hi hz0 hz1 hz2 rfl (by decide) _ _ _ rfl (hme3.alloc _) ⟨w4.heap.size, 0, none⟩ 1 1 [.string (A1 ++ (⟨#[47, 47]⟩ : ByteArray))] rfl rfl (cell_one_new _ _ _) (fun x hx => by simp at hx; subst hx; rfl) (by unfold maxLen; omega) (by omega) (by simp; omega) ?_; intro v' w5 hown' hgrow5 hnil5)
      go_ret
      rw [HR.out]
      exact ⟨(hB3.alloc (by omega) _).grown hgrow5 (by simp; omega) (fun q hq => (hme3.lt q hq).1), _, rfl, by simpa [strVals] using hown'⟩
    · obtain ⟨r, hr⟩ : ∃ r : Int, r = (if (d : Int) + 3 < width then width - d - 3 else 0) := ⟨_, rfl⟩
      obtain ⟨gs, hgs⟩ : ∃ gs, gs = greedy ws r := ⟨_, rfl⟩
      have hgl : gs.length ≤ 3001 := by rw [hgs]; have := greedy_many ws r; omega
      have HGZ := hidOf (show ∀ x ∈ gs, x.size ≤ 3001 by rw [hgs]; intro x hx; have := greedy_sizes ws r x hx; omega)
      have HR := hidOf (show wrapN true t d width = putN d gs by
        rw [wrapN_lines hd60 (by rw [← hu, ← hws]; intro e; rw [e] at h0; exact h0 rfl), ← hu, ← hws, greedy_room, ← hr, hgs])
      have HAB := hidOf (show A1 ++ (⟨#[47, 47, 32]⟩ : ByteArray) = ahB d by rw [hA1]; exact ahB_lit d)
      have HW := hidOf hws
      have HG := hidOf hgs
      have hd0 : ((ws.length : Int) == 0) = false := by rw [beq_eq_false_iff_ne]; omega
      obtain ⟨nw, hnw⟩ : ∃ nw, nw = ws.length := ⟨_, rfl⟩
      rw [← hnw] at hd0 hwl hwb
      have HNW := hidOf hnw
      clear hws h0 hu hA1 hgs hnw hn0 hn60
      have q4 := fun (W : World) (v : Value) (b : Nat) (ho : W.ownsRow b 9 1 v nw (strVals ws)) => sGreedy_any v b nw ws r W (by omega) (by omega) ho
      rw [← HG.out] at q4
      have Q4 := hidOf q4
      clear q4
      by_cases hw0 : (d : Int) + 3 < width
      · rw [if_pos hw0] at hr
        have HRR := hidOf hr.symm
        clear hr
        go_enter Tryz.func22, Tryz.ntmps22
        go_wp2_with fail
        refine hN0.mono ?_
        rintro e w1 ⟨rfl, hb1⟩
        have hB1 := hB0.trans (hb1.mono (by simp))
        have hme1 := owns_below hme hb1
        have hw1 : w.heap.size < w1.heap.size := by have := hb1.size; simp at this; omega
        go_wp2_with fail
        refine (qi _).mono ?_
        rintro e w1' ⟨rfl, rfl⟩
        go_wp2_with fail
        refine (sWords_any u _ (by omega)).mono ?_
        rw [← HW.out]
        rintro e w3 ⟨hb3, v3, rfl, ho3⟩
        rw [← HNW.out] at ho3
        obtain ⟨a3, c3, rfl⟩ := owns_slice ho3
        have hB3 := hB1.trans (hb3.mono hB1.size)
        have hs3 := hB3.size
        have hw3 : w.heap.size < w3.heap.size := Nat.lt_of_lt_of_le hw1 hb3.size
        have hme3 := owns_below hme1 hb3
        have q5 := Q4.out w3 _ _ ho3
        clear ho3 hme hme1
        go_wp2_with fail
        rw [HRR.out]
        refine q5.mono ?_
        rintro e w4 ⟨hb4, v4, rfl, ho4⟩
        obtain ⟨a4, c4, rfl⟩ := owns_slice ho4
        have hB4 := hB3.trans (hb4.mono hs3)
        have hme4 := owns_below hme3 hb4
        obtain ⟨ng, hng⟩ : ∃ ng, ng = gs.length := ⟨_, rfl⟩
        rw [← hng] at hgl ho4 ⊢
        have HNG := hidOf hng
        have HLT : Hid (∀ g, a4 = some ⟨g, 0, none⟩ → w3.heap.size ≤ g ∧ g < w4.heap.size) := hidOf (fun g e => by rw [e] at ho4; exact ho4.lt g rfl)
        clear q5 hng hme3 hB3
        have HCS : Hid (∀ g, a4 = some ⟨g, 0, none⟩ → ∀ j x, gs[j]? = some x → w4.cell? ⟨g, j, none⟩ = some (.string x)) := hidOf (fun g e j x hx => by
          rw [e] at ho4
          exact str_at ho4 (by rw [HNG.out]; exact (List.getElem?_eq_some_iff.1 hx).1) hx)
        go_wp2
        go_loopw [7, 11] (fun v i wr => ∃ k : Nat, k ≤ ng ∧ i = .int .i64 k ∧ wr.ownsRow w.heap.size 9 1 v k (strVals (putN d (gs.take k))) ∧ Hid (∀ g, v.ownBlock = some g → g = w.heap.size ∨ w4.heap.size ≤ g) ∧ Below w.heap.size w wr ∧ Hid (∀ g, w.heap.size < g → g < w4.heap.size → ∀ j, wr.cell? ⟨g, j, none⟩ = w4.cell? ⟨g, j, none⟩) ∧ w4.heap.size ≤ wr.heap.size) (fun _ i _ => ng - (intOf i).toNat)
        case atStart => exact ⟨0, Nat.zero_le _, rfl, hme4, hidOf (fun g e => .inl (by have := Option.some.inj e; exact this.symm)), hB4, hidOf (fun g _ _ j => rfl), Nat.le_refl _⟩
        case round =>
          obtain ⟨k, hk, rfl, ho, HO, hb, HS, hsz⟩ := hrel
          obtain ⟨a6, c6, rfl⟩ := owns_slice ho
          have hsw := hb.size
          by_cases hlt : k < ng
          · obtain ⟨x, hx⟩ : ∃ x, gs[k]? = some x := ⟨_, List.getElem?_eq_getElem (by rw [← HNG.out]; exact hlt)⟩
            obtain ⟨g, rfl⟩ := owns_at ho4 (by omega)
            obtain ⟨hg1, hg2⟩ := HLT.out g rfl
            have hc : wr.cell? ⟨g, k, none⟩ = some (.string x) := (HS.out g (by omega) hg2 k).trans (HCS.out g rfl k x hx)
            have hxs := HGZ.out x (List.mem_of_getElem? hx)
            have hnx : putN d (gs.take (k + 1)) = putN d (gs.take k) ++ [A1 ++ (⟨#[47, 47, 32]⟩ : ByteArray) ++ x] := by
              rw [List.take_add_one, hx, HAB.out]
              simp [putN]
            have HNX := hidOf hnx
            clear hx hnx
            have hA1' : (0 : Int) ≤ (k : Int) := by omega
            have hB1' : (k : Int) < (ng : Int) := by omega
            have hAle : A1.size ≤ 60 := by omega
            have hAle2 : (A1 ++ (⟨#[47, 47, 32]⟩ : ByteArray)).size ≤ 63 := by rw [ByteArray.size_append, hy2]; omega
            have hq1 : ¬ 9223372036854775807 < d + 3 := by omega
            have hq2 : ¬ 9223372036854775807 < d + 3 + x.size := by omega
            have hal : ∀ ob : Obj, (wr.alloc ob).cell? ⟨g, k, none⟩ = some (.string x) := fun ob => (World.cell?_alloc_old _ _ _ (by show g ≠ wr.heap.size; omega)).trans hc
            go_wp2
            go_region_law (first
              | (refine step_append_own2 rfl _ _ 24 rfl w.heap.size 9 i0 (.string ByteArray.empty) 1 16 Tryz.underlying24 hi hz0 hz1 hz2 rfl (by decide) _ _ _ rfl (ho.alloc _).drew ⟨wr.heap.size, 0, none⟩ 1 1 [.string (A1 ++ (⟨#[47, 47, 32]⟩ : ByteArray) ++ x)] rfl rfl (cell_one_new wr _ _) (fun x hx => by simp at hx; subst hx; rfl) (by unfold maxLen; omega) (by omega) (by simp; omega) ?_; intro v' w5 hown' hgrow5 hpl5; have hc5 : w5.cell? ⟨g, k, none⟩ = some (.string x) := by rw [World.cell?_of_block (hgrow5.block g (by simp; omega) (fun e => by rcases HO.out g e.symm with h | h <;> omega))]; exact hal _)
              | (refine step_call (by rfl) 46 _ (by go_simp; try rfl) ((qb _).mono ?_); rintro e w' ⟨rfl, rfl⟩; refine ⟨_, rfl, ?_⟩))
            all_goals
              go_wp2
              go_roundw
              case rel =>
                refine ⟨k + 1, by omega, by go_num, by rw [HNX.out]; simpa [strVals] using hown', hidOf (fun g' e => ?_), (hb.alloc (by omega) _).drew.grown hgrow5 (by simp; omega) (fun q hq => (ho.lt q hq).1), hidOf (fun g' h1 h2 j => ?_), by have := hgrow5.size; simp at this; omega⟩
                · rcases hpl5 g' e with h | h
                  · exact HO.out g' h
                  · right; simp at h; omega
                · rw [World.cell?_of_block (hgrow5.block g' (by simp; omega) (fun e => by rcases HO.out g' e.symm with h | h <;> omega))]
                  exact (World.cell?_alloc_old _ _ _ (by show g' ≠ wr.heap.size; omega)).trans (HS.out g' h1 h2 j)
              case measure => simp [intOf]; omega
          · have hke : gs.take k = gs := List.take_of_length_le (by rw [← HNG.out]; omega)
            have hkn : k = ng := by omega
            have HKN := hidOf hkn
            have HKE := hidOf hke
            clear hke hkn
            go_wp2
            go_ret
            rw [HR.out]
            refine ⟨hb, _, rfl, ?_⟩
            rw [HKE.out] at ho
            rw [show (putN d gs).length = k by rw [HKN.out, HNG.out]; simp [putN]]
            exact ho
      · rw [if_neg hw0] at hr
        have hrz : (0 : Int) = r := hr.symm
        have HRR : Hid ((0 : Int) = r) := hidOf hrz
        clear hr hrz
        go_enter Tryz.func22, Tryz.ntmps22
        go_wp2_with fail
        refine hN0.mono ?_
        rintro e w1 ⟨rfl, hb1⟩
        have hB1 := hB0.trans (hb1.mono (by simp))
        have hme1 := owns_below hme hb1
        have hw1 : w.heap.size < w1.heap.size := by have := hb1.size; simp at this; omega
        go_wp2_with fail
        refine (qi _).mono ?_
        rintro e w1' ⟨rfl, rfl⟩
        go_wp2_with fail
        refine (sWords_any u _ (by omega)).mono ?_
        rw [← HW.out]
        rintro e w3 ⟨hb3, v3, rfl, ho3⟩
        rw [← HNW.out] at ho3
        obtain ⟨a3, c3, rfl⟩ := owns_slice ho3
        have hB3 := hB1.trans (hb3.mono hB1.size)
        have hs3 := hB3.size
        have hw3 : w.heap.size < w3.heap.size := Nat.lt_of_lt_of_le hw1 hb3.size
        have hme3 := owns_below hme1 hb3
        have q5 := Q4.out w3 _ _ ho3
        clear ho3 hme hme1
        go_wp2_with fail
        have q6 : Calls Tryz.prog 12 #[.slice a3 nw c3, .int .i64 0] w3 fun e w' => StrsAns gs 9 w3 e w' := by rw [HRR.out]; exact q5
        refine q6.mono ?_
        clear q6
        rintro e w4 ⟨hb4, v4, rfl, ho4⟩
        obtain ⟨a4, c4, rfl⟩ := owns_slice ho4
        have hB4 := hB3.trans (hb4.mono hs3)
        have hme4 := owns_below hme3 hb4
        obtain ⟨ng, hng⟩ : ∃ ng, ng = gs.length := ⟨_, rfl⟩
        rw [← hng] at hgl ho4 ⊢
        have HNG := hidOf hng
        have HLT : Hid (∀ g, a4 = some ⟨g, 0, none⟩ → w3.heap.size ≤ g ∧ g < w4.heap.size) := hidOf (fun g e => by rw [e] at ho4; exact ho4.lt g rfl)
        clear q5 hng hme3 hB3
        have HCS : Hid (∀ g, a4 = some ⟨g, 0, none⟩ → ∀ j x, gs[j]? = some x → w4.cell? ⟨g, j, none⟩ = some (.string x)) := hidOf (fun g e j x hx => by
          rw [e] at ho4
          exact str_at ho4 (by rw [HNG.out]; exact (List.getElem?_eq_some_iff.1 hx).1) hx)
        go_wp2
        go_loopw [7, 11] (fun v i wr => ∃ k : Nat, k ≤ ng ∧ i = .int .i64 k ∧ wr.ownsRow w.heap.size 9 1 v k (strVals (putN d (gs.take k))) ∧ Hid (∀ g, v.ownBlock = some g → g = w.heap.size ∨ w4.heap.size ≤ g) ∧ Below w.heap.size w wr ∧ Hid (∀ g, w.heap.size < g → g < w4.heap.size → ∀ j, wr.cell? ⟨g, j, none⟩ = w4.cell? ⟨g, j, none⟩) ∧ w4.heap.size ≤ wr.heap.size) (fun _ i _ => ng - (intOf i).toNat)
        case atStart => exact ⟨0, Nat.zero_le _, rfl, hme4, hidOf (fun g e => .inl (by have := Option.some.inj e; exact this.symm)), hB4, hidOf (fun g _ _ j => rfl), Nat.le_refl _⟩
        case round =>
          obtain ⟨k, hk, rfl, ho, HO, hb, HS, hsz⟩ := hrel
          obtain ⟨a6, c6, rfl⟩ := owns_slice ho
          have hsw := hb.size
          by_cases hlt : k < ng
          · obtain ⟨x, hx⟩ : ∃ x, gs[k]? = some x := ⟨_, List.getElem?_eq_getElem (by rw [← HNG.out]; exact hlt)⟩
            obtain ⟨g, rfl⟩ := owns_at ho4 (by omega)
            obtain ⟨hg1, hg2⟩ := HLT.out g rfl
            have hc : wr.cell? ⟨g, k, none⟩ = some (.string x) := (HS.out g (by omega) hg2 k).trans (HCS.out g rfl k x hx)
            have hxs := HGZ.out x (List.mem_of_getElem? hx)
            have hnx : putN d (gs.take (k + 1)) = putN d (gs.take k) ++ [A1 ++ (⟨#[47, 47, 32]⟩ : ByteArray) ++ x] := by
              rw [List.take_add_one, hx, HAB.out]
              simp [putN]
            have HNX := hidOf hnx
            clear hx hnx
            have hA1' : (0 : Int) ≤ (k : Int) := by omega
            have hB1' : (k : Int) < (ng : Int) := by omega
            have hAle : A1.size ≤ 60 := by omega
            have hAle2 : (A1 ++ (⟨#[47, 47, 32]⟩ : ByteArray)).size ≤ 63 := by rw [ByteArray.size_append, hy2]; omega
            have hq1 : ¬ 9223372036854775807 < d + 3 := by omega
            have hq2 : ¬ 9223372036854775807 < d + 3 + x.size := by omega
            have hal : ∀ ob : Obj, (wr.alloc ob).cell? ⟨g, k, none⟩ = some (.string x) := fun ob => (World.cell?_alloc_old _ _ _ (by show g ≠ wr.heap.size; omega)).trans hc
            go_wp2
            go_region_law (first
              | (refine step_append_own2 rfl _ _ 24 rfl w.heap.size 9 i0 (.string ByteArray.empty) 1 16 Tryz.underlying24 hi hz0 hz1 hz2 rfl (by decide) _ _ _ rfl (ho.alloc _).drew ⟨wr.heap.size, 0, none⟩ 1 1 [.string (A1 ++ (⟨#[47, 47, 32]⟩ : ByteArray) ++ x)] rfl rfl (cell_one_new wr _ _) (fun x hx => by simp at hx; subst hx; rfl) (by unfold maxLen; omega) (by omega) (by simp; omega) ?_; intro v' w5 hown' hgrow5 hpl5; have hc5 : w5.cell? ⟨g, k, none⟩ = some (.string x) := by rw [World.cell?_of_block (hgrow5.block g (by simp; omega) (fun e => by rcases HO.out g e.symm with h | h <;> omega))]; exact hal _)
              | (refine step_call (by rfl) 46 _ (by go_simp; try rfl) ((qb _).mono ?_); rintro e w' ⟨rfl, rfl⟩; refine ⟨_, rfl, ?_⟩))
            all_goals
              go_wp2
              go_roundw
              case rel =>
                refine ⟨k + 1, by omega, by go_num, by rw [HNX.out]; simpa [strVals] using hown', hidOf (fun g' e => ?_), (hb.alloc (by omega) _).drew.grown hgrow5 (by simp; omega) (fun q hq => (ho.lt q hq).1), hidOf (fun g' h1 h2 j => ?_), by have := hgrow5.size; simp at this; omega⟩
                · rcases hpl5 g' e with h | h
                  · exact HO.out g' h
                  · right; simp at h; omega
                · rw [World.cell?_of_block (hgrow5.block g' (by simp; omega) (fun e => by rcases HO.out g' e.symm with h | h <;> omega))]
                  exact (World.cell?_alloc_old _ _ _ (by show g' ≠ wr.heap.size; omega)).trans (HS.out g' h1 h2 j)
              case measure => simp [intOf]; omega
          · have hke : gs.take k = gs := List.take_of_length_le (by rw [← HNG.out]; omega)
            have hkn : k = ng := by omega
            have HKN := hidOf hkn
            have HKE := hidOf hke
            clear hke hkn
            go_wp2
            go_ret
            rw [HR.out]
            refine ⟨hb, _, rfl, ?_⟩
            rw [HKE.out] at ho
            rw [show (putN d gs).length = k by rw [HKN.out, HNG.out]; simp [putN]]
            exact ho
  · have HR := hidOf (wrapN_no (note := note) (t := t) (n := n) (width := width) hno)
    cases note
    · go_enter Tryz.func22, Tryz.ntmps22
      go_wp2_with fail
      refine hN0.mono ?_
      rintro e w1 ⟨rfl, hb1⟩
      have hB1 := hB0.trans (hb1.mono (by simp))
      have hme1 := owns_below hme hb1
      go_wp2
      go_ret
      rw [HR.out]
      exact ⟨hB1, _, rfl, hme1⟩
    · have hin : ¬ (0 ≤ n ∧ n ≤ 60) := fun h => hno ⟨rfl, h⟩
      rw [decide_eq_false hin] at qi
      go_enter Tryz.func22, Tryz.ntmps22
      go_wp2_with fail
      refine hN0.mono ?_
      rintro e w1 ⟨rfl, hb1⟩
      have hB1 := hB0.trans (hb1.mono (by simp))
      have hme1 := owns_below hme hb1
      go_wp2_with fail
      refine (qi _).mono ?_
      rintro e w1' ⟨rfl, rfl⟩
      go_wp2
      go_ret
      rw [HR.out]
      exact ⟨hB1, _, rfl, hme1⟩
end Go.Proofs.YtabbfpkhlofccaaGreatDoor
