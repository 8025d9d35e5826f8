/- What impl.SignsOf answers. -/
import Derived.Test.YtlpbhhgikgbfhaaDoorAheadI
namespace Go.Proofs.YtlpbhhgikgbfhaaDoor
open Go.RowKit

theorem infoSgI : (Tryd.prog.info? 34).map (fun i => (i.zero, i.size, i.bytes)) = some (some (.agg #[.int .i64 0, .string ByteArray.empty, .int .i64 0, .bool false]), 4, 40) := by kernel_rfl

set_option maxHeartbeats 8000000 in
set_option maxRecDepth 100000 in
theorem iSigns_any (t : ByteArray) (w : World) (hs : t.size ≤ 4194304) :
    Calls Tryd.prog 14 #[.string t] w fun e w' => SgnAns t 34 w e w' := by
  obtain ⟨i0, hi, hz0, hz1, hz2⟩ := info_parts infoSgI
  by_cases hbig : 3000 < t.size
  · go_enter Tryd.func14, Tryd.ntmps14
    go_wp2
    go_ret3
    exact SgnAns.mk (sgn_long hbig) rfl ((Below.refl _ _).alloc (Nat.le_refl _) _) (World.ownsRow_made w #[] 0 (Nat.le_refl _) (by decide) rfl)
  · go_enter Tryd.func14, Tryd.ntmps14
    go_wp2_with fail
    refine (iSizes_any _).mono ?_
    rintro e w1 ⟨rfl, hM, hb1⟩
    have hlt1 : w.heap.size < w1.heap.size := by obtain ⟨n, D, ho, _⟩ := hM; exact ho.lt
    go_wp2
    obtain ⟨v0, hv0⟩ : ∃ v0, v0 = Value.slice (some ⟨w1.heap.size, 0, none⟩) 0 0 := ⟨_, rfl⟩
    have hown0 : (w1.alloc (.cells #[] 34)).ownsRow (w.heap.size + 1) 34 4 v0 0 [] := by rw [hv0]; exact World.ownsRow_made w1 #[] 0 (by omega) (by decide) rfl
    rw [← hv0]
    clear hv0
    have hb0 : Below w.heap.size w (w1.alloc (.cells #[] 34)) := hb1.alloc (by omega) _
    have hM0 : MkMap Tryd.prog (w1.alloc (.cells #[] 34)) 9 3 w.heap.size := hM.below ((Below.refl _ _).alloc (Nat.le_refl _) _)
    have HS := hidOf (sgn_short hbig)
    go_loopw [6, 7] (fun v i wr => ∃ (k : Nat) (pre : List Sg), k ≤ t.size ∧ i = .int .i64 k ∧ pre.length ≤ k ∧ wr.ownsRow (w.heap.size + 1) 34 4 v pre.length (sgVals pre) ∧ MkMap Tryd.prog wr 9 3 w.heap.size ∧ Below w.heap.size w wr ∧ Hid (lexA t k 0 pre = sgn t)) (fun _ i _ => t.size - (intOf i).toNat)
    case atStart => exact ⟨0, [], Nat.zero_le _, rfl, Nat.le_refl _, hown0, hM0, hb0, hidOf HS.out.symm⟩
    case round =>
      obtain ⟨k, pre, hk, rfl, hpl, ho, hMr, hb, HX⟩ := hrel
      obtain ⟨ao, cc, rfl⟩ := owns_slice ho
      have hsz : w.heap.size < wr.heap.size := by obtain ⟨n, D, hoo, _⟩ := hMr; exact hoo.lt
      have h1 := str_from (P := Tryd.prog) 9 t k (k : Int) Tryd.underlying9 rfl hk
      have hG := span_gap (t.extract k t.size) wr (by simp; omega)
      rw [spn_rest, Nat.add_zero] at hG
      have hle := spn_le (p := gapB) (s := t) (k := k) hk
      have hall := spn_all (p := gapB) (s := t) (k := k) hk
      have hend := spn_end (p := gapB) (s := t) (k := k) hk
      obtain ⟨g, eg⟩ : ∃ g, g = spn gapB t k := ⟨_, rfl⟩
      rw [← eg] at hG hle hall hend
      clear eg
      have h2 := str_slice (P := Tryd.prog) 9 t k (k + g) (k : Int) ((k : Int) + g) Tryd.underlying9 rfl (by omega) (by omega) hle
      obtain ⟨u, hu⟩ : ∃ u, u = t.extract k (k + g) := ⟨_, rfl⟩
      have hus : u.size = g := by rw [hu]; simp; omega
      rw [← hu] at h2
      have hgap := lexA_gap (t := t) (pre := pre) g k 0 hle hall
      rw [Nat.zero_add, HX.out] at hgap
      have HL := hidOf (show lend t k g = Lib.countByte u.data.toList 10 by rw [hu]; rfl)
      have HG := hidOf hgap
      have HA := hidOf hend
      clear hu hall hend hgap HX
      go_wp2_with fail
      refine hG.mono ?_
      rintro e w2 ⟨rfl, hb2⟩
      have B2 := hb.trans (hb2.mono hb.size)
      have ho2 := owns_below ho hb2
      have hM2 := hMr.below hb2
      have hsz2 : w.heap.size < w2.heap.size := by have := hb2.size; omega
      clear hG ho hMr
      by_cases hfin : k + g = t.size
      · have hfe : ((k : Int) + g == (t.size : Int)) = true := by simp; omega
        go_wp2
        go_ret3
        have hr : sgn t = (pre, 0, true) := by rw [HG.out]; exact lexA_end (by omega)
        exact SgnAns.mk hr rfl B2 (ownsRow_base ho2 (by omega))
      · have hfe : ((k : Int) + g == (t.size : Int)) = false := by rw [beq_eq_false_iff_ne]; omega
        have h3 := str_from (P := Tryd.prog) 9 t (k + g) ((k : Int) + g) Tryd.underlying9 (by omega) hle
        have hH := fun W hW => ahead_any (t.extract (k + g) t.size) w.heap.size W (by simp; omega) (by simp; omega) hW
        have hno := HA.out (by omega)
        have hn32 : by8 t (k + g) ≠ 32 := fun e => by rw [e] at hno; simp [gapB] at hno
        have hn10 : by8 t (k + g) ≠ 10 := fun e => by rw [e] at hno; simp [gapB] at hno
        have hhl := hd_le (t.extract (k + g) t.size)
        rw [rest_size] at hhl
        have hN := lexA_none (t := t) (k := k + g) (ends := lend t k g) (pre := pre) (by omega) hn32 hn10
        have hS := lexA_sign (t := t) (k := k + g) (ends := lend t k g) (pre := pre) (by omega) hn32 hn10
        generalize hhd : hd (t.extract (k + g) t.size) = hh at hH hhl hN hS
        obtain ⟨kd, n⟩ := hh
        simp only at hH hhl hN hS
        rw [← HG.out] at hN hS
        clear hhd hn32 hn10 hno HA HG
        by_cases hn : n = 0
        · have HN := hidOf (hN hn)
          clear hN hS
          subst hn
          go_wp2_with fail
          refine (hH _ hM2).mono ?_
          rintro e w3 ⟨rfl, hb3⟩
          have B3 := B2.trans (hb3.mono B2.size)
          go_wp2
          go_ret3
          exact SgnAns.mk HN.out (by omega) (B3.alloc (by have := hb3.size; omega) _) (World.ownsRow_made w3 #[] 0 (by have := hb3.size; omega) (by decide) rfl)
        · have HSg := hidOf (hS hn)
          clear hN hS
          have hne : ((n : Int) == 0) = false := by rw [beq_eq_false_iff_ne]; omega
          have h4 := str_slice (P := Tryd.prog) 9 t (k + g) (k + g + n) ((k : Int) + g) ((k : Int) + g + n) Tryd.underlying9 (by omega) (by omega) (by omega) (by omega)
          obtain ⟨x, hx⟩ : ∃ x, x = t.extract (k + g) (k + g + n) := ⟨_, rfl⟩
          have hxs : x.size ≤ 4194304 := by rw [hx]; simp; omega
          rw [← hx] at h4
          have HX := hidOf hx
          clear hx
          go_wp2_with fail
          refine (hH _ hM2).mono ?_
          rintro e w3 ⟨rfl, hb3⟩
          have B3 := B2.trans (hb3.mono B2.size)
          have ho3 := owns_below ho2 hb3
          have hM3 := hM2.below hb3
          have hsz3 : w.heap.size < w3.heap.size := by have := hb3.size; omega
          clear ho2 hM2 hH
          go_wp2_with fail
          refine (ln_clone x _ hxs).mono ?_
          rintro e w4 ⟨rfl, hb4⟩
          have B4 := B3.trans (hb4.mono B3.size)
          have ho4 := owns_below ho3 hb4
          have hM4 := hM3.below hb4
          have hsz4 : w.heap.size < w4.heap.size := by have := hb4.size; omega
          clear ho3 hM3
          go_wp2_with fail
          refine (empty_any u _).mono ?_
          rintro e w4 ⟨rfl, rfl⟩
          obtain ⟨bl, hbl⟩ : ∃ bl, bl = decide (1 < Lib.countByte u.data.toList 10) := ⟨_, rfl⟩
          rw [← hbl]
          have HBL := hidOf hbl
          clear hbl
          go_wp2_with (at_builtin; refine wpList_append_own _ rfl _ _ 29 rfl (w.heap.size + 1) 34 i0 _ 4 40 Tryd.underlying29 hi hz0 hz1 hz2 rfl (by decide) (.slice ao pre.length cc) pre.length (sgVals pre) rfl (ho4.alloc _) ⟨w4.heap.size, 0, none⟩ 1 1 (sgCells ⟨kd, x, (k : Int) + g, bl⟩) rfl rfl (cells_new _ _ _) (sgCells_one _) (by unfold maxLen; omega) (by omega) (by simp; omega) ?_; intro v' w5 hown' hgrow5 hnil5)
          clear hnil5
          refine ⟨⟨k + g + n, pre ++ [⟨kd, x, (k : Int) + g, bl⟩], by omega, by go_num, by simp; omega, ?_, ?_, ?_, hidOf ?_⟩, ?_⟩
          · rw [List.length_append, sgVals_app]
            exact hown'
          · refine (hM4.below ((Below.refl _ _).alloc (Nat.le_refl _) _)).kept hgrow5 (fun e => ?_)
            have := (ho4.lt _ e.symm).1
            omega
          · exact (B4.alloc (by omega) _).grown hgrow5 (by simp; omega) (fun j hj => by have := (ho4.lt j hj).1; omega)
          · rw [HSg.out, HBL.out, HX.out, HL.out]
            rfl
          · simp only [intOf]
            omega
end Go.Proofs.YtlpbhhgikgbfhaaDoor
