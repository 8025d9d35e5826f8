/- What impl.WrapNote answers, where it is told whether the text is a note. -/
import Derived.Test.YtabbfpkhlofccaaGreatDoorKai
import Derived.Test.YtabbfpkhlofccaaGreatDoorWdI
import Derived.Test.YtabbfpkhlofccaaGreatDoorKal
import Derived.Test.YtabbfpkhlofccaaGreatDoorLib
import Derived.Deep.RegionLaw
namespace Go.Proofs.YtabbfpkhlofccaaGreatDoor
open Go.RowKit

theorem wn_in (x : Int) (w : World) : Calls Tryz.prog 42 #[.int .i64 x, .int .i64 0, .int .i64 60] w fun e w' => e = .returned (.bool (decide (0 ≤ x ∧ x ≤ 60))) ∧ w' = w := by
  by_cases h1 : 0 ≤ x
  · by_cases h2 : x ≤ 60
    · rw [decide_eq_true ⟨h1, h2⟩]
      go_enter Tryz.func42, Tryz.ntmps42
      go_wp2
      go_ret
      exact ⟨rfl, rfl⟩
    · rw [decide_eq_false (fun h => h2 h.2)]
      go_enter Tryz.func42, Tryz.ntmps42
      go_wp2
      go_ret
      exact ⟨rfl, rfl⟩
  · rw [decide_eq_false (fun h => h1 h.1)]
    go_enter Tryz.func42, Tryz.ntmps42
    go_wp2
    go_ret
    exact ⟨rfl, rfl⟩
theorem rep_any (n : Nat) (w : World) (h : n ≤ 1000) : Calls Tryz.prog 43 #[.string ⟨#[32]⟩, .int .i64 n] w fun e w' => e = .returned (.string (bl17 n)) ∧ Below w.heap.size w w' := by
  have q := Tryz.strings_Repeat ⟨#[32]⟩ n w (by omega) (by show 1 * n ≤ _; omega)
  rw [show (⟨#[32]⟩ : ByteArray).data.toList = [32] from rfl, rep_bl17] at q
  exact q
/-- How far the lines are put. -/
def putK (n : Nat) (l : List ByteArray) (k : Nat) : List ByteArray := putN n (l.take k) ++ l.drop k
theorem putK_zero (n : Nat) (l : List ByteArray) : putK n l 0 = l := by simp [putK, putN]
theorem putK_all {n : Nat} {l : List ByteArray} {k : Nat} (h : l.length ≤ k) : putK n l k = putN n l := by
  unfold putK
  rw [List.take_of_length_le h, List.drop_of_length_le h, List.append_nil]
theorem putK_len (n : Nat) (l : List ByteArray) (k : Nat) : (putK n l k).length = l.length := by simp [putK, putN]; omega
theorem putK_at {n : Nat} {l : List ByteArray} {k : Nat} {x : ByteArray} (h : l[k]? = some x) : (putK n l k)[k]? = some x := by
  have hk := (List.getElem?_eq_some_iff.1 h).1
  unfold putK putN
  rw [List.getElem?_append_right (by simp; omega)]
  simp [Nat.min_eq_left (Nat.le_of_lt hk), h]
theorem putK_next {n : Nat} {l : List ByteArray} {k : Nat} {x : ByteArray} (h : l[k]? = some x) : (strVals (putK n l k)).set k (.string (ahB n ++ x)) = strVals (putK n l (k + 1)) := by
  have hk := (List.getElem?_eq_some_iff.1 h).1
  have hx : l.drop k = x :: l.drop (k + 1) := by
    rw [List.drop_eq_getElem_cons hk, (List.getElem?_eq_some_iff.1 h).2]
  have e1 : putK n l k = putN n (l.take k) ++ x :: l.drop (k + 1) := by unfold putK; rw [hx]
  have e2 : putK n l (k + 1) = putN n (l.take k) ++ (ahB n ++ x) :: l.drop (k + 1) := by
    unfold putK
    rw [List.take_add_one, h]
    simp [putN]
  have hl : (strVals (putN n (l.take k))).length = k := by simp [strVals, putN]; omega
  rw [e1, e2]
  unfold strVals at hl ⊢
  rw [List.map_append, List.map_append, List.set_append_right _ _ (by omega), hl, Nat.sub_self]
  rfl
set_option maxHeartbeats 6000000 in
set_option maxRecDepth 100000 in
theorem iWn_any (t : ByteArray) (n width : Int) (note : Bool) (m : Int) (w : World) (hs : t.size ≤ 3000) (hs2 : note = true → 2 ≤ t.size) (hw : width ≤ 9223372036854775807)
    (hN : Calls Tryz.prog 41 #[.string t, .int .i64 5] w fun e w' => e = .returned (.bool note) ∧ Below w.heap.size w w')
    (hM0 : 0 < w.heap.size) (hM : w.cell? ⟨0, 0, none⟩ = some (.int .i64 m)) :
    Calls Tryz.prog 21 #[.string t, .int .i64 n, .int .i64 width] w fun e w' => StrsAns (wrapN note t n width) 9 w e w' := by
  by_cases hin : 0 ≤ n ∧ n ≤ 60
  · have qi := fun W => wn_in n W
    rw [decide_eq_true hin] at qi
    cases note
    · have HR := hidOf (wrapN_no (note := false) (t := t) (n := n) (width := width) (by simp))
      go_enter Tryz.func21, Tryz.ntmps21
      go_wp2_with fail
      refine hN.mono ?_
      rintro e w1 ⟨rfl, hb1⟩
      go_wp2
      go_ret
      rw [HR.out]
      exact ⟨hb1.alloc hb1.size _, _, rfl, ownsRow_base (World.ownsRow_made w1 #[] 0 (Nat.le_refl _) (by decide) rfl) hb1.size⟩
    · obtain ⟨d, rfl⟩ := Int.eq_ofNat_of_zero_le hin.1
      have hd60 : d ≤ 60 := by omega
      have ht2 := hs2 rfl
      have hsl := str_from (P := Tryz.prog) 9 t 2 2 Tryz.underlying9 rfl ht2
      obtain ⟨u, hu⟩ : ∃ u, u = t.extract 2 t.size := ⟨_, rfl⟩
      rw [← hu] at hsl
      have hus : u.size ≤ 3000 := by rw [hu, ByteArray.size_extract]; omega
      obtain ⟨ws, hws⟩ : ∃ ws, ws = wds u := ⟨_, rfl⟩
      have hwl : ws.length ≤ 3001 := by rw [hws]; have := wds_len u; omega
      have hwb : bg ws ws.length ≤ 3001 := by rw [hws]; have := wds_bg u; omega
      obtain ⟨A1, hA1⟩ : ∃ A1, A1 = bl17 d := ⟨_, rfl⟩
      have qr := fun W => rep_any d W (by omega)
      rw [← hA1] at qr
      have hAs : A1.size = d := by rw [hA1, bl17_size]
      by_cases h0 : ws.length = 0
      · have HR := hidOf (show wrapN true t d width = [A1 ++ (⟨#[47, 47]⟩ : ByteArray)] by
          rw [wrapN_none hd60 (by rw [← hu, ← hws]; exact List.length_eq_zero_iff.1 h0), hA1]; rfl)
        have HW := hidOf hws
        have H0 := hidOf h0
        clear hws h0 hu hA1 hin
        go_enter Tryz.func21, Tryz.ntmps21
        go_wp2_with fail
        refine hN.mono ?_
        rintro e w1 ⟨rfl, hb1⟩
        go_wp2_with fail
        refine (qi _).mono ?_
        rintro e w1' ⟨rfl, rfl⟩
        go_wp2_with fail
        refine (qr _).mono ?_
        rintro e w2 ⟨rfl, hb2⟩
        have hB2 := hb1.trans (hb2.mono hb1.size)
        go_wp2_with fail
        refine (iWords_any u m _ (by omega) (Nat.lt_of_lt_of_le hM0 hB2.size) ((hB2.cell (p := ⟨0, 0, none⟩) hM0).trans hM)).mono ?_
        rw [← HW.out]
        rintro e w3 ⟨hb3, v3, rfl, ho3⟩
        rw [H0.out] at ho3
        obtain ⟨a3, c3, rfl⟩ := owns_slice ho3
        have hB3 := hB2.trans (hb3.mono hB2.size)
        clear ho3
        go_wp2
        go_ret
        rw [HR.out]
        exact ⟨hB3.alloc hB3.size _, _, rfl, by simpa [strVals] using World.ownsRow_lit (base := w.heap.size) (e := 9) (size := 1) w3 #[.string (A1 ++ (⟨#[47, 47]⟩ : ByteArray))] 1 hB3.size (by decide) rfl⟩
      · obtain ⟨r, hr⟩ : ∃ r : Int, r = (if width ≤ 0 then 0 else width) - ((d : Int) + 3) := ⟨_, rfl⟩
        obtain ⟨gs, hgs⟩ : ∃ gs, gs = greedy ws r := ⟨_, rfl⟩
        have hgl : gs.length ≤ 3001 := by rw [hgs]; have := greedy_many ws r; omega
        have HGZ := hidOf (show ∀ x ∈ gs, x.size ≤ 3001 by rw [hgs]; intro x hx; have := greedy_sizes ws r x hx; omega)
        have HR := hidOf (show wrapN true t d width = putN d gs by
          rw [wrapN_lines hd60 (by rw [← hu, ← hws]; intro e; rw [e] at h0; exact h0 rfl), ← hu, ← hws, ← hr, hgs])
        have HB2 := hidOf (show ahB d = A1 ++ (⟨#[47, 47]⟩ : ByteArray) ++ (⟨#[32]⟩ : ByteArray) by rw [hA1]; rfl)
        have HW := hidOf hws
        have HG := hidOf hgs
        have HRR := hidOf hr
        have hd0 : ((ws.length : Int) == 0) = false := by rw [beq_eq_false_iff_ne]; omega
        obtain ⟨nw, hnw⟩ : ∃ nw, nw = ws.length := ⟨_, rfl⟩
        rw [← hnw] at hd0 hwl hwb
        have HNW := hidOf hnw
        have hz1 : (⟨#[47, 47]⟩ : ByteArray).size = 2 := rfl
        have hz2 : (⟨#[32]⟩ : ByteArray).size = 1 := rfl
        clear hws h0 hu hA1 hin hgs hr hnw
        go_enter Tryz.func21, Tryz.ntmps21
        go_wp2_with fail
        refine hN.mono ?_
        rintro e w1 ⟨rfl, hb1⟩
        go_wp2_with fail
        refine (qi _).mono ?_
        rintro e w1' ⟨rfl, rfl⟩
        go_wp2_with fail
        refine (qr _).mono ?_
        rintro e w2 ⟨rfl, hb2⟩
        have hB2 := hb1.trans (hb2.mono hb1.size)
        go_wp2_with fail
        refine (iWords_any u m _ (by omega) (Nat.lt_of_lt_of_le hM0 hB2.size) ((hB2.cell (p := ⟨0, 0, none⟩) hM0).trans hM)).mono ?_
        rw [← HW.out]
        rintro e w3 ⟨hb3, v3, rfl, ho3⟩
        rw [← HNW.out] at ho3
        obtain ⟨a3, c3, rfl⟩ := owns_slice ho3
        have hB3 := hB2.trans (hb3.mono hB2.size)
        have hs3 := hB3.size
        have q4 := iGreedy_any (.slice a3 nw c3) _ nw ws r w3 (by omega) (by omega) ho3
        rw [← HG.out] at q4
        have hmx : max width 0 - ((d : Int) + 2 + 1) = r := by rw [HRR.out]; split <;> omega
        have HMX := hidOf hmx
        clear ho3 hmx
        go_wp2_with fail
        rw [HMX.out]
        refine q4.mono ?_
        rintro e w4 ⟨hb4, v4, rfl, ho4⟩
        obtain ⟨a4, c4, rfl⟩ := owns_slice ho4
        have hB4 := hB3.trans (hb4.mono hs3)
        have ho4 := ownsRow_base ho4 hs3
        obtain ⟨ng, hng⟩ : ∃ ng, ng = gs.length := ⟨_, rfl⟩
        rw [← hng] at hgl ho4 ⊢
        have HNG := hidOf hng
        clear q4 hng hb4
        obtain ⟨A2, hA2⟩ : ∃ A2, A2 = A1 ++ (⟨#[47, 47]⟩ : ByteArray) ++ (⟨#[32]⟩ : ByteArray) := ⟨_, rfl⟩
        have hA2s : A2.size = d + 3 := by rw [hA2, ByteArray.size_append, ByteArray.size_append, hz1, hz2]; omega
        have HA2 := hidOf (show A2 = ahB d by rw [hA2, HB2.out])
        rw [← hA2]
        clear hA2
        go_wp2
        go_loopw [43] (fun i wr => ∃ k : Nat, k ≤ ng ∧ i = .int .i64 k ∧ wr.ownsRow w.heap.size 9 1 (.slice a4 ng c4) ng (strVals (putK d gs k)) ∧ Below w.heap.size w wr) (fun i _ => ng - (intOf i).toNat)
        case atStart => exact ⟨0, Nat.zero_le _, rfl, by rw [putK_zero]; exact ho4, hB4⟩
        case round =>
          obtain ⟨k, hk, rfl, ho, hb⟩ := hrel
          clear ho4
          by_cases hlt : k < ng
          · obtain ⟨x, hx⟩ : ∃ x, gs[k]? = some x := ⟨_, List.getElem?_eq_getElem (by rw [← HNG.out]; exact hlt)⟩
            obtain ⟨g, rfl⟩ := owns_at ho (by omega)
            have hc := str_at ho hlt (putK_at (n := d) hx)
            have hfz := ho.frozenAt k
            have hst := ho.stored k (.string (A2 ++ x))
            rw [HA2.out, putK_next hx, ← HA2.out] at hst
            have HS := hidOf hst
            have hxs := HGZ.out x (List.mem_of_getElem? hx)
            clear hx hst
            have hA1' : (0 : Int) ≤ (k : Int) := by omega
            have hB1' : (k : Int) < (ng : Int) := by omega
            go_wp2
            go_roundw
            case rel => exact ⟨k + 1, by omega, by go_num, HS.out.1, hb.grown HS.out.2 hb.size (fun q hq => by cases hq; exact (ho.lt g rfl).1)⟩
            case measure => simp [intOf]; omega
          · go_wp2
            go_ret
            rw [HR.out]
            refine ⟨hb, _, rfl, ?_⟩
            rw [putK_all (by rw [← HNG.out]; omega)] at ho
            rw [show (putN d gs).length = ng by rw [HNG.out]; simp [putN]]
            exact ho
  · have HR := hidOf (wrapN_no (note := note) (t := t) (n := n) (width := width) (fun h => hin h.2))
    have qi := fun W => wn_in n W
    rw [decide_eq_false hin] at qi
    cases note
    · go_enter Tryz.func21, Tryz.ntmps21
      go_wp2_with fail
      refine hN.mono ?_
      rintro e w1 ⟨rfl, hb1⟩
      go_wp2
      go_ret
      rw [HR.out]
      exact ⟨hb1.alloc hb1.size _, _, rfl, ownsRow_base (World.ownsRow_made w1 #[] 0 (Nat.le_refl _) (by decide) rfl) hb1.size⟩
    · go_enter Tryz.func21, Tryz.ntmps21
      go_wp2_with fail
      refine hN.mono ?_
      rintro e w1 ⟨rfl, hb1⟩
      go_wp2_with fail
      refine (qi _).mono ?_
      rintro e w1' ⟨rfl, rfl⟩
      go_wp2
      go_ret
      rw [HR.out]
      exact ⟨hb1.alloc hb1.size _, _, rfl, ownsRow_base (World.ownsRow_made w1' #[] 0 (Nat.le_refl _) (by decide) rfl) hb1.size⟩
end Go.Proofs.YtabbfpkhlofccaaGreatDoor
/- A call of a Go function as one step of a region that draws its order. -/
namespace Go.Proofs.YtabbfpkhlofccaaGreatDoor
open Go.RowKit

theorem step_call {P : Program} {w : World} {ops : Array Oper} {o : Oper} {a : Act} {K : Act → World → Prop} {Q : Exit → Act → World → Prop} {E : Prop} (hgd : o.guard = none) (f : Nat) (vals : Array Value)
    (hrun : (execOp a.eval o).run P w = .ok (.enter f vals) w) (h : Calls P f vals w fun e w' => ∃ v, e = .returned v ∧ K (a.put o.dst v) w') :
    if Region.wanted o (yielded ops a.tmps) = true then Oper.wp P o a w K Q else E := by
  have hw : Region.wanted o (yielded ops a.tmps) = true := by simp [Region.wanted, hgd]
  rw [if_pos hw]
  unfold Oper.wp
  rw [hrun, Oper.upon_enter]
  refine h.mono fun e w' hh => ?_
  obtain ⟨v, he, hk⟩ := hh
  subst he
  exact hk
end Go.Proofs.YtabbfpkhlofccaaGreatDoor
