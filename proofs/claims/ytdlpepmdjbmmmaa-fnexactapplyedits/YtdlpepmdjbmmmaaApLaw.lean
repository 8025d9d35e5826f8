/- The law on ApplyEdits: two answers alike, nothing is written into an argument, and what is answered owns its memory. -/
import Derived.Test.YtdlpepmdjbmmmaaApS
import Derived.Test.YtdlpepmdjbmmmaaSzS
import Derived.Test.YtdlpepmdjbmmmaaStrs
import Derived.Test.YtdlpepmdjbmmmaaEqEd
import Derived.Test.YtdlpepmdjbmmmaaMarkEd
namespace Go.Proofs.Ytdlpepmdjbmmmaa
open Go.RowKit

theorem own_far {w1 w2 : World} {b1 b2 e1 e2 s1 s2 n1 n2 : Nat} {v1 v2 : Value} {xs ys : List Value} (h1 : w1.ownsRow b1 e1 s1 v1 n1 xs) (hb : w1.heap.size ≤ b2) (h2 : w2.ownsRow b2 e2 s2 v2 n2 ys) : v1.ownBlock = none ∨ v1.ownBlock ≠ v2.ownBlock := by
  cases hv : v1.ownBlock with
  | none => exact Or.inl rfl
  | some g =>
    right
    intro he
    have := (h1.lt g hv).2
    have := (h2.lt g he.symm).1
    omega
theorem ne_swapA {a b : Option Nat} (h : a = none ∨ a ≠ b) : b = none ∨ b ≠ a := by
  cases b with
  | none => exact .inl rfl
  | some z => exact .inr (fun e => h.elim (fun h => by rw [h] at e; cases e) (fun h => h e.symm))
theorem LftAt.of_own {w : World} {b n : Nat} {v : Value} {ss : List ByteArray} (h : w.ownsRow b 9 1 v n (strVals ss)) : LftAt w v ss := by
  have hl : ss.length = n := by have := h.1; simpa [strVals] using this
  rcases h.2 with ⟨rfl, h0⟩ | ⟨g, cap, cur, rfl, h2, h3, h4⟩
  · exact ⟨none, 0, by rw [hl, h0], by omega, fun h => by omega⟩
  · refine ⟨some ⟨g, 0, none⟩, cap, by rw [hl], by omega, fun hn => ⟨g, 0, rfl, (h.lt g rfl).2, fun k t ht => ?_⟩⟩
    have hk := (List.getElem?_eq_some_iff.1 ht).1
    rw [Nat.zero_add, h.cellAt k (by omega)]
    simp [strVals, ht]

set_option maxHeartbeats 4000000 in
theorem lawApply (a : Option Addr) (n c : Nat) (ss : List ByteArray) (v : Value) (xs : List Ed) (w : World) (hn : n ≤ 9223372036854775807) (hS : TextsAt w a n ss) (hxn : xs.length ≤ 9223372036854775807) (hok : EdsOk xs) (hT : EdsAt w v xs) :
    Calls Try.prog 6 #[.slice a n c, v] w fun e w' => e = .returned (.bool true) ∧ Below w.heap.size w w' := by
  have hl := hS.1
  have HL := hidOf hl
  have HS := hidOf hS
  have HT := hidOf hT
  clear hS hT hl
  go_enter Try.func6, Try.ntmps6
  go_wp2_with fail
  refine (szS_all a n c ss _ _ hn (by omega) (by omega) HS.out).mono ?_
  rintro e w ⟨r, rfl, hr, rfl⟩
  rcases hr with rfl | ⟨hr0, hr1, hr2, -⟩
  · go_wp2
    go_ret
    exact ⟨rfl, Below.refl _ _⟩
  go_wp2_with fail
  refine (szEdits_all v xs _ _ hxn hok hr0 hr1 HT.out).mono ?_
  rintro e w1 ⟨r2, rfl, hq, hb1⟩
  rcases hq with rfl | ⟨hq0, hq1, hq2, hq3⟩
  · go_wp2
    go_ret
    exact ⟨rfl, hb1⟩
  have HX : Hid (∀ (j : Nat) (x : Ed), xs[j]? = some x → x.line.size ≤ 4194304) := hidOf (fun j x h => Nat.le_trans (hq3 j x h) (by decide))
  clear hq3 hok
  have hs1 := hb1.size
  obtain ⟨o, ho⟩ : ∃ o, o = apl ss xs := ⟨_, rfl⟩
  obtain ⟨gs, hgs⟩ : ∃ gs, gs = o.getD [] := ⟨_, rfl⟩
  have hgl : gs.length ≤ 1048576 := by
    rw [hgs, ho]
    cases h : apl ss xs with
    | none => simp
    | some q => have := apl_len h; simp; omega
  obtain ⟨t, ht⟩ : ∃ t, t = o.isSome := ⟨_, rfl⟩
  have HO := hidOf ho
  have HG := hidOf hgs
  have HB := hidOf ht
  clear ho hgs ht
  have hsl : ss.length ≤ 1048576 := by rw [HL.out]; exact hr2
  have qs := fun lv v W h1 h2 => sApply_any lv v ss xs W hsl hq2 h1 h2
  have qi := fun lv v W h1 h2 => iApply_any lv v ss xs W hsl hq2 HX.out h1 h2
  unfold ApAns at qs qi
  rw [← HO.out, ← HG.out, ← HB.out] at qs qi
  go_wp2_with fail
  refine (to_any a n c ss _ (by omega) (HS.out.below hb1)).mono ?_
  rintro e w2 ⟨hb2, v2, rfl, ho2⟩
  have hs2 := hb2.size
  have hB2 := hb1.trans (hb2.mono hs1)
  go_wp2_with fail
  refine (toEdits_any v xs _ hq2 (HT.out.below hB2)).mono ?_
  rintro e w3 ⟨hb3, v3, rfl, ho3⟩
  have hs3 := hb3.size
  have hB3 := hB2.trans (hb3.mono (by omega))
  have ho2 := owns_below ho2 hb3
  go_wp2_with fail
  refine (qs v2 v3 _ (LftAt.of_own ho2) (EdsAt.of_own ho3)).mono ?_
  rintro e w4 ⟨hb4, v0, rfl, ho0⟩
  have hs4 := hb4.size
  have hB4 := hB3.trans (hb4.mono (by omega))
  clear ho2 ho3
  go_wp2_with fail
  refine (to_any a n c ss _ (by omega) (HS.out.below hB4)).mono ?_
  rintro e w5 ⟨hb5, v5, rfl, ho5⟩
  have hs5 := hb5.size
  have hB5 := hB4.trans (hb5.mono (by omega))
  have n05 := own_far ho0 (Nat.le_refl _) ho5
  have ho0 := owns_below ho0 hb5
  go_wp2_with fail
  refine (toEdits_any v xs _ hq2 (HT.out.below hB5)).mono ?_
  rintro e w6 ⟨hb6, v6, rfl, ho6⟩
  have hs6 := hb6.size
  have hB6 := hB5.trans (hb6.mono (by omega))
  have n06 := own_far ho0 (Nat.le_refl _) ho6
  have n56 := own_far ho5 (Nat.le_refl _) ho6
  have ho0 := owns_below ho0 hb6
  have ho5 := owns_below ho5 hb6
  go_wp2_with fail
  refine (qi v5 v6 _ (LftAt.of_own ho5) (EdsAt.of_own ho6)).mono ?_
  rintro e w7 ⟨hb7, v7, rfl, ho7⟩
  have hs7 := hb7.size
  have hB7 := hB6.trans (hb7.mono (by omega))
  have n07 := own_far ho0 (Nat.le_refl _) ho7
  have n57 := own_far ho5 (Nat.le_refl _) ho7
  have n67 := own_far ho6 (Nat.le_refl _) ho7
  have ho0 := owns_below ho0 hb7
  have ho5 := owns_below ho5 hb7
  have ho6 := owns_below ho6 hb7
  have htt : (t != t) = false := by simp
  go_wp2_with fail
  refine (eqS_same v7 v0 _ _ gs.length gs _ (by omega) ho7 ho0).mono ?_
  rintro e w8 ⟨rfl, q8, rfl⟩
  have ho0 := owns_below ho0 (below_drewN _ q8)
  have ho5 := owns_below ho5 (below_drewN _ q8)
  have ho6 := owns_below ho6 (below_drewN _ q8)
  have ho7 := owns_below ho7 (below_drewN _ q8)
  have hB8 := bel_drewN hB7 q8
  obtain ⟨W8, hW8⟩ : ∃ W, W = w7.drewN q8 := ⟨_, rfl⟩
  rw [← hW8] at ho0 ho5 ho6 ho7 hB8
  rw [← hW8]
  have hs8 : W8.heap.size = w7.heap.size := by rw [hW8]; rfl
  clear hW8
  go_wp2_with fail
  refine (to_any a n c ss _ (by omega) (HS.out.below hB8)).mono ?_
  rintro e w9 ⟨hb9, v9, rfl, ho9⟩
  have hs9 := hb9.size
  have hB9 := hB8.trans (hb9.mono hB8.size)
  have ho0 := owns_below ho0 hb9
  have ho5 := owns_below ho5 hb9
  have ho6 := owns_below ho6 hb9
  have ho7 := owns_below ho7 hb9
  rw [HL.out] at ho5 ho9
  go_wp2_with fail
  refine (eqS_same v5 v9 _ _ n ss _ (by omega) ho5 ho9).mono ?_
  rintro e w10 ⟨rfl, q10, rfl⟩
  have ho0 := owns_below ho0 (below_drewN _ q10)
  have ho5 := owns_below ho5 (below_drewN _ q10)
  have ho6 := owns_below ho6 (below_drewN _ q10)
  have ho7 := owns_below ho7 (below_drewN _ q10)
  have hB10 := bel_drewN hB9 q10
  obtain ⟨W10, hW10⟩ : ∃ W, W = w9.drewN q10 := ⟨_, rfl⟩
  rw [← hW10] at ho0 ho5 ho6 ho7 hB10
  rw [← hW10]
  have hs10 : W10.heap.size = w9.heap.size := by rw [hW10]; rfl
  clear hW10 ho9
  go_wp2_with fail
  refine (toEdits_any v xs _ hq2 (HT.out.below hB10)).mono ?_
  rintro e w11 ⟨hb11, v11, rfl, ho11⟩
  have hs11 := hb11.size
  have hB11 := hB10.trans (hb11.mono hB10.size)
  have ho0 := owns_below ho0 hb11
  have ho5 := owns_below ho5 hb11
  have ho6 := owns_below ho6 hb11
  have ho7 := owns_below ho7 hb11
  go_wp2_with fail
  refine (eqEdits_same v6 v11 xs _ (by omega) (EdsAt.of_own ho6) (EdsAt.of_own ho11)).mono ?_
  rintro e w12 ⟨rfl, hb12⟩
  have hs12 := hb12.size
  have hB12 := hB11.trans (hb12.mono hB11.size)
  have ho0 := owns_below ho0 hb12
  have ho5 := owns_below ho5 hb12
  have ho6 := owns_below ho6 hb12
  have ho7 := owns_below ho7 hb12
  clear ho11
  go_wp2_with fail
  refine (markS_one v5 _ n (strVals ss) _ (by omega) ho5).mono ?_
  rintro e w13 ⟨rfl, ho5m, hg13⟩
  have hs13 := hg13.size
  have hB13 : Below w.heap.size w w13 := hB12.grown hg13 hB12.size (fun k hk => by have := (ho5.lt k hk).1; omega)
  have ho0 := World.ownsRow.kept ho0 hg13 n05
  have ho6 := World.ownsRow.kept ho6 hg13 (ne_swapA n56)
  have ho7 := World.ownsRow.kept ho7 hg13 (ne_swapA n57)
  clear ho5 ho5m
  rw [show ((1 : Int) + (n : Int)) = ((1 + n : Nat) : Int) by omega]
  go_wp2_with fail
  refine (markEd_any v6 _ xs.length (1 + n) xs _ (by omega) (by omega) (by omega) ho6).mono ?_
  rintro e w14 ⟨rfl, ho6m, hg14⟩
  have hs14 := hg14.size
  have hB14 : Below w.heap.size w w14 := hB13.grown hg14 hB13.size (fun k hk => by have := (ho6.lt k hk).1; omega)
  have ho0 := World.ownsRow.kept ho0 hg14 n06
  have ho7 := World.ownsRow.kept ho7 hg14 (ne_swapA n67)
  clear ho6 ho6m
  have hk0 : ¬ (((1 + n : Nat) : Int) + 2 * (xs.length : Int)) < 0 := by omega
  go_wp2_with fail
  refine (eqS_same v7 v0 _ _ gs.length gs _ (by omega) ho7 ho0).mono ?_
  rintro e w15 ⟨rfl, q15, rfl⟩
  have ho0 := owns_below ho0 (below_drewN _ q15)
  have ho7 := owns_below ho7 (below_drewN _ q15)
  have hB15 := bel_drewN hB14 q15
  obtain ⟨W15, hW15⟩ : ∃ W, W = w14.drewN q15 := ⟨_, rfl⟩
  rw [← hW15] at ho0 ho7 hB15
  rw [← hW15]
  have hs15 : W15.heap.size = w14.heap.size := by rw [hW15]; rfl
  clear hW15
  go_wp2_with fail
  refine (markS_one v7 _ gs.length (strVals gs) _ (by omega) ho7).mono ?_
  rintro e w16 ⟨rfl, ho7m, hg16⟩
  have hs16 := hg16.size
  have hB16 : Below w.heap.size w w16 := hB15.grown hg16 hB15.size (fun k hk => by have := (ho7.lt k hk).1; omega)
  have ho0 := World.ownsRow.kept ho0 hg16 n07
  clear ho7
  go_wp2_with fail
  refine (heldS_one v7 _ gs.length _ (by omega) ho7m).mono ?_
  rintro e w17 ⟨rfl, hb17⟩
  have hs17 := hb17.size
  have hB17 := hB16.trans (hb17.mono hB16.size)
  have ho7 := owns_below ho7m hb17
  have ho0 := owns_below ho0 hb17
  clear ho7m
  have hq : ((1 : Int) + (gs.length : Int) != 1 + (gs.length : Int)) = false := by simp
  go_wp2_with fail
  refine (to_any a n c ss _ (by omega) (HS.out.below hB17)).mono ?_
  rintro e w18 ⟨hb18, v18, rfl, ho18⟩
  have hs18 := hb18.size
  have hB18 := hB17.trans (hb18.mono hB17.size)
  have ho0 := owns_below ho0 hb18
  have ho7 := owns_below ho7 hb18
  go_wp2_with fail
  refine (toEdits_any v xs _ hq2 (HT.out.below hB18)).mono ?_
  rintro e w19 ⟨hb19, v19, rfl, ho19⟩
  have hs19 := hb19.size
  have hB19 := hB18.trans (hb19.mono hB18.size)
  have ho0 := owns_below ho0 hb19
  have ho7 := owns_below ho7 hb19
  have ho18 := owns_below ho18 hb19
  go_wp2_with fail
  refine (qi v18 v19 _ (LftAt.of_own ho18) (EdsAt.of_own ho19)).mono ?_
  rintro e w20 ⟨hb20, v20, rfl, ho20⟩
  have hs20 := hb20.size
  have hB20 := hB19.trans (hb20.mono hB19.size)
  have ho0 := owns_below ho0 hb20
  have ho7 := owns_below ho7 hb20
  go_wp2_with fail
  refine (eqS_same v20 v0 _ _ gs.length gs _ (by omega) ho20 ho0).mono ?_
  rintro e w21 ⟨rfl, q21, rfl⟩
  have ho7 := owns_below ho7 (below_drewN _ q21)
  have hB21 := bel_drewN hB20 q21
  go_wp2_with fail
  refine (heldS_one v7 _ gs.length _ (by omega) ho7).mono ?_
  rintro e w22 ⟨rfl, hb22⟩
  go_wp2
  go_ret
  exact ⟨rfl, hB21.trans (hb22.mono hB21.size)⟩
end Go.Proofs.Ytdlpepmdjbmmmaa
