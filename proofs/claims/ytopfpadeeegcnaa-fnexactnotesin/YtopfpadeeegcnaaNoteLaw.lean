/- The law on NotesIn: two answers alike, the argument as it was, and what is answered owns its memory. -/
import Derived.Test.YtopfpadeeegcnaaStrs
import Derived.Test.YtopfpadeeegcnaaNoteI
import Derived.Test.YtopfpadeeegcnaaNoteS
import Derived.Test.YtopfpadeeegcnaaToSg
import Derived.Test.YtopfpadeeegcnaaEqSg
import Derived.Test.YtopfpadeeegcnaaMkSg
namespace Go.Proofs.Ytopfpadeeegcnaa
open Go.RowKit

/-- What was made later lies in another place. -/
theorem own_later {w1 w2 : World} {b1 b2 e1 e2 s1 s2 n1 n2 : Nat} {v1 v2 : Value} {xs ys : List Value} (h1 : w1.ownsRow b1 e1 s1 v1 n1 xs) (hb : w1.heap.size ≤ b2) (h2 : w2.ownsRow b2 e2 s2 v2 n2 ys) : v2.ownBlock = none ∨ v2.ownBlock ≠ v1.ownBlock := by
  cases hv : v2.ownBlock with
  | none => exact Or.inl rfl
  | some g =>
    right
    intro he
    have := (h2.lt g hv).1
    have := (h1.lt g he.symm).2
    omega
theorem own_before {w1 w2 : World} {b1 b2 e1 e2 s1 s2 n1 n2 : Nat} {v1 v2 : Value} {xs ys : List Value} (h1 : w1.ownsRow b1 e1 s1 v1 n1 xs) (hb : w1.heap.size ≤ b2) (h2 : w2.ownsRow b2 e2 s2 v2 n2 ys) : v1.ownBlock = none ∨ v1.ownBlock ≠ v2.ownBlock := by
  cases hv : v1.ownBlock with
  | none => exact Or.inl rfl
  | some g =>
    right
    intro he
    have := (h1.lt g hv).2
    have := (h2.lt g he.symm).1
    omega

theorem SgsAns.all {xs : List Sg} {e0 : Nat} {w : World} {e : Ending} {w' : World} (h : SgsAns xs e0 w e w') : ∃ a c, e = .returned (.slice a xs.length c) ∧ w'.ownsRow w.heap.size e0 4 (.slice a xs.length c) xs.length (sgVals xs) ∧ Below w.heap.size w w' := by
  obtain ⟨hb, v, rfl, ho⟩ := h
  obtain ⟨a, c, rfl⟩ := owns_slice ho
  exact ⟨a, c, rfl, ho, hb⟩

set_option maxHeartbeats 4000000 in
theorem lawNotesIn (v : Value) (xs : List Sg) (w : World) (hx0 : xs.length ≤ 9223372036854775807) (hx : SgsOk xs) (hT : SgsAt w v xs) :
    Calls Try.prog 3 #[v] w fun e w' => e = .returned (.bool true) ∧ Below w.heap.size w w' := by
  have k1 := hT
  obtain ⟨a0, c0, rfl, -⟩ := hT
  go_enter Try.func3, Try.ntmps3
  go_wp2_with fail
  refine (szSigns_all _ xs 1048576 _ hx0 hx (by omega) (by omega) k1).mono ?_
  rintro e w1 ⟨r, rfl, hr, hb1⟩
  rcases hr with rfl | ⟨hr0, hr1, hxl, hxt⟩
  · go_wp2
    go_ret
    exact ⟨rfl, hb1⟩
  · have HXT := hidOf hxt
    have hss := nts_len xs
    obtain ⟨ss, hsE⟩ : ∃ ss, ss = nts xs := ⟨_, rfl⟩
    rw [← hsE] at hss
    have HE := hidOf hsE
    clear hsE hxt
    go_wp2_with fail
    refine (toSigns_any _ xs _ hxl (k1.below hb1)).mono ?_
    intro e w2 h2
    obtain ⟨a2, c2, rfl, A2, hb2⟩ := h2.all
    have B2 := hb1.trans (hb2.mono hb1.size)
    clear h2
    go_wp2_with fail
    refine (sNotes_any _ xs _ hxl (.of_own A2)).mono ?_
    rw [← HE.out]
    rintro e w3 ⟨hb3, v0, rfl, ho0⟩
    have B3 := B2.trans (hb3.mono B2.size)
    clear A2
    go_wp2_with fail
    refine (toSigns_any _ xs _ hxl (k1.below B3)).mono ?_
    intro e w4 h4
    obtain ⟨a4, c4, rfl, A4, hb4⟩ := h4.all
    have B4 := B3.trans (hb4.mono B3.size)
    have n04 := own_before ho0 (Nat.le_refl _) A4
    have ho0 := owns_below ho0 hb4
    clear h4
    go_wp2_with fail
    refine (iNotes_any _ xs _ hxl HXT.out (.of_own A4)).mono ?_
    rw [← HE.out]
    rintro e w5 ⟨hb5, v1, rfl, ho1⟩
    have B5 := B4.trans (hb5.mono B4.size)
    have n14 := own_later A4 (Nat.le_refl _) ho1
    have n01 := own_before ho0 (Nat.le_refl _) ho1
    have ho0 := owns_below ho0 hb5
    have A4 := owns_below A4 hb5
    go_wp2_with fail
    refine (eqS_same v1 v0 _ _ ss.length ss _ (by omega) ho1 ho0).mono ?_
    rintro e w6 ⟨rfl, q6, rfl⟩
    have b6 := below_drewN w5 q6
    have B6 := bel_drewN B5 q6
    have ho0 := owns_below ho0 b6
    have ho1 := owns_below ho1 b6
    have A4 := owns_below A4 b6
    clear b6
    obtain ⟨u6, hu6⟩ : ∃ u, u = w5.drewN q6 := ⟨_, rfl⟩
    rw [← hu6] at ho0 ho1 A4 B6 ⊢
    clear hu6
    go_wp2_with fail
    refine (toSigns_any _ xs _ hxl (k1.below B6)).mono ?_
    intro e w7 h7
    obtain ⟨a7, c7, rfl, A7, hb7⟩ := h7.all
    have B7 := B6.trans (hb7.mono B6.size)
    have ho0 := owns_below ho0 hb7
    have ho1 := owns_below ho1 hb7
    have A4 := owns_below A4 hb7
    clear h7
    go_wp2_with fail
    refine (eqSigns_same _ _ xs _ (by omega) (.of_own A4) (.of_own A7)).mono ?_
    rintro e w8 ⟨rfl, hb8⟩
    have B8 := B7.trans (hb8.mono B7.size)
    have ho0 := owns_below ho0 hb8
    have ho1 := owns_below ho1 hb8
    have A4 := owns_below A4 hb8
    clear A7
    go_wp2_with fail
    refine (markSg_any _ _ xs.length 1 xs _ (by omega) (by omega) (by omega) A4).mono ?_
    rintro e w9 ⟨rfl, -, hg9⟩
    have B9 : Below w.heap.size w w9 := B8.grown hg9 B8.size (fun k hk => by have := (A4.lt k hk).1; have := B3.size; omega)
    have ho0 := World.ownsRow.kept ho0 hg9 n04
    have ho1 := World.ownsRow.kept ho1 hg9 n14
    clear A4
    go_wp2_with fail
    refine (eqS_same v1 v0 _ _ ss.length ss _ (by omega) ho1 ho0).mono ?_
    rintro e w10 ⟨rfl, q10, rfl⟩
    have b10 := below_drewN w9 q10
    have B10 := bel_drewN B9 q10
    have ho0 := owns_below ho0 b10
    have ho1 := owns_below ho1 b10
    clear b10
    obtain ⟨u10, hu10⟩ : ∃ u, u = w9.drewN q10 := ⟨_, rfl⟩
    rw [← hu10] at ho0 ho1 B10 ⊢
    clear hu10
    go_wp2_with fail
    refine (markS_one v1 _ ss.length (strVals ss) _ (by omega) ho1).mono ?_
    rintro e w11 ⟨rfl, ho1m, hg11⟩
    have B11 : Below w.heap.size w w11 := B10.grown hg11 B10.size (fun k hk => by have := (ho1.lt k hk).1; have := B4.size; omega)
    have ho0 := World.ownsRow.kept ho0 hg11 n01
    clear ho1
    go_wp2_with fail
    refine (heldS_one v1 _ ss.length _ (by omega) ho1m).mono ?_
    rintro e w12 ⟨rfl, hb12⟩
    have B12 := B11.trans (hb12.mono B11.size)
    have ho0 := owns_below ho0 hb12
    have ho1 := owns_below ho1m hb12
    clear ho1m
    have hq : ((1 : Int) + (ss.length : Int) != 1 + (ss.length : Int)) = false := by simp
    go_wp2_with fail
    refine (toSigns_any _ xs _ hxl (k1.below B12)).mono ?_
    intro e w13 h13
    obtain ⟨a13, c13, rfl, A13, hb13⟩ := h13.all
    have B13 := B12.trans (hb13.mono B12.size)
    have ho0 := owns_below ho0 hb13
    have ho1 := owns_below ho1 hb13
    clear h13
    go_wp2_with fail
    refine (iNotes_any _ xs _ hxl HXT.out (.of_own A13)).mono ?_
    rw [← HE.out]
    rintro e w14 ⟨hb14, v2, rfl, ho2⟩
    have B14 := B13.trans (hb14.mono B13.size)
    have ho0 := owns_below ho0 hb14
    have ho1 := owns_below ho1 hb14
    go_wp2_with fail
    refine (eqS_same v2 v0 _ _ ss.length ss _ (by omega) ho2 ho0).mono ?_
    rintro e w15 ⟨rfl, q15, rfl⟩
    have b15 := below_drewN w14 q15
    have B15 := bel_drewN B14 q15
    have ho1 := owns_below ho1 b15
    go_wp2_with fail
    refine (heldS_one v1 _ ss.length _ (by omega) ho1).mono ?_
    rintro e w16 ⟨rfl, hb16⟩
    go_wp2
    go_ret
    exact ⟨rfl, B15.trans (hb16.mono B15.size)⟩
end Go.Proofs.Ytopfpadeeegcnaa
