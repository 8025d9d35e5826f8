/- The law on DiffOf: two answers alike, nothing is written into an argument, and what is answered owns its memory. -/
import Derived.Test.YtdlpepmdjbmmmaaDfS
import Derived.Test.YtdlpepmdjbmmmaaSzS
import Derived.Test.YtdlpepmdjbmmmaaStrs
import Derived.Test.YtdlpepmdjbmmmaaEqEd
import Derived.Test.YtdlpepmdjbmmmaaMarkEd
namespace Go.Proofs.Ytdlpepmdjbmmmaa
open Go.RowKit

theorem own_farD {w1 w2 : World} {b1 b2 e1 e2 s1 s2 n1 n2 : Nat} {v1 v2 : Value} {xs ys : List Value} (h1 : w1.ownsRow b1 e1 s1 v1 n1 xs) (hb : w1.heap.size ≤ b2) (h2 : w2.ownsRow b2 e2 s2 v2 n2 ys) : v1.ownBlock = none ∨ v1.ownBlock ≠ v2.ownBlock := by
  cases hv : v1.ownBlock with
  | none => exact Or.inl rfl
  | some g =>
    right
    intro he
    have := (h1.lt g hv).2
    have := (h2.lt g he.symm).1
    omega
theorem ne_swapD {a b : Option Nat} (h : a = none ∨ a ≠ b) : b = none ∨ b ≠ a := by
  cases b with
  | none => exact .inl rfl
  | some z => exact .inr (fun e => h.elim (fun h => by rw [h] at e; cases e) (fun h => h e.symm))
theorem markD_one (v : Value) (b n : Nat) (xs : List Ed) (w : World) (hn : n ≤ 4194304) (hown : w.ownsRow b 55 2 v n (edVals xs)) :
    Calls Try.prog 31 #[v, .int .i64 1] w fun e w' => e = .returned (.int .i64 (1 + 2 * (n : Int))) ∧ w'.ownsRow b 55 2 v n (edVals (marksEd 1 n)) ∧ w.grownBy w' v.ownBlock :=
  markEd_any v b n 1 xs w hn (by omega) (by omega) hown
theorem heldD_one (v : Value) (b n : Nat) (w : World) (hn : n ≤ 4194304) (hown : w.ownsRow b 55 2 v n (edVals (marksEd 1 n))) :
    Calls Try.prog 32 #[v, .int .i64 1] w fun e w' => e = .returned (.int .i64 (1 + 2 * (n : Int))) ∧ Below w.heap.size w w' :=
  heldEd_any v n 1 w hn (by omega) (by omega) (EdsAt.of_own hown)

set_option maxHeartbeats 4000000 in
theorem lawDiff (a : Option Addr) (n c : Nat) (ss : List ByteArray) (b : Option Addr) (m d : Nat) (ts : List ByteArray) (w : World) (hn : n ≤ 9223372036854775807) (hS : TextsAt w a n ss) (hm : m ≤ 9223372036854775807) (hT : TextsAt w b m ts) :
    Calls Try.prog 5 #[.slice a n c, .slice b m d] w fun e w' => e = .returned (.bool true) ∧ Below w.heap.size w w' := by
  have HL := hidOf hS.1
  have HM := hidOf hT.1
  have HS := hidOf hS
  have HT := hidOf hT
  clear hS hT
  go_enter Try.func5, Try.ntmps5
  go_wp2_with fail
  refine (szS_all a n c ss _ _ hn (by omega) (by omega) HS.out).mono ?_
  rintro e w ⟨r, rfl, hr, rfl⟩
  rcases hr with rfl | ⟨hr0, hr1, hr2, hr3⟩
  · go_wp2
    go_ret
    exact ⟨rfl, Below.refl _ _⟩
  have HX3 := hidOf hr3
  clear hr3
  go_wp2_with fail
  refine (szS_all b m d ts _ _ hm hr0 hr1 HT.out).mono ?_
  rintro e w ⟨r2, rfl, hq, rfl⟩
  rcases hq with rfl | ⟨hq0, hq1, hq2, hq3⟩
  · go_wp2
    go_ret
    exact ⟨rfl, Below.refl _ _⟩
  have hs1 : ss.length ≤ 1048576 := by rw [HL.out]; exact hr2
  have hs2 : ts.length ≤ 1048576 := by rw [HM.out]; exact hq2
  have hz1 : ∀ t ∈ ss, t.size ≤ 4194304 := fun t ht => by obtain ⟨j, hj⟩ := List.mem_iff_getElem?.1 ht; exact Nat.le_trans (HX3.out j t hj) (by decide)
  have hz2 : ∀ t ∈ ts, t.size ≤ 4194304 := fun t ht => by obtain ⟨j, hj⟩ := List.mem_iff_getElem?.1 ht; exact Nat.le_trans (hq3 j t hj) (by decide)
  have qi := fun va vb W h1 h2 => iDiff_any va vb ss ts W hs1 hs2 hz1 hz2 h1 h2
  have qs := fun va vb W h1 h2 => sDiff_any va vb ss ts W hs1 hs2 h1 h2
  have hgl := dfOf_len ss ts
  obtain ⟨gs, hgs⟩ : ∃ gs, gs = dfOf ss ts := ⟨_, rfl⟩
  rw [← hgs] at qi qs hgl
  clear hgs hz1 hz2 hq3 HX3
  go_wp2_with fail
  refine (to_any a n c ss _ (by omega) HS.out).mono ?_
  rintro e w2 ⟨hb2, v2, rfl, ho2⟩
  go_wp2_with fail
  refine (to_any b m d ts _ (by omega) (HT.out.below hb2)).mono ?_
  rintro e w3 ⟨hb3, v3, rfl, ho3⟩
  have hB3 := hb2.trans (hb3.mono hb2.size)
  have ho2 := owns_below ho2 hb3
  go_wp2_with fail
  refine (qs v2 v3 _ (LnsAt.of_own ho2) (LnsAt.of_own ho3)).mono ?_
  rintro e w4 ⟨hb4, v0, rfl, ho0⟩
  have hB4 := hB3.trans (hb4.mono hB3.size)
  have hz4 := hB4.size
  clear ho2 ho3
  go_wp2_with fail
  refine (to_any a n c ss _ (by omega) (HS.out.below hB4)).mono ?_
  rintro e w5 ⟨hb5, v5, rfl, ho5⟩
  have hB5 := hB4.trans (hb5.mono hB4.size)
  have hz5 := hb5.size
  have n05 := own_farD ho0 (Nat.le_refl _) ho5
  have ho0 := owns_below ho0 hb5
  go_wp2_with fail
  refine (to_any b m d ts _ (by omega) (HT.out.below hB5)).mono ?_
  rintro e w6 ⟨hb6, v6, rfl, ho6⟩
  have hB6 := hB5.trans (hb6.mono hB5.size)
  have hz6 := hb6.size
  have n06 := own_farD ho0 (Nat.le_refl _) ho6
  have n56 := own_farD ho5 (Nat.le_refl _) ho6
  have ho0 := owns_below ho0 hb6
  have ho5 := owns_below ho5 hb6
  go_wp2_with fail
  refine (qi v5 v6 _ (LnsAt.of_own ho5) (LnsAt.of_own ho6)).mono ?_
  rintro e w7 ⟨hb7, v7, rfl, ho7⟩
  have hB7 := hB6.trans (hb7.mono hB6.size)
  have hz7 := hb7.size
  have n07 := own_farD ho0 (Nat.le_refl _) ho7
  have n57 := own_farD ho5 (Nat.le_refl _) ho7
  have n67 := own_farD ho6 (Nat.le_refl _) ho7
  have ho0 := owns_below ho0 hb7
  have ho5 := owns_below ho5 hb7
  have ho6 := owns_below ho6 hb7
  go_wp2_with fail
  refine (eqEdits_same v7 v0 gs _ (by omega) (EdsAt.of_own ho7) (EdsAt.of_own ho0)).mono ?_
  rintro e w8 ⟨rfl, hb8⟩
  have hB8 := hB7.trans (hb8.mono hB7.size)
  have hz8 := hb8.size
  have ho0 := owns_below ho0 hb8
  have ho5 := owns_below ho5 hb8
  have ho6 := owns_below ho6 hb8
  have ho7 := owns_below ho7 hb8
  go_wp2_with fail
  refine (to_any a n c ss _ (by omega) (HS.out.below hB8)).mono ?_
  rintro e w9 ⟨hb9, v9, rfl, ho9⟩
  have hB9 := hB8.trans (hb9.mono hB8.size)
  have hz9 := hb9.size
  have ho0 := owns_below ho0 hb9
  have ho5 := owns_below ho5 hb9
  have ho6 := owns_below ho6 hb9
  have ho7 := owns_below ho7 hb9
  go_wp2_with fail
  refine (eqS_same v5 v9 _ _ ss.length ss _ (by omega) ho5 ho9).mono ?_
  rintro e w10 ⟨rfl, q10, rfl⟩
  have ho0 := owns_below ho0 (below_drewN _ q10)
  have ho5 := owns_below ho5 (below_drewN _ q10)
  have ho6 := owns_below ho6 (below_drewN _ q10)
  have ho7 := owns_below ho7 (below_drewN _ q10)
  have hB10 := bel_drewN hB9 q10
  obtain ⟨W10, hW10⟩ : ∃ W, W = w9.drewN q10 := ⟨_, rfl⟩
  rw [← hW10] at ho0 ho5 ho6 ho7 hB10
  rw [← hW10]
  have hz10 : W10.heap.size = w9.heap.size := by rw [hW10]; rfl
  clear hW10 ho9
  go_wp2_with fail
  refine (to_any b m d ts _ (by omega) (HT.out.below hB10)).mono ?_
  rintro e w11 ⟨hb11, v11, rfl, ho11⟩
  have hB11 := hB10.trans (hb11.mono hB10.size)
  have hz11 := hb11.size
  have ho0 := owns_below ho0 hb11
  have ho5 := owns_below ho5 hb11
  have ho6 := owns_below ho6 hb11
  have ho7 := owns_below ho7 hb11
  go_wp2_with fail
  refine (eqS_same v6 v11 _ _ ts.length ts _ (by omega) ho6 ho11).mono ?_
  rintro e w12 ⟨rfl, q12, rfl⟩
  have ho0 := owns_below ho0 (below_drewN _ q12)
  have ho5 := owns_below ho5 (below_drewN _ q12)
  have ho6 := owns_below ho6 (below_drewN _ q12)
  have ho7 := owns_below ho7 (below_drewN _ q12)
  have hB12 := bel_drewN hB11 q12
  obtain ⟨W12, hW12⟩ : ∃ W, W = w11.drewN q12 := ⟨_, rfl⟩
  rw [← hW12] at ho0 ho5 ho6 ho7 hB12
  rw [← hW12]
  have hz12 : W12.heap.size = w11.heap.size := by rw [hW12]; rfl
  clear hW12 ho11
  go_wp2_with fail
  refine (markS_one v5 _ ss.length (strVals ss) _ (by omega) ho5).mono ?_
  rintro e w13 ⟨rfl, ho5m, hg13⟩
  have hz13 := hg13.size
  have hB13 : Below w.heap.size w w13 := hB12.grown hg13 hB12.size (fun k hk => by have := (ho5.lt k hk).1; omega)
  have ho0 := World.ownsRow.kept ho0 hg13 n05
  have ho6 := World.ownsRow.kept ho6 hg13 (ne_swapD n56)
  have ho7 := World.ownsRow.kept ho7 hg13 (ne_swapD n57)
  clear ho5 ho5m
  rw [show ((1 : Int) + (ss.length : Int)) = ((1 + ss.length : Nat) : Int) by omega]
  go_wp2_with fail
  refine (markS_any v6 _ ts.length (1 + ss.length) (strVals ts) _ (by omega) (by omega) (by omega) ho6).mono ?_
  rintro e w14 ⟨rfl, ho6m, hg14⟩
  have hz14 := hg14.size
  have hB14 : Below w.heap.size w w14 := hB13.grown hg14 hB13.size (fun k hk => by have := (ho6.lt k hk).1; omega)
  have ho0 := World.ownsRow.kept ho0 hg14 n06
  have ho7 := World.ownsRow.kept ho7 hg14 (ne_swapD n67)
  clear ho6 ho6m
  have hk0 : ¬ (((1 + ss.length : Nat) : Int) + (ts.length : Int)) < 0 := by omega
  go_wp2_with fail
  refine (eqEdits_same v7 v0 gs _ (by omega) (EdsAt.of_own ho7) (EdsAt.of_own ho0)).mono ?_
  rintro e w15 ⟨rfl, hb15⟩
  have hB15 := hB14.trans (hb15.mono hB14.size)
  have hz15 := hb15.size
  have ho0 := owns_below ho0 hb15
  have ho7 := owns_below ho7 hb15
  go_wp2_with fail
  refine (markD_one v7 _ gs.length gs _ (by omega) ho7).mono ?_
  rintro e w16 ⟨rfl, ho7m, hg16⟩
  have hz16 := hg16.size
  have hB16 : Below w.heap.size w w16 := hB15.grown hg16 hB15.size (fun k hk => by have := (ho7.lt k hk).1; omega)
  have ho0 := World.ownsRow.kept ho0 hg16 n07
  clear ho7
  go_wp2_with fail
  refine (heldD_one v7 _ gs.length _ (by omega) ho7m).mono ?_
  rintro e w17 ⟨rfl, hb17⟩
  have hB17 := hB16.trans (hb17.mono hB16.size)
  have ho7 := owns_below ho7m hb17
  have ho0 := owns_below ho0 hb17
  clear ho7m
  have hq : ((1 : Int) + 2 * (gs.length : Int) != 1 + 2 * (gs.length : Int)) = false := by simp
  go_wp2_with fail
  refine (to_any a n c ss _ (by omega) (HS.out.below hB17)).mono ?_
  rintro e w18 ⟨hb18, v18, rfl, ho18⟩
  have hB18 := hB17.trans (hb18.mono hB17.size)
  have ho0 := owns_below ho0 hb18
  have ho7 := owns_below ho7 hb18
  go_wp2_with fail
  refine (to_any b m d ts _ (by omega) (HT.out.below hB18)).mono ?_
  rintro e w19 ⟨hb19, v19, rfl, ho19⟩
  have hB19 := hB18.trans (hb19.mono hB18.size)
  have ho0 := owns_below ho0 hb19
  have ho7 := owns_below ho7 hb19
  have ho18 := owns_below ho18 hb19
  go_wp2_with fail
  refine (qi v18 v19 _ (LnsAt.of_own ho18) (LnsAt.of_own ho19)).mono ?_
  rintro e w20 ⟨hb20, v20, rfl, ho20⟩
  have hB20 := hB19.trans (hb20.mono hB19.size)
  have ho0 := owns_below ho0 hb20
  have ho7 := owns_below ho7 hb20
  go_wp2_with fail
  refine (eqEdits_same v20 v0 gs _ (by omega) (EdsAt.of_own ho20) (EdsAt.of_own ho0)).mono ?_
  rintro e w21 ⟨rfl, hb21⟩
  have hB21 := hB20.trans (hb21.mono hB20.size)
  have ho7 := owns_below ho7 hb21
  go_wp2_with fail
  refine (heldD_one v7 _ gs.length _ (by omega) ho7).mono ?_
  rintro e w22 ⟨rfl, hb22⟩
  go_wp2
  go_ret
  exact ⟨rfl, hB21.trans (hb22.mono hB21.size)⟩
end Go.Proofs.Ytdlpepmdjbmmmaa
