/- The law on CellPut: two answers alike, nothing is written into the argument, and what is answered owns its memory. -/
import Derived.Test.YtdlbnllkfnfgoaaClNLaw
import Derived.Test.YtdlbnllkfnfgoaaMarkCl
namespace Go.Proofs.Ytdlbnllkfnfgoaa
open Go.RowKit

theorem ne_swapC {a b : Option Nat} (h : a = none ∨ a ≠ b) : b = none ∨ b ≠ a := by
  cases b with
  | none => exact .inl rfl
  | some z => exact .inr (fun e => h.elim (fun h => by rw [h] at e; cases e) (fun h => h e.symm))
theorem markCl_one (v : Value) (b n : Nat) (xs : List Cel) (w : World) (hn : n ≤ 4194304) (hown : w.ownsRow b 44 2 v n (clVals xs)) :
    Calls Try.prog 13 #[v, .int .i64 1] w fun e w' => e = .returned (.int .i64 (1 + 2 * (n : Int))) ∧ w'.ownsRow b 44 2 v n (clVals (marksCl 1 n)) ∧ w.grownBy w' v.ownBlock :=
  markCl_any v b n 1 xs w hn (by omega) (by omega) hown
theorem heldCl_one (v : Value) (b n : Nat) (w : World) (hn : n ≤ 4194304) (hown : w.ownsRow b 44 2 v n (clVals (marksCl 1 n))) :
    Calls Try.prog 14 #[v, .int .i64 1] w fun e w' => e = .returned (.int .i64 (1 + 2 * (n : Int))) ∧ Below w.heap.size w w' :=
  heldCl_any v n 1 w hn (by omega) (by omega) (ClsAt.of_own hown)

set_option maxHeartbeats 4000000 in
theorem lawCellPut (v : Value) (xs : List Cel) (s : ByteArray) (z : Int) (w : World) (hn : xs.length ≤ 9223372036854775807) (hok : ClsOk xs) (hT : ClsAt w v xs) (hs : s.size ≤ maxLen) :
    Calls Try.prog 4 #[v, .string s, .int .i64 z] w fun e w' => e = .returned (.bool true) ∧ Below w.heap.size w w' := by
  unfold maxLen at hs
  have HT := hidOf hT
  clear hT
  by_cases h0 : 1048576 < s.size
  · go_enter Try.func4, Try.ntmps4
    go_wp2
    go_ret
    exact ⟨rfl, Below.refl _ _⟩
  go_enter Try.func4, Try.ntmps4
  go_wp2_with fail
  refine (szCells_all v xs _ _ hn hok (by omega) (by omega) HT.out).mono ?_
  rintro e w1 ⟨r, rfl, hr, hb1⟩
  rcases hr with rfl | ⟨hr0, hr1, hr2, hr3⟩
  · go_wp2
    go_ret
    exact ⟨rfl, hb1⟩
  · have HX : Hid (∀ c ∈ xs, c.name.size ≤ 8388608) := hidOf (fun c hc => by
      obtain ⟨j, hj⟩ := List.mem_iff_getElem?.1 hc
      have := hr3 j c hj
      omega)
    clear hr3 hok
    obtain ⟨gs, hgs⟩ : ∃ gs, gs = cPut s z xs := ⟨_, rfl⟩
    have hgl : gs.length ≤ xs.length + 1 := by rw [hgs]; exact (put_len xs).2
    have HG := hidOf hgs
    clear hgs
    have hs1 := hb1.size
    have qS := hidOf (fun a c w h => sCellPut a c xs s z w (by omega) h)
    have qI := hidOf (fun a c w h => iCellPut a c xs s z w (by omega) (by omega) HX.out h)
    rw [← HG.out] at qS qI
    have hgn := hidOf hgl
    go_wp2_with fail
    refine (toCells_any v xs _ hr2 (HT.out.below hb1)).mono ?_
    rintro e w2 ⟨hb2, v2, rfl, ho2⟩
    have hs2 := hb2.size
    have hB2 := hb1.trans (hb2.mono hs1)
    obtain ⟨a2, c2, rfl⟩ := owns_slice ho2
    go_wp2_with fail
    refine (qS.out a2 c2 _ (ClsAt.row (ClsAt.of_own ho2))).mono ?_
    rintro e w3 ⟨hb3, a0, c0, rfl, ho0⟩
    rw [← clVals_row] at ho0
    have hs3 := hb3.size
    have hB3 := hB2.trans (hb3.mono (by omega))
    go_wp2_with fail
    refine (toCells_any v xs _ hr2 (HT.out.below hB3)).mono ?_
    rintro e w4 ⟨hb4, v3, rfl, ho3⟩
    have hs4 := hb4.size
    have hB4 := hB3.trans (hb4.mono (by omega))
    have hne03 := own_other ho0 (Nat.le_refl _) ho3
    have ho0 := owns_below ho0 hb4
    obtain ⟨a3, c3, rfl⟩ := owns_slice ho3
    go_wp2_with fail
    refine (qI.out a3 c3 _ (ClsAt.row (ClsAt.of_own ho3))).mono ?_
    rintro e w5 ⟨hb5, a4, c4, rfl, ho4⟩
    rw [← clVals_row] at ho4
    have hs5 := hb5.size
    have hB5 := hB4.trans (hb5.mono (by omega))
    have hne3 := own_other ho3 (Nat.le_refl _) ho4
    have hne0 := own_other ho0 (Nat.le_refl _) ho4
    have ho0 := owns_below ho0 hb5
    have ho3 := owns_below ho3 hb5
    go_wp2_with fail
    refine (eqCells_same _ _ gs _ (by have := hgn.out; omega) (ClsAt.of_own ho4) (ClsAt.of_own ho0)).mono ?_
    rintro e w6 ⟨rfl, hb6⟩
    have hs6 := hb6.size
    have hB6 := hB5.trans (hb6.mono (by omega))
    have ho0 := owns_below ho0 hb6
    have ho3 := owns_below ho3 hb6
    have ho4 := owns_below ho4 hb6
    go_wp2_with fail
    refine (toCells_any v xs _ hr2 (HT.out.below hB6)).mono ?_
    rintro e w7 ⟨hb7, v6, rfl, ho6⟩
    have hs7 := hb7.size
    have hB7 := hB6.trans (hb7.mono (by omega))
    have ho0 := owns_below ho0 hb7
    have ho3 := owns_below ho3 hb7
    have ho4 := owns_below ho4 hb7
    go_wp2_with fail
    refine (eqCells_same _ v6 xs _ (by omega) (ClsAt.of_own ho3) (ClsAt.of_own ho6)).mono ?_
    rintro e w8 ⟨rfl, hb8⟩
    have hs8 := hb8.size
    have hB8 := hB7.trans (hb8.mono (by omega))
    have ho0 := owns_below ho0 hb8
    have ho3 := owns_below ho3 hb8
    have ho4 := owns_below ho4 hb8
    clear ho6
    go_wp2_with fail
    refine (markCl_one _ _ xs.length xs _ (by omega) ho3).mono ?_
    rintro e w9 ⟨rfl, ho3m, hg9⟩
    have hs9 := hg9.size
    have hB9 : Below w.heap.size w w9 := hB8.grown hg9 (by omega) (fun k hk => by have := (ho3.lt k hk).1; omega)
    have ho4 := World.ownsRow.kept ho4 hg9 (ne_swapC hne3)
    have ho0 := World.ownsRow.kept ho0 hg9 hne03
    clear ho3m ho3
    have hk0 : ¬ ((1 : Int) + 2 * (xs.length : Int)) < 0 := by omega
    go_wp2_with fail
    refine (eqCells_same _ _ gs _ (by have := hgn.out; omega) (ClsAt.of_own ho4) (ClsAt.of_own ho0)).mono ?_
    rintro e w10 ⟨rfl, hb10⟩
    have hs10 := hb10.size
    have hB10 := hB9.trans (hb10.mono (by omega))
    have ho0 := owns_below ho0 hb10
    have ho4 := owns_below ho4 hb10
    go_wp2_with fail
    refine (markCl_one _ _ gs.length gs _ (by have := hgn.out; omega) ho4).mono ?_
    rintro e w11 ⟨rfl, ho4m, hg11⟩
    have hs11 := hg11.size
    have hB11 : Below w.heap.size w w11 := hB10.grown hg11 (by omega) (fun k hk => by have := (ho4.lt k hk).1; omega)
    have ho0 := World.ownsRow.kept ho0 hg11 hne0
    clear ho4
    go_wp2_with fail
    refine (heldCl_one _ _ gs.length _ (by have := hgn.out; omega) ho4m).mono ?_
    rintro e w12 ⟨rfl, hb12⟩
    have hs12 := hb12.size
    have hB12 := hB11.trans (hb12.mono (by omega))
    have ho4 := owns_below ho4m hb12
    have ho0 := owns_below ho0 hb12
    clear ho4m
    have hq : ((1 : Int) + 2 * (gs.length : Int) != 1 + 2 * (gs.length : Int)) = false := by simp
    have hq0 : ¬ ((1 : Int) + 2 * (gs.length : Int)) < 0 := by omega
    go_wp2_with fail
    refine (toCells_any v xs _ hr2 (HT.out.below hB12)).mono ?_
    rintro e w13 ⟨hb13, v12, rfl, ho12⟩
    have hs13 := hb13.size
    have hB13 := hB12.trans (hb13.mono (by omega))
    have ho4 := owns_below ho4 hb13
    have ho0 := owns_below ho0 hb13
    obtain ⟨a12, c12, rfl⟩ := owns_slice ho12
    go_wp2_with fail
    refine (qI.out a12 c12 _ (ClsAt.row (ClsAt.of_own ho12))).mono ?_
    rintro e w14 ⟨hb14, a13, c13, rfl, ho13⟩
    rw [← clVals_row] at ho13
    have hs14 := hb14.size
    have hB14 := hB13.trans (hb14.mono (by omega))
    have ho4 := owns_below ho4 hb14
    have ho0 := owns_below ho0 hb14
    go_wp2_with fail
    refine (eqCells_same _ _ gs _ (by have := hgn.out; omega) (ClsAt.of_own ho13) (ClsAt.of_own ho0)).mono ?_
    rintro e w15 ⟨rfl, hb15⟩
    have hs15 := hb15.size
    have hB15 := hB14.trans (hb15.mono (by omega))
    have ho4 := owns_below ho4 hb15
    go_wp2_with fail
    refine (heldCl_one _ _ gs.length _ (by have := hgn.out; omega) ho4).mono ?_
    rintro e w16 ⟨rfl, hb16⟩
    go_wp2
    go_ret
    exact ⟨rfl, hB15.trans (hb16.mono (by omega))⟩
end Go.Proofs.Ytdlbnllkfnfgoaa
