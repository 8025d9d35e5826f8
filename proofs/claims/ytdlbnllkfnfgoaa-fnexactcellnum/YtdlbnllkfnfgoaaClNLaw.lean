/- The law on CellNum: two answers alike, and nothing is written into the argument. -/
import Derived.Test.YtdlbnllkfnfgoaaCelS
import Derived.Test.YtdlbnllkfnfgoaaCelI
import Derived.Test.YtdlbnllkfnfgoaaToCl
import Derived.Test.YtdlbnllkfnfgoaaEqCl
namespace Go.Proofs.Ytdlbnllkfnfgoaa
open Go.RowKit

theorem clVals_row : ∀ (xs : List Cel), clVals xs = rowVals celCells xs
  | [] => rfl
  | x :: xs => by
    rw [show clVals (x :: xs) = celCells x ++ clVals xs from rfl, clVals_row xs]
    rfl
theorem ClsAt.row {w : World} {a : Option Addr} {c : Nat} {xs : List Cel} (h : ClsAt w (.slice a xs.length c) xs) : RowsAt 2 celCells w a xs := by
  obtain ⟨a', c', e, h⟩ := h
  injection e with e1 _ _
  subst e1
  exact h

set_option maxHeartbeats 4000000 in
theorem lawCellNum (v : Value) (xs : List Cel) (s : ByteArray) (w : World) (hn : xs.length ≤ 9223372036854775807) (hok : ClsOk xs) (hT : ClsAt w v xs) (hs : s.size ≤ maxLen) :
    Calls Try.prog 3 #[v, .string s] w fun e w' => e = .returned (.bool true) ∧ Below w.heap.size w w' := by
  unfold maxLen at hs
  have HT := hidOf hT
  clear hT
  by_cases h0 : 1048576 < s.size
  · go_enter Try.func3, Try.ntmps3
    go_wp2
    go_ret
    exact ⟨rfl, Below.refl _ _⟩
  go_enter Try.func3, Try.ntmps3
  go_wp2_with fail
  refine (szCells_any v xs _ _ hn hok (by omega) (by omega) HT.out).mono ?_
  rintro e w1 ⟨r, rfl, hr, hb1⟩
  rcases hr with rfl | ⟨hr0, hr1, hr2⟩
  · go_wp2
    go_ret
    exact ⟨rfl, hb1⟩
  · have hs1 := hb1.size
    obtain ⟨N, hN⟩ : ∃ N, N = (cNum s xs).getD 0 := ⟨_, rfl⟩
    obtain ⟨T, hTT⟩ : ∃ T, T = (cNum s xs).isSome := ⟨_, rfl⟩
    have HN := hidOf (And.intro hN hTT)
    clear hN hTT
    go_wp2_with fail
    refine (toCells_any v xs _ hr2 (HT.out.below hb1)).mono ?_
    rintro e w2 ⟨hb2, v2, rfl, ho2⟩
    have hs2 := hb2.size
    have hB2 := hb1.trans (hb2.mono hs1)
    obtain ⟨a2, c2, rfl⟩ := owns_slice ho2
    go_wp2_with fail
    refine (sCellNum a2 c2 xs s _ hr2 (ClsAt.row (ClsAt.of_own ho2))).mono ?_
    rw [← HN.out.1, ← HN.out.2]
    rintro e w3 ⟨rfl, rfl⟩
    go_wp2_with fail
    refine (toCells_any v xs _ hr2 (HT.out.below hB2)).mono ?_
    rintro e w4 ⟨hb4, v4, rfl, ho4⟩
    have hs4 := hb4.size
    have hB4 := hB2.trans (hb4.mono (by omega))
    obtain ⟨a4, c4, rfl⟩ := owns_slice ho4
    go_wp2_with fail
    refine (iCellNum a4 c4 xs s _ hr2 (ClsAt.row (ClsAt.of_own ho4))).mono ?_
    rw [← HN.out.1, ← HN.out.2]
    rintro e w5 ⟨rfl, hb5⟩
    have hs5 := hb5.size
    have hB5 := hB4.trans (hb5.mono (by omega))
    have hq : (N != N) = false := by simp
    have hq2 : (T != T) = false := by simp
    go_wp2_with fail
    refine (toCells_any v xs _ hr2 (HT.out.below hB5)).mono ?_
    rintro e w6 ⟨hb6, v6, rfl, ho6⟩
    have hs6 := hb6.size
    have hB6 := hB5.trans (hb6.mono (by omega))
    go_wp2_with fail
    refine (eqCells_same _ v6 xs _ (by omega) (((ClsAt.of_own ho4).below hb5).below hb6) (ClsAt.of_own ho6)).mono ?_
    rintro e w7 ⟨rfl, hb7⟩
    go_wp2
    go_ret
    exact ⟨rfl, hB6.trans (hb7.mono (by omega))⟩
end Go.Proofs.Ytdlbnllkfnfgoaa
