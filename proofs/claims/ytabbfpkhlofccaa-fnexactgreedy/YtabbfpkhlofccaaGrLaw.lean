/- The law on Greedy: two answers alike, nothing is written into the argument, and what is answered owns its memory. -/
import Derived.Test.YtabbfpkhlofccaaStrs
import Derived.Test.YtabbfpkhlofccaaToS
import Derived.Test.YtabbfpkhlofccaaGrI
import Derived.Test.YtabbfpkhlofccaaGrS
namespace Go.Proofs.Ytabbfpkhlofccaa
open Go.RowKit

theorem bg_joins (ss : List ByteArray) : bg ss ss.length = (joins ss).size := by
  rw [joins_size]
  have h : ∀ k, k ≤ ss.length → bg ss k = (joinL (lists (ss.take k))).length := by
    intro k
    induction k with
    | zero => intro _; simp [bg, lists, joinL]
    | succ k ih =>
      intro hk
      obtain ⟨x, hx⟩ : ∃ x, ss[k]? = some x := ⟨_, List.getElem?_eq_getElem (by omega)⟩
      have h1 : lists (ss.take (k + 1)) = lists (ss.take k) ++ [x.data.toList] := by
        rw [List.take_add_one, hx]
        simp [lists]
      rw [bg_next hx, ih (by omega), h1, joinL_snoc, size_list]
      simp
      omega
  have := h ss.length (Nat.le_refl _)
  rw [List.take_length] at this
  exact this
theorem greedy_len (ws : List ByteArray) (width : Int) : (greedy ws width).length ≤ ws.length := by
  unfold greedy
  split
  · exact ln_len (gE_adv ws width) ws.length 0 (by omega)
  · simp

theorem ne_swap {a b : Option Nat} (h : a = none ∨ a ≠ b) : b = none ∨ b ≠ a := by
  cases b with
  | none => exact .inl rfl
  | some z => exact .inr (fun e => h.elim (fun h => by rw [h] at e; cases e) (fun h => h e.symm))

set_option maxHeartbeats 3000000 in
theorem lawGreedy (a : Option Addr) (n c : Nat) (ss : List ByteArray) (width : Int) (w : World) (hn : n ≤ maxLen) (hT : TextsAt w a n ss) :
    Calls Try.prog 3 #[.slice a n c, .int .i64 width] w fun e w' => e = .returned (.bool true) ∧ Below w.heap.size w w' := by
  unfold maxLen at hn
  have hl := hT.1
  have HL := hidOf hl
  have HT := hidOf hT
  clear hT
  obtain ⟨gs, hgs⟩ : ∃ gs, gs = greedy ss width := ⟨_, rfl⟩
  have hgl : gs.length ≤ n := by rw [hgs, ← hl]; exact greedy_len ss width
  have HG := hidOf hgs
  clear hgs hl
  go_enter Try.func3, Try.ntmps3
  go_wp2_with fail
  refine (sz_any a n c ss _ (by omega) HT.out).mono ?_
  rintro e w ⟨r, rfl, hr, rfl⟩
  by_cases h0 : r < 0
  · go_wp2
    go_ret
    exact ⟨rfl, Below.refl _ _⟩
  · have hj := hr (by omega)
    have hm := joins_many ss
    have hbj := bg_joins ss
    rw [HL.out] at hm hbj
    have hbg : bg ss n ≤ 1048576 := by omega
    have hn1 : n ≤ 1048576 := by omega
    have HB := hidOf hbg
    clear hr hj hm hbj hbg
    go_wp2_with fail
    refine (to_any a n c ss _ (by omega) HT.out).mono ?_
    rintro e w1 ⟨hb1, v1, rfl, ho1⟩
    rw [HL.out] at ho1
    have hs1 := hb1.size
    go_wp2_with fail
    refine (sGreedy_any v1 w.heap.size n ss width _ hn1 (Nat.le_trans HB.out (by decide)) ho1).mono ?_
    rw [← HG.out]
    rintro e w2 ⟨hb2, v0, rfl, ho0⟩
    have hs2 := hb2.size
    have hbw2 := hb1.trans (hb2.mono hs1)
    go_wp2_with fail
    refine (to_any a n c ss _ (by omega) (HT.out.below hbw2)).mono ?_
    rintro e w3 ⟨hb3, v3, rfl, ho3⟩
    rw [HL.out] at ho3
    have hs3 := hb3.size
    have hbw3 := hbw2.trans (hb3.mono (by omega))
    have hne03 := own_other ho0 (Nat.le_refl _) ho3
    have ho0 := owns_below ho0 hb3
    go_wp2_with fail
    refine (iGreedy_any v3 w2.heap.size n ss width _ hn1 (Nat.le_trans HB.out (by decide)) ho3).mono ?_
    rw [← HG.out]
    rintro e w4 ⟨hb4, v4, rfl, ho4⟩
    have hs4 := hb4.size
    have hbw4 := hbw3.trans (hb4.mono (by omega))
    have hne3 := own_other ho3 (Nat.le_refl _) ho4
    have hne0 := own_other ho0 (Nat.le_refl _) ho4
    have ho0 := owns_below ho0 hb4
    have ho3 := owns_below ho3 hb4
    go_wp2_with fail
    refine (eqS_same v4 v0 _ _ gs.length gs _ (by omega) ho4 ho0).mono ?_
    rintro e w5 ⟨rfl, q5, rfl⟩
    have hbw5 := bel_drewN hbw4 q5
    go_wp2_with fail
    refine (to_any a n c ss _ (by omega) (HT.out.below hbw5)).mono ?_
    rintro e w6 ⟨hb6, v6, rfl, ho6⟩
    rw [HL.out] at ho6
    have hs6 : w4.heap.size ≤ w6.heap.size := hb6.size
    have hbw6 := hbw5.trans (hb6.mono (by show w.heap.size ≤ w4.heap.size; omega))
    have ho0 := owns_below (w := w4.drewN q5) ho0 hb6
    have ho3 := owns_below (w := w4.drewN q5) ho3 hb6
    have ho4 := owns_below (w := w4.drewN q5) ho4 hb6
    go_wp2_with fail
    refine (eqS_same v3 v6 _ _ n ss _ (by omega) ho3 ho6).mono ?_
    rintro e w7 ⟨rfl, q7, rfl⟩
    have hbw7 := bel_drewN hbw6 q7
    go_wp2_with fail
    refine (markS_one v3 w2.heap.size n (strVals ss) (w6.drewN q7) (by omega) ho3).mono ?_
    rintro e w8 ⟨rfl, ho3m, hg8⟩
    have hs8 : w6.heap.size ≤ w8.heap.size := hg8.size
    have hbw8 : Below w.heap.size w w8 := hbw7.grown hg8 (by show w.heap.size ≤ w6.heap.size; omega) (fun k hk => by have := (ho3.lt k hk).1; omega)
    have ho4 := World.ownsRow.kept (w := w6.drewN q7) ho4 hg8 (ne_swap hne3)
    have ho0 := World.ownsRow.kept (w := w6.drewN q7) ho0 hg8 hne03
    clear ho3m ho3
    have hk0 : ¬ ((1 : Int) + (n : Int)) < 0 := by omega
    go_wp2_with fail
    refine (eqS_same v4 v0 _ _ gs.length gs _ (by omega) ho4 ho0).mono ?_
    rintro e w9 ⟨rfl, q9, rfl⟩
    have hbw9 := bel_drewN hbw8 q9
    go_wp2_with fail
    refine (markS_one v4 w3.heap.size gs.length (strVals gs) (w8.drewN q9) (by omega) ho4).mono ?_
    rintro e w10 ⟨rfl, ho4m, hg10⟩
    have hs10 : w8.heap.size ≤ w10.heap.size := hg10.size
    have hbw10 : Below w.heap.size w w10 := hbw9.grown hg10 (by show w.heap.size ≤ w8.heap.size; omega) (fun k hk => by have := (ho4.lt k hk).1; omega)
    have ho0 := World.ownsRow.kept (w := w8.drewN q9) ho0 hg10 hne0
    clear ho4
    go_wp2_with fail
    refine (heldS_one v4 w3.heap.size gs.length _ (by omega) ho4m).mono ?_
    rintro e w11 ⟨rfl, hb11⟩
    have hs11 := hb11.size
    have hbw11 := hbw10.trans (hb11.mono (by omega))
    have ho4 := owns_below ho4m hb11
    have ho0 := owns_below ho0 hb11
    clear ho4m
    have hq : ((1 : Int) + (gs.length : Int) != 1 + (gs.length : Int)) = false := by simp
    go_wp2_with fail
    refine (to_any a n c ss _ (by omega) (HT.out.below hbw11)).mono ?_
    rintro e w12 ⟨hb12, v12, rfl, ho12⟩
    rw [HL.out] at ho12
    have hs12 := hb12.size
    have hbw12 := hbw11.trans (hb12.mono (by omega))
    have ho4 := owns_below ho4 hb12
    have ho0 := owns_below ho0 hb12
    go_wp2_with fail
    refine (iGreedy_any v12 w11.heap.size n ss width _ hn1 (Nat.le_trans HB.out (by decide)) ho12).mono ?_
    rw [← HG.out]
    rintro e w13 ⟨hb13, v13, rfl, ho13⟩
    have hs13 := hb13.size
    have hbw13 := hbw12.trans (hb13.mono (by omega))
    have ho4 := owns_below ho4 hb13
    have ho0 := owns_below ho0 hb13
    go_wp2_with fail
    refine (eqS_same v13 v0 _ _ gs.length gs _ (by omega) ho13 ho0).mono ?_
    rintro e w14 ⟨rfl, q14, rfl⟩
    go_wp2_with fail
    refine (heldS_one v4 w3.heap.size gs.length (w13.drewN q14) (by omega) ho4).mono ?_
    rintro e w15 ⟨rfl, hb15⟩
    go_wp2
    go_ret
    exact ⟨rfl, (bel_drewN hbw13 q14).trans (hb15.mono (by show w.heap.size ≤ w13.heap.size; omega))⟩
end Go.Proofs.Ytabbfpkhlofccaa
