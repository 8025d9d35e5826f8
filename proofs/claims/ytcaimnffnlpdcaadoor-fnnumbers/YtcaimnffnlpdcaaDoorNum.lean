/- The drawn number and the drawn text of the law on numbers. -/
import Derived.Test.YtcaimnffnlpdcaaDoorDrawT
namespace Go.Proofs.YtcaimnffnlpdcaaDoor
open Go.RowKit

def NumAns (base : Nat) (w : World) (blk : Nat) (a : Option Addr) (len cap : Nat) (e : Ending) (w' : World) : Prop :=
  ∃ n : Int, (-9223372036854775808 ≤ n ∧ n ≤ 9223372036854775807) ∧ e = .returned (.int .i64 n) ∧ Cur base w' blk a len cap ∧ w.grownBy w' (some blk)
theorem num_mk {base : Nat} {w w' : World} {blk : Nat} {a : Option Addr} {len cap : Nat} {n : Int} (h : -9223372036854775808 ≤ n ∧ n ≤ 9223372036854775807) (hc : Cur base w' blk a len cap) (hg : w.grownBy w' (some blk)) : NumAns base w blk a len cap (.returned (.int .i64 n)) w' := ⟨n, h, rfl, hc, hg⟩

set_option maxHeartbeats 800000 in
theorem pickInt_any (base : Nat) (w : World) (blk : Nat) (a : Option Addr) (len cap : Nat) (lb n c : Nat) (L : List Int) (hc : Cur base w blk a len cap) (hn0 : 0 < n) (hn : n ≤ 1000) (hne : lb ≠ blk) (hlt : lb < w.heap.size)
    (hcell : ∀ j, j < n → w.cell? ⟨lb, j, none⟩ = some (.int .i64 (L.getD j 0))) (hr : ∀ j, -9223372036854775808 ≤ L.getD j 0 ∧ L.getD j 0 ≤ 9223372036854775807) :
    Calls Tryd.prog 36 #[.pointer (some ⟨blk, 0, none⟩), .slice (some ⟨lb, 0, none⟩) n c] w fun e w' => NumAns base w blk a len cap e w' := by
  have HC := hidOf hc
  have HR := hidOf hr
  have HE := hidOf hcell
  clear hc hr hcell
  go_enter Tryd.func36, Tryd.ntmps36
  go_wp2_with fail
  refine (below_any base _ blk a len cap n HC.out (by omega) (by omega)).mono ?_
  rintro e w1 ⟨x, hx, rfl, hc1, hg1⟩
  have hxn : x < n := by omega
  have hcx : w1.cell? ⟨lb, x, none⟩ = some (.int .i64 (L.getD x 0)) := by
    rw [World.cell?_of_block (hg1.block lb hlt (fun e => hne (Option.some.inj e)))]
    exact HE.out x hxn
  have hA : (0 : Int) ≤ (x : Int) := by omega
  have H1 := hidOf (And.intro hc1 hg1)
  obtain ⟨z, hz⟩ : ∃ z, z = L.getD x 0 := ⟨_, rfl⟩
  have hzr := HR.out x
  rw [← hz] at hcx hzr
  clear hc1 hg1 hz
  go_wp2
  go_ret
  exact num_mk hzr H1.out.1 H1.out.2

set_option maxHeartbeats 800000 in
theorem number_any (base : Nat) (w : World) (blk : Nat) (a : Option Addr) (len cap : Nat) (hc : Cur base w blk a len cap) :
    Calls Tryd.prog 23 #[.pointer (some ⟨blk, 0, none⟩)] w fun e w' => NumAns base w blk a len cap e w' := by
  have HC := hidOf hc
  clear hc
  go_enter Tryd.func23, Tryd.ntmps23
  go_wp2_with fail
  refine (below_any base _ blk a len cap 4 HC.out (by omega) (by omega)).mono ?_
  rintro e w1 ⟨x, hx, rfl, hc1, hg1⟩
  have H1 := hidOf (And.intro hc1 hg1)
  clear hc1 hg1
  by_cases h0 : x = 0
  · have e0 : ((x : Int) == 0) = true := by simp [h0]
    clear h0
    go_wp2_with fail
    have hca := H1.out.1.kept (World.grownBy_alloc w1 (.cells #[.int .i64 (-1), .int .i64 0, .int .i64 127, .int .i64 128, .int .i64 16383, .int .i64 16384, .int .i64 1000000000, .int .i64 1000000001, .int .i64 9223372036854775807, .int .i64 (-9223372036854775808)] 3) none) (fun k hk => by cases hk)
    refine (pickInt_any base _ blk a len cap w1.heap.size 10 10 [-1, 0, 127, 128, 16383, 16384, 1000000000, 1000000001, 9223372036854775807, -9223372036854775808] hca (by omega) (by omega) (by have := H1.out.1.lt; omega) (by simp) ?_ ?_).mono ?_
    · intro j hj
      rcases (show j = 0 ∨ j = 1 ∨ j = 2 ∨ j = 3 ∨ j = 4 ∨ j = 5 ∨ j = 6 ∨ j = 7 ∨ j = 8 ∨ j = 9 by omega) with rfl | rfl | rfl | rfl | rfl | rfl | rfl | rfl | rfl | rfl <;> simp
    · intro j
      by_cases hj : j < 10
      · rcases (show j = 0 ∨ j = 1 ∨ j = 2 ∨ j = 3 ∨ j = 4 ∨ j = 5 ∨ j = 6 ∨ j = 7 ∨ j = 8 ∨ j = 9 by omega) with rfl | rfl | rfl | rfl | rfl | rfl | rfl | rfl | rfl | rfl <;> simp
      · rw [List.getD_eq_getElem?_getD, List.getElem?_eq_none (by simp; omega)]; simp
    · rintro e w2 ⟨n, hn, rfl, hc2, hg2⟩
      have H2 := hidOf (And.intro hc2 (grown_two (grown_row H1.out.2 (World.grownBy_alloc w1 _ none) (fun k hk => by cases hk)) hg2))
      clear hc2 hg2 hca
      go_wp2
      go_ret
      exact num_mk hn H2.out.1 H2.out.2
  · have e0 : ((x : Int) == 0) = false := beq_eq_false_iff_ne.2 (by omega)
    by_cases h1 : x = 1
    · have e1 : ((x : Int) == 1) = true := by simp [h1]
      clear h0 h1
      go_wp2_with fail
      refine (below_any base _ blk a len cap 1000000000 H1.out.1 (by omega) (by omega)).mono ?_
      rintro e w2 ⟨y, hy, rfl, hc2, hg2⟩
      have H2 := hidOf (And.intro hc2 (grown_two H1.out.2 hg2))
      clear hc2 hg2
      go_wp2
      go_ret
      exact num_mk ⟨by omega, by omega⟩ H2.out.1 H2.out.2
    · have e1 : ((x : Int) == 1) = false := beq_eq_false_iff_ne.2 (by omega)
      clear h0 h1
      go_wp2_with fail
      refine (below_any base _ blk a len cap 400 H1.out.1 (by omega) (by omega)).mono ?_
      rintro e w2 ⟨y, hy, rfl, hc2, hg2⟩
      have H2 := hidOf (And.intro hc2 (grown_two H1.out.2 hg2))
      clear hc2 hg2
      go_wp2
      go_ret
      exact num_mk ⟨by omega, by omega⟩ H2.out.1 H2.out.2

def DrawNumAns (base : Nat) (w : World) (e : Ending) (w' : World) : Prop := ∃ n : Int, (-9223372036854775808 ≤ n ∧ n ≤ 9223372036854775807) ∧ e = .returned (.int .i64 n) ∧ Below base w w'
theorem drawVar_any (base : Nat) (w : World) (a : Option Addr) (len cap : Nat) (hc : CodeAt base w a len) (hb : base ≤ w.heap.size) :
    Calls Tryd.prog 7 #[.slice a len cap] w fun e w' => DrawNumAns base w e w' := by
  have HC := hidOf hc
  clear hc
  go_enter Tryd.func7, Tryd.ntmps7
  go_wp2_with fail
  refine (new_any base _ a len cap HC.out hb).mono ?_
  rintro e w1 ⟨blk, rfl, hbk, hc1, hb1⟩
  have H1 := hidOf (And.intro hc1 hb1)
  clear hc1 hb1
  go_wp2_with fail
  refine (number_any base _ blk a len cap H1.out.1).mono ?_
  rintro e w2 ⟨n, hn, rfl, hc2, hg2⟩
  have H2 : Hid (Below base w w2) := (H1.out.2.mono hb).grown hg2 (by have := H1.out.2.size; omega) (fun k hk => by cases hk; omega)
  clear hc2 hg2
  go_wp2
  go_ret
  exact ⟨n, hn, rfl, H2.out⟩

def DrawTextAns (base : Nat) (w : World) (e : Ending) (w' : World) : Prop := ∃ t : ByteArray, t.size ≤ 20001 ∧ e = .returned (.string t) ∧ Below base w w'
theorem drawText_mk {base : Nat} {w w' : World} {t : ByteArray} (ht : t.size ≤ 20001) (hb : Below base w w') : DrawTextAns base w (.returned (.string t)) w' := ⟨t, ht, rfl, hb⟩
set_option maxHeartbeats 800000 in
theorem drawHex_any (base : Nat) (w : World) (a : Option Addr) (len cap : Nat) (hc : CodeAt base w a len) (hb : base ≤ w.heap.size) :
    Calls Tryd.prog 12 #[.slice a len cap] w fun e w' => DrawTextAns base w e w' := by
  have HC := hidOf hc
  clear hc
  go_enter Tryd.func12, Tryd.ntmps12
  go_wp2_with fail
  refine (new_any base _ a len cap HC.out hb).mono ?_
  rintro e w1 ⟨blk, rfl, hbk, hc1, hb1⟩
  have H1 := hidOf (And.intro hc1 hb1)
  have hs1 := hb1.size
  clear hc1 hb1
  go_wp2_with fail
  refine (once_any base _ blk a len cap 60 H1.out.1 (by omega) (by omega)).mono ?_
  rintro e w2 ⟨b, rfl, hc2, hg2⟩
  have hs2 := hg2.size
  have H2 : Hid (Cur base w2 blk a len cap ∧ Below base w w2) := ⟨hc2, (H1.out.2.mono hb).grown hg2 (by omega) (fun k hk => by cases hk; omega)⟩
  clear hc2 hg2
  cases b
  · go_wp2_with fail
    refine (below_any base _ blk a len cap 30 H2.out.1 (by omega) (by omega)).mono ?_
    rintro e w3 ⟨y, hy, rfl, hc3, hg3⟩
    have hs3 := hg3.size
    have H3 : Hid (Cur base w3 blk a len cap ∧ Below base w w3) := ⟨hc3, H2.out.2.grown hg3 (by omega) (fun k hk => by cases hk; omega)⟩
    clear hc3 hg3
    go_wp2_with fail
    refine (text_any base _ blk a len cap y H3.out.1 (by omega)).mono ?_
    rintro e w4 ⟨t, ht, rfl, hc4, hg4⟩
    have H4 : Hid (Below base w w4) := H3.out.2.grown hg4 (by omega) (fun k hk => by cases hk; omega)
    have HT := hidOf ht
    clear hc4 hg4 ht
    go_wp2
    go_ret
    exact drawText_mk (by have := HT.out; omega) H4.out
  · go_wp2_with fail
    refine (below_any base _ blk a len cap 2 H2.out.1 (by omega) (by omega)).mono ?_
    rintro e w3 ⟨y, hy, rfl, hc3, hg3⟩
    have hs3 := hg3.size
    have H3 : Hid (Cur base w3 blk a len cap ∧ Below base w w3) := ⟨hc3, H2.out.2.grown hg3 (by omega) (fun k hk => by cases hk; omega)⟩
    clear hc3 hg3
    go_wp2_with fail
    rw [show (20000 : Int) + (y : Int) = ((20000 + y : Nat) : Int) by omega]
    refine (long_any _ (20000 + y) 200 (by omega)).mono ?_
    rintro e w4 ⟨t, ht, rfl, hb4⟩
    have H4 : Hid (Below base w w4) := H3.out.2.trans (hb4.mono (by omega))
    have HT := hidOf ht
    clear hb4 ht
    go_wp2
    go_ret
    exact drawText_mk (by have := HT.out; omega) H4.out
end Go.Proofs.YtcaimnffnlpdcaaDoor
