/- How many lines two lists have in common: CommonOf on both sides. -/
import Derived.Test.YtdlpepmdjbmmmaaTbJ
namespace Go.Proofs.Ytdlpepmdjbmmmaa
open Go.RowKit

theorem LnsAt.of_own {w : World} {b n : Nat} {v : Value} {ss : List ByteArray} (h : w.ownsRow b 9 1 v n (strVals ss)) : LnsAt w v ss := by
  have hl : ss.length = n := by have := h.1; simpa [strVals] using this
  rcases h.2 with ⟨rfl, h0⟩ | ⟨g, cap, cur, rfl, h2, h3, h4⟩
  · exact ⟨none, 0, by rw [hl, h0], by omega, fun h => by omega⟩
  · refine ⟨some ⟨g, 0, none⟩, cap, by rw [hl], by omega, fun hn => ⟨g, 0, rfl, (h.lt g rfl).2, fun k t ht => ?_⟩⟩
    have hk := (List.getElem?_eq_some_iff.1 ht).1
    rw [Nat.zero_add, h.cellAt k (by omega)]
    simp [strVals, ht]
theorem LnsAt.below {w w' : World} {v : Value} {ls : List ByteArray} (h : LnsAt w v ls) (hb : Below w.heap.size w w') : LnsAt w' v ls := by
  obtain ⟨a, c, rfl, hc, h⟩ := h
  refine ⟨a, c, rfl, hc, fun hn => ?_⟩
  obtain ⟨b, off, ha, hlt, hcs⟩ := h hn
  exact ⟨b, off, ha, Nat.lt_of_lt_of_le hlt hb.size, fun k t ht => (hb.cell (p := ⟨b, off + k, none⟩) hlt).trans (hcs k t ht)⟩
/-- What CommonOf tells. -/
def comOf (xs ys : List ByteArray) : Nat := if xs.length ≤ 200 ∧ ys.length ≤ 200 then com xs ys else 0
theorem iMay_any (aa ab : Option Addr) (n m ca cb : Nat) (w : World) (hn : n ≤ 9223372036854775807) (hm : m ≤ 9223372036854775807) :
    Calls Try.prog 38 #[.slice aa n ca, .slice ab m cb] w fun e w' => e = .returned (.bool (decide (n ≤ 200 ∧ m ≤ 200))) ∧ w' = w := by
  by_cases h1 : n ≤ 200
  · by_cases h2 : m ≤ 200
    · rw [decide_eq_true ⟨h1, h2⟩]
      go_enter Try.func38, Try.ntmps38
      go_wp2
      go_ret
      exact ⟨ret_bool (decide_eq_true (by omega)), rfl⟩
    · rw [decide_eq_false (fun e => h2 e.2)]
      go_enter Try.func38, Try.ntmps38
      go_wp2
      go_ret
      exact ⟨ret_bool (decide_eq_false (by omega)), rfl⟩
  · rw [decide_eq_false (fun e => h1 e.1)]
    go_enter Try.func38, Try.ntmps38
    go_wp2
    go_ret
    exact ⟨rfl, rfl⟩
theorem sMany_any (aa ab : Option Addr) (n m ca cb : Nat) (w : World) (hn : n ≤ 9223372036854775807) (hm : m ≤ 9223372036854775807) :
    Calls Try.prog 48 #[.slice aa n ca, .slice ab m cb] w fun e w' => e = .returned (.bool (! decide (n ≤ 200 ∧ m ≤ 200))) ∧ w' = w := by
  by_cases h1 : n ≤ 200
  · by_cases h2 : m ≤ 200
    · rw [decide_eq_true ⟨h1, h2⟩]
      go_enter Try.func48, Try.ntmps48
      go_wp2
      go_ret
      exact ⟨ret_bool (by rw [decide_eq_false (by omega), decide_eq_false (by omega)]; rfl), rfl⟩
    · rw [decide_eq_false (fun e => h2 e.2)]
      go_enter Try.func48, Try.ntmps48
      go_wp2
      go_ret
      exact ⟨ret_bool (by rw [decide_eq_false (by omega), decide_eq_true (by omega)]; rfl), rfl⟩
  · rw [decide_eq_false (fun e => h1 e.1)]
    go_enter Try.func48, Try.ntmps48
    go_wp2
    go_ret
    exact ⟨rfl, rfl⟩

set_option maxHeartbeats 3000000 in
theorem iCom_any (va vb : Value) (xs ys : List ByteArray) (w : World) (hn : xs.length ≤ 1048576) (hm : ys.length ≤ 1048576) (hA : LnsAt w va xs) (hB : LnsAt w vb ys) :
    Calls Try.prog 14 #[va, vb] w fun e w' => e = .returned (.int .i64 (comOf xs ys : Int)) ∧ Below w.heap.size w w' := by
  have HA := hidOf hA
  have HB := hidOf hB
  obtain ⟨aa, ca, rfl, hca, -⟩ := hA
  obtain ⟨ab, cb, rfl, hcb, -⟩ := hB
  have q := fun W => iMay_any aa ab xs.length ys.length ca cb W (by omega) (by omega)
  by_cases h : xs.length ≤ 200 ∧ ys.length ≤ 200
  · have HC : Hid (comOf xs ys = com xs ys) := hidOf (by unfold comOf; rw [if_pos h])
    rw [decide_eq_true h] at q
    have qt := fun W h1 h2 => iTab_any (.slice aa xs.length ca) (.slice ab ys.length cb) xs ys W h.1 h.2 h1 h2
    clear h
    go_enter Try.func14, Try.ntmps14
    go_wp2_with fail
    refine (q _).mono ?_
    rintro e w1 ⟨rfl, rfl⟩
    go_wp2_with fail
    refine (qt _ HA.out HB.out).mono ?_
    rintro e w2 ⟨G, c, gs, F, rfl, T, hF⟩
    have t0 := T.topC (j := 0) (Nat.le_refl _) (Nat.zero_le _)
    have r0 := T.rowC (j := 0) (k := 0) (Nat.le_refl _) (Nat.zero_le _) (Nat.zero_le _)
    rw [hF 0 0 (Nat.zero_le _) (Nat.zero_le _), show ct xs ys 0 0 = (com xs ys : Int) from rfl] at r0
    have HT := hidOf T
    clear T hF
    go_wp2
    go_ret
    exact ⟨ret_int (by rw [HC.out]), HT.out.below⟩
  · have HC : Hid (comOf xs ys = 0) := hidOf (by unfold comOf; rw [if_neg h])
    rw [decide_eq_false h] at q
    clear h
    go_enter Try.func14, Try.ntmps14
    go_wp2_with fail
    refine (q _).mono ?_
    rintro e w1 ⟨rfl, rfl⟩
    go_wp2
    go_ret
    exact ⟨ret_int (by rw [HC.out]; rfl), Below.refl _ _⟩
set_option maxHeartbeats 3000000 in
theorem sCom_any (va vb : Value) (xs ys : List ByteArray) (w : World) (hn : xs.length ≤ 1048576) (hm : ys.length ≤ 1048576) (hA : LnsAt w va xs) (hB : LnsAt w vb ys) :
    Calls Try.prog 25 #[va, vb] w fun e w' => e = .returned (.int .i64 (comOf xs ys : Int)) ∧ Below w.heap.size w w' := by
  have HA := hidOf hA
  have HB := hidOf hB
  obtain ⟨aa, ca, rfl, hca, -⟩ := hA
  obtain ⟨ab, cb, rfl, hcb, -⟩ := hB
  have q := fun W => sMany_any aa ab xs.length ys.length ca cb W (by omega) (by omega)
  by_cases h : xs.length ≤ 200 ∧ ys.length ≤ 200
  · have HC : Hid (comOf xs ys = com xs ys) := hidOf (by unfold comOf; rw [if_pos h])
    rw [decide_eq_true h] at q
    have qt := fun W h1 h2 => sTab_any (.slice aa xs.length ca) (.slice ab ys.length cb) xs ys W h.1 h.2 h1 h2
    clear h
    go_enter Try.func25, Try.ntmps25
    go_wp2_with fail
    refine (q _).mono ?_
    rintro e w1 ⟨rfl, rfl⟩
    go_wp2_with fail
    refine (qt _ HA.out HB.out).mono ?_
    rintro e w2 ⟨G, c, gs, F, rfl, T, hF⟩
    have t0 := T.topC (j := 0) (Nat.le_refl _) (Nat.zero_le _)
    have r0 := T.rowC (j := 0) (k := 0) (Nat.le_refl _) (Nat.zero_le _) (Nat.zero_le _)
    rw [hF 0 0 (Nat.zero_le _) (Nat.zero_le _), show ct xs ys 0 0 = (com xs ys : Int) from rfl] at r0
    have HT := hidOf T
    clear T hF
    go_wp2
    go_ret
    exact ⟨ret_int (by rw [HC.out]), HT.out.below⟩
  · have HC : Hid (comOf xs ys = 0) := hidOf (by unfold comOf; rw [if_neg h])
    rw [decide_eq_false h] at q
    clear h
    go_enter Try.func25, Try.ntmps25
    go_wp2_with fail
    refine (q _).mono ?_
    rintro e w1 ⟨rfl, rfl⟩
    go_wp2
    go_ret
    exact ⟨ret_int (by rw [HC.out]; rfl), Below.refl _ _⟩
end Go.Proofs.Ytdlpepmdjbmmmaa
