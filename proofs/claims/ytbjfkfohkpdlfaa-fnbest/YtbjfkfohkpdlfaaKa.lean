/- What impl.CostLess and spec.CostLess answer. -/
import Derived.Test.YtbjfkfohkpdlfaaProg
import Derived.Test.YtbjfkfohkpdlfaaIntLib
import Derived.BigQuiet
import Derived.Deep.QuietTactic
import Derived.Laws.StructEq
import Derived.Test.YtbjfkfohkpdlfaaBoxPc
namespace Go.Proofs.Ytbjfkfohkpdlfaa
open Go.RowKit

/-- A cost. -/
abbrev coV (o s : Int) : Value := .agg #[.int .i64 o, .int .i64 s]
def lessC (o1 s1 o2 s2 : Int) : Bool := decide (o1 < o2 ∨ o1 = o2 ∧ s1 < s2)
def uptoC (o1 s1 o2 s2 : Int) : Bool := decide (o1 < o2 ∨ o1 = o2 ∧ s1 ≤ s2)

theorem coGuard (o1 s1 o2 s2 : Int) (op : BinOp) (a b : Operand) (w : World) : (eqGuard op 34 a b (.agg #[.int .i64 o1, .int .i64 s1]) (.agg #[.int .i64 o2, .int .i64 s2])).run Try.prog w = .ok () w :=
  run_eqGuard_agg w op 34 a b _ _ (by kernel_rfl)
theorem coNeq (o1 s1 o2 s2 : Int) (w : World) : (binOp .neq 34 (.agg #[.int .i64 o1, .int .i64 s1]) (.agg #[.int .i64 o2, .int .i64 s2])).run Try.prog w = .ok (.bool (!decide (o1 = o2 ∧ s1 = s2))) w := by
  have u3 := Try.underlying3
  have a3 := Try.isAgg3
  have z3 := Try.sizeOf3
  have hS : Try.prog.underlying 34 = some (.struct (Try.prog.fieldsOf 34)) := by kernel_rfl
  have hp : Try.prog.stoodInHeld 34 = false := by kernel_rfl
  rw [run_neq_struct, show (10000 : Nat) = 9999 + 1 from rfl, run_equalIn_agg w 9999 34 _ _ hS hp]
  simp only [Program.fieldsOf, Try.underlying34]
  by_cases h1 : o1 = o2
  · subst h1
    by_cases h2 : s1 = s2
    · subst h2
      go_simp
    · have h2' : (s1 == s2) = false := by simpa using h2
      go_simp
  · have h1' : (o1 == o2) = false := by simpa using h1
    go_simp

set_option maxHeartbeats 4000000 in
theorem upto_any (o1 s1 o2 s2 : Int) (w : World) : Calls Try.prog 76 #[coV o1 s1, coV o2 s2] w fun e w' => e = .returned (.bool (uptoC o1 s1 o2 s2)) ∧ Below w.heap.size w w' := by
  show Calls _ _ #[.agg #[.int .i64 o1, .int .i64 s1], .agg #[.int .i64 o2, .int .i64 s2]] _ _
  have HB2 : ∀ a b : Obj, Below w.heap.size w ((w.alloc a).alloc b) := fun a b => ((Below.refl _ _).alloc (Nat.le_refl _) _).alloc (by simp) _
  by_cases h1 : o1 < o2
  · rw [show uptoC o1 s1 o2 s2 = true by unfold uptoC; rw [decide_eq_true_eq]; omega]
    go_enter Try.func76, Try.ntmps76
    go_wp2
    go_ret
    exact ⟨rfl, HB2 _ _⟩
  · by_cases h2 : o1 = o2
    · subst h2
      have h3 : (o1 == o1) = true := by simp
      by_cases h4 : s1 ≤ s2
      · rw [show uptoC o1 s1 o1 s2 = true by unfold uptoC; rw [decide_eq_true_eq]; omega]
        go_enter Try.func76, Try.ntmps76
        go_wp2
        go_ret
        exact ⟨rfl, HB2 _ _⟩
      · rw [show uptoC o1 s1 o1 s2 = false by unfold uptoC; rw [decide_eq_false_iff_not]; omega]
        go_enter Try.func76, Try.ntmps76
        go_wp2
        go_ret
        exact ⟨rfl, HB2 _ _⟩
    · have h3 : (o1 == o2) = false := by simpa using h2
      rw [show uptoC o1 s1 o2 s2 = false by unfold uptoC; rw [decide_eq_false_iff_not]; omega]
      clear h2
      go_enter Try.func76, Try.ntmps76
      go_wp2
      go_ret
      exact ⟨rfl, HB2 _ _⟩

set_option maxHeartbeats 4000000 in
theorem iLess_any (o1 s1 o2 s2 : Int) (w : World) : Calls Try.prog 37 #[coV o1 s1, coV o2 s2] w fun e w' => e = .returned (.bool (lessC o1 s1 o2 s2)) ∧ Below w.heap.size w w' := by
  show Calls _ _ #[.agg #[.int .i64 o1, .int .i64 s1], .agg #[.int .i64 o2, .int .i64 s2]] _ _
  have HB2 : ∀ a b : Obj, Below w.heap.size w ((w.alloc a).alloc b) := fun a b => ((Below.refl _ _).alloc (Nat.le_refl _) _).alloc (by simp) _
  have hG := coGuard o1 s1 o2 s2
  have hQ := coNeq o1 s1 o2 s2
  have hU := fun W => upto_any o1 s1 o2 s2 W
  by_cases h : o1 = o2 ∧ s1 = s2
  · rw [show lessC o1 s1 o2 s2 = false by unfold lessC; rw [decide_eq_false_iff_not]; omega]
    rw [show (!decide (o1 = o2 ∧ s1 = s2)) = false by rw [decide_eq_true h]; rfl] at hQ
    clear h
    go_enter Try.func37, Try.ntmps37
    go_wp2
    go_ret
    exact ⟨rfl, HB2 _ _⟩
  · rw [show lessC o1 s1 o2 s2 = uptoC o1 s1 o2 s2 by unfold lessC uptoC; rw [decide_eq_decide]; omega]
    rw [show (!decide (o1 = o2 ∧ s1 = s2)) = true by rw [decide_eq_false h]; rfl] at hQ
    clear h
    go_enter Try.func37, Try.ntmps37
    go_wp2_with fail
    refine (hU _).mono ?_
    rintro e w1 ⟨rfl, hb⟩
    have BW := (HB2 (.cells #[.int .i64 o1, .int .i64 s1] 34) (.cells #[.int .i64 o2, .int .i64 s2] 34))
    have BX := BW.trans (hb.mono BW.size)
    go_wp2
    go_ret
    exact ⟨rfl, BX⟩

set_option maxHeartbeats 4000000 in
theorem sLess_any (o1 s1 o2 s2 : Int) (w : World) : Calls Try.prog 12 #[coV o1 s1, coV o2 s2] w fun e w' => e = .returned (.bool (lessC o1 s1 o2 s2)) ∧ Below w.heap.size w w' := by
  show Calls _ _ #[.agg #[.int .i64 o1, .int .i64 s1], .agg #[.int .i64 o2, .int .i64 s2]] _ _
  have HB2 : ∀ a b : Obj, Below w.heap.size w ((w.alloc a).alloc b) := fun a b => ((Below.refl _ _).alloc (Nat.le_refl _) _).alloc (by simp) _
  by_cases h1 : o1 < o2
  · rw [show lessC o1 s1 o2 s2 = true by unfold lessC; rw [decide_eq_true_eq]; omega]
    go_enter Try.func12, Try.ntmps12
    go_wp2
    go_ret
    exact ⟨rfl, HB2 _ _⟩
  · by_cases h2 : o1 = o2
    · subst h2
      have h3 : (o1 == o1) = true := by simp
      by_cases h4 : s1 < s2
      · rw [show lessC o1 s1 o1 s2 = true by unfold lessC; rw [decide_eq_true_eq]; omega]
        go_enter Try.func12, Try.ntmps12
        go_wp2
        go_ret
        exact ⟨rfl, HB2 _ _⟩
      · rw [show lessC o1 s1 o1 s2 = false by unfold lessC; rw [decide_eq_false_iff_not]; omega]
        go_enter Try.func12, Try.ntmps12
        go_wp2
        go_ret
        exact ⟨rfl, HB2 _ _⟩
    · have h3 : (o1 == o2) = false := by simpa using h2
      rw [show lessC o1 s1 o2 s2 = false by unfold lessC; rw [decide_eq_false_iff_not]; omega]
      clear h2
      go_enter Try.func12, Try.ntmps12
      go_wp2
      go_ret
      exact ⟨rfl, HB2 _ _⟩
end Go.Proofs.Ytbjfkfohkpdlfaa
/- Pieces and costs in variables of a law, and small facts beside them. -/
namespace Go.Proofs.Ytbjfkfohkpdlfaa
open Go.RowKit

/-- A cost in a variable. -/
structure Cb (w : World) (b : Nat) (o s : Int) : Prop where
  lt : b < w.heap.size
  c0 : w.cell? ⟨b, 0, none⟩ = some (.int .i64 o)
  c1 : w.cell? ⟨b, 1, none⟩ = some (.int .i64 s)
theorem Cb.below {w w' : World} {b : Nat} {o s : Int} (h : Cb w b o s) (hb : Below w.heap.size w w') : Cb w' b o s :=
  ⟨Nat.lt_of_lt_of_le h.lt hb.size, by rw [hb.cell h.lt]; exact h.c0, by rw [hb.cell h.lt]; exact h.c1⟩
theorem cb_new (w : World) (o s : Int) (t : Nat) : ∃ W, W = w.alloc (.cells #[.int .i64 o, .int .i64 s] t) ∧ Cb W w.heap.size o s ∧ Below w.heap.size w W ∧ W.heap.size = w.heap.size + 1 := by
  refine ⟨_, rfl, ⟨by simp, ?_, ?_⟩, (Below.refl _ _).alloc (Nat.le_refl _) _, by simp⟩
  all_goals simp
/-- A piece in a variable. -/
structure Pb (w : World) (b : Nat) (p : Pc) (l : Pl) : Prop where
  box : BoxAt w b p l
  inn : PcIn w p l
theorem Pb.below {w w' : World} {b : Nat} {p : Pc} {l : Pl} (h : Pb w b p l) (hb : Below w.heap.size w w') : Pb w' b p l := ⟨h.box.below hb h.box.lt, h.inn.below hb (Nat.le_refl _)⟩
theorem capOf {w : World} {b e s n c : Nat} {a : Option Addr} {xs : List Value} (h : w.ownsRow b e s (.slice a n c) n xs) : n ≤ c := by
  rcases h.2 with ⟨e, h0⟩ | ⟨g, cap, cur, e, -, -, hc, -⟩
  · omega
  · cases e
    exact hc
theorem coEql (o s : Int) (w : World) : (binOp .eql 34 (.agg #[.int .i64 o, .int .i64 s]) (.agg #[.int .i64 o, .int .i64 s])).run Try.prog w = .ok (.bool true) w := by
  have u3 := Try.underlying3
  have a3 := Try.isAgg3
  have z3 := Try.sizeOf3
  have hS : Try.prog.underlying 34 = some (.struct (Try.prog.fieldsOf 34)) := by kernel_rfl
  have hp : Try.prog.stoodInHeld 34 = false := by kernel_rfl
  rw [run_eql_struct, show (10000 : Nat) = 9999 + 1 from rfl, run_equalIn_agg w 9999 34 _ _ hS hp]
  simp only [Program.fieldsOf, Try.underlying34]
  go_simp
end Go.Proofs.Ytbjfkfohkpdlfaa
/- What spec.Compare answers. -/
namespace Go.Proofs.Ytbjfkfohkpdlfaa
open Go.RowKit

def cmp1 (x y : Int) : Int := if x < y then -1 else if y < x then 1 else 0
/-- Which list is ahead. -/
def cmpL : List Int → List Int → Int
  | [], [] => 0
  | [], _ :: _ => -1
  | _ :: _, [] => 1
  | a :: us, b :: bs => if a < b then -1 else if b < a then 1 else cmpL us bs
theorem cmp_lt {us bs : List Int} {k : Nat} {x y : Int} (hx : us[k]? = some x) (hy : bs[k]? = some y) (h : x < y) : cmpL (us.drop k) (bs.drop k) = -1 := by
  have h1 := (List.getElem?_eq_some_iff.1 hx)
  have h2 := (List.getElem?_eq_some_iff.1 hy)
  rw [List.drop_eq_getElem_cons h1.1, List.drop_eq_getElem_cons h2.1, cmpL, h1.2, h2.2, if_pos h]
theorem cmp_gt {us bs : List Int} {k : Nat} {x y : Int} (hx : us[k]? = some x) (hy : bs[k]? = some y) (h : y < x) : cmpL (us.drop k) (bs.drop k) = 1 := by
  have h1 := (List.getElem?_eq_some_iff.1 hx)
  have h2 := (List.getElem?_eq_some_iff.1 hy)
  rw [List.drop_eq_getElem_cons h1.1, List.drop_eq_getElem_cons h2.1, cmpL, h1.2, h2.2, if_neg (by omega), if_pos h]
theorem cmp_eq {us bs : List Int} {k : Nat} {x y : Int} (hx : us[k]? = some x) (hy : bs[k]? = some y) (h1 : ¬ x < y) (h2 : ¬ y < x) : cmpL (us.drop k) (bs.drop k) = cmpL (us.drop (k + 1)) (bs.drop (k + 1)) := by
  have e1 := (List.getElem?_eq_some_iff.1 hx)
  have e2 := (List.getElem?_eq_some_iff.1 hy)
  rw [List.drop_eq_getElem_cons e1.1, List.drop_eq_getElem_cons e2.1, cmpL, e1.2, e2.2, if_neg h1, if_neg h2]
theorem cmp_end {us bs : List Int} {k : Nat} (h : us.length ≤ k) (h2 : bs.length ≤ k) : cmpL (us.drop k) (bs.drop k) = 0 := by
  rw [List.drop_of_length_le h, List.drop_of_length_le h2, cmpL]
theorem cmp_short {us bs : List Int} {k : Nat} (h : us.length ≤ k) (h2 : k < bs.length) : cmpL (us.drop k) (bs.drop k) = -1 := by
  rw [List.drop_of_length_le h, List.drop_eq_getElem_cons h2, cmpL]
theorem cmp_long {us bs : List Int} {k : Nat} (h : k < us.length) (h2 : bs.length ≤ k) : cmpL (us.drop k) (bs.drop k) = 1 := by
  rw [List.drop_of_length_le h2, List.drop_eq_getElem_cons h, cmpL]
theorem cmp_back : ∀ (us bs : List Int), cmpL bs us = - cmpL us bs
  | [], [] => rfl
  | [], _ :: _ => rfl
  | _ :: _, [] => rfl
  | a :: us, b :: bs => by
    rw [cmpL, cmpL]
    by_cases h1 : a < b
    · rw [if_neg (by omega), if_pos h1, if_pos h1]; rfl
    · by_cases h2 : b < a
      · rw [if_pos h2, if_neg h1, if_pos h2]
      · rw [if_neg h2, if_neg h1, if_neg h1, if_neg h2]; exact cmp_back us bs
theorem cmp_in (us bs : List Int) : cmpL us bs = -1 ∨ cmpL us bs = 0 ∨ cmpL us bs = 1 := by
  induction us generalizing bs with
  | nil => cases bs <;> simp [cmpL]
  | cons a us ih =>
    cases bs with
    | nil => simp [cmpL]
    | cons b bs =>
      rw [cmpL]
      split
      · exact .inl rfl
      · split
        · exact .inr (.inr rfl)
        · exact ih bs

set_option maxHeartbeats 4000000 in
theorem sCmp_any (a1 a2 : Option Addr) (c1 c2 : Nat) (us bs : List Int) (w : World) (hm0 : us.length ≤ 1048576) (hn0 : bs.length ≤ 1048576) (h1 : KidsAt w a1 us) (h2 : KidsAt w a2 bs) :
    Calls Try.prog 13 #[.slice a1 us.length c1, .slice a2 bs.length c2] w fun e w' => e = .returned (.int .i64 (cmpL us bs)) ∧ Below w.heap.size w w' := by
  unfold KidsAt at h1 h2
  obtain ⟨n, hn⟩ : ∃ n, n = us.length := ⟨_, rfl⟩
  obtain ⟨m, hm⟩ : ∃ m, m = bs.length := ⟨_, rfl⟩
  rw [← hn] at h1 hm0 ⊢
  rw [← hm] at h2 hn0 ⊢
  have HN := hidOf hn
  have HM := hidOf hm
  clear hn hm
  go_enter Try.func13, Try.ntmps13
  go_wp2
  go_loopw [5] (fun i wr => ∃ k q : Nat, k ≤ n ∧ k ≤ m ∧ i = .int .i64 k ∧ wr = w.drewN q ∧ Hid (cmpL (us.drop k) (bs.drop k) = cmpL us bs)) (fun i _ => n - (intOf i).toNat)
  case atStart => exact ⟨0, 0, Nat.zero_le _, Nat.zero_le _, rfl, rfl, hidOf rfl⟩
  case round =>
    obtain ⟨k, q, hk, hk2, rfl, rfl, HC⟩ := hrel
    have hA : (0 : Int) ≤ (k : Int) := by omega
    by_cases hlt : k < n
    · have hB : (k : Int) < (n : Int) := by omega
      by_cases hlt2 : k < m
      · have hB2 : (k : Int) < (m : Int) := by omega
        obtain ⟨x, ex⟩ : ∃ x, us[k]? = some x := ⟨_, List.getElem?_eq_getElem (by rw [← HN.out]; exact hlt)⟩
        obtain ⟨y, ey⟩ : ∃ y, bs[k]? = some y := ⟨_, List.getElem?_eq_getElem (by rw [← HM.out]; exact hlt2)⟩
        obtain ⟨b1, o1, rfl, hb1, hc1⟩ := h1 (by omega)
        obtain ⟨b2, o2, rfl, hb2, hc2⟩ := h2 (by omega)
        have p1 := hc1 k x ex
        have p2 := hc2 k y ey
        have EX := hidOf ex
        have EY := hidOf ey
        clear ex ey hc1 hc2 h1 h2
        by_cases g1 : x < y
        · have d1 : decide (x < y) = true := by simp [g1]
          have G := hidOf g1
          clear g1
          go_wp2
          go_quiet (fail)
          go_wp2
          go_ret
          exact ⟨ret_int (by rw [← HC.out, cmp_lt EX.out EY.out G.out]), bel_drewN (below_drewN _ _) _⟩
        · have d1 : decide (x < y) = false := by simp [g1]
          by_cases g2 : y < x
          · have d2 : decide (x > y) = true := by simpa using g2
            have G := hidOf g2
            clear g1 g2
            go_wp2
            go_quiet (fail)
            go_wp2
            go_quiet (fail)
            go_wp2
            go_ret
            exact ⟨ret_int (by rw [← HC.out, cmp_gt EX.out EY.out G.out]), bel_drewN (bel_drewN (below_drewN _ _) _) _⟩
          · have d2 : decide (x > y) = false := by simpa using g2
            have G1 := hidOf g1
            have G2 := hidOf g2
            clear g1 g2
            go_wp2
            go_quiet (fail)
            go_wp2
            go_quiet (fail)
            go_wp2
            go_roundw
            case rel => exact ⟨k + 1, _, by omega, by omega, by go_num, rfl, hidOf (by rw [← HC.out, cmp_eq EX.out EY.out (by have := G1.out; omega) (by have := G2.out; omega)])⟩
            case measure => simp [intOf]; omega
      · clear h1 h2
        have hlm : ¬ (n : Int) < (m : Int) := by omega
        have hlm2 : (n : Int) > (m : Int) := by omega
        go_wp2
        go_ret
        exact ⟨ret_int (by rw [← HC.out, cmp_long (by rw [← HN.out]; exact hlt) (by rw [← HM.out]; omega)]), below_drewN _ _⟩
    · clear h1 h2
      by_cases hlt2 : n < m
      · have hlm : (n : Int) < (m : Int) := by omega
        go_wp2
        go_ret
        exact ⟨ret_int (by rw [← HC.out, cmp_short (by rw [← HN.out]; omega) (by rw [← HM.out]; omega)]), below_drewN _ _⟩
      · have hlm : ¬ (n : Int) < (m : Int) := by omega
        have hlm2 : ¬ (n : Int) > (m : Int) := by omega
        go_wp2
        go_ret
        exact ⟨ret_int (by rw [← HC.out, cmp_end (by rw [← HN.out]; omega) (by rw [← HM.out]; omega)]), below_drewN _ _⟩
end Go.Proofs.Ytbjfkfohkpdlfaa
