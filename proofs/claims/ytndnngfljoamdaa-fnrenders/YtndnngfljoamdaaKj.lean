/- What impl.Compare and spec.Compare answer. -/
import Derived.Test.YtndnngfljoamdaaProg
import Derived.Test.YtndnngfljoamdaaIntLib
import Derived.BigQuiet
import Derived.Deep.QuietTactic
import Derived.Test.YtndnngfljoamdaaKf
import Derived.Test.YtndnngfljoamdaaKg
import Derived.Test.YtndnngfljoamdaaKi
import Derived.Test.YtndnngfljoamdaaRegPost
namespace Go.Proofs.Ytndnngfljoamdaa
open Go.RowKit

def cmp1 (x y : Int) : Int := if x < y then -1 else if y < x then 1 else 0
/-- Which list is ahead. -/
def cmpL : List Int → List Int → Int
  | [], [] => 0
  | [], _ :: _ => -1
  | _ :: _, [] => 1
  | a :: us, b :: bs => if a < b then -1 else if b < a then 1 else cmpL us bs
theorem cmp_lt {us bs : List Int} {k : Nat} {x y : Int} (hx : us[k]? = some x) (hy : bs[k]? = some y) (h : x < y) : cmpL (us.drop k) (bs.drop k) = -1 := by
  have h1 := (List.getElem?_eq_some_iff.1 hx)
  have h2 := (List.getElem?_eq_some_iff.1 hy)
  rw [List.drop_eq_getElem_cons h1.1, List.drop_eq_getElem_cons h2.1, cmpL, h1.2, h2.2, if_pos h]
theorem cmp_gt {us bs : List Int} {k : Nat} {x y : Int} (hx : us[k]? = some x) (hy : bs[k]? = some y) (h : y < x) : cmpL (us.drop k) (bs.drop k) = 1 := by
  have h1 := (List.getElem?_eq_some_iff.1 hx)
  have h2 := (List.getElem?_eq_some_iff.1 hy)
  rw [List.drop_eq_getElem_cons h1.1, List.drop_eq_getElem_cons h2.1, cmpL, h1.2, h2.2, if_neg (by omega), if_pos h]
theorem cmp_eq {us bs : List Int} {k : Nat} {x y : Int} (hx : us[k]? = some x) (hy : bs[k]? = some y) (h1 : ¬ x < y) (h2 : ¬ y < x) : cmpL (us.drop k) (bs.drop k) = cmpL (us.drop (k + 1)) (bs.drop (k + 1)) := by
  have e1 := (List.getElem?_eq_some_iff.1 hx)
  have e2 := (List.getElem?_eq_some_iff.1 hy)
  rw [List.drop_eq_getElem_cons e1.1, List.drop_eq_getElem_cons e2.1, cmpL, e1.2, e2.2, if_neg h1, if_neg h2]
theorem cmp_end {us bs : List Int} {k : Nat} (h : us.length ≤ k) (h2 : bs.length ≤ k) : cmpL (us.drop k) (bs.drop k) = 0 := by
  rw [List.drop_of_length_le h, List.drop_of_length_le h2, cmpL]
theorem cmp_short {us bs : List Int} {k : Nat} (h : us.length ≤ k) (h2 : k < bs.length) : cmpL (us.drop k) (bs.drop k) = -1 := by
  rw [List.drop_of_length_le h, List.drop_eq_getElem_cons h2, cmpL]
theorem cmp_long {us bs : List Int} {k : Nat} (h : k < us.length) (h2 : bs.length ≤ k) : cmpL (us.drop k) (bs.drop k) = 1 := by
  rw [List.drop_of_length_le h2, List.drop_eq_getElem_cons h, cmpL]
theorem cmp_back : ∀ (us bs : List Int), cmpL bs us = - cmpL us bs
  | [], [] => rfl
  | [], _ :: _ => rfl
  | _ :: _, [] => rfl
  | a :: us, b :: bs => by
    rw [cmpL, cmpL]
    by_cases h1 : a < b
    · rw [if_neg (by omega), if_pos h1, if_pos h1]; rfl
    · by_cases h2 : b < a
      · rw [if_pos h2, if_neg h1, if_pos h2]
      · rw [if_neg h2, if_neg h1, if_neg h1, if_neg h2]; exact cmp_back us bs
theorem cmp_in (us bs : List Int) : cmpL us bs = -1 ∨ cmpL us bs = 0 ∨ cmpL us bs = 1 := by
  induction us generalizing bs with
  | nil => cases bs <;> simp [cmpL]
  | cons a us ih =>
    cases bs with
    | nil => simp [cmpL]
    | cons b bs =>
      rw [cmpL]
      split
      · exact .inl rfl
      · split
        · exact .inr (.inr rfl)
        · exact ih bs

set_option maxHeartbeats 1600000 in
theorem cmpI_any (x y : Int) (w : World) : Calls Try.prog 124 #[.int .i64 x, .int .i64 y] w fun e w' => e = .returned (.int .i64 (cmp1 x y)) ∧ w' = w := by
  have hx : (x != x) = false := by simp
  have hy : (y != y) = false := by simp
  unfold cmp1
  by_cases h1 : x < y
  · rw [if_pos h1]
    go_enter Try.func124, Try.ntmps124
    go_wp2
    go_ret
    exact ⟨rfl, rfl⟩
  · by_cases h2 : y < x
    · rw [if_neg h1, if_pos h2]
      have h3 : x > y := h2
      go_enter Try.func124, Try.ntmps124
      go_wp2
      go_ret
      exact ⟨rfl, rfl⟩
    · rw [if_neg h1, if_neg h2]
      have h3 : ¬ x > y := h2
      go_enter Try.func124, Try.ntmps124
      go_wp2
      go_ret
      exact ⟨rfl, rfl⟩

set_option maxHeartbeats 4000000 in
theorem slCmp_any (a1 a2 : Option Addr) (c1 c2 : Nat) (us bs : List Int) (w : World) (hm0 : us.length ≤ 1048576) (hn0 : bs.length ≤ 1048576) (h1 : KidsAt w a1 us) (h2 : KidsAt w a2 bs) :
    Calls Try.prog 82 #[.slice a1 us.length c1, .slice a2 bs.length c2] w fun e w' => e = .returned (.int .i64 (cmpL us bs)) ∧ w' = w := by
  unfold KidsAt at h1 h2
  obtain ⟨n, hn⟩ : ∃ n, n = us.length := ⟨_, rfl⟩
  obtain ⟨m, hm⟩ : ∃ m, m = bs.length := ⟨_, rfl⟩
  rw [← hn] at h1 hm0 ⊢
  rw [← hm] at h2 hn0 ⊢
  have HN := hidOf hn
  have HM := hidOf hm
  clear hn hm
  go_enter Try.func82, Try.ntmps82
  go_wp2
  go_loop [11] (fun i => ∃ k : Nat, k ≤ n ∧ k ≤ m ∧ i = .int .i64 k ∧ Hid (cmpL (us.drop k) (bs.drop k) = cmpL us bs)) (fun i => n - (intOf i).toNat)
  case atStart => exact ⟨0, Nat.zero_le _, Nat.zero_le _, rfl, hidOf rfl⟩
  case round =>
    obtain ⟨k, hk, hk2, rfl, HC⟩ := hrel
    have hA : (0 : Int) ≤ (k : Int) := by omega
    by_cases hlt : k < n
    · have hB : (k : Int) < (n : Int) := by omega
      obtain ⟨x, ex⟩ : ∃ x, us[k]? = some x := ⟨_, List.getElem?_eq_getElem (by rw [← HN.out]; exact hlt)⟩
      obtain ⟨b1, o1, rfl, hb1, hc1⟩ := h1 (by omega)
      have p1 := hc1 k x ex
      by_cases hlt2 : k < m
      · have hB2 : (k : Int) < (m : Int) := by omega
        obtain ⟨y, ey⟩ : ∃ y, bs[k]? = some y := ⟨_, List.getElem?_eq_getElem (by rw [← HM.out]; exact hlt2)⟩
        obtain ⟨b2, o2, rfl, hb2, hc2⟩ := h2 (by omega)
        have p2 := hc2 k y ey
        have EX := hidOf ex
        have EY := hidOf ey
        clear ex ey hc1 hc2 h1 h2
        have hq := fun W => cmpI_any x y W
        by_cases g1 : x < y
        · rw [show cmp1 x y = -1 by unfold cmp1; rw [if_pos g1]] at hq
          have G := hidOf g1
          clear g1
          go_wp2_with (go_at_call 124; refine (hq _).mono ?_; rintro e w ⟨rfl, rfl⟩)
          go_ret
          exact ⟨ret_int (by rw [← HC.out, cmp_lt EX.out EY.out G.out]), rfl⟩
        · by_cases g2 : y < x
          · rw [show cmp1 x y = 1 by unfold cmp1; rw [if_neg g1, if_pos g2]] at hq
            have G := hidOf g2
            clear g1 g2
            go_wp2_with (go_at_call 124; refine (hq _).mono ?_; rintro e w ⟨rfl, rfl⟩)
            go_ret
            exact ⟨ret_int (by rw [← HC.out, cmp_gt EX.out EY.out G.out]), rfl⟩
          · rw [show cmp1 x y = 0 by unfold cmp1; rw [if_neg g1, if_neg g2]] at hq
            have G1 := hidOf g1
            have G2 := hidOf g2
            clear g1 g2
            go_wp2_with (go_at_call 124; refine (hq _).mono ?_; rintro e w ⟨rfl, rfl⟩)
            go_round
            case rel => exact ⟨k + 1, by omega, by omega, by go_num, hidOf (by rw [← HC.out, cmp_eq EX.out EY.out (by have := G1.out; omega) (by have := G2.out; omega)])⟩
            case measure => simp [intOf]; omega
      · have hB2 : (k : Int) ≥ (m : Int) := by omega
        clear ex hc1 h1 h2
        go_wp2
        go_ret
        exact ⟨ret_int (by rw [← HC.out, cmp_long (by rw [← HN.out]; exact hlt) (by rw [← HM.out]; omega)]), rfl⟩
    · clear h1 h2
      by_cases hlt2 : n < m
      · go_wp2
        go_ret
        exact ⟨ret_int (by rw [← HC.out, cmp_short (by rw [← HN.out]; omega) (by rw [← HM.out]; omega)]), rfl⟩
      · go_wp2
        go_ret
        exact ⟨ret_int (by rw [← HC.out, cmp_end (by rw [← HN.out]; omega) (by rw [← HM.out]; omega)]), rfl⟩

set_option maxHeartbeats 1600000 in
theorem iCmp_any (a1 a2 : Option Addr) (c1 c2 : Nat) (us bs : List Int) (w : World) (hm0 : us.length ≤ 1048576) (hn0 : bs.length ≤ 1048576) (h1 : KidsAt w a1 us) (h2 : KidsAt w a2 bs) :
    Calls Try.prog 43 #[.slice a1 us.length c1, .slice a2 bs.length c2] w fun e w' => e = .returned (.int .i64 (cmpL us bs)) ∧ w' = w := by
  go_enter Try.func43, Try.ntmps43
  go_wp2_with fail
  refine (slCmp_any a1 a2 c1 c2 us bs _ hm0 hn0 h1 h2).mono ?_
  rintro e w ⟨rfl, rfl⟩
  go_wp2
  go_ret
  exact ⟨rfl, rfl⟩

set_option maxHeartbeats 4000000 in
theorem sCmp_any (a1 a2 : Option Addr) (c1 c2 : Nat) (us bs : List Int) (w : World) (hm0 : us.length ≤ 1048576) (hn0 : bs.length ≤ 1048576) (h1 : KidsAt w a1 us) (h2 : KidsAt w a2 bs) :
    Calls Try.prog 44 #[.slice a1 us.length c1, .slice a2 bs.length c2] w fun e w' => e = .returned (.int .i64 (cmpL us bs)) ∧ Below w.heap.size w w' := by
  unfold KidsAt at h1 h2
  obtain ⟨n, hn⟩ : ∃ n, n = us.length := ⟨_, rfl⟩
  obtain ⟨m, hm⟩ : ∃ m, m = bs.length := ⟨_, rfl⟩
  rw [← hn] at h1 hm0 ⊢
  rw [← hm] at h2 hn0 ⊢
  have HN := hidOf hn
  have HM := hidOf hm
  clear hn hm
  go_enter Try.func44, Try.ntmps44
  go_wp2
  go_loopw [5] (fun i wr => ∃ k q : Nat, k ≤ n ∧ k ≤ m ∧ i = .int .i64 k ∧ wr = w.drewN q ∧ Hid (cmpL (us.drop k) (bs.drop k) = cmpL us bs)) (fun i _ => n - (intOf i).toNat)
  case atStart => exact ⟨0, 0, Nat.zero_le _, Nat.zero_le _, rfl, rfl, hidOf rfl⟩
  case round =>
    obtain ⟨k, q, hk, hk2, rfl, rfl, HC⟩ := hrel
    have hA : (0 : Int) ≤ (k : Int) := by omega
    by_cases hlt : k < n
    · have hB : (k : Int) < (n : Int) := by omega
      by_cases hlt2 : k < m
      · have hB2 : (k : Int) < (m : Int) := by omega
        obtain ⟨x, ex⟩ : ∃ x, us[k]? = some x := ⟨_, List.getElem?_eq_getElem (by rw [← HN.out]; exact hlt)⟩
        obtain ⟨y, ey⟩ : ∃ y, bs[k]? = some y := ⟨_, List.getElem?_eq_getElem (by rw [← HM.out]; exact hlt2)⟩
        obtain ⟨b1, o1, rfl, hb1, hc1⟩ := h1 (by omega)
        obtain ⟨b2, o2, rfl, hb2, hc2⟩ := h2 (by omega)
        have p1 := hc1 k x ex
        have p2 := hc2 k y ey
        have EX := hidOf ex
        have EY := hidOf ey
        clear ex ey hc1 hc2 h1 h2
        by_cases g1 : x < y
        · have d1 : decide (x < y) = true := by simp [g1]
          have G := hidOf g1
          clear g1
          go_wp2
          go_quiet (fail)
          go_wp2
          go_ret
          exact ⟨ret_int (by rw [← HC.out, cmp_lt EX.out EY.out G.out]), bel_drewN (below_drewN _ _) _⟩
        · have d1 : decide (x < y) = false := by simp [g1]
          by_cases g2 : y < x
          · have d2 : decide (x > y) = true := by simpa using g2
            have G := hidOf g2
            clear g1 g2
            go_wp2
            go_quiet (fail)
            go_wp2
            go_quiet (fail)
            go_wp2
            go_ret
            exact ⟨ret_int (by rw [← HC.out, cmp_gt EX.out EY.out G.out]), bel_drewN (bel_drewN (below_drewN _ _) _) _⟩
          · have d2 : decide (x > y) = false := by simpa using g2
            have G1 := hidOf g1
            have G2 := hidOf g2
            clear g1 g2
            go_wp2
            go_quiet (fail)
            go_wp2
            go_quiet (fail)
            go_wp2
            go_roundw
            case rel => exact ⟨k + 1, _, by omega, by omega, by go_num, rfl, hidOf (by rw [← HC.out, cmp_eq EX.out EY.out (by have := G1.out; omega) (by have := G2.out; omega)])⟩
            case measure => simp [intOf]; omega
      · clear h1 h2
        have hlm : ¬ (n : Int) < (m : Int) := by omega
        have hlm2 : (n : Int) > (m : Int) := by omega
        go_wp2
        go_ret
        exact ⟨ret_int (by rw [← HC.out, cmp_long (by rw [← HN.out]; exact hlt) (by rw [← HM.out]; omega)]), below_drewN _ _⟩
    · clear h1 h2
      by_cases hlt2 : n < m
      · have hlm : (n : Int) < (m : Int) := by omega
        go_wp2
        go_ret
        exact ⟨ret_int (by rw [← HC.out, cmp_short (by rw [← HN.out]; omega) (by rw [← HM.out]; omega)]), below_drewN _ _⟩
      · have hlm : ¬ (n : Int) < (m : Int) := by omega
        have hlm2 : ¬ (n : Int) > (m : Int) := by omega
        go_wp2
        go_ret
        exact ⟨ret_int (by rw [← HC.out, cmp_end (by rw [← HN.out]; omega) (by rw [← HM.out]; omega)]), below_drewN _ _⟩
end Go.Proofs.Ytndnngfljoamdaa
/- What the law on lines holds over many worlds, and small facts on its drawn lines. -/
namespace Go.Proofs.Ytndnngfljoamdaa
open Go.RowKit

/-- A list of texts in memory of its own. -/
def TxAt (w : World) (v : Value) (ss : List ByteArray) : Prop := ∃ b, w.ownsRow b 9 1 v ss.length (strVals ss)
theorem TxAt.below {w w' : World} {v : Value} {ss : List ByteArray} (h : TxAt w v ss) (hb : Below w.heap.size w w') : TxAt w' v ss := by
  obtain ⟨b, h⟩ := h
  exact ⟨b, owns_below h hb⟩
theorem joined_tx (v : Value) (ss : List ByteArray) (w : World) (hn : ss.length ≤ 81) (hsz : (cat ss).size ≤ 1000000) (h : TxAt w v ss) :
    Calls Try.prog 37 #[v] w fun e w' => e = .returned (.string (cat ss)) ∧ Below w.heap.size w w' := by
  obtain ⟨b, h⟩ := h
  exact (joined_any v b ss.length ss w (by omega) hsz h).mono fun e w' ⟨h1, h2⟩ => ⟨h1, by rw [h2]; exact Below.refl _ _⟩
theorem same_tx (v1 v2 : Value) (ss : List ByteArray) (w : World) (hn : ss.length ≤ 81) (h1 : TxAt w v1 ss) (h2 : TxAt w v2 ss) :
    Calls Try.prog 39 #[v1, v2] w fun e w' => e = .returned (.bool true) ∧ Below w.heap.size w w' := by
  obtain ⟨b1, h1⟩ := h1
  obtain ⟨b2, h2⟩ := h2
  exact (same_any v1 v2 b1 b2 ss.length ss w (by omega) h1 h2).mono fun e w' ⟨e1, q, e2⟩ => ⟨e1, by rw [e2]; exact below_drewN _ _⟩
/-- A cost in a variable. -/
structure Cb (w : World) (b : Nat) (o s : Int) : Prop where
  lt : b < w.heap.size
  c0 : w.cell? ⟨b, 0, none⟩ = some (.int .i64 o)
  c1 : w.cell? ⟨b, 1, none⟩ = some (.int .i64 s)
theorem Cb.below {w w' : World} {b : Nat} {o s : Int} (h : Cb w b o s) (hb : Below w.heap.size w w') : Cb w' b o s :=
  ⟨Nat.lt_of_lt_of_le h.lt hb.size, by rw [hb.cell h.lt]; exact h.c0, by rw [hb.cell h.lt]; exact h.c1⟩
theorem cb_new (w : World) (o s : Int) (t : Nat) : ∃ W, W = w.alloc (.cells #[.int .i64 o, .int .i64 s] t) ∧ Cb W w.heap.size o s ∧ Below w.heap.size w W ∧ W.heap.size = w.heap.size + 1 := by
  refine ⟨_, rfl, ⟨by simp, ?_, ?_⟩, (Below.refl _ _).alloc (Nat.le_refl _) _, by simp⟩
  all_goals simp
/-- A piece in a variable. -/
structure Pb (w : World) (b : Nat) (p : Pc) (l : Pl) : Prop where
  box : BoxAt w b p l
  inn : PcIn w p l
theorem Pb.below {w w' : World} {b : Nat} {p : Pc} {l : Pl} (h : Pb w b p l) (hb : Below w.heap.size w w') : Pb w' b p l := ⟨h.box.below hb h.box.lt, h.inn.below hb (Nat.le_refl _)⟩
/-- All that the last statement reads. -/
structure RS (w0 w : World) (pb : Nat) (p : Pc) (l : Pl) (av : Option Addr) (vs : List Int) (vl : Value) (ss : List ByteArray) (cb : Nat) (ov sm : Int) (xb : Nat) (x : Pc) (lx : Pl) (ax : Option Addr) (xs : List Int) (yb : Nat) (q : Pc) (lq : Pl) (ay : Option Addr) (ys : List Int) (ab : Nat) (o1 s1 : Int) (bb : Nat) (o2 s2 : Int) (au : Option Addr) (us : List Int) (ad : Option Addr) (bs : List Int) : Prop where
  bel : Below w0.heap.size w0 w
  P : Pb w pb p l
  V : KidsAt w av vs
  L : TxAt w vl ss
  C : Cb w cb ov sm
  X : Pb w xb x lx
  XV : KidsAt w ax xs
  Y : Pb w yb q lq
  YV : KidsAt w ay ys
  A : Cb w ab o1 s1
  B : Cb w bb o2 s2
  U : KidsAt w au us
  D : KidsAt w ad bs
theorem RS.below {w0 w w' : World} {pb : Nat} {p : Pc} {l : Pl} {av : Option Addr} {vs : List Int} {vl : Value} {ss : List ByteArray} {cb : Nat} {ov sm : Int} {xb : Nat} {x : Pc} {lx : Pl} {ax : Option Addr} {xs : List Int} {yb : Nat} {q : Pc} {lq : Pl} {ay : Option Addr} {ys : List Int} {ab : Nat} {o1 s1 : Int} {bb : Nat} {o2 s2 : Int} {au : Option Addr} {us : List Int} {ad : Option Addr} {bs : List Int}
    (h : RS w0 w pb p l av vs vl ss cb ov sm xb x lx ax xs yb q lq ay ys ab o1 s1 bb o2 s2 au us ad bs) (hb : Below w.heap.size w w') : RS w0 w' pb p l av vs vl ss cb ov sm xb x lx ax xs yb q lq ay ys ab o1 s1 bb o2 s2 au us ad bs :=
  ⟨h.bel.trans (hb.mono h.bel.size), h.P.below hb, h.V.below hb (Nat.le_refl _), h.L.below hb, h.C.below hb, h.X.below hb, h.XV.below hb (Nat.le_refl _), h.Y.below hb, h.YV.below hb (Nat.le_refl _), h.A.below hb, h.B.below hb, h.U.below hb (Nat.le_refl _), h.D.below hb (Nat.le_refl _)⟩
theorem capOf {w : World} {b e s n c : Nat} {a : Option Addr} {xs : List Value} (h : w.ownsRow b e s (.slice a n c) n xs) : n ≤ c := by
  rcases h.2 with ⟨e, h0⟩ | ⟨g, cap, cur, e, -, -, hc, -⟩
  · omega
  · cases e
    exact hc
theorem coEql (o s : Int) (w : World) : (binOp .eql 50 (.agg #[.int .i64 o, .int .i64 s]) (.agg #[.int .i64 o, .int .i64 s])).run Try.prog w = .ok (.bool true) w := by
  have u3 := Try.underlying3
  have a3 := Try.isAgg3
  have z3 := Try.sizeOf3
  have hS : Try.prog.underlying 50 = some (.struct (Try.prog.fieldsOf 50)) := by kernel_rfl
  have hp : Try.prog.stoodInHeld 50 = false := by kernel_rfl
  rw [run_eql_struct, show (10000 : Nat) = 9999 + 1 from rfl, run_equalIn_agg w 9999 50 _ _ hS hp]
  simp only [Program.fieldsOf, Try.underlying50]
  go_simp
/-- How long drawn lines are. -/
theorem cat_ren (ind : Int) (vs : List Int) : ∀ (cs : List Ch) (s : ByteArray), (∀ x ∈ cs, x.text.size ≤ 11 ∧ (blanks (ind + x.nest)).size ≤ 100) → (cat (ren ind vs s cs)).size ≤ s.size + cs.length * 112
  | [], s, _ => by rw [ren, cat, cat, app_none]; omega
  | [x], s, h => by
    have := (h x (by simp)).1
    rw [ren, cat, cat, app_none, app_size, List.length_singleton]
    omega
  | x :: y :: cs, s, h => by
    have h0 := h x (by simp)
    have h1 := cat_ren ind vs (y :: cs) (blanks (ind + x.nest)) (fun z hz => h z (by simp only [List.mem_cons] at hz ⊢; exact .inr hz))
    have h2 := cat_ren ind vs (y :: cs) (s ++ x.text ++ sp1 x) (fun z hz => h z (by simp only [List.mem_cons] at hz ⊢; exact .inr hz))
    have h3 := sp1_size x
    rw [app_size, app_size] at h2
    rw [ren, List.length_cons, Nat.succ_mul]
    split
    · rw [cat, app_size, app_size]
      omega
    · omega
theorem cat_texts : ∀ (cs : List Ch), (∀ x ∈ cs, x.text.size ≤ 11) → (cat (texts cs)).size ≤ cs.length * 11
  | [], _ => Nat.le_refl _
  | x :: cs, h => by
    have h1 := h x (by simp)
    have h2 := cat_texts cs (fun z hz => h z (by simp [hz]))
    rw [show texts (x :: cs) = x.text :: texts cs from rfl, cat, app_size, List.length_cons, Nat.succ_mul]
    omega
theorem drawn_nest {p : Pc} (h : Drawn p) {x : Ch} (hx : x ∈ p.chunks) : (blanks (p.indent + x.nest)).size ≤ 100 := by
  obtain ⟨j, hj⟩ := List.mem_iff_getElem?.1 hx
  have hjl := (List.getElem?_eq_some_iff.1 hj).1
  have hin := h.right.indent
  rw [blanks_size]
  by_cases hl : j + 1 < p.chunks.length
  · obtain ⟨-, -, h1, h2⟩ := (h.right.chunks.texts j x hj).2 hl
    omega
  · have := (h.right.chunks.last x (by rw [show p.chunks.length - 1 = j by omega]; exact hj)).2.2.2
    omega
theorem drawn_lines {p : Pc} (h : Drawn p) (vs : List Int) : (cat (linesOf p vs)).size ≤ 2000 := by
  have h1 := cat_ren p.indent vs p.chunks (blanks p.indent) (fun x hx => ⟨by obtain ⟨j, hj⟩ := List.mem_iff_getElem?.1 hx; exact h.texts j x hj, drawn_nest h hx⟩)
  have hin := h.right.indent
  have := h.c9
  rw [blanks_size] at h1
  unfold linesOf
  omega
theorem drawn_texts {p : Pc} (h : Drawn p) : (cat (texts p.chunks)).size ≤ 2000 := by
  have h1 := cat_texts p.chunks (fun x hx => by obtain ⟨j, hj⟩ := List.mem_iff_getElem?.1 hx; exact h.texts j x hj)
  have := h.c9
  omega
theorem cat_ge : ∀ {ss : List ByteArray} {k : Nat} {s : ByteArray}, ss[k]? = some s → s.size ≤ (cat ss).size
  | [], k, s, h => by simp at h
  | t :: ss, 0, s, h => by
    have e : t = s := by simpa using h
    rw [cat, app_size, e]
    omega
  | t :: ss, k + 1, s, h => by
    have := cat_ge (ss := ss) (k := k) (s := s) (by simpa using h)
    rw [cat, app_size]
    omega
theorem texts_at {cs : List Ch} {k : Nat} {x : Ch} (h : cs[k]? = some x) : (texts cs)[k]? = some x.text := by unfold texts; rw [List.getElem?_map, h]; rfl
theorem texts_len (cs : List Ch) : (texts cs).length = cs.length := by simp [texts]
end Go.Proofs.Ytndnngfljoamdaa
/- A region that draws its order and has guards, by what each of its operations leaves: whatever order is drawn. -/
namespace Go.Proofs.Ytndnngfljoamdaa
open Go.RowKit

/-- What is seen of the operations by looking: each waits for earlier ones only, each has a slot of its own. -/
def tidyG (ops : Array Oper) (size : Nat) : Bool :=
  (List.range ops.size).all fun k =>
    match ops[k]? with
    | none => true
    | some o => (o.after.all fun e => !Region.binds .any e || decide (e.on < k)) &&
      (match o.dst with
      | none => true
      | some d => decide (d < size) && (List.range ops.size).all fun j => decide (k = j) || ((ops[j]?).bind (·.dst)) != some d)
theorem tidyG_at {ops : Array Oper} {size : Nat} (h : tidyG ops size = true) {k : Nat} {o : Oper} (hk : ops[k]? = some o) :
    (∀ e ∈ o.after, Region.binds .any e = true → e.on < k) ∧ ∀ d, o.dst = some d → d < size ∧ ∀ (j : Nat) (o' : Oper), ops[j]? = some o' → o'.dst = some d → k = j := by
  have hlt : k < ops.size := (Array.getElem?_eq_some_iff.1 hk).1
  unfold tidyG at h
  rw [List.all_eq_true] at h
  have h1 := h k (List.mem_range.2 hlt)
  rw [hk] at h1
  dsimp only at h1
  rw [Bool.and_eq_true] at h1
  obtain ⟨ha, hd⟩ := h1
  refine ⟨fun e he hb => ?_, fun d hdd => ?_⟩
  · rw [Array.all_eq_true_iff_forall_mem] at ha
    have := ha e he
    rw [hb] at this
    simpa using this
  · rw [hdd] at hd
    dsimp only at hd
    rw [Bool.and_eq_true] at hd
    refine ⟨by simpa using hd.1, fun j o' hj hj' => ?_⟩
    have hjl : j < ops.size := (Array.getElem?_eq_some_iff.1 hj).1
    have h2 := List.all_eq_true.1 hd.2 j (List.mem_range.2 hjl)
    rw [hj] at h2
    simp only [Option.bind_some, hj', bne_self_eq_false, Bool.or_false, decide_eq_true_eq] at h2
    exact h2

section
variable {P : Program} {ops : Array Oper} {Q : Exit → Act → World → Prop}

/-- One more operation is behind. -/
theorem RegAt.put {a0 : Act} {Inv : World → Prop} {Post : Nat → Value → World → Prop} {L : Array Bool} {a : Act} {w w' : World} {i : Nat} {o : Oper} {v : Value} (ht : tidyG ops a0.tmps.size = true) (h : RegAt ops a0 Inv Post L a w) (ho : ops[i]? = some o) (hv : o.dst = none → v = undef) (hinv : Inv w')
    (hold : ∀ (k : Nat) (u : Value), Post k u w → Post k u w') (hpost : Post i v w') : RegAt ops a0 Inv Post (L.setIfInBounds i true) (a.put o.dst v) w' := by
  obtain ⟨hb, hd⟩ := tidyG_at ht ho
  refine ⟨by simpa using h.size, hinv, ?_, ?_, ?_, ?_⟩
  · cases hod : o.dst with
    | none => exact h.defers
    | some d => exact h.defers
  · cases hod : o.dst with
    | none => exact h.tsize
    | some d => simpa [Act.put] using h.tsize
  · intro s hs
    rw [← h.fix s hs]
    cases hod : o.dst with
    | none => rfl
    | some d =>
      have hne : d ≠ s := fun e => hs i o ho (by rw [hod, e])
      simp [Act.put, Array.getElem?_setIfInBounds_ne hne]
  · intro k o' hk hL
    by_cases hik : i = k
    · subst hik
      rw [ho] at hk
      cases hk
      cases hod : o.dst with
      | none =>
        have : slotOf (a.put none v) o = v := by rw [hv hod]; unfold slotOf; rw [hod]
        rw [this]
        exact hpost
      | some d =>
        have hlt : d < a.tmps.size := by rw [h.tsize]; exact (hd d hod).1
        have : slotOf (a.put (some d) v) o = v := by
          unfold slotOf
          rw [hod]
          simp [Act.put, hlt]
        rw [this]
        exact hpost
    · rw [getD_set_ne true hik] at hL
      have hold := hold k _ (h.post k o' hk hL)
      have : slotOf (a.put o.dst v) o' = slotOf a o' := by
        cases hod : o.dst with
        | none => rfl
        | some d =>
          unfold slotOf
          cases hod' : o'.dst with
          | none => rfl
          | some d' =>
            have hne : d ≠ d' := fun e => hik ((hd d hod).2 k o' hk (by rw [hod', e]))
            simp [Act.put, Array.getElem?_setIfInBounds_ne hne]
      rw [this]
      exact hold

theorem wpAny_guards {a0 : Act} (Inv : World → Prop) (Step : World → World → Prop) (Post : Nat → Value → World → Prop) (ht : tidyG ops a0.tmps.size = true)
    (hstab : ∀ k v w w', Post k v w → Inv w → Step w w' → Post k v w')
    (hstep : ∀ (k : Nat) (o : Oper), ops[k]? = some o → ∀ a w, Inv w → a.tmps.size = a0.tmps.size → (∀ s, (∀ (j : Nat) (o' : Oper), ops[j]? = some o' → o'.dst ≠ some s) → a.tmps.getD s undef = a0.tmps.getD s undef) →
      (∀ e ∈ o.after, Region.binds .any e = true → ∀ (o' : Oper), ops[e.on]? = some o' → Post e.on (slotOf a o') w) →
      (Region.wanted o (yielded ops a.tmps) = true ∧ ∀ K : Act → World → Prop, (∀ v w', (o.dst = none → v = undef) → Inv w' → Step w w' → Post k v w' → K (a.put o.dst v) w') → Oper.wp P o a w K Q) ∨ (Region.wanted o (yielded ops a.tmps) = false ∧ Post k undef w))
    (hend : ∀ a w, Inv w → a.defers = a0.defers → a.tmps.size = a0.tmps.size → (∀ s, (∀ (j : Nat) (o' : Oper), ops[j]? = some o' → o'.dst ≠ some s) → a.tmps.getD s undef = a0.tmps.getD s undef) →
      (∀ (k : Nat) (o : Oper), ops[k]? = some o → Post k (slotOf a o) w) → Q .normal a w) :
    ∀ (fuel : Nat) (L : Array Bool) (a : Act) (w : World), RegAt ops a0 Inv Post L a w → L.count false ≤ fuel → wpAny P .any ops Q fuel L a w := by
  have fin : ∀ (L : Array Bool) (a : Act) (w : World), RegAt ops a0 Inv Post L a w → Region.ready .any ops L = [] → Q .normal a w := fun L a w h hr =>
    hend a w h.inv h.defers h.tsize h.fix (fun k o hk => h.post k o hk (all_listed h.size (fun k o hk => (tidyG_at ht hk).1) hr k))
  intro fuel
  induction fuel with
  | zero =>
    intro L a w h hc
    have hr : Region.ready .any ops L = [] := by
      cases hr : Region.ready .any ops L with
      | nil => rfl
      | cons x xs =>
        have hx : x ∈ Region.ready .any ops L := by rw [hr]; exact List.mem_cons_self
        have := count_set (mem_ready.1 hx).1
        omega
    exact ⟨hr, fin L a w h hr⟩
  | succ fuel ih =>
    intro L a w h hc
    refine ⟨fin L a w h, fun i hi => ?_⟩
    obtain ⟨hun, o, ho, hall⟩ := mem_ready.1 hi
    have hcs := count_set hun
    unfold wpOp
    simp only [ho]
    rcases hstep i o ho a w h.inv h.tsize h.fix (fun e he hbn o' ho' => h.post e.on o' ho' (by
      have h1 := hall e he hbn
      have hel : e.on < L.size := by
        rcases Nat.lt_or_ge e.on L.size with h' | h'
        · exact h'
        · simp [Array.getElem?_eq_none h'] at h1
      simp [hel] at h1 ⊢
      exact h1)) with ⟨hw, hrun⟩ | ⟨hw, hpost⟩
    · rw [if_pos hw]
      exact .inl (hrun _ (fun v w' hv hinv hst hpost => ih _ _ _ (h.put ht ho hv hinv (fun k u hu => hstab k u w w' hu h.inv hst) hpost) (by omega)))
    · rw [if_neg (by rw [hw]; exact Bool.false_ne_true)]
      exact ih _ _ _ (h.put ht ho (fun _ => rfl) h.inv (fun k u hu => hu) hpost) (by omega)

/-- THE LAW: whatever order is drawn, each operation that is wanted leaves what it leaves; what one leaves is not undone by another. -/
theorem wp_region_guards {id : Nat} {a0 : Act} {w0 : World} (hm : P.follows .mixedOrders = true) (Inv : World → Prop) (Step : World → World → Prop) (Post : Nat → Value → World → Prop) (h0 : Inv { w0 with drawn := w0.drawn + 1 }) (ht : tidyG ops a0.tmps.size = true)
    (hstab : ∀ k v w w', Post k v w → Inv w → Step w w' → Post k v w')
    (hstep : ∀ (k : Nat) (o : Oper), ops[k]? = some o → ∀ a w, Inv w → a.tmps.size = a0.tmps.size → (∀ s, ops.all (fun o => o.dst != some s) = true → a.tmps.getD s undef = a0.tmps.getD s undef) →
      (∀ (j : Nat) (o' : Oper), ops[j]? = some o' → o.after.any (fun e => Region.binds .any e && e.on == j) = true → Post j (slotOf a o') w) →
      (Region.wanted o (yielded ops a.tmps) = true ∧ ∀ K : Act → World → Prop, (∀ v w', (o.dst = none → v = undef) → Inv w' → Step w w' → Post k v w' → K (a.put o.dst v) w') → Oper.wp P o a w K Q) ∨ (Region.wanted o (yielded ops a.tmps) = false ∧ Post k undef w))
    (hend : ∀ a w, Inv w → a.defers = a0.defers → a.tmps.size = a0.tmps.size → (∀ s, ops.all (fun o => o.dst != some s) = true → a.tmps.getD s undef = a0.tmps.getD s undef) →
      (∀ (k : Nat) (o : Oper), ops[k]? = some o → Post k (slotOf a o) w) → Q .normal a w) : (Code.region id ops true).wp P Q a0 w0 := by
  have hfx : ∀ s, ops.all (fun o => o.dst != some s) = true → ∀ (j : Nat) (o' : Oper), ops[j]? = some o' → o'.dst ≠ some s := fun s hs j o' hj e => by
    have := Array.all_eq_true_iff_forall_mem.1 hs o' (Array.mem_of_getElem? hj)
    simp [e] at this
  refine wp_region_any hm (wpAny_guards Inv Step Post ht hstab (fun k o hk a w hI hsz hfix hdep => hstep k o hk a w hI hsz (fun s hs => hfix s (hfx s hs)) (fun j o' hj ha => ?_)) (fun a w hI hd hsz hfix hpost => hend a w hI hd hsz (fun s hs => hfix s (hfx s hs)) hpost) _ _ _ _ ⟨by simp, h0, rfl, rfl, fun _ _ => rfl, fun k o hk hL => ?_⟩ ?_)
  · obtain ⟨e, he, hb⟩ := Array.any_eq_true'.1 ha
    rw [Bool.and_eq_true, beq_iff_eq] at hb
    obtain ⟨hb, rfl⟩ := hb
    exact hdep e he hb o' hj
  · have hlt : k < ops.size := (Array.getElem?_eq_some_iff.1 hk).1
    simp [hlt] at hL
  · exact Nat.le_trans Array.count_le_size (by simp)
theorem wanted_none {o : Oper} {y : Nat → Option Bool} (h : o.guard = none) : Region.wanted o y = true := by simp [Region.wanted, h]
/-- Whether a guarded operation is wanted. -/
theorem wanted_is {o oj : Oper} {a : Act} {j d : Nat} {b c : Bool} (hg : o.guard = some (j, b)) (hj : ops[j]? = some oj) (hd : oj.dst = some d) (hv : a.tmps.getD d undef = .bool c) : Region.wanted o (yielded ops a.tmps) = (c == b) := by
  have e : a.tmps[d]? = some (.bool c) := by
    cases h : a.tmps[d]? with
    | none => simp [h, undef] at hv
    | some x => simp [h] at hv; rw [hv]
  unfold Region.wanted yielded
  rw [hg]
  dsimp only
  rw [hj]
  simp only [Option.bind_some, hd, e]
  cases c <;> cases b <;> rfl
/-- An operation that calls a function. -/
theorem wp_calls {o : Oper} {a : Act} {w : World} {K : Act → World → Prop} (f : Nat) (vals : Array Value) {R : Ending → World → Prop} (hrun : (execOp a.eval o).run P w = .ok (.enter f vals) w) (hc : Calls P f vals w R) (hk : ∀ e w', R e w' → ∃ v, e = .returned v ∧ K (a.put o.dst v) w') : Oper.wp P o a w K Q := by
  unfold Oper.wp
  rw [hrun, Oper.upon_enter]
  refine hc.mono fun e w' hh => ?_
  obtain ⟨v, he, hv⟩ := hk e w' hh
  subst he
  exact hv
end
end Go.Proofs.Ytndnngfljoamdaa
