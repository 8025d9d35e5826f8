/- States as plain records, and lists of them in memory. -/
import Derived.Test.YtghfpcjgionbaaaGreatKaa
import Derived.Test.YtghfpcjgionbaaaGreatRowLib
namespace Go.Proofs.YtghfpcjgionbaaaGreat
open Go.RowKit

/-- A state. -/
structure St where
  vals : List Int
  sum : Int
/-- Whether one is less than another one. -/
def stLess (x y : St) : Bool := decide (x.sum < y.sum) || (decide (x.sum = y.sum) && decide (cmpL x.vals y.vals < 0))
/-- A state whose Vals lie at a place. -/
structure Sp where
  st : St
  a : Option Addr
  c : Nat
def spLess : Sp → Sp → Bool := fun p q => stLess p.st q.st
def spCells (p : Sp) : List Value := [.slice p.a p.st.vals.length p.c, .int .i64 p.st.sum]
theorem spCells_len (p : Sp) : (spCells p).length = 2 := rfl
def Sp.blk (p : Sp) : Option Nat := (Value.slice p.a p.st.vals.length p.c).ownBlock
/-- A list of states that lies in memory. -/
def StsAt (w : World) (a : Option Addr) (ps : List Sp) : Prop := RowsAt 2 spCells w a ps ∧ ∀ p ∈ ps, KidsAt w p.a p.st.vals
theorem StsAt.below {w w' : World} {a : Option Addr} {ps : List Sp} {B : Nat} (h : StsAt w a ps) (hb : Below B w w') (hB : w.heap.size ≤ B) : StsAt w' a ps := ⟨h.1.below hb hB, fun p hp => (h.2 p hp).below hb hB⟩
/-- No Vals are longer than the law looks at. -/
def Few (ps : List Sp) : Prop := ∀ p ∈ ps, p.st.vals.length ≤ 1048576
theorem Few.swp {ps : List Sp} (h : Few ps) (i j : Nat) : Few (swp ps i j) := fun p hp => h p (swp_mem hp)
/-- The two cells of a state in a row. -/
theorem sp2 {w : World} {b o : Nat} {p : Sp} (h : ∀ j, j < 2 → w.cell? ⟨b, o + j, none⟩ = (spCells p)[j]?) :
    w.cell? ⟨b, o, none⟩ = some (.slice p.a p.st.vals.length p.c) ∧ w.cell? ⟨b, o + 1, none⟩ = some (.int .i64 p.st.sum) := ⟨h 0 (by omega), h 1 (by omega)⟩
/-- A list of states in memory of its own: the list, the Vals of each, no two of them in one place. -/
structure Own (w : World) (B : Nat) (a : Option Addr) (c : Nat) (ps : List Sp) : Prop where
  row : w.ownsRow B 61 2 (.slice a ps.length c) ps.length (rowVals spCells ps)
  each : ∀ p ∈ ps, w.ownsRow B 3 1 (.slice p.a p.st.vals.length p.c) p.st.vals.length (intVals p.st.vals)
  apart : ∀ (i j : Nat) (p q : Sp), i ≠ j → ps[i]? = some p → ps[j]? = some q → ∀ g, p.blk = some g → q.blk ≠ some g
theorem Own.sts {w : World} {B : Nat} {a : Option Addr} {c : Nat} {ps : List Sp} (h : Own w B a c ps) : StsAt w a ps := ⟨RowsAt.of_own spCells_len h.row rfl, fun p hp => KidsAt.of_own (h.each p hp)⟩
theorem Own.below {w w' : World} {B : Nat} {a : Option Addr} {c : Nat} {ps : List Sp} (h : Own w B a c ps) (hb : Below w.heap.size w w') : Own w' B a c ps := ⟨owns_below h.row hb, fun p hp => owns_below (h.each p hp) hb, h.apart⟩
theorem Own.base {w : World} {B B' : Nat} {a : Option Addr} {c : Nat} {ps : List Sp} (h : Own w B a c ps) (hb : B' ≤ B) : Own w B' a c ps := ⟨ownsRow_base h.row hb, fun p hp => ownsRow_base (h.each p hp) hb, h.apart⟩
/-- The same where one row of another one has turned. -/
theorem Own.other {w w' : World} {B : Nat} {a : Option Addr} {c : Nat} {ps : List Sp} {g : Option Nat} (h : Own w B a c ps) (hg : w.grownBy w' g) (h1 : (Value.slice a ps.length c).ownBlock = none ∨ (Value.slice a ps.length c).ownBlock ≠ g) (h2 : ∀ p ∈ ps, p.blk = none ∨ p.blk ≠ g) : Own w' B a c ps :=
  ⟨h.row.kept hg h1, fun p hp => (h.each p hp).kept hg (h2 p hp), h.apart⟩
theorem rowVals_set2 : ∀ (ps : List Sp) (k : Nat) (x : Sp), k < ps.length → ((rowVals spCells ps).set (k * 2) (.slice x.a x.st.vals.length x.c)).set (k * 2 + 1) (.int .i64 x.st.sum) = rowVals spCells (ps.set k x)
  | [], k, x, h => by simp at h
  | p :: ps, 0, x, _ => by
    show ((spCells p ++ rowVals spCells ps).set 0 _).set 1 _ = spCells x ++ rowVals spCells ps
    rfl
  | p :: ps, k + 1, x, h => by
    have ih := rowVals_set2 ps k x (by simpa using h)
    show ((spCells p ++ rowVals spCells ps).set ((k + 1) * 2) _).set ((k + 1) * 2 + 1) _ = spCells p ++ rowVals spCells (ps.set k x)
    rw [← ih, show (k + 1) * 2 = k * 2 + 2 by omega]
    rfl
/-- One state in the row's place k. -/
theorem row_set {w : World} {B g c : Nat} {ps : List Sp} {k : Nat} (x : Sp) (h : w.ownsRow B 61 2 (.slice (some ⟨g, 0, none⟩) ps.length c) ps.length (rowVals spCells ps)) (hk : k < ps.length) :
    ((w.setCell ⟨g, k * 2, none⟩ (.slice x.a x.st.vals.length x.c)).setCell ⟨g, k * 2 + 1, none⟩ (.int .i64 x.st.sum)).ownsRow B 61 2 (.slice (some ⟨g, 0, none⟩) (ps.set k x).length c) (ps.set k x).length (rowVals spCells (ps.set k x)) ∧ w.grownBy ((w.setCell ⟨g, k * 2, none⟩ (.slice x.a x.st.vals.length x.c)).setCell ⟨g, k * 2 + 1, none⟩ (.int .i64 x.st.sum)) (some g) := by
  have s0 := h.stored (k * 2) (.slice x.a x.st.vals.length x.c)
  have s1 := s0.1.stored (k * 2 + 1) (.int .i64 x.st.sum)
  rw [rowVals_set2 ps k x hk] at s1
  rw [List.length_set]
  exact ⟨s1.1, grownBy_trans s0.2 s1.2⟩
/-- Two states change places. -/
theorem Own.swap {w : World} {B g c : Nat} {ps : List Sp} {i j : Nat} {x y : Sp} (h : Own w B (some ⟨g, 0, none⟩) c ps) (hx : ps[i]? = some x) (hy : ps[j]? = some y) (hne : i ≠ j) :
    Own ((((w.setCell ⟨g, i * 2, none⟩ (.slice y.a y.st.vals.length y.c)).setCell ⟨g, i * 2 + 1, none⟩ (.int .i64 y.st.sum)).setCell ⟨g, j * 2, none⟩ (.slice x.a x.st.vals.length x.c)).setCell ⟨g, j * 2 + 1, none⟩ (.int .i64 x.st.sum)) B (some ⟨g, 0, none⟩) c (swp ps i j) ∧ w.grownBy ((((w.setCell ⟨g, i * 2, none⟩ (.slice y.a y.st.vals.length y.c)).setCell ⟨g, i * 2 + 1, none⟩ (.int .i64 y.st.sum)).setCell ⟨g, j * 2, none⟩ (.slice x.a x.st.vals.length x.c)).setCell ⟨g, j * 2 + 1, none⟩ (.int .i64 x.st.sum)) (some g) := by
  have hi := (List.getElem?_eq_some_iff.1 hx).1
  have hj := (List.getElem?_eq_some_iff.1 hy).1
  have r1 := row_set y h.row hi
  have r2 := row_set x r1.1 (show j < (ps.set i y).length by simpa using hj)
  have hg := grownBy_trans r1.2 r2.2
  refine ⟨⟨?_, fun p hp => (h.each p (swp_mem hp)).kept hg (types_apart (h.each p (swp_mem hp)) h.row (by decide)), fun k l p q hkl hp hq => ?_⟩, hg⟩
  · rw [swp_of hx hy]
    exact r2.1
  · rw [swp_at hi hj hne] at hp hq
    exact h.apart _ _ p q (sw_inj hne hkl) hp hq
theorem cmp_tr : ∀ {a b c : List Int}, ¬ cmpL b a < 0 → ¬ cmpL c b < 0 → ¬ cmpL c a < 0
  | [], _, [], _, _ => by simp [cmpL]
  | [], _, _ :: _, _, _ => by simp [cmpL]
  | _ :: _, [], _, h, _ => by simp [cmpL] at h
  | _ :: _, _ :: _, [], _, h => by simp [cmpL] at h
  | x :: a, y :: b, z :: c, h1, h2 => by
    rw [cmpL] at h1 h2 ⊢
    by_cases e1 : y < x
    · rw [if_pos e1] at h1; omega
    · by_cases e2 : z < y
      · rw [if_pos e2] at h2; omega
      · rw [if_neg e1] at h1
        rw [if_neg e2] at h2
        by_cases e3 : x < z
        · rw [if_neg (by omega), if_pos e3]; omega
        · rw [if_neg (by omega), if_neg e3]
          rw [if_neg (by omega)] at h1 h2
          exact cmp_tr h1 h2
theorem stLess_as {x y : St} (h : stLess x y = true) : stLess y x = false := by
  unfold stLess at *
  simp only [Bool.or_eq_true, Bool.and_eq_true, decide_eq_true_eq, Bool.or_eq_false_iff, Bool.and_eq_false_iff, decide_eq_false_iff_not] at *
  have := cmp_back x.vals y.vals
  omega
theorem stLess_tr {x y z : St} (h1 : stLess y x = false) (h2 : stLess z y = false) : stLess z x = false := by
  unfold stLess at *
  simp only [Bool.or_eq_false_iff, Bool.and_eq_false_iff, decide_eq_false_iff_not] at *
  refine ⟨by omega, ?_⟩
  by_cases e : z.sum = x.sum
  · right
    exact cmp_tr (h1.2.resolve_left (by omega)) (h2.2.resolve_left (by omega))
  · exact .inl e
end Go.Proofs.YtghfpcjgionbaaaGreat
/- What impl.Compare answers. -/
namespace Go.Proofs.YtghfpcjgionbaaaGreat
open Go.RowKit

set_option maxHeartbeats 1600000 in
theorem cmpI_any (x y : Int) (w : World) : Calls Tryz.prog 154 #[.int .i64 x, .int .i64 y] w fun e w' => e = .returned (.int .i64 (cmp1 x y)) ∧ w' = w := by
  have hx : (x != x) = false := by simp
  have hy : (y != y) = false := by simp
  unfold cmp1
  by_cases h1 : x < y
  · rw [if_pos h1]
    go_enter Tryz.func154, Tryz.ntmps154
    go_wp2
    go_ret
    exact ⟨rfl, rfl⟩
  · by_cases h2 : y < x
    · rw [if_neg h1, if_pos h2]
      have h3 : x > y := h2
      go_enter Tryz.func154, Tryz.ntmps154
      go_wp2
      go_ret
      exact ⟨rfl, rfl⟩
    · rw [if_neg h1, if_neg h2]
      have h3 : ¬ x > y := h2
      go_enter Tryz.func154, Tryz.ntmps154
      go_wp2
      go_ret
      exact ⟨rfl, rfl⟩

set_option maxHeartbeats 4000000 in
theorem slCmp_any (a1 a2 : Option Addr) (c1 c2 : Nat) (us bs : List Int) (w : World) (hm0 : us.length ≤ 1048576) (hn0 : bs.length ≤ 1048576) (h1 : KidsAt w a1 us) (h2 : KidsAt w a2 bs) :
    Calls Tryz.prog 144 #[.slice a1 us.length c1, .slice a2 bs.length c2] w fun e w' => e = .returned (.int .i64 (cmpL us bs)) ∧ w' = w := by
  unfold KidsAt at h1 h2
  obtain ⟨n, hn⟩ : ∃ n, n = us.length := ⟨_, rfl⟩
  obtain ⟨m, hm⟩ : ∃ m, m = bs.length := ⟨_, rfl⟩
  rw [← hn] at h1 hm0 ⊢
  rw [← hm] at h2 hn0 ⊢
  have HN := hidOf hn
  have HM := hidOf hm
  clear hn hm
  go_enter Tryz.func144, Tryz.ntmps144
  go_wp2
  go_loop [11] (fun i => ∃ k : Nat, k ≤ n ∧ k ≤ m ∧ i = .int .i64 k ∧ Hid (cmpL (us.drop k) (bs.drop k) = cmpL us bs)) (fun i => n - (intOf i).toNat)
  case atStart => exact ⟨0, Nat.zero_le _, Nat.zero_le _, rfl, hidOf rfl⟩
  case round =>
    obtain ⟨k, hk, hk2, rfl, HC⟩ := hrel
    have hA : (0 : Int) ≤ (k : Int) := by omega
    by_cases hlt : k < n
    · have hB : (k : Int) < (n : Int) := by omega
      obtain ⟨x, ex⟩ : ∃ x, us[k]? = some x := ⟨_, List.getElem?_eq_getElem (by rw [← HN.out]; exact hlt)⟩
      obtain ⟨b1, o1, rfl, hb1, hc1⟩ := h1 (by omega)
      have p1 := hc1 k x ex
      by_cases hlt2 : k < m
      · have hB2 : (k : Int) < (m : Int) := by omega
        obtain ⟨y, ey⟩ : ∃ y, bs[k]? = some y := ⟨_, List.getElem?_eq_getElem (by rw [← HM.out]; exact hlt2)⟩
        obtain ⟨b2, o2, rfl, hb2, hc2⟩ := h2 (by omega)
        have p2 := hc2 k y ey
        have EX := hidOf ex
        have EY := hidOf ey
        clear ex ey hc1 hc2 h1 h2
        have hq := fun W => cmpI_any x y W
        by_cases g1 : x < y
        · rw [show cmp1 x y = -1 by unfold cmp1; rw [if_pos g1]] at hq
          have G := hidOf g1
          clear g1
          go_wp2_with (go_at_call 154; refine (hq _).mono ?_; rintro e w ⟨rfl, rfl⟩)
          go_ret
          exact ⟨ret_int (by rw [← HC.out, cmp_lt EX.out EY.out G.out]), rfl⟩
        · by_cases g2 : y < x
          · rw [show cmp1 x y = 1 by unfold cmp1; rw [if_neg g1, if_pos g2]] at hq
            have G := hidOf g2
            clear g1 g2
            go_wp2_with (go_at_call 154; refine (hq _).mono ?_; rintro e w ⟨rfl, rfl⟩)
            go_ret
            exact ⟨ret_int (by rw [← HC.out, cmp_gt EX.out EY.out G.out]), rfl⟩
          · rw [show cmp1 x y = 0 by unfold cmp1; rw [if_neg g1, if_neg g2]] at hq
            have G1 := hidOf g1
            have G2 := hidOf g2
            clear g1 g2
            go_wp2_with (go_at_call 154; refine (hq _).mono ?_; rintro e w ⟨rfl, rfl⟩)
            go_round
            case rel => exact ⟨k + 1, by omega, by omega, by go_num, hidOf (by rw [← HC.out, cmp_eq EX.out EY.out (by have := G1.out; omega) (by have := G2.out; omega)])⟩
            case measure => simp [intOf]; omega
      · have hB2 : (k : Int) ≥ (m : Int) := by omega
        clear ex hc1 h1 h2
        go_wp2
        go_ret
        exact ⟨ret_int (by rw [← HC.out, cmp_long (by rw [← HN.out]; exact hlt) (by rw [← HM.out]; omega)]), rfl⟩
    · clear h1 h2
      by_cases hlt2 : n < m
      · go_wp2
        go_ret
        exact ⟨ret_int (by rw [← HC.out, cmp_short (by rw [← HN.out]; omega) (by rw [← HM.out]; omega)]), rfl⟩
      · go_wp2
        go_ret
        exact ⟨ret_int (by rw [← HC.out, cmp_end (by rw [← HN.out]; omega) (by rw [← HM.out]; omega)]), rfl⟩

set_option maxHeartbeats 1600000 in
theorem iCmp_any (a1 a2 : Option Addr) (c1 c2 : Nat) (us bs : List Int) (w : World) (hm0 : us.length ≤ 1048576) (hn0 : bs.length ≤ 1048576) (h1 : KidsAt w a1 us) (h2 : KidsAt w a2 bs) :
    Calls Tryz.prog 129 #[.slice a1 us.length c1, .slice a2 bs.length c2] w fun e w' => e = .returned (.int .i64 (cmpL us bs)) ∧ w' = w := by
  go_enter Tryz.func129, Tryz.ntmps129
  go_wp2_with fail
  refine (slCmp_any a1 a2 c1 c2 us bs _ hm0 hn0 h1 h2).mono ?_
  rintro e w ⟨rfl, rfl⟩
  go_wp2
  go_ret
  exact ⟨rfl, rfl⟩

end Go.Proofs.YtghfpcjgionbaaaGreat
/- What StateLess answers, on both sides. -/
namespace Go.Proofs.YtghfpcjgionbaaaGreat
open Go.RowKit

set_option maxHeartbeats 1600000 in
theorem iSL_any (p q : Sp) (w : World) (hp : p.st.vals.length ≤ 1048576) (hq : q.st.vals.length ≤ 1048576) (k1 : KidsAt w p.a p.st.vals) (k2 : KidsAt w q.a q.st.vals) :
    Calls Tryz.prog 104 #[.agg #[.slice p.a p.st.vals.length p.c, .int .i64 p.st.sum], .agg #[.slice q.a q.st.vals.length q.c, .int .i64 q.st.sum]] w fun e w' => e = .returned (.bool (spLess p q)) ∧ Below w.heap.size w w' := by
  have HB : ∀ o1 o2 : Obj, Below w.heap.size w ((w.alloc o1).alloc o2) := fun o1 o2 => ((Below.refl _ _).alloc (Nat.le_refl _) _).alloc (by simp) _
  by_cases h1 : p.st.sum < q.st.sum
  · clear k1 k2
    go_enter Tryz.func104, Tryz.ntmps104
    go_wp2
    go_ret
    exact ⟨ret_bool (by simp [spLess, stLess, h1]), HB _ _⟩
  · by_cases h2 : p.st.sum = q.st.sum
    · have hE : (p.st.sum == q.st.sum) = true := by simpa using h2
      have hC : ∀ W : World, Below w.heap.size w W → Calls Tryz.prog 129 #[.slice p.a p.st.vals.length p.c, .slice q.a q.st.vals.length q.c] W fun e w' => e = .returned (.int .i64 (cmpL p.st.vals q.st.vals)) ∧ w' = W := fun W hW => iCmp_any p.a q.a p.c q.c p.st.vals q.st.vals W hp hq (k1.below hW (Nat.le_refl _)) (k2.below hW (Nat.le_refl _))
      have HR := hidOf (show spLess p q = decide (cmpL p.st.vals q.st.vals < 0) by simp [spLess, stLess, h2])
      have HC := hidOf hC
      have H1 := hidOf h1
      clear k1 k2 hC h2
      generalize cmpL p.st.vals q.st.vals = z at *
      by_cases h3 : z < 0
      · go_enter Tryz.func104, Tryz.ntmps104
        go_wp2_with (go_at_call 129; refine (HC.out _ (HB _ _)).mono ?_; rintro e w1 ⟨rfl, rfl⟩)
        go_ret
        exact ⟨ret_bool (by rw [HR.out]; try simpa using h3), HB _ _⟩
      · go_enter Tryz.func104, Tryz.ntmps104
        go_wp2_with (go_at_call 129; refine (HC.out _ (HB _ _)).mono ?_; rintro e w1 ⟨rfl, rfl⟩)
        go_ret
        exact ⟨ret_bool (by rw [HR.out]; try simpa using h3), HB _ _⟩
    · have hE : (p.st.sum == q.st.sum) = false := by simpa using h2
      clear k1 k2
      go_enter Tryz.func104, Tryz.ntmps104
      go_wp2
      go_ret
      exact ⟨ret_bool (by simp [spLess, stLess, h1, h2]), HB _ _⟩

set_option maxHeartbeats 1600000 in
theorem sSL_any (p q : Sp) (w : World) (hp : p.st.vals.length ≤ 1048576) (hq : q.st.vals.length ≤ 1048576) (k1 : KidsAt w p.a p.st.vals) (k2 : KidsAt w q.a q.st.vals) :
    Calls Tryz.prog 67 #[.agg #[.slice p.a p.st.vals.length p.c, .int .i64 p.st.sum], .agg #[.slice q.a q.st.vals.length q.c, .int .i64 q.st.sum]] w fun e w' => e = .returned (.bool (spLess p q)) ∧ Below w.heap.size w w' := by
  have HB : ∀ o1 o2 : Obj, Below w.heap.size w ((w.alloc o1).alloc o2) := fun o1 o2 => ((Below.refl _ _).alloc (Nat.le_refl _) _).alloc (by simp) _
  by_cases h1 : p.st.sum < q.st.sum
  · clear k1 k2
    go_enter Tryz.func67, Tryz.ntmps67
    go_wp2
    go_ret
    exact ⟨ret_bool (by simp [spLess, stLess, h1]), HB _ _⟩
  · by_cases h2 : p.st.sum = q.st.sum
    · have hE : (p.st.sum == q.st.sum) = true := by simpa using h2
      have hC : ∀ W : World, Below w.heap.size w W → Calls Tryz.prog 31 #[.slice p.a p.st.vals.length p.c, .slice q.a q.st.vals.length q.c] W fun e w' => e = .returned (.int .i64 (cmpL p.st.vals q.st.vals)) ∧ Below W.heap.size W w' := fun W hW => sCmp_any p.a q.a p.c q.c p.st.vals q.st.vals W hp hq (k1.below hW (Nat.le_refl _)) (k2.below hW (Nat.le_refl _))
      have HR := hidOf (show spLess p q = decide (cmpL p.st.vals q.st.vals < 0) by simp [spLess, stLess, h2])
      have HC := hidOf hC
      have H1 := hidOf h1
      clear k1 k2 hC h2
      generalize cmpL p.st.vals q.st.vals = z at *
      by_cases h3 : z < 0
      · go_enter Tryz.func67, Tryz.ntmps67
        go_wp2_with (go_at_call 31; refine (HC.out _ (HB _ _)).mono ?_; rintro e w1 ⟨rfl, hb1⟩)
        go_ret
        exact ⟨ret_bool (by rw [HR.out]; try simpa using h3), (HB _ _).trans (hb1.mono (HB _ _).size)⟩
      · go_enter Tryz.func67, Tryz.ntmps67
        go_wp2_with (go_at_call 31; refine (HC.out _ (HB _ _)).mono ?_; rintro e w1 ⟨rfl, hb1⟩)
        go_ret
        exact ⟨ret_bool (by rw [HR.out]; try simpa using h3), (HB _ _).trans (hb1.mono (HB _ _).size)⟩
    · have hE : (p.st.sum == q.st.sum) = false := by simpa using h2
      clear k1 k2
      go_enter Tryz.func67, Tryz.ntmps67
      go_wp2
      go_ret
      exact ⟨ret_bool (by simp [spLess, stLess, h1, h2]), HB _ _⟩
end Go.Proofs.YtghfpcjgionbaaaGreat
