/- How an item of the program's own heap goes down. -/
import Derived.Test.YtghfpcjgionbaaaKad
import Derived.Test.YtghfpcjgionbaaaKae
import Derived.Laws.IdiomCopy
namespace Go.Proofs.Ytghfpcjgionbaaa
open Go.RowKit

set_option maxHeartbeats 4000000 in
theorem lesser_any (kd : HK) (hb : Nat) (a : Option Addr) (c : Nat) (ps : List Sp) (i : Nat) (w : World) (hn0 : ps.length ≤ 1048577) (hi0 : i ≤ 2097152) (hF : Few ps) (hT : StsAt w a ps) (H : Hv kd w hb a ps.length c) :
    Calls Try.prog 119 #[.pointer (some ⟨hb, kd.o, none⟩), .int .i64 i] w fun e w' => e = .returned (.int .i64 (low spLess ps i)) ∧ Below w.heap.size w w' := by
  have hL := isLess_any kd hb a c ps (2 * i + 2) (2 * i + 1) w hn0 (by omega) (by omega) (by omega) hF hT H
  rw [show ((2 * i + 2 : Nat) : Int) = 2 * (i : Int) + 1 + 1 by omega, show ((2 * i + 1 : Nat) : Int) = 2 * (i : Int) + 1 by omega] at hL
  obtain ⟨b, hb2⟩ : ∃ b, b = ltAt spLess ps (2 * i + 2) (2 * i + 1) := ⟨_, rfl⟩
  have HE : Hid (((low spLess ps i : Nat) : Int) = if b = true then 2 * (i : Int) + 1 + 1 else 2 * (i : Int) + 1) := hidOf (by
    unfold low
    rw [← hb2]
    split <;> omega)
  rw [← hb2] at hL
  have HL := hidOf hL
  clear hL hb2 hT H
  go_enter Try.func119, Try.ntmps119
  go_wp2_with fail
  refine HL.out.mono ?_
  rintro e w1 ⟨rfl, hb1⟩
  cases b
  · go_wp2
    go_ret
    exact ⟨ret_int (by rw [HE.out]; rfl), hb1⟩
  · go_wp2
    go_ret
    exact ⟨ret_int (by rw [HE.out]; rfl), hb1⟩

set_option maxHeartbeats 4000000 in
theorem goDown_any (kd : HK) (hb B g c : Nat) (ps : List Sp) (i : Nat) (w : World) (hn0 : ps.length ≤ 1048577) (hi : i ≤ ps.length) (hF : Few ps) (hO : Own w B (some ⟨g, 0, none⟩) c ps) (H : Hv kd w hb (some ⟨g, 0, none⟩) ps.length c) :
    Calls Try.prog 107 #[.pointer (some ⟨hb, kd.o, none⟩), .int .i64 i] w fun e w' => e = .returned (.tuple #[]) ∧ Own w' B (some ⟨g, 0, none⟩) c (dn spLess ps i) ∧ w.grownBy w' (some g) := by
  have hne := H.ne hO
  have HL0 := hidOf (lesser_any kd hb (some ⟨g, 0, none⟩) c ps i w hn0 (by omega) hF hO.sts H)
  go_enter Try.func107, Try.ntmps107
  go_wp2_with fail
  refine HL0.out.mono ?_
  rintro e w0 ⟨rfl, hb0⟩
  clear HL0
  go_wp2
  go_loopw [1, 4] (fun v u wr => ∃ (k : Nat) (qs : List Sp), v = .int .i64 k ∧ k ≤ ps.length ∧ u = .int .i64 (low spLess qs k) ∧ Hid (qs.length = ps.length) ∧ Hid (Few qs) ∧ Hid (dn spLess qs k = dn spLess ps i) ∧ Hid (Own wr B (some ⟨g, 0, none⟩) c qs) ∧ Hid (w.grownBy wr (some g))) (fun v _ _ => ps.length - (intOf v).toNat)
  case atStart => exact ⟨i, ps, rfl, hi, rfl, hidOf rfl, hidOf hF, hidOf rfl, hidOf (hO.below hb0), hidOf (grownBy_of_below hb0 _)⟩
  case round =>
    obtain ⟨k, qs, rfl, hk, rfl, HL, HF, HU, HO, HG⟩ := hrel
    have H1 := hidOf (H.grown HG.out hne)
    have hL := HL.out
    obtain ⟨l, hl⟩ : ∃ l, l = low spLess qs k := ⟨_, rfl⟩
    have hlk : k < l := by rw [hl]; exact low_gt _ _
    have hl2 : l ≤ 2 * k + 2 := by rcases low_in (lt := spLess) qs k with h | h <;> omega
    have HI := hidOf (isLess_any kd hb (some ⟨g, 0, none⟩) c qs l k wr (by omega) (by omega) (by omega) (by omega) HF.out HO.out.sts (by rw [hL]; exact H1.out))
    obtain ⟨b, hb2⟩ : ∃ b, b = ltAt spLess qs l k := ⟨_, rfl⟩
    rw [← hb2] at HI
    have HB := hidOf hb2
    rw [← hl]
    have HLo := hidOf hl
    obtain ⟨n, hn⟩ : ∃ n, n = ps.length := ⟨_, rfl⟩
    rw [← hn] at hk hn0
    have HN := hidOf hn
    clear hb2 hn hL hl
    go_wp2_with fail
    refine HI.out.mono ?_
    rintro e w2 ⟨rfl, hb2⟩
    cases b
    · go_wp2
      go_end0
      rw [← HU.out, dn_no (by rw [← HLo.out, ← HB.out])]
      exact ⟨rfl, HO.out.below hb2, grownBy_trans HG.out (grownBy_of_below hb2 _)⟩
    · have hin := ltAt_in HB.out.symm
      have hlt : l < n := by have := HL.out; have := HN.out; omega
      have HD : Hid (dn spLess (swp qs k l) l = dn spLess ps i) := hidOf (by
        have h := dn_yes (lt := spLess) (xs := qs) (i := k) (by rw [← HLo.out, ← HB.out])
        rw [← HLo.out, HU.out] at h
        exact h.symm)
      have HC := hidOf (change_any kd hb B g c qs k l w2 hin.2 hin.1 (by omega) (HO.out.below hb2) (by have := H1.out.kept hb2; rw [HL.out]; exact this))
      have HG2 := hidOf (grownBy_trans HG.out (grownBy_of_below hb2 (some g)))
      clear hb2 hin
      go_wp2_with fail
      refine HC.out.mono ?_
      rintro e w3 ⟨rfl, o3, g3⟩
      have HG3 := hidOf (grownBy_trans HG2.out g3)
      have HLL := hidOf (lesser_any kd hb (some ⟨g, 0, none⟩) c (swp qs k l) l w3 (by rw [swp_len, HL.out, ← HN.out]; exact hn0) (by omega) (HF.out.swp _ _) o3.sts (by rw [swp_len, HL.out]; exact H.grown HG3.out hne))
      have HO3 := hidOf o3
      clear o3 g3
      go_wp2_with fail
      refine HLL.out.mono ?_
      rintro e w4 ⟨rfl, hb4⟩
      have HO4 := hidOf (HO3.out.below hb4)
      have HG4 := hidOf (grownBy_trans HG3.out (grownBy_of_below hb4 (some g)))
      clear hb4
      go_wp2
      go_roundw
      case rel => exact ⟨l, swp qs k l, rfl, by have := HN.out; omega, rfl, hidOf (by rw [swp_len]; exact HL.out), hidOf (HF.out.swp _ _), HD, HO4, HG4⟩
      case measure => simp [intOf]; have := HN.out; omega
end Go.Proofs.Ytghfpcjgionbaaa
/- What the heap's pop answers. -/
namespace Go.Proofs.Ytghfpcjgionbaaa
open Go.RowKit

/-- A block of another type lies apart. -/
theorem far_row {w : World} {B e s n b t : Nat} {v : Value} {xs : List Value} {cur : Array Value} {z : Nat × Nat} (h : w.ownsRow B e s v n xs) (hb : w.heap[b]? = some (.cells cur t z)) (hne : e ≠ t) : v.ownBlock = none ∨ v.ownBlock ≠ some b := by
  rcases h.2 with ⟨rfl, _⟩ | ⟨g, cap, cur, rfl, _, hg, _⟩
  · exact .inl rfl
  · right
    intro e
    have e' : g = b := by injection e
    subst e'
    rw [hg] at hb
    cases hb
    exact hne rfl
/-- 'clear' of one state. -/
theorem run_clear1 (w : World) (b o c ty : Nat) (hc0 : (w.cell? ⟨b, o, none⟩).isSome = true) (hc1 : (w.cell? ⟨b, o + 1, none⟩).isSome = true) (f0 : w.frozen? ⟨b, o, none⟩ = false) (f1 : w.frozen? ⟨b, o + 1, none⟩ = false) :
    (Builtin.clear_ #[74] ty #[.slice (some ⟨b, o, none⟩) 1 c]).run Try.prog w = .ok (.tuple #[]) ((w.setCell ⟨b, o, none⟩ (.slice none 0 0)).setCell ⟨b, o + 1, none⟩ (.int .i64 0)) := by
  obtain ⟨i0, hi, hz0, hz1, hz2⟩ := info_parts infoSt.2
  have hv : ∀ w : World, (zeroValue 73).run Try.prog w = .ok (.agg #[.slice none 0 0, .int .i64 0]) w := fun w => by
    simp [zeroValue, typeInfo, hi, hz0]
  have hst := run_storeCells_cells (P := Try.prog) b o [.slice none 0 0, .int .i64 0] 0 w (fun j hj => by
    match j, hj with
    | 0, _ => simpa using hc0
    | 1, _ => simpa using hc1) (fun j hj => by
    match j, hj with
    | 0, _ => simpa using f0
    | 1, _ => simpa using f1) (by intro v hv; simp at hv; rcases hv with rfl | rfl <;> rfl)
  simp only [Nat.add_zero] at hst
  have hzc : (Builtin.zeroCells (Value.agg #[.slice none 0 0, .int .i64 0]).cells 1).toList = [.slice none 0 0, .int .i64 0] := by first | kernel_rfl | (simp [Builtin.zeroCells, Value.cells, Array.range, List.range, List.range.loop])
  simp [Builtin.clear_, run_underlying Try.underlying74, hv, hzc, hst, World.setCells]
/-- The list without its last. -/
theorem row_less {w : World} {B g c e s n m : Nat} {xs : List Value} (h : w.ownsRow B e s (.slice (some ⟨g, 0, none⟩) n c) n xs) (hm : m ≤ n) : w.ownsRow B e s (.slice (some ⟨g, 0, none⟩) m c) m (xs.take (m * s)) := by
  have hms : m * s ≤ n * s := Nat.mul_le_mul_right s hm
  rcases h.2 with ⟨h', _⟩ | ⟨g', cap', cur, h', hb, hg, hnc, hcm, hcs, htake⟩
  · simp at h'
  · simp only [Value.slice.injEq, Option.some.injEq, Addr.mk.injEq, and_true, true_and] at h'
    obtain ⟨rfl, rfl⟩ := h'
    refine ⟨by rw [List.length_take, h.1]; omega, .inr ⟨g, c, cur, rfl, hb, hg, Nat.le_trans hm hnc, hcm, hcs, ?_⟩⟩
    rw [← htake, List.take_take]
    congr 1
    omega
theorem rowVals_take : ∀ (ps : List Sp) (m : Nat), (rowVals spCells ps).take (m * 2) = rowVals spCells (ps.take m)
  | ps, 0 => by simp [rowVals]
  | [], m + 1 => by simp [rowVals]
  | p :: ps, m + 1 => by
    show (spCells p ++ rowVals spCells ps).take ((m + 1) * 2) = spCells p ++ rowVals spCells (ps.take m)
    rw [← rowVals_take ps m, show (m + 1) * 2 = m * 2 + 2 by omega]
    rfl
/-- The last one in the first's place, its own place cleared, the list shorter by one. -/
theorem Own.cut {w w3 : World} {B g c : Nat} {ps : List Sp} {y : Sp} {m : Nat} (h : Own w B (some ⟨g, 0, none⟩) c ps) (hm : ps.length = m + 1) (hy : ps[m]? = some y)
    (hr : w3.ownsRow B 73 2 (.slice (some ⟨g, 0, none⟩) (ps.set 0 y).length c) (ps.set 0 y).length (rowVals spCells (ps.set 0 y))) (hg3 : w.grownBy w3 (some g)) :
    Own ((w3.setCell ⟨g, m * 2, none⟩ (.slice none 0 0)).setCell ⟨g, m * 2 + 1, none⟩ (.int .i64 0)) B (some ⟨g, 0, none⟩) c (cutL ps) ∧ w.grownBy ((w3.setCell ⟨g, m * 2, none⟩ (.slice none 0 0)).setCell ⟨g, m * 2 + 1, none⟩ (.int .i64 0)) (some g) := by
  have s0 := hr.stored (m * 2) (.slice none 0 0)
  have s1 := s0.1.stored (m * 2 + 1) (.int .i64 0)
  have hg := grownBy_trans hg3 (grownBy_trans s0.2 s1.2)
  have hcut : cutL ps = (ps.set 0 y).take m := by rw [cutL_of (y := y) (by rw [hm]; exact hy), hm]; rfl
  have hlc : (cutL ps).length = m := by rw [cutL_len, hm]; rfl
  have hat : ∀ (i : Nat) (p : Sp), (cutL ps)[i]? = some p → ∃ j, ps[j]? = some p ∧ (j = if i = 0 then m else i) ∧ i < m := by
    intro i p hp
    have hi := (List.getElem?_eq_some_iff.1 hp).1
    rw [hlc] at hi
    rw [hcut, List.getElem?_take, if_pos hi] at hp
    by_cases e : i = 0
    · subst e
      rw [List.getElem?_set_self (by omega)] at hp
      cases hp
      exact ⟨m, hy, by simp, hi⟩
    · rw [List.getElem?_set_ne (by omega)] at hp
      exact ⟨i, hp, by simp [e], hi⟩
  refine ⟨⟨?_, ?_, ?_⟩, hg⟩
  · have r2 := row_less s1.1 (show m ≤ (ps.set 0 y).length by simp; omega)
    rw [hlc, hcut, ← rowVals_take]
    rw [List.take_set_of_le (by omega), List.take_set_of_le (by omega)] at r2
    exact r2
  · intro p hp
    obtain ⟨i, hi⟩ := List.mem_iff_getElem?.1 hp
    obtain ⟨j, hj, -, -⟩ := hat i p hi
    have hmem := List.mem_of_getElem? hj
    exact (h.each p hmem).kept hg (types_apart (h.each p hmem) h.row (by decide))
  · intro i j p q hij hp hq
    obtain ⟨k, hk, ek, him⟩ := hat i p hp
    obtain ⟨l, hl, el, hjm⟩ := hat j q hq
    refine h.apart k l p q ?_ hk hl
    subst ek el
    split <;> split <;> omega
/-- The last one in the first's place, the list shorter by one. -/
theorem Own.cut0 {w w3 : World} {B g c : Nat} {ps : List Sp} {y : Sp} {m : Nat} (h : Own w B (some ⟨g, 0, none⟩) c ps) (hm : ps.length = m + 1) (hy : ps[m]? = some y)
    (hr : w3.ownsRow B 73 2 (.slice (some ⟨g, 0, none⟩) (ps.set 0 y).length c) (ps.set 0 y).length (rowVals spCells (ps.set 0 y))) (hg3 : w.grownBy w3 (some g)) :
    Own w3 B (some ⟨g, 0, none⟩) c (cutL ps) := by
  have hg := hg3
  have hcut : cutL ps = (ps.set 0 y).take m := by rw [cutL_of (y := y) (by rw [hm]; exact hy), hm]; rfl
  have hlc : (cutL ps).length = m := by rw [cutL_len, hm]; rfl
  have hat : ∀ (i : Nat) (p : Sp), (cutL ps)[i]? = some p → ∃ j, ps[j]? = some p ∧ (j = if i = 0 then m else i) ∧ i < m := by
    intro i p hp
    have hi := (List.getElem?_eq_some_iff.1 hp).1
    rw [hlc] at hi
    rw [hcut, List.getElem?_take, if_pos hi] at hp
    by_cases e : i = 0
    · subst e
      rw [List.getElem?_set_self (by omega)] at hp
      cases hp
      exact ⟨m, hy, by simp, hi⟩
    · rw [List.getElem?_set_ne (by omega)] at hp
      exact ⟨i, hp, by simp [e], hi⟩
  refine ⟨?_, ?_, ?_⟩
  · have r2 := row_less hr (show m ≤ (ps.set 0 y).length by simp; omega)
    rw [hlc, hcut, ← rowVals_take]
    exact r2
  · intro p hp
    obtain ⟨i, hi⟩ := List.mem_iff_getElem?.1 hp
    obtain ⟨j, hj, -, -⟩ := hat i p hi
    have hmem := List.mem_of_getElem? hj
    exact (h.each p hmem).kept hg (types_apart (h.each p hmem) h.row (by decide))
  · intro i j p q hij hp hq
    obtain ⟨k, hk, ek, him⟩ := hat i p hp
    obtain ⟨l, hl, el, hjm⟩ := hat j q hq
    refine h.apart k l p q ?_ hk hl
    subst ek el
    split <;> split <;> omega
end Go.Proofs.Ytghfpcjgionbaaa
