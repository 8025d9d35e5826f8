/- All has stayed but a heap's row and the block that holds the heap. -/
import Derived.Test.YtgaejcljabhijaaKab
import Derived.Test.YtgaejcljabhijaaProg
import Derived.Deep.RegionLaw
import Derived.Laws.IdiomCopy
namespace Go.Proofs.Ytgaejcljabhijaa
open Go.RowKit

structure Gr2 (w w' : World) (row : Option Nat) (hb : Nat) : Prop where
  size : w.heap.size ≤ w'.heap.size
  block : ∀ k, k < w.heap.size → k ≠ hb → some k ≠ row → w'.heap[k]? = w.heap[k]?
section
variable {w w' w1 w2 : World} {row : Option Nat} {hb g : Nat}
theorem Gr2.ofG (h : w.grownBy w' row) (hb : Nat) : Gr2 w w' row hb := ⟨h.size, fun k hk _ hr => h.block k hk hr⟩
theorem Gr2.ofB (h : Below w.heap.size w w') (row : Option Nat) (hb : Nat) : Gr2 w w' row hb := ⟨h.size, fun k hk _ _ => h.block k hk⟩
theorem Gr2.trans (h1 : Gr2 w w1 row hb) (h2 : Gr2 w1 w2 row hb) : Gr2 w w2 row hb := ⟨Nat.le_trans h1.size h2.size, fun k hk hh hr => (h2.block k (Nat.lt_of_lt_of_le hk h1.size) hh hr).trans (h1.block k hk hh hr)⟩
theorem Gr2.setH (h : Gr2 w w1 row hb) (o : Nat) (v : Value) : Gr2 w (w1.setCell ⟨hb, o, none⟩ v) row hb := ⟨by simpa using h.size, fun k hk hh hr => (heap_setCell_other w1 ⟨hb, o, none⟩ k v hh).trans (h.block k hk hh hr)⟩
theorem Gr2.setN (h : Gr2 w w1 row hb) {b : Nat} (hn : w.heap.size ≤ b) (o : Nat) (v : Value) : Gr2 w (w1.setCell ⟨b, o, none⟩ v) row hb := ⟨by simpa using h.size, fun k hk hh hr => (heap_setCell_other w1 ⟨b, o, none⟩ k v (by show k ≠ b; omega)).trans (h.block k hk hh hr)⟩
theorem Gr2.atG (h : Gr2 w w1 row hb) (h2 : w1.grownBy w2 (some g)) (hg : row = some g ∨ w.heap.size ≤ g) : Gr2 w w2 row hb := ⟨Nat.le_trans h.size h2.size, fun k hk hh hr => (h2.block k (Nat.lt_of_lt_of_le hk h.size) (fun e => by
    rcases hg with hg | hg
    · exact hr (e.trans hg.symm)
    · have := Option.some.inj e
      omega)).trans (h.block k hk hh hr)⟩
/-- A later step that leaves what the earlier one may not have left. -/
theorem Gr2.then (h1 : Gr2 w w1 row hb) {row' : Option Nat} (h2 : Gr2 w1 w2 row' hb) (hr : ∀ g, row' = some g → row = some g ∨ w.heap.size ≤ g) : Gr2 w w2 row hb := ⟨Nat.le_trans h1.size h2.size, fun k hk hh hn => (h2.block k (Nat.lt_of_lt_of_le hk h1.size) hh (fun e => by
    rcases hr k e.symm with h | h
    · exact hn h.symm
    · omega)).trans (h1.block k hk hh hn)⟩
theorem Gr2.own (h : Gr2 w w' row hb) {B e s n : Nat} {v : Value} {xs : List Value} (ho : w.ownsRow B e s v n xs) (h1 : v.ownBlock = none ∨ v.ownBlock ≠ row) (h2 : v.ownBlock = none ∨ v.ownBlock ≠ some hb) : w'.ownsRow B e s v n xs := by
  refine ⟨ho.1, ?_⟩
  rcases ho.2 with hn | ⟨g, cap, cur, rfl, hb', hgg, rest⟩
  · exact .inl hn
  · refine .inr ⟨g, cap, cur, rfl, hb', ?_, rest⟩
    rw [h.block g (Array.getElem?_eq_some_iff.1 hgg).1 (fun e => by subst e; simp [Value.ownBlock] at h2) (by simpa [Value.ownBlock] using h1)]
    exact hgg
end
end Go.Proofs.Ytgaejcljabhijaa
/- What the type of states is. -/
namespace Go.Proofs.Ytgaejcljabhijaa
open Go.RowKit

theorem infoSt : (Try.prog.info? 74).map (·.size) = some 2 ∧ (Try.prog.info? 74).map (fun i => (i.zero, i.size, i.bytes)) = some (some (.agg #[.slice none 0 0, .int .i64 0]), 2, 32) := ⟨by kernel_rfl, by kernel_rfl⟩
end Go.Proofs.Ytgaejcljabhijaa
/- What the heap's push answers. -/
namespace Go.Proofs.Ytgaejcljabhijaa
open Go.RowKit

set_option maxHeartbeats 8000000 in
theorem push_any (kd : HK) (hb B : Nat) (a : Option Addr) (c : Nat) (ps : List Sp) (x : Sp) (w : World) (hn0 : ps.length ≤ 1048576) (hF : Few ps) (hx : x.st.vals.length ≤ 1048576) (hO : Own w B a c ps) (ho : w.ownsRow B 3 1 (.slice x.a x.st.vals.length x.c) x.st.vals.length (intVals x.st.vals)) (hap : ∀ q ∈ ps, ∀ g, q.blk = some g → x.blk ≠ some g) (H : Hv kd w hb a ps.length c) (hBb : B ≤ hb) (hBw : B ≤ w.heap.size) :
    Calls Try.prog 109 #[.pointer (some ⟨hb, kd.o, none⟩), .agg #[.slice x.a x.st.vals.length x.c, .int .i64 x.st.sum]] w fun e w' => e = .returned (.tuple #[]) ∧ ∃ a' c', Own w' B a' c' (pushL spLess ps x) ∧ Hv kd w' hb a' (ps.length + 1) c' ∧ Below B w w' ∧ Gr2 w w' (Value.slice a ps.length c).ownBlock hb ∧ (∀ g, (Value.slice a' (ps.length + 1) c').ownBlock = some g → (Value.slice a ps.length c).ownBlock = some g ∨ w.heap.size ≤ g) := by
  go_enter Try.func109, Try.ntmps109
  go_upto_region 1 with fail
  obtain ⟨W, hW, X, hbx, SX⟩ := bx_new w x 74
  rw [← hW]
  have O1 := hO.below hbx
  have o1 := owns_below ho hbx
  have H1 := H.kept hbx
  have hBW : B ≤ W.heap.size := Nat.le_trans hBw hbx.size
  obtain ⟨hX, x0, x1⟩ := X
  obtain ⟨hl, c0, c1, f0⟩ := H1.all
  obtain ⟨i0, hi, hz0, hz1, hz2⟩ := info_parts infoSt.2
  have hal : ∀ (ob : Obj) (b k : Nat), b < W.heap.size → (W.alloc ob).cell? ⟨b, k, none⟩ = W.cell? ⟨b, k, none⟩ := fun ob b k h => ((Below.refl W.heap.size W).alloc (Nat.le_refl _) ob).cell (p := ⟨b, k, none⟩) h
  clear hW SX
  have hfar := H1.far O1.row kd.ns
  have hAD : ∀ ob : Obj, Below W.heap.size W (W.alloc ob).drew := fun ob => ((Below.refl _ _).alloc (Nat.le_refl _) _).drew
  go_region_law (refine step_append_own2 rfl _ _ 75 rfl B 74 i0 (.agg #[.slice none 0 0, .int .i64 0]) 2 32 Try.underlying75 hi hz0 hz1 hz2 rfl (by decide) _ _ _ rfl (O1.row.alloc _).drew ⟨W.heap.size, 0, none⟩ 1 1 (spCells x) rfl rfl (cells_sp_new W x _) (one_sp x) (by unfold maxLen; omega) (by omega) (by simp; omega) ?_; intro v' w3 hown3 hgrow3 hpl3; obtain ⟨a', c', rfl⟩ := owns_slice hown3; have H3 := (H1.kept (hAD _)).grownO hgrow3 hfar; have G3 := Gr2.ofG (grownBy_trans (grownBy_of_below (hbx.trans ((hAD _).mono hbx.size)) (Value.slice a ps.length c).ownBlock) hgrow3) hb; have P3 := hidOf hpl3; obtain ⟨hl3, d0, d1, e0⟩ := H3.all; have O3 := Own.append (O1.below (hAD _)) (owns_below o1 (hAD _)) hap hgrow3 hown3; have B3 := ((hbx.mono hBw).trans ((hAD _).mono hBW)).grown hgrow3 (Nat.le_trans hBW (hAD _).size) (fun k hk => (O1.row.lt k hk).1); clear hgrow3 hpl3)
  all_goals
    have hB3 : B ≤ w3.heap.size := Nat.le_trans hBw B3.size
    have hgs := grown_set w3 ⟨hb, kd.o, none⟩ (.slice a' (ps.length + 1) c')
    have O4 := O3.other hgs (H3.far O3.row kd.ns) (fun q hq => H3.far (O3.each q hq) kd.ni)
    have H4 := H3.set a' (ps.length + 1) c'
    have G4 : Gr2 w (w3.setCell ⟨hb, kd.o, none⟩ (.slice a' (ps.length + 1) c')) (Value.slice a ps.length c).ownBlock hb := G3.setH _ _
    have B4 : Below B w (w3.setCell ⟨hb, kd.o, none⟩ (.slice a' (ps.length + 1) c')) := B3.setCell hBb _
    obtain ⟨g, rfl⟩ := owns_at hown3 (by omega)
    clear hown3 d0 d1 e0 c0 c1 f0 x0 x1 hgs O3 H3
    obtain ⟨W4, hW4⟩ : ∃ W4, W4 = w3.setCell ⟨hb, kd.o, none⟩ (.slice (some ⟨g, 0, none⟩) (ps.length + 1) c') := ⟨_, rfl⟩
    rw [← hW4] at O4 H4 B4 G4
    rw [← hW4]
    clear hW4
    have hln : (ps ++ [x]).length = ps.length + 1 := by simp
    have HU := hidOf (goUp_any kd hb B g c' (ps ++ [x]) ps.length W4 (by omega) (by omega) (few_app hF hx) O4 (by rw [hln]; exact H4))
    obtain ⟨hl4, d0, d1, e0⟩ := H4.all
    clear hln
    go_wp2_with fail
    refine HU.out.mono ?_
    rintro e w5 ⟨rfl, o5, g5⟩
    go_wp2
    go_end0
    have hq : ∀ q, (Value.slice (some ⟨g, 0, none⟩) (ps.length + 1) c').ownBlock = some q → (Value.slice a ps.length c).ownBlock = some q ∨ w.heap.size ≤ q := fun q hq => (P3.out q hq).imp_right (fun h => Nat.le_trans (hbx.trans ((hAD _).mono hbx.size)).size h)
    exact ⟨rfl, _, c', o5, H4.grown g5 (H4.ne O4), B4.grown g5 (Nat.le_trans hBw B4.size) (fun k hk => by cases hk; exact (O4.row.lt g rfl).1), G4.atG g5 (hq g rfl), hq⟩
end Go.Proofs.Ytgaejcljabhijaa
/- How an item of the program's own heap goes down. -/
namespace Go.Proofs.Ytgaejcljabhijaa
open Go.RowKit

set_option maxHeartbeats 4000000 in
theorem lesser_any (kd : HK) (hb : Nat) (a : Option Addr) (c : Nat) (ps : List Sp) (i : Nat) (w : World) (hn0 : ps.length ≤ 1048577) (hi0 : i ≤ 2097152) (hF : Few ps) (hT : StsAt w a ps) (H : Hv kd w hb a ps.length c) :
    Calls Try.prog 135 #[.pointer (some ⟨hb, kd.o, none⟩), .int .i64 i] w fun e w' => e = .returned (.int .i64 (low spLess ps i)) ∧ Below w.heap.size w w' := by
  have hL := isLess_any kd hb a c ps (2 * i + 2) (2 * i + 1) w hn0 (by omega) (by omega) (by omega) hF hT H
  rw [show ((2 * i + 2 : Nat) : Int) = 2 * (i : Int) + 1 + 1 by omega, show ((2 * i + 1 : Nat) : Int) = 2 * (i : Int) + 1 by omega] at hL
  obtain ⟨b, hb2⟩ : ∃ b, b = ltAt spLess ps (2 * i + 2) (2 * i + 1) := ⟨_, rfl⟩
  have HE : Hid (((low spLess ps i : Nat) : Int) = if b = true then 2 * (i : Int) + 1 + 1 else 2 * (i : Int) + 1) := hidOf (by
    unfold low
    rw [← hb2]
    split <;> omega)
  rw [← hb2] at hL
  have HL := hidOf hL
  clear hL hb2 hT H
  go_enter Try.func135, Try.ntmps135
  go_wp2_with fail
  refine HL.out.mono ?_
  rintro e w1 ⟨rfl, hb1⟩
  cases b
  · go_wp2
    go_ret
    exact ⟨ret_int (by rw [HE.out]; rfl), hb1⟩
  · go_wp2
    go_ret
    exact ⟨ret_int (by rw [HE.out]; rfl), hb1⟩

set_option maxHeartbeats 4000000 in
theorem goDown_any (kd : HK) (hb B g c : Nat) (ps : List Sp) (i : Nat) (w : World) (hn0 : ps.length ≤ 1048577) (hi : i ≤ ps.length) (hF : Few ps) (hO : Own w B (some ⟨g, 0, none⟩) c ps) (H : Hv kd w hb (some ⟨g, 0, none⟩) ps.length c) :
    Calls Try.prog 124 #[.pointer (some ⟨hb, kd.o, none⟩), .int .i64 i] w fun e w' => e = .returned (.tuple #[]) ∧ Own w' B (some ⟨g, 0, none⟩) c (dn spLess ps i) ∧ w.grownBy w' (some g) := by
  have hne := H.ne hO
  have HL0 := hidOf (lesser_any kd hb (some ⟨g, 0, none⟩) c ps i w hn0 (by omega) hF hO.sts H)
  go_enter Try.func124, Try.ntmps124
  go_wp2_with fail
  refine HL0.out.mono ?_
  rintro e w0 ⟨rfl, hb0⟩
  clear HL0
  go_wp2
  go_loopw [1, 4] (fun v u wr => ∃ (k : Nat) (qs : List Sp), v = .int .i64 k ∧ k ≤ ps.length ∧ u = .int .i64 (low spLess qs k) ∧ Hid (qs.length = ps.length) ∧ Hid (Few qs) ∧ Hid (dn spLess qs k = dn spLess ps i) ∧ Hid (Own wr B (some ⟨g, 0, none⟩) c qs) ∧ Hid (w.grownBy wr (some g))) (fun v _ _ => ps.length - (intOf v).toNat)
  case atStart => exact ⟨i, ps, rfl, hi, rfl, hidOf rfl, hidOf hF, hidOf rfl, hidOf (hO.below hb0), hidOf (grownBy_of_below hb0 _)⟩
  case round =>
    obtain ⟨k, qs, rfl, hk, rfl, HL, HF, HU, HO, HG⟩ := hrel
    have H1 := hidOf (H.grown HG.out hne)
    have hL := HL.out
    obtain ⟨l, hl⟩ : ∃ l, l = low spLess qs k := ⟨_, rfl⟩
    have hlk : k < l := by rw [hl]; exact low_gt _ _
    have hl2 : l ≤ 2 * k + 2 := by rcases low_in (lt := spLess) qs k with h | h <;> omega
    have HI := hidOf (isLess_any kd hb (some ⟨g, 0, none⟩) c qs l k wr (by omega) (by omega) (by omega) (by omega) HF.out HO.out.sts (by rw [hL]; exact H1.out))
    obtain ⟨b, hb2⟩ : ∃ b, b = ltAt spLess qs l k := ⟨_, rfl⟩
    rw [← hb2] at HI
    have HB := hidOf hb2
    rw [← hl]
    have HLo := hidOf hl
    obtain ⟨n, hn⟩ : ∃ n, n = ps.length := ⟨_, rfl⟩
    rw [← hn] at hk hn0
    have HN := hidOf hn
    clear hb2 hn hL hl
    go_wp2_with fail
    refine HI.out.mono ?_
    rintro e w2 ⟨rfl, hb2⟩
    cases b
    · go_wp2
      go_end0
      rw [← HU.out, dn_no (by rw [← HLo.out, ← HB.out])]
      exact ⟨rfl, HO.out.below hb2, grownBy_trans HG.out (grownBy_of_below hb2 _)⟩
    · have hin := ltAt_in HB.out.symm
      have hlt : l < n := by have := HL.out; have := HN.out; omega
      have HD : Hid (dn spLess (swp qs k l) l = dn spLess ps i) := hidOf (by
        have h := dn_yes (lt := spLess) (xs := qs) (i := k) (by rw [← HLo.out, ← HB.out])
        rw [← HLo.out, HU.out] at h
        exact h.symm)
      have HC := hidOf (change_any kd hb B g c qs k l w2 hin.2 hin.1 (by omega) (HO.out.below hb2) (by have := H1.out.kept hb2; rw [HL.out]; exact this))
      have HG2 := hidOf (grownBy_trans HG.out (grownBy_of_below hb2 (some g)))
      clear hb2 hin
      go_wp2_with fail
      refine HC.out.mono ?_
      rintro e w3 ⟨rfl, o3, g3⟩
      have HG3 := hidOf (grownBy_trans HG2.out g3)
      have HLL := hidOf (lesser_any kd hb (some ⟨g, 0, none⟩) c (swp qs k l) l w3 (by rw [swp_len, HL.out, ← HN.out]; exact hn0) (by omega) (HF.out.swp _ _) o3.sts (by rw [swp_len, HL.out]; exact H.grown HG3.out hne))
      have HO3 := hidOf o3
      clear o3 g3
      go_wp2_with fail
      refine HLL.out.mono ?_
      rintro e w4 ⟨rfl, hb4⟩
      have HO4 := hidOf (HO3.out.below hb4)
      have HG4 := hidOf (grownBy_trans HG3.out (grownBy_of_below hb4 (some g)))
      clear hb4
      go_wp2
      go_roundw
      case rel => exact ⟨l, swp qs k l, rfl, by have := HN.out; omega, rfl, hidOf (by rw [swp_len]; exact HL.out), hidOf (HF.out.swp _ _), HD, HO4, HG4⟩
      case measure => simp [intOf]; have := HN.out; omega
end Go.Proofs.Ytgaejcljabhijaa
/- What the heap's pop answers. -/
namespace Go.Proofs.Ytgaejcljabhijaa
open Go.RowKit

/-- A block of another type lies apart. -/
theorem far_row {w : World} {B e s n b t : Nat} {v : Value} {xs : List Value} {cur : Array Value} {z : Nat × Nat} (h : w.ownsRow B e s v n xs) (hb : w.heap[b]? = some (.cells cur t z)) (hne : e ≠ t) : v.ownBlock = none ∨ v.ownBlock ≠ some b := by
  rcases h.2 with ⟨rfl, _⟩ | ⟨g, cap, cur, rfl, _, hg, _⟩
  · exact .inl rfl
  · right
    intro e
    have e' : g = b := by injection e
    subst e'
    rw [hg] at hb
    cases hb
    exact hne rfl
/-- 'clear' of one state. -/
theorem run_clear1 (w : World) (b o c ty : Nat) (hc0 : (w.cell? ⟨b, o, none⟩).isSome = true) (hc1 : (w.cell? ⟨b, o + 1, none⟩).isSome = true) (f0 : w.frozen? ⟨b, o, none⟩ = false) (f1 : w.frozen? ⟨b, o + 1, none⟩ = false) :
    (Builtin.clear_ #[75] ty #[.slice (some ⟨b, o, none⟩) 1 c]).run Try.prog w = .ok (.tuple #[]) ((w.setCell ⟨b, o, none⟩ (.slice none 0 0)).setCell ⟨b, o + 1, none⟩ (.int .i64 0)) := by
  obtain ⟨i0, hi, hz0, hz1, hz2⟩ := info_parts infoSt.2
  have hv : ∀ w : World, (zeroValue 74).run Try.prog w = .ok (.agg #[.slice none 0 0, .int .i64 0]) w := fun w => by
    simp [zeroValue, typeInfo, hi, hz0]
  have hst := run_storeCells_cells (P := Try.prog) b o [.slice none 0 0, .int .i64 0] 0 w (fun j hj => by
    match j, hj with
    | 0, _ => simpa using hc0
    | 1, _ => simpa using hc1) (fun j hj => by
    match j, hj with
    | 0, _ => simpa using f0
    | 1, _ => simpa using f1) (by intro v hv; simp at hv; rcases hv with rfl | rfl <;> rfl)
  simp only [Nat.add_zero] at hst
  have hzc : (Builtin.zeroCells (Value.agg #[.slice none 0 0, .int .i64 0]).cells 1).toList = [.slice none 0 0, .int .i64 0] := by first | kernel_rfl | (simp [Builtin.zeroCells, Value.cells, Array.range, List.range, List.range.loop])
  simp [Builtin.clear_, run_underlying Try.underlying75, hv, hzc, hst, World.setCells]
/-- The list without its last. -/
theorem row_less {w : World} {B g c e s n m : Nat} {xs : List Value} (h : w.ownsRow B e s (.slice (some ⟨g, 0, none⟩) n c) n xs) (hm : m ≤ n) : w.ownsRow B e s (.slice (some ⟨g, 0, none⟩) m c) m (xs.take (m * s)) := by
  have hms : m * s ≤ n * s := Nat.mul_le_mul_right s hm
  rcases h.2 with ⟨h', _⟩ | ⟨g', cap', cur, h', hb, hg, hnc, hcm, hcs, htake⟩
  · simp at h'
  · simp only [Value.slice.injEq, Option.some.injEq, Addr.mk.injEq, and_true, true_and] at h'
    obtain ⟨rfl, rfl⟩ := h'
    refine ⟨by rw [List.length_take, h.1]; omega, .inr ⟨g, c, cur, rfl, hb, hg, Nat.le_trans hm hnc, hcm, hcs, ?_⟩⟩
    rw [← htake, List.take_take]
    congr 1
    omega
theorem rowVals_take : ∀ (ps : List Sp) (m : Nat), (rowVals spCells ps).take (m * 2) = rowVals spCells (ps.take m)
  | ps, 0 => by simp [rowVals]
  | [], m + 1 => by simp [rowVals]
  | p :: ps, m + 1 => by
    show (spCells p ++ rowVals spCells ps).take ((m + 1) * 2) = spCells p ++ rowVals spCells (ps.take m)
    rw [← rowVals_take ps m, show (m + 1) * 2 = m * 2 + 2 by omega]
    rfl
/-- The last one in the first's place, its own place cleared, the list shorter by one. -/
theorem Own.cut {w w3 : World} {B g c : Nat} {ps : List Sp} {y : Sp} {m : Nat} (h : Own w B (some ⟨g, 0, none⟩) c ps) (hm : ps.length = m + 1) (hy : ps[m]? = some y)
    (hr : w3.ownsRow B 74 2 (.slice (some ⟨g, 0, none⟩) (ps.set 0 y).length c) (ps.set 0 y).length (rowVals spCells (ps.set 0 y))) (hg3 : w.grownBy w3 (some g)) :
    Own ((w3.setCell ⟨g, m * 2, none⟩ (.slice none 0 0)).setCell ⟨g, m * 2 + 1, none⟩ (.int .i64 0)) B (some ⟨g, 0, none⟩) c (cutL ps) ∧ w.grownBy ((w3.setCell ⟨g, m * 2, none⟩ (.slice none 0 0)).setCell ⟨g, m * 2 + 1, none⟩ (.int .i64 0)) (some g) := by
  have s0 := hr.stored (m * 2) (.slice none 0 0)
  have s1 := s0.1.stored (m * 2 + 1) (.int .i64 0)
  have hg := grownBy_trans hg3 (grownBy_trans s0.2 s1.2)
  have hcut : cutL ps = (ps.set 0 y).take m := by rw [cutL_of (y := y) (by rw [hm]; exact hy), hm]; rfl
  have hlc : (cutL ps).length = m := by rw [cutL_len, hm]; rfl
  have hat : ∀ (i : Nat) (p : Sp), (cutL ps)[i]? = some p → ∃ j, ps[j]? = some p ∧ (j = if i = 0 then m else i) ∧ i < m := by
    intro i p hp
    have hi := (List.getElem?_eq_some_iff.1 hp).1
    rw [hlc] at hi
    rw [hcut, List.getElem?_take, if_pos hi] at hp
    by_cases e : i = 0
    · subst e
      rw [List.getElem?_set_self (by omega)] at hp
      cases hp
      exact ⟨m, hy, by simp, hi⟩
    · rw [List.getElem?_set_ne (by omega)] at hp
      exact ⟨i, hp, by simp [e], hi⟩
  refine ⟨⟨?_, ?_, ?_⟩, hg⟩
  · have r2 := row_less s1.1 (show m ≤ (ps.set 0 y).length by simp; omega)
    rw [hlc, hcut, ← rowVals_take]
    rw [List.take_set_of_le (by omega), List.take_set_of_le (by omega)] at r2
    exact r2
  · intro p hp
    obtain ⟨i, hi⟩ := List.mem_iff_getElem?.1 hp
    obtain ⟨j, hj, -, -⟩ := hat i p hi
    have hmem := List.mem_of_getElem? hj
    exact (h.each p hmem).kept hg (types_apart (h.each p hmem) h.row (by decide))
  · intro i j p q hij hp hq
    obtain ⟨k, hk, ek, him⟩ := hat i p hp
    obtain ⟨l, hl, el, hjm⟩ := hat j q hq
    refine h.apart k l p q ?_ hk hl
    subst ek el
    split <;> split <;> omega
/-- The last one in the first's place, the list shorter by one. -/
theorem Own.cut0 {w w3 : World} {B g c : Nat} {ps : List Sp} {y : Sp} {m : Nat} (h : Own w B (some ⟨g, 0, none⟩) c ps) (hm : ps.length = m + 1) (hy : ps[m]? = some y)
    (hr : w3.ownsRow B 74 2 (.slice (some ⟨g, 0, none⟩) (ps.set 0 y).length c) (ps.set 0 y).length (rowVals spCells (ps.set 0 y))) (hg3 : w.grownBy w3 (some g)) :
    Own w3 B (some ⟨g, 0, none⟩) c (cutL ps) := by
  have hg := hg3
  have hcut : cutL ps = (ps.set 0 y).take m := by rw [cutL_of (y := y) (by rw [hm]; exact hy), hm]; rfl
  have hlc : (cutL ps).length = m := by rw [cutL_len, hm]; rfl
  have hat : ∀ (i : Nat) (p : Sp), (cutL ps)[i]? = some p → ∃ j, ps[j]? = some p ∧ (j = if i = 0 then m else i) ∧ i < m := by
    intro i p hp
    have hi := (List.getElem?_eq_some_iff.1 hp).1
    rw [hlc] at hi
    rw [hcut, List.getElem?_take, if_pos hi] at hp
    by_cases e : i = 0
    · subst e
      rw [List.getElem?_set_self (by omega)] at hp
      cases hp
      exact ⟨m, hy, by simp, hi⟩
    · rw [List.getElem?_set_ne (by omega)] at hp
      exact ⟨i, hp, by simp [e], hi⟩
  refine ⟨?_, ?_, ?_⟩
  · have r2 := row_less hr (show m ≤ (ps.set 0 y).length by simp; omega)
    rw [hlc, hcut, ← rowVals_take]
    exact r2
  · intro p hp
    obtain ⟨i, hi⟩ := List.mem_iff_getElem?.1 hp
    obtain ⟨j, hj, -, -⟩ := hat i p hi
    have hmem := List.mem_of_getElem? hj
    exact (h.each p hmem).kept hg (types_apart (h.each p hmem) h.row (by decide))
  · intro i j p q hij hp hq
    obtain ⟨k, hk, ek, him⟩ := hat i p hp
    obtain ⟨l, hl, el, hjm⟩ := hat j q hq
    refine h.apart k l p q ?_ hk hl
    subst ek el
    split <;> split <;> omega
end Go.Proofs.Ytgaejcljabhijaa
