/- What the laws' helpers on states of one's own do: markStateS and markState write their marks, heldStateS and heldState find them again. -/
import Derived.Test.YtokfemlcamnaaaaToSt
import Derived.Test.YtokfemlcamnaaaaMkInt
import Derived.Test.YtokfemlcamnaaaaUpI
namespace Go.Proofs.Ytokfemlcamnaaaa
open Go.RowKit

/-- All but the blocks between two places has stayed. -/
structure Mid (b e : Nat) (w w' : World) : Prop where
  os : w'.os = w.os
  tape : w'.tape = w.tape
  output : w'.output = w.output
  size : w.heap.size ≤ w'.heap.size
  block : ∀ k, k < w.heap.size → (k < b ∨ e ≤ k) → w'.heap[k]? = w.heap[k]?
theorem Mid.refl (b e : Nat) (w : World) : Mid b e w w := ⟨rfl, rfl, rfl, Nat.le_refl _, fun _ _ _ => rfl⟩
theorem Mid.trans {b e : Nat} {x y z : World} (h : Mid b e x y) (k : Mid b e y z) : Mid b e x z :=
  ⟨k.os.trans h.os, k.tape.trans h.tape, k.output.trans h.output, Nat.le_trans h.size k.size, fun i hi hk => (k.block i (Nat.lt_of_lt_of_le hi h.size) hk).trans (h.block i hi hk)⟩
theorem mid_grown {b e : Nat} {w w' : World} {row : Option Nat} (h : w.grownBy w' row) (hr : ∀ g, row = some g → b ≤ g ∧ g < e) : Mid b e w w' :=
  ⟨h.os, h.tape, h.output, h.size, fun k hk hh => h.block k hk (fun e => by have := hr k e.symm; omega)⟩
theorem mid_below {b e : Nat} {w w' : World} (h : Below w.heap.size w w') : Mid b e w w' := ⟨h.os, h.tape, h.output, h.size, fun k hk _ => h.block k hk⟩
theorem below_mid {b e : Nat} {w w' : World} (h : Mid b e w w') (B : Nat) (hB : B ≤ b) (hw : B ≤ w.heap.size) : Below B w w' := ⟨h.os, h.tape, h.output, h.size, fun k hk => h.block k (by omega) (.inl (by omega))⟩
theorem own_mid {b e : Nat} {w w' : World} {B t s n : Nat} {v : Value} {xs : List Value} (h : w.ownsRow B t s v n xs) (hm : Mid b e w w') (hf : ∀ g, v.ownBlock = some g → g < b ∨ e ≤ g) : w'.ownsRow B t s v n xs := by
  refine ⟨h.1, ?_⟩
  rcases h.2 with h0 | ⟨g, cap, cur, h1, h2, h3, h4⟩
  · exact .inl h0
  · refine .inr ⟨g, cap, cur, h1, h2, ?_, h4⟩
    rw [hm.block g (Array.getElem?_eq_some_iff.1 h3).1 (hf g (by rw [h1]; rfl))]
    exact h3
/-- What was there ahead of it, and what came behind it. -/
theorem Own.mid_old {b e : Nat} {w1 w w' : World} {B : Nat} {a : Option Addr} {c : Nat} {ps : List Sp} (h1 : Own w1 B a c ps) (hb : w1.heap.size ≤ b) (h : Own w B a c ps) (hm : Mid b e w w') : Own w' B a c ps :=
  ⟨own_mid h.row hm (fun g hg => .inl (Nat.lt_of_lt_of_le (h1.row.lt g hg).2 hb)), fun p hp => own_mid (h.each p hp) hm (fun g hg => .inl (Nat.lt_of_lt_of_le ((h1.each p hp).lt g hg).2 hb)), h.apart⟩
theorem Own.mid_new {b e : Nat} {w w' : World} {B : Nat} {a : Option Addr} {c : Nat} {ps : List Sp} (h : Own w B a c ps) (hm : Mid b e w w') (hB : e ≤ B) : Own w' B a c ps :=
  ⟨own_mid h.row hm (fun g hg => .inr (Nat.le_trans hB (h.row.lt g hg).1)), fun p hp => own_mid (h.each p hp) hm (fun g hg => .inr (Nat.le_trans hB ((h.each p hp).lt g hg).1)), h.apart⟩

theorem Bx.mid {b e : Nat} {w w' : World} {k : Nat} {p : Sp} (h : Bx w k p) (hm : Mid b e w w') (hk : k < b ∨ e ≤ k) : Bx w' k p :=
  ⟨Nat.lt_of_lt_of_le h.lt hm.size, by rw [World.cell?_of_block (hm.block k h.lt hk)]; exact h.c0, by rw [World.cell?_of_block (hm.block k h.lt hk)]; exact h.c1⟩

/-- A state with the marks from k on. -/
def mk1 (k : Nat) (p : Sp) : Sp := ⟨⟨marksI k p.st.vals.length, (k : Int) + (p.st.vals.length : Int)⟩, p.a, p.c⟩
theorem mk1_len (k : Nat) (p : Sp) : (mk1 k p).st.vals.length = p.st.vals.length := marksI_len _ _
/-- The first j states have their marks, from k on. -/
def MkTo (k : Nat) (ps qs : List Sp) (j : Nat) : Prop :=
  qs.length = ps.length ∧ ∀ (i : Nat) (p : Sp), ps[i]? = some p → (i < j → qs[i]? = some (mk1 (k + wt ((ps.take i).map Sp.st) + i) p)) ∧ (j ≤ i → qs[i]? = some p)
theorem MkTo.step {k : Nat} {ps qs : List Sp} {j : Nat} {p : Sp} (h : MkTo k ps qs j) (hp : ps[j]? = some p) : MkTo k ps (qs.set j (mk1 (k + wt ((ps.take j).map Sp.st) + j) p)) (j + 1) := by
  have hj := (List.getElem?_eq_some_iff.1 hp).1
  refine ⟨by rw [List.length_set]; exact h.1, fun i q hq => ⟨fun hi => ?_, fun hi => ?_⟩⟩
  · by_cases e : i = j
    · subst e
      rw [hp] at hq
      cases hq
      rw [List.getElem?_set_self (by rw [h.1]; exact hj)]
    · rw [List.getElem?_set_ne (by omega)]
      exact (h.2 i q hq).1 (by omega)
  · rw [List.getElem?_set_ne (by omega)]
    exact (h.2 i q hq).2 (by omega)
theorem rowVals_set1 : ∀ (ps : List Sp) (k : Nat) (x y : Sp), ps[k]? = some x → y.a = x.a → y.c = x.c → y.st.vals.length = x.st.vals.length → (rowVals spCells ps).set (k * 2 + 1) (.int .i64 y.st.sum) = rowVals spCells (ps.set k y)
  | [], k, x, y, h, _, _, _ => by simp at h
  | p :: ps, 0, x, y, h, h1, h2, h3 => by
    have e : p = x := by simpa using h
    subst e
    show (spCells p ++ rowVals spCells ps).set 1 _ = spCells y ++ rowVals spCells ps
    unfold spCells
    rw [h1, h2, h3]
    rfl
  | p :: ps, k + 1, x, y, h, h1, h2, h3 => by
    have ih := rowVals_set1 ps k x y (by simpa using h) h1 h2 h3
    show (spCells p ++ rowVals spCells ps).set ((k + 1) * 2 + 1) _ = spCells p ++ rowVals spCells (ps.set k y)
    rw [← ih, show (k + 1) * 2 + 1 = k * 2 + 1 + 2 by omega]
    rfl
/-- The marks of one state are written. -/
theorem Own.mark {w w2 : World} {B g c : Nat} {qs : List Sp} {j : Nat} {p : Sp} (k : Nat) (h : Own w B (some ⟨g, 0, none⟩) c qs) (hp : qs[j]? = some p)
    (ho : w2.ownsRow B 3 1 (.slice p.a p.st.vals.length p.c) p.st.vals.length (intVals (marksI k p.st.vals.length))) (hg : w.grownBy w2 p.blk) :
    Own (w2.setCell ⟨g, j * 2 + 1, none⟩ (.int .i64 ((k : Int) + (p.st.vals.length : Int)))) B (some ⟨g, 0, none⟩) c (qs.set j (mk1 k p)) ∧ w2.grownBy (w2.setCell ⟨g, j * 2 + 1, none⟩ (.int .i64 ((k : Int) + (p.st.vals.length : Int)))) (some g) := by
  have hj := (List.getElem?_eq_some_iff.1 hp).1
  have hmp := List.mem_of_getElem? hp
  have hrow := h.row.kept hg (by
    rcases types_apart h.row (h.each p hmp) (by decide) with h1 | h1
    · exact .inl h1
    · exact .inr h1)
  have s := hrow.stored (j * 2 + 1) (.int .i64 ((k : Int) + (p.st.vals.length : Int)))
  refine ⟨⟨?_, ?_, ?_⟩, s.2⟩
  · rw [List.length_set, ← rowVals_set1 qs j p (mk1 k p) hp rfl rfl (mk1_len k p)]
    exact s.1
  · intro q hq
    rcases List.mem_iff_getElem?.1 hq with ⟨i, hi⟩
    by_cases e : i = j
    · subst e
      rw [List.getElem?_set_self hj] at hi
      cases hi
      rw [mk1_len]
      exact ho.kept s.2 (types_apart ho hrow (by decide))
    · rw [List.getElem?_set_ne (by omega)] at hi
      have hmq := List.mem_of_getElem? hi
      have h2 := (h.each q hmq).kept hg (by
        cases hv : q.blk with
        | none => exact .inl hv
        | some b =>
          right
          intro e2
          have e3 : p.blk = some b := by rw [← hv]; exact e2.symm
          exact h.apart i j q p e hi hp b hv e3)
      exact h2.kept s.2 (types_apart h2 hrow (by decide))
  · intro i l x y hil hx hy b hb
    have hbx : ∀ (m : Nat) (z : Sp), (qs.set j (mk1 k p))[m]? = some z → ∃ z', qs[m]? = some z' ∧ z'.blk = z.blk := by
      intro m z hz
      by_cases e : m = j
      · subst e
        rw [List.getElem?_set_self hj] at hz
        cases hz
        refine ⟨p, hp, ?_⟩
        unfold Sp.blk
        rw [mk1_len]
        rfl
      · rw [List.getElem?_set_ne (by omega)] at hz
        exact ⟨z, hz, rfl⟩
    obtain ⟨x', hx', ex⟩ := hbx i x hx
    obtain ⟨y', hy', ey⟩ := hbx l y hy
    rw [← ex] at hb
    rw [← ey]
    exact h.apart i l x' y' hil hx' hy' b hb

set_option maxHeartbeats 4000000 in
theorem markStates_only (a : Option Addr) (B c k : Nat) (ps : List Sp) (w0 w : World) (hk : k + wt (ps.map Sp.st) + ps.length ≤ 4194304) (h1 : Own w0 B a c ps) (hO : Own w B a c ps) (hF : Few ps) :
    Calls Try.prog 69 #[.slice a ps.length c, .int .i64 k] w fun e w' => e = .returned (.int .i64 ((k + wt (ps.map Sp.st) + ps.length : Nat) : Int)) ∧ (∃ qs, MkTo k ps qs ps.length ∧ Own w' B a c qs) ∧ Mid B w0.heap.size w w' ∧ (∀ k, k < w.heap.size → (Value.slice a ps.length c).ownBlock ≠ some k → (∀ p ∈ ps, p.blk ≠ some k) → w'.heap[k]? = w.heap[k]?) := by
  obtain ⟨n, hn⟩ : ∃ n, n = ps.length := ⟨_, rfl⟩
  by_cases h0 : ps.length = 0
  · have hp : ps = [] := List.eq_nil_of_length_eq_zero h0
    subst hp
    clear h0 hn
    have HO := hidOf hO
    have hk0 : k ≤ 4194304 := by omega
    clear hO h1
    show Calls _ _ #[.slice a 0 c, _] _ _
    go_enter Try.func69, Try.ntmps69
    go_wp2
    go_loop [1, 5] (fun q i => i = .int .i64 0 ∧ q = .int .i64 k) (fun _ _ => 0)
    case atStart => exact ⟨rfl, rfl⟩
    case round =>
      obtain ⟨rfl, rfl⟩ := hrel
      go_wp2
      go_ret
      exact ⟨ret_int (by simp [wt]), ⟨[], ⟨rfl, fun i p hp => by simp at hp⟩, HO.out⟩, Mid.refl _ _ _, by intros; rfl⟩
  · obtain ⟨g, rfl⟩ := owns_at hO.row (by omega)
    have hgB := h1.row.lt g rfl
    have hn0 : n ≤ 4194304 := by omega
    have HN := hidOf hn
    rw [← hn] at hk ⊢
    clear hn h0
    go_enter Try.func69, Try.ntmps69
    go_wp2
    go_loopw [1, 5] (fun v i wr => ∃ (j z : Nat) (qs : List Sp), j ≤ n ∧ i = .int .i64 j ∧ v = .int .i64 z ∧ z ≤ 4194304 ∧ Hid (z = k + wt ((ps.take j).map Sp.st) + j) ∧ Hid (MkTo k ps qs j) ∧ Hid (Own wr B (some ⟨g, 0, none⟩) c qs) ∧ Hid (Mid B w0.heap.size w wr) ∧ Hid (∀ k, k < w.heap.size → g ≠ k → (∀ p ∈ ps, p.blk ≠ some k) → wr.heap[k]? = w.heap[k]?)) (fun _ i _ => n - (intOf i).toNat)
    case atStart => exact ⟨0, k, ps, Nat.zero_le _, rfl, rfl, by omega, hidOf (by simp [wt]), hidOf ⟨rfl, fun i p hp => ⟨fun h => absurd h (Nat.not_lt_zero _), fun _ => hp⟩⟩, hidOf hO, hidOf (Mid.refl _ _ _), hidOf (fun _ _ _ _ => rfl)⟩
    case round =>
      obtain ⟨j, z, qs, hj, rfl, rfl, hz, HZ, HM, HO, HD, HY⟩ := hrel
      by_cases hlt : j < n
      · have hA : (0 : Int) ≤ (j : Int) := by omega
        have hB : (j : Int) < (n : Int) := by omega
        obtain ⟨p, ex⟩ : ∃ p, ps[j]? = some p := ⟨_, List.getElem?_eq_getElem (by rw [← HN.out]; exact hlt)⟩
        have eq := (HM.out.2 j p ex).2 (Nat.le_refl _)
        obtain ⟨p0, p1, f0, f1⟩ := HO.out.at eq
        have Fp := hF p (List.mem_of_getElem? ex)
        have HP := hidOf (HO.out.each p (List.mem_of_getElem? eq))
        have Hwt := hidOf (wt_take ex)
        have Hle : Hid (wt ((ps.take (j + 1)).map Sp.st) ≤ wt (ps.map Sp.st)) := hidOf (by
          have e := wt_app ((ps.take (j + 1)).map Sp.st) ((ps.drop (j + 1)).map Sp.st)
          rw [← List.map_append, List.take_append_drop] at e
          omega)
        have EX := hidOf ex
        have EQ := hidOf eq
        have hHP := (h1.each p (List.mem_of_getElem? ex)).lt
        have HPL := hidOf hHP
        clear ex eq hHP
        go_wp2_with fail
        refine (markInts_any p.a B p.st.vals.length p.c z _ wr Fp (by omega) HP.out).mono ?_
        rintro e w2 ⟨rfl, o2, g2⟩
        have HS := hidOf (Own.mark z HO.out EQ.out o2 g2)
        have HMS := hidOf (HM.out.step EX.out)
        have hg2 := hidOf (HD.out.trans ((mid_grown g2 (fun b hb => HPL.out b hb)).trans (mid_grown HS.out.2 (fun b hb => by cases hb; exact hgB))))
        have hY2 := hidOf (show ∀ k, k < w.heap.size → g ≠ k → (∀ p ∈ ps, p.blk ≠ some k) → (w2.setCell ⟨g, j * 2 + 1, none⟩ (.int .i64 ((z : Int) + (p.st.vals.length : Int)))).heap[k]? = w.heap[k]? from fun k hk h3 h4 => by
          have hkw := Nat.lt_of_lt_of_le hk HD.out.size
          rw [HS.out.2.block k (Nat.lt_of_lt_of_le hkw g2.size) (fun e => h3 (by injection e with e; exact e.symm)), g2.block k hkw (fun e => h4 p (List.mem_of_getElem? EX.out) e.symm), HY.out k hk h3 h4])
        have o3 := HO.out.row.kept g2 (by
          rcases types_apart HO.out.row HP.out (by decide) with h | h
          · exact .inl h
          · exact .inr h)
        obtain ⟨u, hu⟩ : ∃ u, w2.cell? ⟨g, j * 2 + 1, none⟩ = some u := ⟨_, (o3.cellAt (j * 2 + 1) (by have := HM.out.1; have := HN.out; omega)).trans (List.getElem?_eq_getElem (by rw [rowVals_len spCells_len]; have := HM.out.1; have := HN.out; omega))⟩
        have fz := o3.frozenAt (j * 2 + 1)
        have hzl : z + p.st.vals.length + 1 ≤ 4194304 := by
          have := HZ.out
          have := Hwt.out
          have := Hle.out
          omega
        clear o3 p0 p1 f0 f1 o2 g2
        go_wp2
        refine ⟨⟨j + 1, z + p.st.vals.length + 1, qs.set j (mk1 z p), by omega, by go_num, ?_, hzl, hidOf ?_, hidOf ?_, hidOf HS.out.1, hg2, hY2⟩, ?_⟩
        · exact congrArg (Value.int .i64) (by omega)
        · have := HZ.out
          have := Hwt.out
          omega
        · have h3 := HMS.out
          rw [← HZ.out] at h3
          exact h3
        · simp only [intOf]
          omega
      · have hjn : j = n := by omega
        have HJ := hidOf hjn
        clear hjn
        go_wp2
        go_ret
        have h2 := HJ.out
        have h3 := HN.out
        have h4 := HZ.out
        rw [List.take_of_length_le (by omega)] at h4
        refine ⟨ret_int (by omega), ⟨qs, ?_, HO.out⟩, HD.out, fun k hk h5 h6 => HY.out k hk (fun e => h5 (by rw [e]; rfl)) h6⟩
        rw [← h2]
        exact HM.out

theorem markStates_any (a : Option Addr) (B c k : Nat) (ps : List Sp) (w0 w : World) (hk : k + wt (ps.map Sp.st) + ps.length ≤ 4194304) (h1 : Own w0 B a c ps) (hO : Own w B a c ps) (hF : Few ps) :
    Calls Try.prog 69 #[.slice a ps.length c, .int .i64 k] w fun e w' => e = .returned (.int .i64 ((k + wt (ps.map Sp.st) + ps.length : Nat) : Int)) ∧ (∃ qs, MkTo k ps qs ps.length ∧ Own w' B a c qs) ∧ Mid B w0.heap.size w w' :=
  (markStates_only a B c k ps w0 w hk h1 hO hF).mono fun _ _ h => ⟨h.1, h.2.1, h.2.2.1⟩
theorem mkTo_blk {k : Nat} {ps qs : List Sp} (h : MkTo k ps qs ps.length) {q : Sp} (hq : q ∈ qs) : ∃ p ∈ ps, q.blk = p.blk := by
  obtain ⟨i, hi⟩ := List.mem_iff_getElem?.1 hq
  have hl := (List.getElem?_eq_some_iff.1 hi).1
  rw [h.1] at hl
  have hp : ps[i]? = some ps[i] := List.getElem?_eq_getElem hl
  have h2 := (h.2 i _ hp).1 hl
  rw [hi] at h2
  cases h2
  refine ⟨ps[i], List.mem_of_getElem? hp, ?_⟩
  unfold Sp.blk
  rw [mk1_len]
  rfl

set_option maxHeartbeats 4000000 in
theorem heldStates_any (a : Option Addr) (B c k : Nat) (ps qs : List Sp) (w : World) (hk : k + wt (ps.map Sp.st) + ps.length ≤ 4194304) (hF : Few ps) (hM : MkTo k ps qs ps.length) (hO : Own w B a c qs) :
    Calls Try.prog 71 #[.slice a ps.length c, .int .i64 k] w fun e w' => e = .returned (.int .i64 ((k + wt (ps.map Sp.st) + ps.length : Nat) : Int)) ∧ Below w.heap.size w w' := by
  obtain ⟨n, hn⟩ : ∃ n, n = ps.length := ⟨_, rfl⟩
  have hT := hO.sts.1
  unfold RowsAt at hT
  rw [hM.1, ← hn] at hT
  have hn0 : n ≤ 4194304 := by omega
  have HN := hidOf hn
  rw [← hn] at hk ⊢
  have HM := hidOf hM
  have HO := hidOf hO
  clear hn hM hO
  go_enter Try.func71, Try.ntmps71
  go_wp2
  go_loopw [1, 5] (fun v i wr => ∃ (j z : Nat), j ≤ n ∧ i = .int .i64 j ∧ v = .int .i64 z ∧ z ≤ 4194304 ∧ Hid (z = k + wt ((ps.take j).map Sp.st) + j) ∧ Below w.heap.size w wr) (fun _ i _ => n - (intOf i).toNat)
  case atStart => exact ⟨0, k, Nat.zero_le _, rfl, rfl, by omega, hidOf (by simp [wt]), Below.refl _ _⟩
  case round =>
    obtain ⟨j, z, hj, rfl, rfl, hz, HZ, hb⟩ := hrel
    by_cases hlt : j < n
    · have hA : (0 : Int) ≤ (j : Int) := by omega
      have hB : (j : Int) < (n : Int) := by omega
      obtain ⟨p, ex⟩ : ∃ p, ps[j]? = some p := ⟨_, List.getElem?_eq_getElem (by rw [← HN.out]; exact hlt)⟩
      have eq := (HM.out.2 j p ex).1 (by rw [← HN.out]; exact hlt)
      rw [← HZ.out] at eq
      obtain ⟨b1, o1, rfl, hb1, hc1⟩ := hT (by omega)
      obtain ⟨p0, p1⟩ := sp2 (w := wr) (b := b1) (o := o1 + j * 2) (p := mk1 z p) (fun m hm => by rw [hb.cell hb1]; exact hc1 j _ eq m hm)
      have Fp := hF p (List.mem_of_getElem? ex)
      have HP := hidOf (owns_below (HO.out.each _ (List.mem_of_getElem? eq)) hb)
      have Hwt := hidOf (wt_take ex)
      have Hle : Hid (wt ((ps.take (j + 1)).map Sp.st) ≤ wt (ps.map Sp.st)) := hidOf (by
        have e := wt_app ((ps.take (j + 1)).map Sp.st) ((ps.drop (j + 1)).map Sp.st)
        rw [← List.map_append, List.take_append_drop] at e
        omega)
      rw [mk1_len] at p0 HP
      have hzl : z + p.st.vals.length + 1 ≤ 4194304 := by
        have := HZ.out
        have := Hwt.out
        have := Hle.out
        omega
      have e0 : (mk1 z p).a = p.a := rfl
      have e1 : (mk1 z p).c = p.c := rfl
      have e2 : (mk1 z p).st.sum = (z : Int) + (p.st.vals.length : Int) := rfl
      have e3 : (mk1 z p).st.vals = marksI z p.st.vals.length := rfl
      rw [e0, e1] at p0 HP
      rw [e2] at p1
      rw [e3] at HP
      clear ex eq hc1 hT e0 e1 e2 e3
      have hne : (((z : Int) + (p.st.vals.length : Int)) != ((z : Int) + (p.st.vals.length : Int))) = false := by simp
      go_wp2_with fail
      refine (heldInts_any p.a B p.st.vals.length p.c z _ Fp (by omega) HP.out).mono ?_
      rintro e w2 ⟨rfl, hb2⟩
      have q1 := (hb2.cell (p := ⟨b1, o1 + j * 2 + 1, none⟩) (Nat.lt_of_lt_of_le hb1 hb.size)).trans p1
      have B2 := hidOf (hb.trans (hb2.mono hb.size))
      clear p0 p1 hb2
      go_wp2
      refine ⟨⟨j + 1, z + p.st.vals.length + 1, by omega, by go_num, ?_, hzl, hidOf ?_, B2.out⟩, ?_⟩
      · exact congrArg (Value.int .i64) (by omega)
      · have := HZ.out
        have := Hwt.out
        omega
      · simp only [intOf]
        omega
    · have hjn : j = n := by omega
      have HJ := hidOf hjn
      clear hjn
      go_wp2
      go_ret
      have h2 := HJ.out
      have h3 := HN.out
      have h4 := HZ.out
      rw [List.take_of_length_le (by omega)] at h4
      exact ⟨ret_int (by omega), hb⟩

set_option maxHeartbeats 1600000 in
theorem markState_any (p : Sp) (B k : Nat) (w : World) (hn : p.st.vals.length ≤ 1048576) (hk : k ≤ 4194304) (ho : w.ownsRow B 3 1 (.slice p.a p.st.vals.length p.c) p.st.vals.length (intVals p.st.vals)) :
    Calls Try.prog 70 #[.agg #[.slice p.a p.st.vals.length p.c, .int .i64 p.st.sum], .int .i64 k] w fun e w' => e = .returned (.int .i64 ((k + p.st.vals.length : Nat) : Int)) ∧ w'.ownsRow B 3 1 (.slice p.a p.st.vals.length p.c) p.st.vals.length (intVals (marksI k p.st.vals.length)) ∧ w.grownBy w' p.blk := by
  have HB : ∀ o1 : Obj, Below w.heap.size w (w.alloc o1) := fun o1 => (Below.refl _ _).alloc (Nat.le_refl _) _
  go_enter Try.func70, Try.ntmps70
  go_wp2_with fail
  refine (markInts_any p.a B p.st.vals.length p.c k _ _ hn (by omega) (owns_below ho (HB _))).mono ?_
  rintro e w1 ⟨rfl, o1, g1⟩
  have G := hidOf (grownBy_trans (grownBy_of_below (HB _) _) g1)
  clear g1
  go_wp2
  go_ret
  exact ⟨ret_int (by omega), o1, G.out⟩

set_option maxHeartbeats 1600000 in
theorem heldState_any (p : Sp) (B k : Nat) (w : World) (hn : p.st.vals.length ≤ 1048576) (hk : k ≤ 4194304) (ho : w.ownsRow B 3 1 (.slice p.a p.st.vals.length p.c) p.st.vals.length (intVals (marksI k p.st.vals.length))) :
    Calls Try.prog 72 #[.agg #[.slice p.a p.st.vals.length p.c, .int .i64 p.st.sum], .int .i64 k] w fun e w' => e = .returned (.int .i64 ((k + p.st.vals.length : Nat) : Int)) ∧ Below w.heap.size w w' := by
  have HB : ∀ o1 : Obj, Below w.heap.size w (w.alloc o1) := fun o1 => (Below.refl _ _).alloc (Nat.le_refl _) _
  go_enter Try.func72, Try.ntmps72
  go_wp2_with fail
  refine (heldInts_any p.a B p.st.vals.length p.c k _ hn (by omega) (owns_below ho (HB _))).mono ?_
  rintro e w1 ⟨rfl, hb1⟩
  have B1 := (HB _).trans (hb1.mono (HB _).size)
  clear hb1
  go_wp2
  go_ret
  exact ⟨ret_int (by omega), B1⟩
end Go.Proofs.Ytokfemlcamnaaaa
