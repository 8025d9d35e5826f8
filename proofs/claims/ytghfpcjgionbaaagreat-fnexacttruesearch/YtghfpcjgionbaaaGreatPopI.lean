/- What the heap's pop answers. -/
import Derived.Test.YtghfpcjgionbaaaGreatKae
import Derived.Test.YtghfpcjgionbaaaGreatKac
import Derived.BigRegion
import Derived.Deep.CutBlock
namespace Go.Proofs.YtghfpcjgionbaaaGreat
open Go.RowKit

set_option maxHeartbeats 1600000 in
theorem isEmpty_any (kd : HK) (hb : Nat) (a : Option Addr) (n c : Nat) (b : Bool) (w : World) (hbn : ((n : Int) == 0) = b) (H : Hv kd w hb a n c) :
    Calls Tryz.prog 74 #[.pointer (some ⟨hb, kd.o, none⟩)] w fun e w' => e = .returned (.bool b) ∧ w' = w := by
  obtain ⟨hl, c0, c1, f0⟩ := H.all
  go_enter Tryz.func74, Tryz.ntmps74
  go_wp2
  go_ret
  exact ⟨rfl, rfl⟩

set_option maxHeartbeats 8000000 in
theorem pop_any (kd : HK) (hb B g c m : Nat) (ps : List Sp) (f : Sp) (w : World) (hn0 : ps.length ≤ 1048577) (hm : ps.length = m + 1) (hf : ps[0]? = some f) (hF : Few ps) (hO : Own w B (some ⟨g, 0, none⟩) c ps) (H : Hv kd w hb (some ⟨g, 0, none⟩) ps.length c) (hBb : B ≤ hb) (hBw : B ≤ w.heap.size) :
    Calls Tryz.prog 106 #[.pointer (some ⟨hb, kd.o, none⟩)] w fun e w' => e = .returned (.tuple #[.agg #[.slice f.a f.st.vals.length f.c, .int .i64 f.st.sum], .bool true]) ∧ Own w' B (some ⟨g, 0, none⟩) c (restL spLess ps) ∧ Hv kd w' hb (some ⟨g, 0, none⟩) m c ∧ w'.ownsRow B 3 1 (.slice f.a f.st.vals.length f.c) f.st.vals.length (intVals f.st.vals) ∧ Below B w w' ∧ Gr2 w w' (some g) hb := by
  obtain ⟨y, hy⟩ : ∃ y, ps[m]? = some y := ⟨_, List.getElem?_eq_getElem (by omega)⟩
  obtain ⟨hl, c0, c1, f0⟩ := H.all
  rw [hm] at c0
  have hcap : m + 1 ≤ c := by
    rcases hO.row.2 with ⟨h', _⟩ | ⟨g', cap', cur, h', hb, hg, hnc, _⟩
    · simp at h'
    · simp only [Value.slice.injEq, Option.some.injEq, Addr.mk.injEq, and_true, true_and] at h'
      obtain ⟨rfl, rfl⟩ := h'
      omega
  have hml : m ≤ 1048576 := by omega
  have hne0 : ((m : Int) + 1 == 0) = false := by rw [beq_eq_false_iff_ne]; omega
  have hn1 : (0 : Int) < (m : Int) + 1 := by omega
  have HM := hidOf hm
  clear hm
  go_enter Tryz.func106, Tryz.ntmps106
  go_wp2_with fail
  obtain ⟨W1, hW1⟩ : ∃ W1, W1 = w.alloc (.cells #[.slice none 0 0, .int .i64 0] 61) := ⟨_, rfl⟩
  rw [← hW1]
  have hb1 : Below w.heap.size w W1 := by rw [hW1]; exact (Below.refl _ _).alloc (Nat.le_refl _) _
  have R1 : W1.heap[w.heap.size]? = some (.cells #[.slice none 0 0, .int .i64 0] 61) := by rw [hW1]; exact heap_alloc_new w _
  have hl0 : w.heap.size < W1.heap.size := (Array.getElem?_eq_some_iff.1 R1).1
  have O1 := hO.below hb1
  have H1 := H.kept hb1
  clear hW1 c0 c1 f0
  refine (isEmpty_any kd hb _ ps.length c false _ (by rw [HM.out]; exact hne0) H1).mono ?_
  rintro e W1 ⟨rfl, rfl⟩
  go_upto_region 4 with fail
  obtain ⟨hl1, c0, c1, f0⟩ := H1.all
  rw [HM.out] at c0
  obtain ⟨p0, p1, -, -⟩ := O1.at hf
  simp only [Nat.zero_mul, Nat.zero_add] at p0 p1
  have hal : ∀ (ob : Obj) (b k : Nat), b < W1.heap.size → (W1.alloc ob).cell? ⟨b, k, none⟩ = W1.cell? ⟨b, k, none⟩ := fun ob b k h => ((Below.refl W1.heap.size W1).alloc (Nat.le_refl _) ob).cell (p := ⟨b, k, none⟩) h
  have hgl := (O1.row.lt g rfl).2
  go_region
  obtain ⟨W2, hW2⟩ : ∃ W2, W2 = (W1.alloc (.cells #[.slice f.a f.st.vals.length f.c, .int .i64 f.st.sum] 61)).drew := ⟨_, rfl⟩
  rw [← hW2]
  have hb2 : Below W1.heap.size W1 W2 := by rw [hW2]; exact ((Below.refl _ _).alloc (Nat.le_refl _) _).drew
  have R2 : W2.heap[W1.heap.size]? = some (.cells #[.slice f.a f.st.vals.length f.c, .int .i64 f.st.sum] 61) := by rw [hW2]; exact heap_alloc_new W1 _
  have R1 := (hb2.block w.heap.size (Array.getElem?_eq_some_iff.1 R1).1).trans R1
  have O2 := O1.below hb2
  have H2 := H1.kept hb2
  have B2 : Below B w W2 := (hb1.mono hBw).trans (hb2.mono (Nat.le_trans hBw hb1.size))
  have hgs : w.heap.size ≠ g := by have := (hO.row.lt g rfl).2; omega
  have hgt : W1.heap.size ≠ g := by omega
  have hbs : w.heap.size ≠ hb := by omega
  have hbt : W1.heap.size ≠ hb := by omega
  have hts : W1.heap.size ≠ w.heap.size := by have := hl0; omega
  have G2 : Gr2 w W2 (some g) hb := Gr2.ofB (hb1.trans (hb2.mono hb1.size)) _ _
  have hBr : B ≤ w.heap.size := hBw
  clear hW2 c0 c1 f0 p0 p1 hal O1 H1 hO H hb1 hb2 hl hl1 hgl
  obtain ⟨tb, htb⟩ : ∃ tb, tb = W1.heap.size := ⟨_, rfl⟩
  obtain ⟨rb, hrb⟩ : ∃ rb, rb = w.heap.size := ⟨_, rfl⟩
  rw [← htb] at R2 hgt hbt hts
  rw [← hrb] at R1 hgs hbs hts hBr
  have hRn : w.heap.size ≤ rb := by omega
  rw [← htb, ← hrb]
  clear htb hrb
  obtain ⟨hl2, c0, c1, f0⟩ := H2.all
  rw [HM.out] at c0
  obtain ⟨p0, p1, p2, p3⟩ := O2.at hf
  obtain ⟨q0, q1, q2, q3⟩ := O2.at hy
  simp only [Nat.zero_mul, Nat.zero_add] at p0 p1 p2 p3
  have hA : (0 : Int) ≤ (m : Int) := by omega
  have hB : (m : Int) < (m : Int) + 1 := by omega
  have hC : (0 : Int) < (m : Int) + 1 := by omega
  go_wp2
  go_region
  go_upto_region 6 with fail
  have r3 := row_set y O2.row (show 0 < ps.length by have := HM.out; omega)
  simp only [Nat.zero_mul, Nat.zero_add] at r3
  obtain ⟨W3, hW3⟩ : ∃ W3, W3 = ((W2.setCell ⟨g, 0, none⟩ (.slice y.a y.st.vals.length y.c)).setCell ⟨g, 1, none⟩ (.int .i64 y.st.sum)).drew := ⟨_, rfl⟩
  rw [← hW3]
  have r3 : W3.ownsRow B 61 2 (.slice (some ⟨g, 0, none⟩) (ps.set 0 y).length c) (ps.set 0 y).length (rowVals spCells (ps.set 0 y)) ∧ W2.grownBy W3 (some g) := by
    rw [hW3]
    exact ⟨owns_below r3.1 (below_drewN _ 1), grownBy_trans r3.2 (grownBy_of_below (below_drewN _ 1) _)⟩
  have O4 := Own.cut O2 HM.out hy r3.1 r3.2
  have H3 := H2.grown r3.2 (H2.ne O2)
  have hlen : (ps.set 0 y).length = m + 1 := by rw [List.length_set]; exact HM.out
  have hrl : (rowVals spCells (ps.set 0 y)).length = (m + 1) * 2 := by rw [rowVals_len spCells_len, hlen]
  have k0 : (W3.cell? ⟨g, m * 2, none⟩).isSome = true := by rw [r3.1.cellAt (m * 2) (by omega), List.getElem?_eq_getElem (by omega)]; rfl
  have k1 : (W3.cell? ⟨g, m * 2 + 1, none⟩).isSome = true := by rw [r3.1.cellAt (m * 2 + 1) (by omega), List.getElem?_eq_getElem (by omega)]; rfl
  have hcl := fun ty cc => run_clear1 W3 g (m * 2) cc ty k0 k1 (r3.1.frozenAt _) (r3.1.frozenAt _)
  clear c0 c1 f0 p0 p1 p2 p3 q0 q1 q2 q3 hW3 k0 k1 hlen hrl
  obtain ⟨hl3, c0, c1, f0⟩ := H3.all
  rw [HM.out] at c0
  have hsub : m + 1 - m = 1 := by omega
  go_upto_region 7 with fail
  obtain ⟨O4, G4⟩ := O4
  obtain ⟨W4, hW4⟩ : ∃ W4, W4 = (W3.setCell ⟨g, m * 2, none⟩ (.slice none 0 0)).setCell ⟨g, m * 2 + 1, none⟩ (.int .i64 0) := ⟨_, rfl⟩
  rw [← hW4] at O4 G4
  rw [← hW4]
  have H4 := H2.grown G4 (H2.ne O2)
  have fo := hidOf ((O2.each f (List.mem_of_getElem? hf)).kept G4 (types_apart (O2.each f (List.mem_of_getElem? hf)) O2.row (by decide)))
  have hcl4 : (cutL ps).length = m := by rw [cutL_len, HM.out]; rfl
  have hBg := (O2.row.lt g rfl).1
  have hBW2 : B ≤ W2.heap.size := Nat.le_trans hBw B2.size
  have G5 : Gr2 w W4 (some g) hb := G2.atG G4 (.inl rfl)
  have B4 : Below B w W4 := B2.grown G4 hBW2 (fun k hk => by cases hk; exact hBg)
  have R14 := (G4.block rb (Array.getElem?_eq_some_iff.1 R1).1 (fun e => hgs (by injection e))).trans R1
  have R24 := (G4.block tb (Array.getElem?_eq_some_iff.1 R2).1 (fun e => hgt (by injection e))).trans R2
  have hcap4 : m ≤ c := by omega
  clear hW4 hcl r3 H3 c0 c1 f0 hl3 R1 R2 O2 H2 B2 G4 hsub
  obtain ⟨hl4, c0, c1, f0⟩ := H4.all
  rw [HM.out] at c0
  go_upto_region 8 with fail
  have H5 := H4.set (some ⟨g, 0, none⟩) m c
  have hgs5 := grown_set W4 ⟨hb, kd.o, none⟩ (.slice (some ⟨g, 0, none⟩) m c)
  have O5 := O4.other hgs5 (H4.far O4.row kd.ns) (fun q hq => H4.far (O4.each q hq) kd.ni)
  have fo5 := hidOf (fo.out.kept hgs5 (H4.far fo.out kd.ni))
  have G5 := G5.setH kd.o (.slice (some ⟨g, 0, none⟩) m c)
  have B5 : Below B w (W4.setCell ⟨hb, kd.o, none⟩ (.slice (some ⟨g, 0, none⟩) m c)) := B4.setCell hBb _
  have R15 := (hgs5.block rb (Array.getElem?_eq_some_iff.1 R14).1 (fun e => hbs (by injection e))).trans R14
  have R25 := (hgs5.block tb (Array.getElem?_eq_some_iff.1 R24).1 (fun e => hbt (by injection e))).trans R24
  obtain ⟨W5, hW5⟩ : ∃ W5, W5 = W4.setCell ⟨hb, kd.o, none⟩ (.slice (some ⟨g, 0, none⟩) m c) := ⟨_, rfl⟩
  rw [← hW5] at H5 O5 fo5 B5 R15 R25 G5
  rw [← hW5]
  clear hW5 hgs5 c0 c1 f0 O4 H4 fo B4 R14 R24 hl4
  have hFc : Few (cutL ps) := fun p hp => by
    obtain ⟨i, hi⟩ := List.mem_iff_getElem?.1 hp
    rw [cutL_of (y := y) (by rw [HM.out]; exact hy)] at hi
    rw [List.getElem?_take] at hi
    split at hi
    · rcases List.mem_or_eq_of_mem_set (List.mem_of_getElem? hi) with h | rfl
      · exact hF p h
      · exact hF _ (List.mem_of_getElem? hy)
    · cases hi
  have hD := hidOf (goDown_any kd hb B g c (cutL ps) 0 W5 (by rw [hcl4]; omega) (Nat.zero_le _) hFc O5 (by rw [hcl4]; exact H5))
  have hBW5 : B ≤ W5.heap.size := Nat.le_trans hBw B5.size
  go_wp2_with fail
  refine hD.out.mono ?_
  rintro e W6 ⟨rfl, O6, G6⟩
  have H6 := H5.grown G6 (H5.ne O5)
  have fo6 := hidOf (fo5.out.kept G6 (types_apart fo5.out O5.row (by decide)))
  have GE := hidOf (((G5.atG G6 (.inl rfl)).setN hRn 0 (.slice f.a f.st.vals.length f.c)).setN hRn 1 (.int .i64 f.st.sum))
  have B6 : Below B w W6 := B5.grown G6 hBW5 (fun k hk => by cases hk; exact hBg)
  have R16 := (G6.block rb (Array.getElem?_eq_some_iff.1 R15).1 (fun e => hgs (by injection e))).trans R15
  have R26 := (G6.block tb (Array.getElem?_eq_some_iff.1 R25).1 (fun e => hgt (by injection e))).trans R25
  clear O5 H5 fo5 B5 R15 R25 hD G6
  have t0 : W6.cell? ⟨tb, 0, none⟩ = some (.slice f.a f.st.vals.length f.c) := cell_of_row W6 _ 0 _ _ _ R26
  have t1 : W6.cell? ⟨tb, 1, none⟩ = some (.int .i64 f.st.sum) := cell_of_row W6 _ 1 _ _ _ R26
  have r0 : W6.cell? ⟨rb, 0, none⟩ = some (.slice none 0 0) := cell_of_row W6 _ 0 _ _ _ R16
  have r1 : W6.cell? ⟨rb, 1, none⟩ = some (.int .i64 0) := cell_of_row W6 _ 1 _ _ _ R16
  have z0 := frozen_of_row W6 rb 0 _ _ R16
  have z1 := frozen_of_row W6 rb 1 _ _ R16
  have n1 : (Value.slice (some ⟨g, 0, none⟩) (dn spLess (cutL ps) 0).length c).ownBlock = none ∨ (Value.slice (some ⟨g, 0, none⟩) (dn spLess (cutL ps) 0).length c).ownBlock ≠ some rb := .inr (fun e => hgs (by injection e with e; exact e.symm))
  have HE := hidOf (And.intro (And.intro (O6.other (grown_set W6 ⟨rb, 0, none⟩ (.slice f.a f.st.vals.length f.c)) n1 (fun q hq => far_row (O6.each q hq) R16 (by decide))) (H6.grown (grown_set W6 ⟨rb, 0, none⟩ (.slice f.a f.st.vals.length f.c)) (Ne.symm hbs))) (own_put fo6.out ⟨rb, 0, none⟩ (.slice f.a f.st.vals.length f.c) (far_row fo6.out R16 (by decide))))
  have HE2 := hidOf (And.intro (And.intro (HE.out.1.1.other (grown_set _ ⟨rb, 1, none⟩ (.int .i64 f.st.sum)) n1 (fun q hq => far_row (O6.each q hq) R16 (by decide))) (HE.out.1.2.grown (grown_set _ ⟨rb, 1, none⟩ (.int .i64 f.st.sum)) (Ne.symm hbs))) (own_put HE.out.2 ⟨rb, 1, none⟩ (.int .i64 f.st.sum) (far_row fo6.out R16 (by decide))))
  have HB7 := hidOf ((B6.setCell (p := ⟨rb, 0, none⟩) hBr (.slice f.a f.st.vals.length f.c)).setCell (p := ⟨rb, 1, none⟩) hBr (.int .i64 f.st.sum))
  clear R16 R26 O6 H6 fo6 B6 n1 HE
  go_wp2
  have y0 : ((W6.setCell ⟨rb, 0, none⟩ (.slice f.a f.st.vals.length f.c)).setCell ⟨rb, 1, none⟩ (.int .i64 f.st.sum)).cell? ⟨rb, 0, none⟩ = some (.slice f.a f.st.vals.length f.c) := by go_simp
  have y1 : ((W6.setCell ⟨rb, 0, none⟩ (.slice f.a f.st.vals.length f.c)).setCell ⟨rb, 1, none⟩ (.int .i64 f.st.sum)).cell? ⟨rb, 1, none⟩ = some (.int .i64 f.st.sum) := by go_simp
  refine bodyPost_ret (v := .tuple #[.agg #[.slice f.a f.st.vals.length f.c, .int .i64 f.st.sum], .bool true]) (by simp [results, Tryz.results106, go_sem, y0, y1]) rfl ?_
  exact ⟨rfl, HE2.out.1.1, HE2.out.1.2, HE2.out.2, HB7.out, GE.out⟩

set_option maxHeartbeats 1600000 in
theorem pop_none (kd : HK) (hb : Nat) (a : Option Addr) (c : Nat) (w : World) (H : Hv kd w hb a 0 c) :
    Calls Tryz.prog 106 #[.pointer (some ⟨hb, kd.o, none⟩)] w fun e w' => e = .returned (.tuple #[.agg #[.slice none 0 0, .int .i64 0], .bool false]) ∧ Below w.heap.size w w' := by
  have hal : ∀ (ob : Obj) (b k : Nat), b < w.heap.size → (w.alloc ob).cell? ⟨b, k, none⟩ = w.cell? ⟨b, k, none⟩ := fun ob b k h => ((Below.refl w.heap.size w).alloc (Nat.le_refl _) ob).cell (p := ⟨b, k, none⟩) h
  obtain ⟨hl, c0, c1, f0⟩ := H.all
  go_enter Tryz.func106, Tryz.ntmps106
  go_wp2_with fail
  refine (isEmpty_any kd hb a 0 c true _ rfl (H.kept ((Below.refl _ _).alloc (Nat.le_refl _) _))).mono ?_
  rintro e W1 ⟨rfl, rfl⟩
  go_wp2
  have A0 := heap_alloc2_old w (.cells #[.slice none 0 0, .int .i64 0] 61) (.cells #[.slice none 0 0, .int .i64 0] 61)
  have y0 := cell_of_row _ _ 0 _ _ _ A0
  have y1 := cell_of_row _ _ 1 _ _ _ A0
  simp only [List.getElem?_toArray, List.getElem?_cons_zero, List.getElem?_cons_succ] at y0 y1
  refine bodyPost_ret (v := .tuple #[.agg #[.slice none 0 0, .int .i64 0], .bool false]) (by simp [results, Tryz.results106, go_sem, y0, y1]) rfl ?_
  exact ⟨rfl, ((Below.refl _ _).alloc (Nat.le_refl _) _).alloc (by simp) _⟩
end Go.Proofs.YtghfpcjgionbaaaGreat
