/- What the heap's pop answers. -/
import Derived.Test.YtgaejcljabhijaaKac
import Derived.Test.YtgaejcljabhijaaKab
import Derived.BigRegion
import Derived.Deep.CutBlock
import Derived.Test.YtgaejcljabhijaaValLib
namespace Go.Proofs.Ytgaejcljabhijaa
open Go.RowKit

set_option maxHeartbeats 1600000 in
theorem isEmpty_any (kd : HK) (hb : Nat) (a : Option Addr) (n c : Nat) (b : Bool) (w : World) (hbn : ((n : Int) == 0) = b) (H : Hv kd w hb a n c) :
    Calls Try.prog 76 #[.pointer (some ⟨hb, kd.o, none⟩)] w fun e w' => e = .returned (.bool b) ∧ w' = w := by
  obtain ⟨hl, c0, c1, f0⟩ := H.all
  go_enter Try.func76, Try.ntmps76
  go_wp2
  go_ret
  exact ⟨rfl, rfl⟩

set_option maxHeartbeats 8000000 in
theorem pop_any (kd : HK) (hb B g c m : Nat) (ps : List Sp) (f : Sp) (w : World) (hn0 : ps.length ≤ 1048577) (hm : ps.length = m + 1) (hf : ps[0]? = some f) (hF : Few ps) (hO : Own w B (some ⟨g, 0, none⟩) c ps) (H : Hv kd w hb (some ⟨g, 0, none⟩) ps.length c) (hBb : B ≤ hb) (hBw : B ≤ w.heap.size) :
    Calls Try.prog 110 #[.pointer (some ⟨hb, kd.o, none⟩)] w fun e w' => e = .returned (.tuple #[.agg #[.slice f.a f.st.vals.length f.c, .int .i64 f.st.sum], .bool true]) ∧ Own w' B (some ⟨g, 0, none⟩) c (restL spLess ps) ∧ Hv kd w' hb (some ⟨g, 0, none⟩) m c ∧ w'.ownsRow B 3 1 (.slice f.a f.st.vals.length f.c) f.st.vals.length (intVals f.st.vals) ∧ Below B w w' ∧ Gr2 w w' (some g) hb := by
  obtain ⟨y, hy⟩ : ∃ y, ps[m]? = some y := ⟨_, List.getElem?_eq_getElem (by omega)⟩
  obtain ⟨hl, c0, c1, f0⟩ := H.all
  rw [hm] at c0
  have hcap : m + 1 ≤ c := by
    rcases hO.row.2 with ⟨h', _⟩ | ⟨g', cap', cur, h', hb, hg, hnc, _⟩
    · simp at h'
    · simp only [Value.slice.injEq, Option.some.injEq, Addr.mk.injEq, and_true, true_and] at h'
      obtain ⟨rfl, rfl⟩ := h'
      omega
  have hml : m ≤ 1048576 := by omega
  have hne0 : ((m : Int) + 1 == 0) = false := by rw [beq_eq_false_iff_ne]; omega
  have hn1 : (0 : Int) < (m : Int) + 1 := by omega
  have HM := hidOf hm
  clear hm
  go_enter Try.func110, Try.ntmps110
  go_wp2_with fail
  obtain ⟨W1, hW1⟩ : ∃ W1, W1 = w.alloc (.cells #[.slice none 0 0, .int .i64 0] 74) := ⟨_, rfl⟩
  rw [← hW1]
  have hb1 : Below w.heap.size w W1 := by rw [hW1]; exact (Below.refl _ _).alloc (Nat.le_refl _) _
  have R1 : W1.heap[w.heap.size]? = some (.cells #[.slice none 0 0, .int .i64 0] 74) := by rw [hW1]; exact heap_alloc_new w _
  have hl0 : w.heap.size < W1.heap.size := (Array.getElem?_eq_some_iff.1 R1).1
  have O1 := hO.below hb1
  have H1 := H.kept hb1
  clear hW1 c0 c1 f0
  refine (isEmpty_any kd hb _ ps.length c false _ (by rw [HM.out]; exact hne0) H1).mono ?_
  rintro e W1 ⟨rfl, rfl⟩
  go_upto_region 4 with fail
  obtain ⟨hl1, c0, c1, f0⟩ := H1.all
  rw [HM.out] at c0
  obtain ⟨p0, p1, -, -⟩ := O1.at hf
  simp only [Nat.zero_mul, Nat.zero_add] at p0 p1
  have hal : ∀ (ob : Obj) (b k : Nat), b < W1.heap.size → (W1.alloc ob).cell? ⟨b, k, none⟩ = W1.cell? ⟨b, k, none⟩ := fun ob b k h => ((Below.refl W1.heap.size W1).alloc (Nat.le_refl _) ob).cell (p := ⟨b, k, none⟩) h
  have hgl := (O1.row.lt g rfl).2
  go_region
  obtain ⟨W2, hW2⟩ : ∃ W2, W2 = (W1.alloc (.cells #[.slice f.a f.st.vals.length f.c, .int .i64 f.st.sum] 74)).drew := ⟨_, rfl⟩
  rw [← hW2]
  have hb2 : Below W1.heap.size W1 W2 := by rw [hW2]; exact ((Below.refl _ _).alloc (Nat.le_refl _) _).drew
  have R2 : W2.heap[W1.heap.size]? = some (.cells #[.slice f.a f.st.vals.length f.c, .int .i64 f.st.sum] 74) := by rw [hW2]; exact heap_alloc_new W1 _
  have R1 := (hb2.block w.heap.size (Array.getElem?_eq_some_iff.1 R1).1).trans R1
  have O2 := O1.below hb2
  have H2 := H1.kept hb2
  have B2 : Below B w W2 := (hb1.mono hBw).trans (hb2.mono (Nat.le_trans hBw hb1.size))
  have hgs : w.heap.size ≠ g := by have := (hO.row.lt g rfl).2; omega
  have hgt : W1.heap.size ≠ g := by omega
  have hbs : w.heap.size ≠ hb := by omega
  have hbt : W1.heap.size ≠ hb := by omega
  have hts : W1.heap.size ≠ w.heap.size := by have := hl0; omega
  have G2 : Gr2 w W2 (some g) hb := Gr2.ofB (hb1.trans (hb2.mono hb1.size)) _ _
  have hBr : B ≤ w.heap.size := hBw
  clear hW2 c0 c1 f0 p0 p1 hal O1 H1 hO H hb1 hb2 hl hl1 hgl
  obtain ⟨tb, htb⟩ : ∃ tb, tb = W1.heap.size := ⟨_, rfl⟩
  obtain ⟨rb, hrb⟩ : ∃ rb, rb = w.heap.size := ⟨_, rfl⟩
  rw [← htb] at R2 hgt hbt hts
  rw [← hrb] at R1 hgs hbs hts hBr
  have hRn : w.heap.size ≤ rb := by omega
  rw [← htb, ← hrb]
  clear htb hrb
  obtain ⟨hl2, c0, c1, f0⟩ := H2.all
  rw [HM.out] at c0
  obtain ⟨p0, p1, p2, p3⟩ := O2.at hf
  obtain ⟨q0, q1, q2, q3⟩ := O2.at hy
  simp only [Nat.zero_mul, Nat.zero_add] at p0 p1 p2 p3
  have hA : (0 : Int) ≤ (m : Int) := by omega
  have hB : (m : Int) < (m : Int) + 1 := by omega
  have hC : (0 : Int) < (m : Int) + 1 := by omega
  go_wp2
  go_region
  go_upto_region 6 with fail
  have r3 := row_set y O2.row (show 0 < ps.length by have := HM.out; omega)
  simp only [Nat.zero_mul, Nat.zero_add] at r3
  obtain ⟨W3, hW3⟩ : ∃ W3, W3 = ((W2.setCell ⟨g, 0, none⟩ (.slice y.a y.st.vals.length y.c)).setCell ⟨g, 1, none⟩ (.int .i64 y.st.sum)).drew := ⟨_, rfl⟩
  rw [← hW3]
  have r3 : W3.ownsRow B 74 2 (.slice (some ⟨g, 0, none⟩) (ps.set 0 y).length c) (ps.set 0 y).length (rowVals spCells (ps.set 0 y)) ∧ W2.grownBy W3 (some g) := by
    rw [hW3]
    exact ⟨owns_below r3.1 (below_drewN _ 1), grownBy_trans r3.2 (grownBy_of_below (below_drewN _ 1) _)⟩
  have O4 := Own.cut O2 HM.out hy r3.1 r3.2
  have H3 := H2.grown r3.2 (H2.ne O2)
  have hlen : (ps.set 0 y).length = m + 1 := by rw [List.length_set]; exact HM.out
  have hrl : (rowVals spCells (ps.set 0 y)).length = (m + 1) * 2 := by rw [rowVals_len spCells_len, hlen]
  have k0 : (W3.cell? ⟨g, m * 2, none⟩).isSome = true := by rw [r3.1.cellAt (m * 2) (by omega), List.getElem?_eq_getElem (by omega)]; rfl
  have k1 : (W3.cell? ⟨g, m * 2 + 1, none⟩).isSome = true := by rw [r3.1.cellAt (m * 2 + 1) (by omega), List.getElem?_eq_getElem (by omega)]; rfl
  have hcl := fun ty cc => run_clear1 W3 g (m * 2) cc ty k0 k1 (r3.1.frozenAt _) (r3.1.frozenAt _)
  clear c0 c1 f0 p0 p1 p2 p3 q0 q1 q2 q3 hW3 k0 k1 hlen hrl
  obtain ⟨hl3, c0, c1, f0⟩ := H3.all
  rw [HM.out] at c0
  have hsub : m + 1 - m = 1 := by omega
  go_upto_region 7 with fail
  obtain ⟨O4, G4⟩ := O4
  obtain ⟨W4, hW4⟩ : ∃ W4, W4 = (W3.setCell ⟨g, m * 2, none⟩ (.slice none 0 0)).setCell ⟨g, m * 2 + 1, none⟩ (.int .i64 0) := ⟨_, rfl⟩
  rw [← hW4] at O4 G4
  rw [← hW4]
  have H4 := H2.grown G4 (H2.ne O2)
  have fo := hidOf ((O2.each f (List.mem_of_getElem? hf)).kept G4 (types_apart (O2.each f (List.mem_of_getElem? hf)) O2.row (by decide)))
  have hcl4 : (cutL ps).length = m := by rw [cutL_len, HM.out]; rfl
  have hBg := (O2.row.lt g rfl).1
  have hBW2 : B ≤ W2.heap.size := Nat.le_trans hBw B2.size
  have G5 : Gr2 w W4 (some g) hb := G2.atG G4 (.inl rfl)
  have B4 : Below B w W4 := B2.grown G4 hBW2 (fun k hk => by cases hk; exact hBg)
  have R14 := (G4.block rb (Array.getElem?_eq_some_iff.1 R1).1 (fun e => hgs (by injection e))).trans R1
  have R24 := (G4.block tb (Array.getElem?_eq_some_iff.1 R2).1 (fun e => hgt (by injection e))).trans R2
  have hcap4 : m ≤ c := by omega
  clear hW4 hcl r3 H3 c0 c1 f0 hl3 R1 R2 O2 H2 B2 G4 hsub
  obtain ⟨hl4, c0, c1, f0⟩ := H4.all
  rw [HM.out] at c0
  go_upto_region 8 with fail
  have H5 := H4.set (some ⟨g, 0, none⟩) m c
  have hgs5 := grown_set W4 ⟨hb, kd.o, none⟩ (.slice (some ⟨g, 0, none⟩) m c)
  have O5 := O4.other hgs5 (H4.far O4.row kd.ns) (fun q hq => H4.far (O4.each q hq) kd.ni)
  have fo5 := hidOf (fo.out.kept hgs5 (H4.far fo.out kd.ni))
  have G5 := G5.setH kd.o (.slice (some ⟨g, 0, none⟩) m c)
  have B5 : Below B w (W4.setCell ⟨hb, kd.o, none⟩ (.slice (some ⟨g, 0, none⟩) m c)) := B4.setCell hBb _
  have R15 := (hgs5.block rb (Array.getElem?_eq_some_iff.1 R14).1 (fun e => hbs (by injection e))).trans R14
  have R25 := (hgs5.block tb (Array.getElem?_eq_some_iff.1 R24).1 (fun e => hbt (by injection e))).trans R24
  obtain ⟨W5, hW5⟩ : ∃ W5, W5 = W4.setCell ⟨hb, kd.o, none⟩ (.slice (some ⟨g, 0, none⟩) m c) := ⟨_, rfl⟩
  rw [← hW5] at H5 O5 fo5 B5 R15 R25 G5
  rw [← hW5]
  clear hW5 hgs5 c0 c1 f0 O4 H4 fo B4 R14 R24 hl4
  have hFc : Few (cutL ps) := fun p hp => by
    obtain ⟨i, hi⟩ := List.mem_iff_getElem?.1 hp
    rw [cutL_of (y := y) (by rw [HM.out]; exact hy)] at hi
    rw [List.getElem?_take] at hi
    split at hi
    · rcases List.mem_or_eq_of_mem_set (List.mem_of_getElem? hi) with h | rfl
      · exact hF p h
      · exact hF _ (List.mem_of_getElem? hy)
    · cases hi
  have hD := hidOf (goDown_any kd hb B g c (cutL ps) 0 W5 (by rw [hcl4]; omega) (Nat.zero_le _) hFc O5 (by rw [hcl4]; exact H5))
  have hBW5 : B ≤ W5.heap.size := Nat.le_trans hBw B5.size
  go_wp2_with fail
  refine hD.out.mono ?_
  rintro e W6 ⟨rfl, O6, G6⟩
  have H6 := H5.grown G6 (H5.ne O5)
  have fo6 := hidOf (fo5.out.kept G6 (types_apart fo5.out O5.row (by decide)))
  have GE := hidOf (((G5.atG G6 (.inl rfl)).setN hRn 0 (.slice f.a f.st.vals.length f.c)).setN hRn 1 (.int .i64 f.st.sum))
  have B6 : Below B w W6 := B5.grown G6 hBW5 (fun k hk => by cases hk; exact hBg)
  have R16 := (G6.block rb (Array.getElem?_eq_some_iff.1 R15).1 (fun e => hgs (by injection e))).trans R15
  have R26 := (G6.block tb (Array.getElem?_eq_some_iff.1 R25).1 (fun e => hgt (by injection e))).trans R25
  clear O5 H5 fo5 B5 R15 R25 hD G6
  have t0 : W6.cell? ⟨tb, 0, none⟩ = some (.slice f.a f.st.vals.length f.c) := cell_of_row W6 _ 0 _ _ _ R26
  have t1 : W6.cell? ⟨tb, 1, none⟩ = some (.int .i64 f.st.sum) := cell_of_row W6 _ 1 _ _ _ R26
  have r0 : W6.cell? ⟨rb, 0, none⟩ = some (.slice none 0 0) := cell_of_row W6 _ 0 _ _ _ R16
  have r1 : W6.cell? ⟨rb, 1, none⟩ = some (.int .i64 0) := cell_of_row W6 _ 1 _ _ _ R16
  have z0 := frozen_of_row W6 rb 0 _ _ R16
  have z1 := frozen_of_row W6 rb 1 _ _ R16
  have n1 : (Value.slice (some ⟨g, 0, none⟩) (dn spLess (cutL ps) 0).length c).ownBlock = none ∨ (Value.slice (some ⟨g, 0, none⟩) (dn spLess (cutL ps) 0).length c).ownBlock ≠ some rb := .inr (fun e => hgs (by injection e with e; exact e.symm))
  have HE := hidOf (And.intro (And.intro (O6.other (grown_set W6 ⟨rb, 0, none⟩ (.slice f.a f.st.vals.length f.c)) n1 (fun q hq => far_row (O6.each q hq) R16 (by decide))) (H6.grown (grown_set W6 ⟨rb, 0, none⟩ (.slice f.a f.st.vals.length f.c)) (Ne.symm hbs))) (own_put fo6.out ⟨rb, 0, none⟩ (.slice f.a f.st.vals.length f.c) (far_row fo6.out R16 (by decide))))
  have HE2 := hidOf (And.intro (And.intro (HE.out.1.1.other (grown_set _ ⟨rb, 1, none⟩ (.int .i64 f.st.sum)) n1 (fun q hq => far_row (O6.each q hq) R16 (by decide))) (HE.out.1.2.grown (grown_set _ ⟨rb, 1, none⟩ (.int .i64 f.st.sum)) (Ne.symm hbs))) (own_put HE.out.2 ⟨rb, 1, none⟩ (.int .i64 f.st.sum) (far_row fo6.out R16 (by decide))))
  have HB7 := hidOf ((B6.setCell (p := ⟨rb, 0, none⟩) hBr (.slice f.a f.st.vals.length f.c)).setCell (p := ⟨rb, 1, none⟩) hBr (.int .i64 f.st.sum))
  clear R16 R26 O6 H6 fo6 B6 n1 HE
  go_wp2
  have y0 : ((W6.setCell ⟨rb, 0, none⟩ (.slice f.a f.st.vals.length f.c)).setCell ⟨rb, 1, none⟩ (.int .i64 f.st.sum)).cell? ⟨rb, 0, none⟩ = some (.slice f.a f.st.vals.length f.c) := by go_simp
  have y1 : ((W6.setCell ⟨rb, 0, none⟩ (.slice f.a f.st.vals.length f.c)).setCell ⟨rb, 1, none⟩ (.int .i64 f.st.sum)).cell? ⟨rb, 1, none⟩ = some (.int .i64 f.st.sum) := by go_simp
  refine bodyPost_ret (v := .tuple #[.agg #[.slice f.a f.st.vals.length f.c, .int .i64 f.st.sum], .bool true]) (by simp [results, Try.results110, go_sem, y0, y1]) rfl ?_
  exact ⟨rfl, HE2.out.1.1, HE2.out.1.2, HE2.out.2, HB7.out, GE.out⟩

set_option maxHeartbeats 1600000 in
theorem pop_none (kd : HK) (hb : Nat) (a : Option Addr) (c : Nat) (w : World) (H : Hv kd w hb a 0 c) :
    Calls Try.prog 110 #[.pointer (some ⟨hb, kd.o, none⟩)] w fun e w' => e = .returned (.tuple #[.agg #[.slice none 0 0, .int .i64 0], .bool false]) ∧ Below w.heap.size w w' := by
  have hal : ∀ (ob : Obj) (b k : Nat), b < w.heap.size → (w.alloc ob).cell? ⟨b, k, none⟩ = w.cell? ⟨b, k, none⟩ := fun ob b k h => ((Below.refl w.heap.size w).alloc (Nat.le_refl _) ob).cell (p := ⟨b, k, none⟩) h
  obtain ⟨hl, c0, c1, f0⟩ := H.all
  go_enter Try.func110, Try.ntmps110
  go_wp2_with fail
  refine (isEmpty_any kd hb a 0 c true _ rfl (H.kept ((Below.refl _ _).alloc (Nat.le_refl _) _))).mono ?_
  rintro e W1 ⟨rfl, rfl⟩
  go_wp2
  have A0 := heap_alloc2_old w (.cells #[.slice none 0 0, .int .i64 0] 74) (.cells #[.slice none 0 0, .int .i64 0] 74)
  have y0 := cell_of_row _ _ 0 _ _ _ A0
  have y1 := cell_of_row _ _ 1 _ _ _ A0
  simp only [List.getElem?_toArray, List.getElem?_cons_zero, List.getElem?_cons_succ] at y0 y1
  refine bodyPost_ret (v := .tuple #[.agg #[.slice none 0 0, .int .i64 0], .bool false]) (by simp [results, Try.results110, go_sem, y0, y1]) rfl ?_
  exact ⟨rfl, ((Below.refl _ _).alloc (Nat.le_refl _) _).alloc (by simp) _⟩
end Go.Proofs.Ytgaejcljabhijaa
/- The lines of a piece and what they cost, in plain words. -/
namespace Go.Proofs.Ytgaejcljabhijaa
open Go.RowKit

/-- There is a split behind this chunk. -/
def spl (vs : List Int) (x : Ch) : Bool := decide (x.frm ≤ vs.getD x.rule.toNat 0)
theorem spl_of {vs : List Int} {x : Ch} {r : Nat} {z : Int} (hr : x.rule = (r : Int)) (hz : vs[r]? = some z) : spl vs x = decide (x.frm ≤ z) := by
  unfold spl
  rw [hr, Int.toNat_natCast, List.getD_eq_getElem?_getD, hz]
  rfl
theorem spl_at {p : Pc} {vs : List Int} {k : Nat} {x : Ch} (h : Right p) (hv : ValOk p vs) (hk : (k : Int) ≤ (p.chunks.length : Int) - 2) (hx : p.chunks[k]? = some x) : SplitAt p vs (k : Int) ↔ spl vs x = true := by
  obtain ⟨x', r, z, ex, er, hr, ez⟩ := split_val h hv hk
  rw [hx] at ex
  cases ex
  rw [spl_of er ez, decide_eq_true_eq]
  constructor
  · intro hs
    exact hs.splits x z (by rw [Int.toNat_natCast]; exact hx) (by rw [er, Int.toNat_natCast]; exact ez)
  · intro hf
    refine ⟨h, hv, Int.natCast_nonneg k, hk, fun x' z' hx' hz' => ?_⟩
    rw [Int.toNat_natCast, hx] at hx'
    cases hx'
    rw [er, Int.toNat_natCast, ez] at hz'
    cases hz'
    exact hf
/-- So many blanks. -/
def blanks (n : Int) : ByteArray := ⟨(List.replicate n.toNat (32 : UInt8)).toArray⟩
theorem blanks_size (n : Int) : (blanks n).size = n.toNat := by
  show (List.replicate n.toNat (32 : UInt8)).toArray.size = _
  simp
/-- The blank between two chunks. -/
def sp1 (x : Ch) : ByteArray := if x.space then ⟨#[32]⟩ else ⟨#[]⟩
theorem sp1_yes {x : Ch} (h : x.space = true) : sp1 x = ⟨#[32]⟩ := by unfold sp1; rw [if_pos h]
theorem sp1_no {x : Ch} (h : x.space = false) : sp1 x = ⟨#[]⟩ := by unfold sp1; rw [h]; rfl
theorem sp1_size (x : Ch) : (sp1 x).size ≤ 1 := by
  cases h : x.space
  · rw [sp1_no h]; exact Nat.zero_le _
  · rw [sp1_yes h]; exact Nat.le_refl _
theorem app_none (s : ByteArray) : s ++ (⟨#[]⟩ : ByteArray) = s := ByteArray.append_empty
theorem app_size (a b : ByteArray) : (a ++ b).size = a.size + b.size := ByteArray.size_append
/-- The lines of what is left, behind the beginning of a line. -/
def ren (ind : Int) (vs : List Int) : ByteArray → List Ch → List ByteArray
  | s, [] => [s]
  | s, [x] => [s ++ x.text]
  | s, x :: y :: cs => if spl vs x then (s ++ x.text) :: ren ind vs (blanks (ind + x.nest)) (y :: cs) else ren ind vs (s ++ x.text ++ sp1 x) (y :: cs)
theorem drop_two {cs : List Ch} {k : Nat} {x : Ch} (hx : cs[k]? = some x) (hk : k + 1 < cs.length) : ∃ y r, cs.drop k = x :: y :: r ∧ cs.drop (k + 1) = y :: r := by
  have hk' := (List.getElem?_eq_some_iff.1 hx).1
  have e : cs[k] = x := (List.getElem?_eq_some_iff.1 hx).2
  refine ⟨cs[k + 1], cs.drop (k + 1 + 1), ?_, List.drop_eq_getElem_cons hk⟩
  rw [List.drop_eq_getElem_cons hk', List.drop_eq_getElem_cons hk, e]
theorem drop_one {cs : List Ch} {k : Nat} {x : Ch} (hx : cs[k]? = some x) (hk : k + 1 = cs.length) : cs.drop k = [x] := by
  have hk' := (List.getElem?_eq_some_iff.1 hx).1
  have e : cs[k] = x := (List.getElem?_eq_some_iff.1 hx).2
  rw [List.drop_eq_getElem_cons hk', e, List.drop_of_length_le (by omega)]
theorem ren_last {ind : Int} {vs : List Int} {cs : List Ch} {k : Nat} {x : Ch} (s : ByteArray) (hx : cs[k]? = some x) (hk : k + 1 = cs.length) : ren ind vs s (cs.drop k) = [s ++ x.text] := by
  rw [drop_one hx hk, ren]
theorem ren_split {ind : Int} {vs : List Int} {cs : List Ch} {k : Nat} {x : Ch} (s : ByteArray) (hx : cs[k]? = some x) (hk : k + 1 < cs.length) (h : spl vs x = true) : ren ind vs s (cs.drop k) = (s ++ x.text) :: ren ind vs (blanks (ind + x.nest)) (cs.drop (k + 1)) := by
  obtain ⟨y, r, e1, e2⟩ := drop_two hx hk
  rw [e1, e2, ren, if_pos h]
theorem ren_join {ind : Int} {vs : List Int} {cs : List Ch} {k : Nat} {x : Ch} (s : ByteArray) (hx : cs[k]? = some x) (hk : k + 1 < cs.length) (h : spl vs x = false) : ren ind vs s (cs.drop k) = ren ind vs (s ++ x.text ++ sp1 x) (cs.drop (k + 1)) := by
  obtain ⟨y, r, e1, e2⟩ := drop_two hx hk
  rw [e1, e2, ren, if_neg (by rw [h]; exact Bool.false_ne_true)]
/-- One line, behind its beginning. -/
def lin : ByteArray → List Ch → ByteArray
  | s, [] => s
  | s, [x] => s ++ x.text
  | s, x :: y :: cs => lin (s ++ x.text ++ sp1 x) (y :: cs)
theorem ren_takeAt {cs : List Ch} {n k : Nat} (h : k < n) : (cs.take n)[k]? = cs[k]? := List.getElem?_take_of_lt h
theorem lin_last {cs : List Ch} {k n : Nat} {x : Ch} (s : ByteArray) (hx : cs[k]? = some x) (hk : k + 1 = n) (hn : n ≤ cs.length) : lin s ((cs.take n).drop k) = s ++ x.text := by
  rw [drop_one (cs := cs.take n) (by rw [ren_takeAt (by omega)]; exact hx) (by rw [List.length_take]; omega), lin]
theorem lin_more {cs : List Ch} {k n : Nat} {x : Ch} (s : ByteArray) (hx : cs[k]? = some x) (hk : k + 1 < n) (hn : n ≤ cs.length) : lin s ((cs.take n).drop k) = lin (s ++ x.text ++ sp1 x) ((cs.take n).drop (k + 1)) := by
  obtain ⟨y, r, e1, e2⟩ := drop_two (cs := cs.take n) (k := k) (x := x) (by rw [ren_takeAt (by omega)]; exact hx) (by rw [List.length_take]; omega)
  rw [e1, e2, lin]
/-- A line's chunks: from one on up to the next split. -/
structure Seg (vs : List Int) (cs : List Ch) (a n : Nat) : Prop where
  lt : a < n
  le : n ≤ cs.length
  inner : ∀ (i : Nat) (x : Ch), a ≤ i → i + 1 < n → cs[i]? = some x → spl vs x = false
  last : ∀ (x : Ch), n < cs.length → cs[n - 1]? = some x → spl vs x = true
/-- What the next line begins with. -/
def inOf (p : Pc) (k : Nat) : Int := if k = 0 then p.indent else p.indent + ((p.chunks[k - 1]?).map (·.nest)).getD 0
theorem inOf_zero (p : Pc) : inOf p 0 = p.indent := by unfold inOf; rw [if_pos rfl]
theorem inOf_at {p : Pc} {k : Nat} {x : Ch} (hk : k ≠ 0) (hx : p.chunks[k - 1]? = some x) : inOf p k = p.indent + x.nest := by
  unfold inOf
  rw [if_neg hk, hx]
  rfl
theorem inOf_le {p : Pc} (h : Right p) {k : Nat} (hk : k < p.chunks.length) : 0 ≤ inOf p k ∧ inOf p k ≤ 100 := by
  have hi := h.indent
  by_cases h0 : k = 0
  · subst h0
    rw [inOf_zero]
    omega
  · have hx := List.getElem?_eq_getElem (show k - 1 < p.chunks.length by omega)
    rw [inOf_at h0 hx]
    obtain ⟨-, hs⟩ := h.chunks.texts (k - 1) _ hx
    obtain ⟨-, -, h1, h2⟩ := hs (by omega)
    omega
/-- The line of those chunks. -/
def lineOf (p : Pc) (a n : Nat) : ByteArray := lin (blanks (inOf p a)) ((p.chunks.take n).drop a)
/-- The lines from there on. -/
def linesFrom (p : Pc) (vs : List Int) (a : Nat) : List ByteArray := if a < p.chunks.length then ren p.indent vs (blanks (inOf p a)) (p.chunks.drop a) else []
def linesOf (p : Pc) (vs : List Int) : List ByteArray := ren p.indent vs (blanks p.indent) p.chunks
theorem ren_seg {ind : Int} {vs : List Int} {cs : List Ch} {n : Nat} : ∀ (d a : Nat) (s : ByteArray), n = a + d + 1 → Seg vs cs a n → ren ind vs s (cs.drop a) = lin s ((cs.take n).drop a) :: (if n < cs.length then ren ind vs (blanks (ind + ((cs[n - 1]?).map (·.nest)).getD 0)) (cs.drop n) else [])
  | 0, a, s, hd, h => by
    have hle := h.le
    obtain ⟨x, hx⟩ : ∃ x, cs[a]? = some x := ⟨_, List.getElem?_eq_getElem (show a < cs.length by omega)⟩
    have ha : n - 1 = a := by omega
    by_cases hn : n < cs.length
    · rw [ren_split s hx (by omega) (h.last _ hn (by rw [ha]; exact hx)), lin_last s hx (by omega) hle, if_pos hn, ha, hx, show n = a + 1 by omega]
      rfl
    · rw [ren_last s hx (by omega), lin_last s hx (by omega) hle, if_neg hn]
  | d + 1, a, s, hd, h => by
    have hle := h.le
    have hx := List.getElem?_eq_getElem (show a < cs.length by omega)
    rw [ren_join s hx (by omega) (h.inner a _ (Nat.le_refl _) (by omega) hx), lin_more s hx (by omega) hle]
    exact ren_seg d (a + 1) _ (by omega) ⟨by omega, hle, fun i x h1 h2 h3 => h.inner i x (by omega) h2 h3, h.last⟩
theorem lines_seg {p : Pc} {vs : List Int} {a n : Nat} (h : Seg vs p.chunks a n) : linesFrom p vs a = lineOf p a n :: linesFrom p vs n := by
  have hlt := h.lt
  have hle := h.le
  unfold linesFrom lineOf
  rw [if_pos (by omega), ren_seg (n - a - 1) a _ (by omega) h]
  unfold inOf
  rw [if_neg (show n ≠ 0 by omega)]
theorem lines_zero {p : Pc} {vs : List Int} (h : 0 < p.chunks.length) : linesFrom p vs 0 = linesOf p vs := by
  unfold linesFrom linesOf
  rw [if_pos h, inOf_zero]
  rfl
theorem lines_end {p : Pc} {vs : List Int} {a : Nat} (h : p.chunks.length ≤ a) : linesFrom p vs a = [] := by
  unfold linesFrom
  rw [if_neg (by omega)]
/-- How long a line may be. -/
theorem lin_size : ∀ (cs : List Ch) (s : ByteArray) (m : Nat), (∀ x ∈ cs, x.text.size ≤ m) → (lin s cs).size ≤ s.size + cs.length * (m + 1)
  | [], s, m, _ => by rw [lin]; omega
  | [x], s, m, h => by
    have := h x (by simp)
    rw [lin, app_size, List.length_singleton]
    omega
  | x :: y :: cs, s, m, h => by
    have h1 := h x (by simp)
    have ih := lin_size (y :: cs) (s ++ x.text ++ sp1 x) m (fun z hz => h z (by simp only [List.mem_cons] at hz ⊢; exact .inr hz))
    have h2 := sp1_size x
    rw [lin, List.length_cons, Nat.succ_mul]
    rw [app_size, app_size] at ih
    omega
theorem lineOf_size {p : Pc} {a n : Nat} (h : Right p) (hF : PcFew p) (ha : a < p.chunks.length) : (lineOf p a n).size ≤ 83886260 := by
  have h1 := inOf_le h ha
  have h2 := h.chunks.most
  have h3 := lin_size ((p.chunks.take n).drop a) (blanks (inOf p a)) 1048576 (fun x hx => by
    obtain ⟨j, hj⟩ := List.mem_iff_getElem?.1 (List.mem_of_mem_take (List.mem_of_mem_drop hx))
    exact hF.texts j x hj)
  rw [blanks_size] at h3
  have h4 : ((p.chunks.take n).drop a).length ≤ 80 := by rw [List.length_drop, List.length_take]; omega
  have h5 : ((p.chunks.take n).drop a).length * (1048576 + 1) ≤ 80 * (1048576 + 1) := Nat.mul_le_mul_right _ h4
  unfold lineOf
  omega
/-- By how much lines are too long. -/
def ovr (wd : Int) : List ByteArray → Int
  | [] => 0
  | s :: ss => max ((s.size : Int) - wd) 0 + ovr wd ss
theorem ovr_app (wd : Int) : ∀ (a b : List ByteArray), ovr wd (a ++ b) = ovr wd a + ovr wd b
  | [], b => by rw [List.nil_append, ovr]; omega
  | s :: a, b => by rw [List.cons_append, ovr, ovr, ovr_app wd a b]; omega
/-- A width in its bounds. -/
def wid (w : Int) : Int := min (max w 0) 100000
theorem wid_le (w : Int) : 0 ≤ wid w ∧ wid w ≤ 100000 := by unfold wid; omega
/-- What values cost. -/
def vcost : List Ru → List Int → Int
  | r :: rs, v :: vs => r.cost * v + vcost rs vs
  | [], _ => 0
  | _ :: _, [] => 0
theorem vcost_at {rs : List Ru} {vs : List Int} {k : Nat} {y : Ru} {z : Int} (hy : rs[k]? = some y) (hz : vs[k]? = some z) : vcost (rs.drop k) (vs.drop k) = y.cost * z + vcost (rs.drop (k + 1)) (vs.drop (k + 1)) := by
  have h1 := (List.getElem?_eq_some_iff.1 hy)
  have h2 := (List.getElem?_eq_some_iff.1 hz)
  rw [List.drop_eq_getElem_cons h1.1, List.drop_eq_getElem_cons h2.1, vcost, h1.2, h2.2]
theorem vcost_end {rs : List Ru} {vs : List Int} {k : Nat} (h : vs.length ≤ k) : vcost (rs.drop k) (vs.drop k) = 0 := by
  rw [List.drop_of_length_le h]
  cases rs.drop k <;> rfl
/-- Whether there is a split in a span. -/
def snSpl (cs : List Ch) (vs : List Int) (x : Sn) : Bool := ((cs.take (x.til.toNat + 1)).drop x.frm.toNat).any (spl vs)
/-- What spans cost. -/
def scost (cs : List Ch) (vs : List Int) : List Sn → Int
  | [] => 0
  | x :: xs => (if snSpl cs vs x then x.cost else 0) + scost cs vs xs
theorem scost_yes {cs : List Ch} {vs : List Int} {xs : List Sn} {k : Nat} {x : Sn} (hx : xs[k]? = some x) (h : snSpl cs vs x = true) : scost cs vs (xs.drop k) = x.cost + scost cs vs (xs.drop (k + 1)) := by
  have h1 := (List.getElem?_eq_some_iff.1 hx)
  rw [List.drop_eq_getElem_cons h1.1, scost, h1.2, if_pos h]
theorem scost_no {cs : List Ch} {vs : List Int} {xs : List Sn} {k : Nat} {x : Sn} (hx : xs[k]? = some x) (h : snSpl cs vs x = false) : scost cs vs (xs.drop k) = scost cs vs (xs.drop (k + 1)) := by
  have h1 := (List.getElem?_eq_some_iff.1 hx)
  rw [List.drop_eq_getElem_cons h1.1, scost, h1.2, if_neg (by rw [h]; exact Bool.false_ne_true)]
  omega
theorem scost_end {cs : List Ch} {vs : List Int} {xs : List Sn} {k : Nat} (h : xs.length ≤ k) : scost cs vs (xs.drop k) = 0 := by
  rw [List.drop_of_length_le h, scost]
/-- What a piece costs with its values. -/
def costSum (p : Pc) (vs : List Int) : Int := vcost p.rules vs + scost p.chunks vs p.spans
def costOver (p : Pc) (vs : List Int) (wd : Int) : Int := ovr (wid wd) (linesOf p vs)
theorem ren_len (ind : Int) (vs : List Int) : ∀ (cs : List Ch) (s : ByteArray), (ren ind vs s cs).length ≤ cs.length + 1
  | [], s => by rw [ren]; simp
  | [x], s => by rw [ren]; simp
  | x :: y :: cs, s => by
    have h1 := ren_len ind vs (y :: cs) (blanks (ind + x.nest))
    have h2 := ren_len ind vs (y :: cs) (s ++ x.text ++ sp1 x)
    rw [ren]
    split
    · simp only [List.length_cons] at h1 ⊢; omega
    · simp only [List.length_cons] at h2 ⊢; omega
end Go.Proofs.Ytgaejcljabhijaa
