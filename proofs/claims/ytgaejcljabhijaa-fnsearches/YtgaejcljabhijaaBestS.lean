/- What spec.BestOf answers. -/
import Derived.Test.YtgaejcljabhijaaKaq
import Derived.Test.YtgaejcljabhijaaOkS2
namespace Go.Proofs.Ytgaejcljabhijaa
open Go.RowKit

theorem after_len {rs : List Ru} {vs : List Int} {n : Nat} (h : InV rs vs) (hl : vs.length = n) : (after rs vs).length = n := by
  cases hn : nx rs vs with
  | none => rw [after_none hn, List.length_replicate]; exact hl
  | some u =>
    have h1 := ((nx_both _ _ h).1 u hn).1
    rw [after_some hn, inV_len _ _ h1, ← hl, inV_len _ _ h]
/-- How many are left, where there are more. -/
def meas (m : Value) (k : Nat) : Nat := match m with
  | .bool true => k + 1
  | _ => 0
theorem meas_end (k j : Nat) : meas (.bool false) k < meas (.bool true) j := by show 0 < j + 1; omega
theorem meas_less {k j : Nat} (h : k < j) : meas (.bool true) k < meas (.bool true) j := by show k + 1 < j + 1; omega
theorem madeZ (n : Nat) : (madeCells (Value.int IntKind.i64 0).cells (n * 1)).toList = intVals (List.replicate n 0) := by
  apply List.ext_getElem
  · simp [madeCells, intVals]
  · intro i h1 h2
    simp [madeCells, intVals, Value.cells, Nat.mod_one]

/-- The search of the specification so far. -/
structure TS (w : World) (p : Pc) (l : Pl) (V C : Nat) (wr : World) (vs bs : List Int) (bv : Value) (o s : Int) : Prop where
  bel : Below w.heap.size w wr
  box : wr.heap[w.heap.size]? = some (.cells (pcBox p l) 29 (0, 0))
  res : wr.heap[w.heap.size + 1]? = some (.cells zeroCo coT (0, 0))
  now : wr.ownsRow (w.heap.size + 2) 3 1 (.slice (some ⟨V, 0, none⟩) p.rules.length p.rules.length) p.rules.length (intVals vs)
  best : wr.ownsRow (w.heap.size + 2) 3 1 bv bs.length (intVals bs)
  least : wr.heap[C]? = some (.cells #[.int .i64 o, .int .i64 s] coT (0, 0))
  two : w.heap.size + 2 ≤ C
  ne : ∀ k, bv.ownBlock = some k → k ≠ V
  vl : vs.length = p.rules.length

section
variable {w : World} {p : Pc} {l : Pl} {V C : Nat} {wr w' : World} {vs bs us : List Int} {bv bv' : Value} {o s : Int}
theorem TS.vlo (h : TS w p l V C wr vs bs bv o s) : w.heap.size + 2 ≤ V := (h.now.lt V rfl).1
theorem TS.neC (h : TS w p l V C wr vs bs bv o s) : C ≠ V ∧ bv.ownBlock ≠ some C := by
  constructor
  · intro e
    obtain ⟨cur, h1⟩ := row_type h.now
    rw [← e, h.least] at h1
    cases h1
  · intro e
    rcases h.best.2 with ⟨h1, -⟩ | ⟨g', cap, cur, h1, -, h2, -⟩
    · subst h1
      cases e
    · subst h1
      have e1 : g' = C := Option.some.inj e
      subst e1
      rw [h.least] at h2
      cases h2
theorem TS.cellV (h : TS w p l V C wr vs bs bv o s) (j : Nat) (z : Int) (hz : vs[j]? = some z) : wr.cell? ⟨V, j, none⟩ = some (.int .i64 z) := by
  have hj := (List.getElem?_eq_some_iff.1 hz).1
  have := h.vl
  rw [h.now.cellAt j (by omega)]
  unfold intVals
  rw [List.getElem?_map, hz]
  rfl
theorem TS.read (h : TS w p l V C wr vs bs bv o s) : readI wr V p.rules.length = vs := by
  rw [← h.vl]
  exact readI_eq (fun j z hz => h.cellV j z hz)
theorem TS.kids (h : TS w p l V C wr vs bs bv o s) : KidsAt wr (some ⟨V, 0, none⟩) vs := fun _ => ⟨V, 0, rfl, (h.now.lt V rfl).2, fun j z hz => by rw [Nat.zero_add]; exact h.cellV j z hz⟩
/-- More was made. -/
theorem TS.more (h : TS w p l V C wr vs bs bv o s) (hb : Below wr.heap.size wr w') : TS w p l V C w' vs bs bv o s :=
  ⟨h.bel.trans (hb.mono h.bel.size), (hb.block _ (Array.getElem?_eq_some_iff.1 h.box).1).trans h.box, (hb.block _ (Array.getElem?_eq_some_iff.1 h.res).1).trans h.res, owns_below h.now hb, owns_below h.best hb, (hb.block _ (Array.getElem?_eq_some_iff.1 h.least).1).trans h.least, h.two, h.ne, h.vl⟩
/-- The list counts on. -/
theorem TS.step (h : TS w p l V C wr vs bs bv o s) (hg : wr.grownBy w' (some V)) (hl : us.length = p.rules.length) (ho : w'.ownsRow (w.heap.size + 2) 3 1 (.slice (some ⟨V, 0, none⟩) p.rules.length p.rules.length) p.rules.length (intVals us)) : TS w p l V C w' us bs bv o s := by
  have hn := h.vlo
  refine ⟨h.bel.grown hg h.bel.size (fun k e => by cases e; omega), (hg.block _ (Array.getElem?_eq_some_iff.1 h.box).1 (fun e => by have := Option.some.inj e; omega)).trans h.box, (hg.block _ (Array.getElem?_eq_some_iff.1 h.res).1 (fun e => by have := Option.some.inj e; omega)).trans h.res, ho, World.ownsRow.kept h.best hg ?_, (hg.block _ (Array.getElem?_eq_some_iff.1 h.least).1 (fun e => h.neC.1 (Option.some.inj e))).trans h.least, h.two, h.ne, hl⟩
  cases hv : bv.ownBlock with
  | none => exact .inl rfl
  | some g => exact .inr (fun e => h.ne g hv (Option.some.inj e))
/-- The list that counts is the best one. -/
theorem TS.take (h : TS w p l V C wr vs bs bv o s) (hg : wr.grownBy w' none) (ho : w'.ownsRow wr.heap.size 3 1 bv' vs.length (intVals vs)) (o' s' : Int) :
    TS w p l V C ((w'.setCell ⟨C, 0, none⟩ (.int .i64 o')).setCell ⟨C, 1, none⟩ (.int .i64 s')) vs vs bv' o' s' := by
  have h' : TS w p l V C w' vs bs bv o s := h.more ⟨hg.os, hg.tape, hg.output, hg.size, fun k hk => hg.block k hk (by simp)⟩
  have hn := h.vlo
  have ht := h.two
  have hvl := (h.now.lt V rfl).2
  have hcl := (Array.getElem?_eq_some_iff.1 h.least).1
  have G := two_grown w' C (.int .i64 o') (.int .i64 s')
  have s1 := heap_setCell_same w' C 0 _ _ (.int .i64 o') h'.least
  have s2 := heap_setCell_same _ C 1 _ _ (.int .i64 s') s1
  exact ⟨h'.bel.grown G h'.bel.size (fun k e => by cases e; omega), (G.block _ (Array.getElem?_eq_some_iff.1 h'.box).1 (fun e => by have := Option.some.inj e; omega)).trans h'.box, (G.block _ (Array.getElem?_eq_some_iff.1 h'.res).1 (fun e => by have := Option.some.inj e; omega)).trans h'.res,
    World.ownsRow.kept h'.now G (.inr (fun e => h'.neC.1 (Option.some.inj e).symm)), ownsRow_base (kept_far ho G hcl) (by have := (Array.getElem?_eq_some_iff.1 h.res).1; omega), s2, ht, fun k e => by have := (ho.lt k e).1; omega, h.vl⟩
end

theorem told_two {w wr : World} {n : Nat} {bv : Value} {xs : List Value} (hb : Below w.heap.size w wr) (hf : wr.heap[w.heap.size + 1]? = some (.cells zeroCo coT (0, 0))) (o s : Int) (hv : wr.ownsRow (w.heap.size + 2) 3 1 bv n xs) :
    ((wr.setCell ⟨w.heap.size + 1, 0, none⟩ (.int .i64 o)).setCell ⟨w.heap.size + 1, 1, none⟩ (.int .i64 s)).cell? ⟨w.heap.size + 1, 0, none⟩ = some (.int .i64 o) ∧
    ((wr.setCell ⟨w.heap.size + 1, 0, none⟩ (.int .i64 o)).setCell ⟨w.heap.size + 1, 1, none⟩ (.int .i64 s)).cell? ⟨w.heap.size + 1, 1, none⟩ = some (.int .i64 s) ∧
    Below w.heap.size w ((wr.setCell ⟨w.heap.size + 1, 0, none⟩ (.int .i64 o)).setCell ⟨w.heap.size + 1, 1, none⟩ (.int .i64 s)) ∧
    ((wr.setCell ⟨w.heap.size + 1, 0, none⟩ (.int .i64 o)).setCell ⟨w.heap.size + 1, 1, none⟩ (.int .i64 s)).ownsRow w.heap.size 3 1 bv n xs := by
  have G := two_grown wr (w.heap.size + 1) (.int .i64 o) (.int .i64 s)
  have s1 := heap_setCell_same wr (w.heap.size + 1) 0 _ _ (.int .i64 o) hf
  have s2 := heap_setCell_same _ (w.heap.size + 1) 1 _ _ (.int .i64 s) s1
  exact ⟨cell_of_row _ _ 0 _ _ _ s2, cell_of_row _ _ 1 _ _ _ s2, hb.grown G hb.size (fun k e => by cases e; omega), ownsRow_base (kept_far hv G (by omega)) (by omega)⟩

/-- What is known when the round begins. -/
def TR (p : Pc) (wd : Int) (vs bs : List Int) (o s : Int) (b m : Bool) : Prop :=
  (m = true ∧ InV p.rules vs ∧ ((b = false ∧ vs = zeros p) ∨ (b = true ∧ o = costOver p bs wd ∧ s = costSum p bs ∧ Upto p wd bs (rk p.rules vs)))) ∨ (m = false ∧ b = true ∧ o = costOver p bs wd ∧ s = costSum p bs ∧ Best p wd bs)

set_option maxHeartbeats 8000000 in
set_option maxRecDepth 20000 in
theorem sBest_yes (p : Pc) (l : Pl) (wd : Int) (w : World) (hF : PcFew p) (hp : PcIn w p l) (h1 : Right p) :
    Calls Try.prog 11 #[pcV p l, .int .i64 wd] w fun e w' => ∃ bs, Best p wd bs ∧ BoAns bs (costOver p bs wd) (costSum p bs) true w e w' := by
  show Calls _ _ #[.agg #[.int .i64 p.indent, .slice l.a1 p.rules.length l.c1, .slice l.a2 p.chunks.length l.c2, .slice l.a3 p.spans.length l.c3, .slice l.a4 p.ties.length l.c4], _] _ _
  obtain ⟨W0, hW0, X0, B0, S0⟩ := boxed w p l 29
  have K0 : W0.heap[w.heap.size]? = some (.cells (pcBox p l) 29 (0, 0)) := by rw [hW0]; exact heap_alloc_new w _
  have hX : w.heap.size < W0.heap.size := by omega
  have I0 := hp.below B0 (Nat.le_refl _)
  have hr8 : p.rules.length ≤ 8 := h1.rules.1
  have HR := hidOf (noLeast_right h1.rules)
  go_enter Try.func11, Try.ntmps11
  go_wp2_with fail
  rw [← hW0]
  obtain ⟨W1, hW1⟩ : ∃ W1, W1 = W0.alloc (.cells zeroCo coT) := ⟨_, rfl⟩
  rw [← hW1]
  have B1 : Below W0.heap.size W0 W1 := by rw [hW1]; exact (Below.refl _ _).alloc (Nat.le_refl _) _
  have F1 : W1.heap[w.heap.size + 1]? = some (.cells zeroCo coT (0, 0)) := by rw [hW1, ← S0]; exact heap_alloc_new W0 _
  have z1 : w.heap.size + 1 < W1.heap.size := by rw [hW1]; simp; omega
  clear hW0 hW1 S0
  refine (sOk_any p l _ hF (I0.below B1 (Nat.le_refl _))).mono ?_
  rintro e w1 hq
  obtain ⟨rfl, A1⟩ := hq.yes h1
  have C1 := B1.trans (A1.mono B1.size)
  have K1 := (C1.block _ hX).trans K0
  have F2 := (A1.block _ z1).trans F1
  have BW := B0.trans (C1.mono B0.size)
  have zw1 : w.heap.size + 2 ≤ w1.heap.size := by have := A1.size; omega
  clear hq I0 A1 B1 C1 F1 z1 K0 B0 X0
  go_upto_region 6 with fail
  obtain ⟨C, hC⟩ : ∃ C, C = w1.heap.size + 1 := ⟨_, rfl⟩
  obtain ⟨W2, hW2⟩ : ∃ W2, W2 = (w1.alloc (.cells #[] 3)).alloc (.cells zeroCo coT) := ⟨_, rfl⟩
  rw [← hC, ← hW2]
  have B2 : Below w1.heap.size w1 W2 := by rw [hW2]; exact ((Below.refl _ _).alloc (Nat.le_refl _) _).alloc (by simp) _
  have o2 : W2.ownsRow (w.heap.size + 2) 3 1 (.slice (some ⟨w1.heap.size, 0, none⟩) 0 0) 0 [] := by rw [hW2]; exact (own_made0 w1 _ zw1).alloc _
  have L2 : W2.heap[C]? = some (.cells zeroCo coT (0, 0)) := by
    rw [hW2, hC, show w1.heap.size + 1 = (w1.alloc (.cells #[] 3)).heap.size by simp]
    exact heap_alloc_new _ _
  have z2 : W2.heap.size = w1.heap.size + 2 := by rw [hW2]; simp
  obtain ⟨V, hV⟩ : ∃ V, V = W2.heap.size := ⟨_, rfl⟩
  have K2 := (B2.block _ (by omega)).trans K1
  have F3 := (B2.block _ (by omega)).trans F2
  have c1 : W2.cell? ⟨w.heap.size, 1, none⟩ = some (.slice l.a1 p.rules.length l.c1) := cell_of_row W2 _ 1 _ _ _ K2
  have BW2 := BW.trans (B2.mono BW.size)
  obtain ⟨G, hG⟩ : ∃ G, G = w1.heap.size := ⟨_, rfl⟩
  rw [← hG] at o2 ⊢
  have hGV : G ≠ V := by omega
  have hC2 : w.heap.size + 2 ≤ C := by omega
  have hb2 : w.heap.size + 2 ≤ W2.heap.size := by omega
  clear hW2 B2 K1 F2 BW zw1 z2 hC hG
  obtain ⟨i0, hi, hz0, hz1, hz2⟩ := info_parts infoIntT
  go_wp2_with (at_make; refine wpList_make_full _ rfl _ _ 32 rfl (w.heap.size + 2) 3 i0 (.int .i64 0) 1 Try.underlying32 hi hz0 hz1 .i64 .i64 _ _ p.rules.length rfl rfl rfl rfl (by rw [hz2]; omega) (by unfold maxLen; omega) hb2 ?_; intro w2 hown hgrow)
  rw [madeZ] at hown
  rw [← hV] at hown ⊢
  have S2 : TS w p l V C w2 (zeros p) [] (.slice (some ⟨G, 0, none⟩) 0 0) 0 0 := by
    have hb3 : Below W2.heap.size W2 w2 := (Below.refl _ W2).grown hgrow (Nat.le_refl _) (fun k e => by cases e)
    exact ⟨BW2.trans (hb3.mono BW2.size), (hb3.block _ (Array.getElem?_eq_some_iff.1 K2).1).trans K2, (hb3.block _ (Array.getElem?_eq_some_iff.1 F3).1).trans F3, hown, owns_below o2 hb3, (hb3.block _ (Array.getElem?_eq_some_iff.1 L2).1).trans L2, hC2, fun k e => by cases e; exact hGV, zeros_len p⟩
  have HZ := hidOf (zeros_ties h1)
  have T2 := hidOf (show TR p wd (zeros p) [] 0 0 false true from .inl ⟨rfl, inV_ok HZ.out.vals, .inl ⟨rfl, rfl⟩⟩)
  clear hown hgrow BW2 K2 F3 o2 L2 c1 hGV hC2 hb2 hi hz0 hz1 hz2 i0 hV
  go_loopw [7, 9, 11] (fun bv sm mo wr => ∃ (vs bs : List Int) (o s : Int) (b m : Bool), sm = .bool b ∧ mo = .bool m ∧ TS w p l V C wr vs bs bv o s ∧ Hid (TR p wd vs bs o s b m)) (fun _ _ mo wr => meas mo (tot p.rules - rk p.rules (readI wr V p.rules.length)).toNat)
  case atStart => exact ⟨zeros p, [], 0, 0, false, true, rfl, rfl, S2, T2⟩
  case round =>
    clear S2 T2
    obtain ⟨vs, bs, o, s, b, m, rfl, rfl, S, HT0⟩ := hrel
    obtain ⟨ab, cb, hbv⟩ := owns_slice S.best
    subst hbv
    have hrd := S.read
    rcases HT0.out with ⟨rfl, hI, hU⟩ | ⟨rfl, rfl, rfl, rfl, hB⟩
    · have HI := hidOf hI
      have HU0 := hidOf hU
      clear HT0 hI hU
      have hvl := S.vl
      have c0 : wr.cell? ⟨w.heap.size, 0, none⟩ = some (.int .i64 p.indent) := cell_of_row wr _ 0 _ _ _ S.box
      have c1 : wr.cell? ⟨w.heap.size, 1, none⟩ = some (.slice l.a1 p.rules.length l.c1) := cell_of_row wr _ 1 _ _ _ S.box
      have c2 : wr.cell? ⟨w.heap.size, 2, none⟩ = some (.slice l.a2 p.chunks.length l.c2) := cell_of_row wr _ 2 _ _ _ S.box
      have c3 : wr.cell? ⟨w.heap.size, 3, none⟩ = some (.slice l.a3 p.spans.length l.c3) := cell_of_row wr _ 3 _ _ _ S.box
      have c4 : wr.cell? ⟨w.heap.size, 4, none⟩ = some (.slice l.a4 p.ties.length l.c4) := cell_of_row wr _ 4 _ _ _ S.box
      have q := sTie_any p l (some ⟨V, 0, none⟩) p.rules.length vs wr hF (by omega) HR.out (hp.below S.bel (Nat.le_refl _)) S.kids
      rw [hvl] at q
      go_wp2_with fail
      refine q.mono ?_
      rintro e w3 hq
      clear q c0 c1 c2 c3 c4
      by_cases hT : TiesHold p vs
      · obtain ⟨rfl, A3⟩ := hq.yes hT
        have S3 := S.more A3
        have HT := hidOf hT
        clear hq A3 S hT
        have c0 : w3.cell? ⟨w.heap.size, 0, none⟩ = some (.int .i64 p.indent) := cell_of_row w3 _ 0 _ _ _ S3.box
        have c1 : w3.cell? ⟨w.heap.size, 1, none⟩ = some (.slice l.a1 p.rules.length l.c1) := cell_of_row w3 _ 1 _ _ _ S3.box
        have c2 : w3.cell? ⟨w.heap.size, 2, none⟩ = some (.slice l.a2 p.chunks.length l.c2) := cell_of_row w3 _ 2 _ _ _ S3.box
        have c3 : w3.cell? ⟨w.heap.size, 3, none⟩ = some (.slice l.a3 p.spans.length l.c3) := cell_of_row w3 _ 3 _ _ _ S3.box
        have c4 : w3.cell? ⟨w.heap.size, 4, none⟩ = some (.slice l.a4 p.ties.length l.c4) := cell_of_row w3 _ 4 _ _ _ S3.box
        have q := sCostR_any p l (some ⟨V, 0, none⟩) p.rules.length vs wd w3 hF (by omega) (hp.below S3.bel (Nat.le_refl _)) S3.kids h1 HT.out.vals
        rw [hvl] at q
        go_wp2_with fail
        refine q.mono ?_
        rintro e w4 ⟨rfl, A4⟩
        have S4 := S3.more A4
        clear q c0 c1 c2 c3 c4 A4 S3
        go_upto_region 12 with fail
        obtain ⟨K, hK⟩ : ∃ K, K = w4.heap.size := ⟨_, rfl⟩
        obtain ⟨W5, hW5⟩ : ∃ W5, W5 = w4.alloc (.cells (coCells p wd vs) coT) := ⟨_, rfl⟩
        rw [← hK, ← hW5]
        have hKC : K ≠ C := by have := (Array.getElem?_eq_some_iff.1 S4.least).1; omega
        have S5 : TS w p l V C W5 vs bs (.slice ab bs.length cb) o s := S4.more (by rw [hW5]; exact (Below.refl _ _).alloc (Nat.le_refl _) _)
        have FK : W5.heap[K]? = some (.cells (coCells p wd vs) coT (0, 0)) := by rw [hW5, hK]; exact heap_alloc_new w4 _
        clear hW5 hK S4
        rcases HU0.out with ⟨rfl, hz⟩ | ⟨rfl, rfl, rfl, hU⟩
        · have HU : Hid (Upto p wd vs (rk p.rules vs + 1)) := hidOf (Upto.first HT.out (by rw [hz]; exact zeros_rk p))
          clear HU0 hz
          have B7 : Below W5.heap.size W5 (W5.alloc (.cells #[] 3)) := (Below.refl _ _).alloc (Nat.le_refl _) _
          have V7 := S5.kids.below B7 (Nat.le_refl _)
          have hz7 := heap_alloc_new W5 (.cells #[] 3)
          have hCV := S5.neC.1
          have hCB : C ≠ w.heap.size := by have := S5.two; omega
          have hCB2 := hCB.symm
          have hKC2 := hKC.symm
          have S7 := S5.more B7
          have FK7 := (B7.block _ (Array.getElem?_eq_some_iff.1 FK).1).trans FK
          go_wp2_with (at_builtin; refine wpList_copyInt rfl _ _ rfl _ W5.heap.size W5.heap.size (Nat.le_refl _) hz7 (some ⟨V, 0, none⟩) p.rules.length vs rfl (by rw [hvl]; rfl) V7 (by omega) ?_; intro a8 c8 w8 o8 g8; have B8 : Below (W5.alloc (.cells #[] 3)).heap.size (W5.alloc (.cells #[] 3)) w8 := ⟨g8.os, g8.tape, g8.output, g8.size, fun k hk => g8.block k hk (by simp)⟩; have S8 := S7.more B8; have FK8 := (B8.block _ (Array.getElem?_eq_some_iff.1 FK7).1).trans FK7; have k0 : w8.cell? ⟨K, 0, none⟩ = some (.int .i64 (costOver p vs wd)) := cell_of_row w8 _ 0 _ _ _ FK8; have k1 : w8.cell? ⟨K, 1, none⟩ = some (.int .i64 (costSum p vs)) := cell_of_row w8 _ 1 _ _ _ FK8; obtain ⟨l0, hl0⟩ : ∃ x, w8.cell? ⟨C, 0, none⟩ = some (.int .i64 x) := ⟨_, cell_of_row w8 _ 0 _ _ _ S8.least⟩; obtain ⟨l1, hl1⟩ : ∃ x, w8.cell? ⟨C, 1, none⟩ = some (.int .i64 x) := ⟨_, cell_of_row w8 _ 1 _ _ _ S8.least⟩; have lf0 := frozen_of_row w8 C 0 _ _ S8.least; have lf1 := frozen_of_row w8 C 1 _ _ S8.least; have c0 : w8.cell? ⟨w.heap.size, 0, none⟩ = some (.int .i64 p.indent) := cell_of_row w8 _ 0 _ _ _ S8.box; have c1 : w8.cell? ⟨w.heap.size, 1, none⟩ = some (.slice l.a1 p.rules.length l.c1) := cell_of_row w8 _ 1 _ _ _ S8.box; have c2 : w8.cell? ⟨w.heap.size, 2, none⟩ = some (.slice l.a2 p.chunks.length l.c2) := cell_of_row w8 _ 2 _ _ _ S8.box; have c3 : w8.cell? ⟨w.heap.size, 3, none⟩ = some (.slice l.a3 p.spans.length l.c3) := cell_of_row w8 _ 3 _ _ _ S8.box; have c4 : w8.cell? ⟨w.heap.size, 4, none⟩ = some (.slice l.a4 p.ties.length l.c4) := cell_of_row w8 _ 4 _ _ _ S8.box)
          have ST := S5.take (grownBy_trans (grownBy_of_below B7 none) g8) o8 (costOver p vs wd) (costSum p vs)
          rw [hvl] at ST
          obtain ⟨W9, hW9⟩ : ∃ W9, W9 = (w8.setCell ⟨C, 0, none⟩ (.int .i64 (costOver p vs wd))).setCell ⟨C, 1, none⟩ (.int .i64 (costSum p vs)) := ⟨_, rfl⟩
          rw [← hW9] at ST ⊢
          clear hW9 S8 S7 S5 FK8 FK7 FK B8 B7 o8 g8 V7 hz7 k0 k1 hl0 hl1 lf0 lf1 c0 c1 c2 c3 c4
          have q := sCu_any p l vs [] (w.heap.size + 2) 3 V p.rules.length p.rules.length p.rules.length W9 (by have := ST.vl; omega) HI.out HR.out (hp.below ST.bel (Nat.le_refl _)).rules (rules_far hp.rules (by have := ST.vlo; omega)) (by rw [List.append_nil]; exact ST.now)
          rw [ST.vl] at q
          refine q.mono ?_
          rintro e w9 ⟨rfl, o9, g9⟩
          rw [List.append_nil] at o9
          have S9 := ST.step g9 (after_len HI.out ST.vl) o9
          have hrd9 := S9.read
          clear q o9 g9 ST HT
          cases hn : nx p.rules vs with
          | none =>
            have HB : Hid (Best p wd vs) := hidOf (by have h := (nx_both _ _ HI.out).2 hn; unfold Best; rw [← h]; exact HU.out)
            clear hn
            go_wp2
            go_roundw
            case rel => exact ⟨_, vs, _, _, true, false, rfl, rfl, S9, hidOf (.inr ⟨rfl, rfl, rfl, rfl, HB.out⟩)⟩
            case measure => exact meas_end _ _
          | some u =>
            obtain ⟨hu, hrk⟩ := (nx_both _ _ HI.out).1 u hn
            have hbd := rk_bd _ _ hu
            rw [after_some hn] at S9 hrd9
            have HM := hidOf (show (tot p.rules - rk p.rules u).toNat < (tot p.rules - rk p.rules vs).toNat by omega)
            have HN := hidOf (show InV p.rules u ∧ Upto p wd vs (rk p.rules u) from ⟨hu, by rw [hrk]; exact HU.out⟩)
            clear hn hu hrk hbd
            go_wp2
            go_roundw
            case rel => exact ⟨u, vs, _, _, true, true, rfl, rfl, S9, hidOf (.inl ⟨rfl, HN.out.1, .inr ⟨rfl, rfl, rfl, HN.out.2⟩⟩)⟩
            case measure => rw [hrd9, hrd]; exact meas_less HM.out
        · have HU1 := hidOf hU
          clear HU0 hU
          have k0 : W5.cell? ⟨K, 0, none⟩ = some (.int .i64 (costOver p vs wd)) := cell_of_row W5 _ 0 _ _ _ FK
          have k1 : W5.cell? ⟨K, 1, none⟩ = some (.int .i64 (costSum p vs)) := cell_of_row W5 _ 1 _ _ _ FK
          have l0 : W5.cell? ⟨C, 0, none⟩ = some (.int .i64 (costOver p bs wd)) := cell_of_row W5 _ 0 _ _ _ S5.least
          have l1 : W5.cell? ⟨C, 1, none⟩ = some (.int .i64 (costSum p bs)) := cell_of_row W5 _ 1 _ _ _ S5.least
          have q : ∀ W, Calls Try.prog 19 #[coV (costOver p vs wd) (costSum p vs), coV (costOver p bs wd) (costSum p bs)] W fun e w' => e = .returned (.bool (lessV p wd vs bs)) ∧ Below W.heap.size W w' := fun W => sLess_any _ _ _ _ W
          cases hl : lessV p wd vs bs with
          | false =>
            rw [hl] at q
            have HU := hidOf (HU1.out.keep HI.out hl)
            clear HU1
            go_wp2_with fail
            refine (q _).mono ?_
            rintro e w6 ⟨rfl, A6⟩
            have S6 := S5.more A6
            clear S5 A6 q k0 k1 l0 l1 FK
            have c0 : w6.cell? ⟨w.heap.size, 0, none⟩ = some (.int .i64 p.indent) := cell_of_row w6 _ 0 _ _ _ S6.box
            have c1 : w6.cell? ⟨w.heap.size, 1, none⟩ = some (.slice l.a1 p.rules.length l.c1) := cell_of_row w6 _ 1 _ _ _ S6.box
            have c2 : w6.cell? ⟨w.heap.size, 2, none⟩ = some (.slice l.a2 p.chunks.length l.c2) := cell_of_row w6 _ 2 _ _ _ S6.box
            have c3 : w6.cell? ⟨w.heap.size, 3, none⟩ = some (.slice l.a3 p.spans.length l.c3) := cell_of_row w6 _ 3 _ _ _ S6.box
            have c4 : w6.cell? ⟨w.heap.size, 4, none⟩ = some (.slice l.a4 p.ties.length l.c4) := cell_of_row w6 _ 4 _ _ _ S6.box
            go_wp2_with fail
            have q := sCu_any p l vs [] (w.heap.size + 2) 3 V p.rules.length p.rules.length p.rules.length w6 (by have := S6.vl; omega) HI.out HR.out (hp.below S6.bel (Nat.le_refl _)).rules (rules_far hp.rules (by have := S6.vlo; omega)) (by rw [List.append_nil]; exact S6.now)
            rw [S6.vl] at q
            refine q.mono ?_
            rintro e w9 ⟨rfl, o9, g9⟩
            rw [List.append_nil] at o9
            have S9 := S6.step g9 (after_len HI.out S6.vl) o9
            have hrd9 := S9.read
            clear q o9 g9 S6 c0 c1 c2 c3 c4
            cases hn : nx p.rules vs with
            | none =>
              have HB : Hid (Best p wd bs) := hidOf (by have h := (nx_both _ _ HI.out).2 hn; unfold Best; rw [← h]; exact HU.out)
              clear hn
              go_wp2
              go_roundw
              case rel => exact ⟨_, bs, _, _, true, false, rfl, rfl, S9, hidOf (.inr ⟨rfl, rfl, rfl, rfl, HB.out⟩)⟩
              case measure => exact meas_end _ _
            | some u =>
              obtain ⟨hu, hrk⟩ := (nx_both _ _ HI.out).1 u hn
              have hbd := rk_bd _ _ hu
              rw [after_some hn] at S9 hrd9
              have HM := hidOf (show (tot p.rules - rk p.rules u).toNat < (tot p.rules - rk p.rules vs).toNat by omega)
              have HN := hidOf (show InV p.rules u ∧ Upto p wd bs (rk p.rules u) from ⟨hu, by rw [hrk]; exact HU.out⟩)
              clear hn hu hrk hbd
              go_wp2
              go_roundw
              case rel => exact ⟨u, bs, _, _, true, true, rfl, rfl, S9, hidOf (.inl ⟨rfl, HN.out.1, .inr ⟨rfl, rfl, rfl, HN.out.2⟩⟩)⟩
              case measure => rw [hrd9, hrd]; exact meas_less HM.out
          | true =>
            rw [hl] at q
            have HU := hidOf (HU1.out.take HI.out HT.out hl)
            clear HU1
            go_wp2_with fail
            refine (q _).mono ?_
            rintro e w6 ⟨rfl, A6⟩
            have S6 := S5.more A6
            have FK6 := (A6.block _ (Array.getElem?_eq_some_iff.1 FK).1).trans FK
            clear S5 A6 q k0 k1 l0 l1 FK
            have B7 : Below w6.heap.size w6 (w6.alloc (.cells #[] 3)) := (Below.refl _ _).alloc (Nat.le_refl _) _
            have V7 := S6.kids.below B7 (Nat.le_refl _)
            have hz7 := heap_alloc_new w6 (.cells #[] 3)
            have hCV := S6.neC.1
            have hCB : C ≠ w.heap.size := by have := S6.two; omega
            have hCB2 := hCB.symm
            have hKC2 := hKC.symm
            have S7 := S6.more B7
            have FK7 := (B7.block _ (Array.getElem?_eq_some_iff.1 FK6).1).trans FK6
            go_wp2_with (at_builtin; refine wpList_copyInt rfl _ _ rfl _ w6.heap.size w6.heap.size (Nat.le_refl _) hz7 (some ⟨V, 0, none⟩) p.rules.length vs rfl (by rw [hvl]; rfl) V7 (by omega) ?_; intro a8 c8 w8 o8 g8; have B8 : Below (w6.alloc (.cells #[] 3)).heap.size (w6.alloc (.cells #[] 3)) w8 := ⟨g8.os, g8.tape, g8.output, g8.size, fun k hk => g8.block k hk (by simp)⟩; have S8 := S7.more B8; have FK8 := (B8.block _ (Array.getElem?_eq_some_iff.1 FK7).1).trans FK7; have k0 : w8.cell? ⟨K, 0, none⟩ = some (.int .i64 (costOver p vs wd)) := cell_of_row w8 _ 0 _ _ _ FK8; have k1 : w8.cell? ⟨K, 1, none⟩ = some (.int .i64 (costSum p vs)) := cell_of_row w8 _ 1 _ _ _ FK8; obtain ⟨l0, hl0⟩ : ∃ x, w8.cell? ⟨C, 0, none⟩ = some (.int .i64 x) := ⟨_, cell_of_row w8 _ 0 _ _ _ S8.least⟩; obtain ⟨l1, hl1⟩ : ∃ x, w8.cell? ⟨C, 1, none⟩ = some (.int .i64 x) := ⟨_, cell_of_row w8 _ 1 _ _ _ S8.least⟩; have lf0 := frozen_of_row w8 C 0 _ _ S8.least; have lf1 := frozen_of_row w8 C 1 _ _ S8.least; have c0 : w8.cell? ⟨w.heap.size, 0, none⟩ = some (.int .i64 p.indent) := cell_of_row w8 _ 0 _ _ _ S8.box; have c1 : w8.cell? ⟨w.heap.size, 1, none⟩ = some (.slice l.a1 p.rules.length l.c1) := cell_of_row w8 _ 1 _ _ _ S8.box; have c2 : w8.cell? ⟨w.heap.size, 2, none⟩ = some (.slice l.a2 p.chunks.length l.c2) := cell_of_row w8 _ 2 _ _ _ S8.box; have c3 : w8.cell? ⟨w.heap.size, 3, none⟩ = some (.slice l.a3 p.spans.length l.c3) := cell_of_row w8 _ 3 _ _ _ S8.box; have c4 : w8.cell? ⟨w.heap.size, 4, none⟩ = some (.slice l.a4 p.ties.length l.c4) := cell_of_row w8 _ 4 _ _ _ S8.box)
            have ST := S6.take (grownBy_trans (grownBy_of_below B7 none) g8) o8 (costOver p vs wd) (costSum p vs)
            rw [hvl] at ST
            obtain ⟨W9, hW9⟩ : ∃ W9, W9 = (w8.setCell ⟨C, 0, none⟩ (.int .i64 (costOver p vs wd))).setCell ⟨C, 1, none⟩ (.int .i64 (costSum p vs)) := ⟨_, rfl⟩
            rw [← hW9] at ST ⊢
            clear hW9 S8 S7 S6 FK8 FK7 FK6 B8 B7 o8 g8 V7 hz7 k0 k1 hl0 hl1 lf0 lf1 c0 c1 c2 c3 c4
            have q := sCu_any p l vs [] (w.heap.size + 2) 3 V p.rules.length p.rules.length p.rules.length W9 (by have := ST.vl; omega) HI.out HR.out (hp.below ST.bel (Nat.le_refl _)).rules (rules_far hp.rules (by have := ST.vlo; omega)) (by rw [List.append_nil]; exact ST.now)
            rw [ST.vl] at q
            refine q.mono ?_
            rintro e w9 ⟨rfl, o9, g9⟩
            rw [List.append_nil] at o9
            have S9 := ST.step g9 (after_len HI.out ST.vl) o9
            have hrd9 := S9.read
            clear q o9 g9 ST HT
            cases hn : nx p.rules vs with
            | none =>
              have HB : Hid (Best p wd vs) := hidOf (by have h := (nx_both _ _ HI.out).2 hn; unfold Best; rw [← h]; exact HU.out)
              clear hn
              go_wp2
              go_roundw
              case rel => exact ⟨_, vs, _, _, true, false, rfl, rfl, S9, hidOf (.inr ⟨rfl, rfl, rfl, rfl, HB.out⟩)⟩
              case measure => exact meas_end _ _
            | some u =>
              obtain ⟨hu, hrk⟩ := (nx_both _ _ HI.out).1 u hn
              have hbd := rk_bd _ _ hu
              rw [after_some hn] at S9 hrd9
              have HM := hidOf (show (tot p.rules - rk p.rules u).toNat < (tot p.rules - rk p.rules vs).toNat by omega)
              have HN := hidOf (show InV p.rules u ∧ Upto p wd vs (rk p.rules u) from ⟨hu, by rw [hrk]; exact HU.out⟩)
              clear hn hu hrk hbd
              go_wp2
              go_roundw
              case rel => exact ⟨u, vs, _, _, true, true, rfl, rfl, S9, hidOf (.inl ⟨rfl, HN.out.1, .inr ⟨rfl, rfl, rfl, HN.out.2⟩⟩)⟩
              case measure => rw [hrd9, hrd]; exact meas_less HM.out
      · obtain ⟨rfl, A3⟩ := hq.no hT
        have S3 := S.more A3
        clear hq A3 S
        rcases HU0.out with ⟨-, hz⟩ | ⟨rfl, rfl, rfl, hU⟩
        · subst hz
          exact absurd HZ.out hT
        · have HU := hidOf (hU.skip HI.out hT)
          clear hT HU0 hU
          have c0 : w3.cell? ⟨w.heap.size, 0, none⟩ = some (.int .i64 p.indent) := cell_of_row w3 _ 0 _ _ _ S3.box
          have c1 : w3.cell? ⟨w.heap.size, 1, none⟩ = some (.slice l.a1 p.rules.length l.c1) := cell_of_row w3 _ 1 _ _ _ S3.box
          have c2 : w3.cell? ⟨w.heap.size, 2, none⟩ = some (.slice l.a2 p.chunks.length l.c2) := cell_of_row w3 _ 2 _ _ _ S3.box
          have c3 : w3.cell? ⟨w.heap.size, 3, none⟩ = some (.slice l.a3 p.spans.length l.c3) := cell_of_row w3 _ 3 _ _ _ S3.box
          have c4 : w3.cell? ⟨w.heap.size, 4, none⟩ = some (.slice l.a4 p.ties.length l.c4) := cell_of_row w3 _ 4 _ _ _ S3.box
          go_wp2_with fail
          have q := sCu_any p l vs [] (w.heap.size + 2) 3 V p.rules.length p.rules.length p.rules.length w3 (by have := S3.vl; omega) HI.out HR.out (hp.below S3.bel (Nat.le_refl _)).rules (rules_far hp.rules (by have := S3.vlo; omega)) (by rw [List.append_nil]; exact S3.now)
          rw [S3.vl] at q
          refine q.mono ?_
          rintro e w9 ⟨rfl, o9, g9⟩
          rw [List.append_nil] at o9
          have S9 := S3.step g9 (after_len HI.out S3.vl) o9
          have hrd9 := S9.read
          clear q o9 g9 S3 c0 c1 c2 c3 c4
          cases hn : nx p.rules vs with
          | none =>
            have HB : Hid (Best p wd bs) := hidOf (by have h := (nx_both _ _ HI.out).2 hn; unfold Best; rw [← h]; exact HU.out)
            clear hn
            go_wp2
            go_roundw
            case rel => exact ⟨_, bs, _, _, true, false, rfl, rfl, S9, hidOf (.inr ⟨rfl, rfl, rfl, rfl, HB.out⟩)⟩
            case measure => exact meas_end _ _
          | some u =>
            obtain ⟨hu, hrk⟩ := (nx_both _ _ HI.out).1 u hn
            have hbd := rk_bd _ _ hu
            rw [after_some hn] at S9 hrd9
            have HM := hidOf (show (tot p.rules - rk p.rules u).toNat < (tot p.rules - rk p.rules vs).toNat by omega)
            have HN := hidOf (show InV p.rules u ∧ Upto p wd bs (rk p.rules u) from ⟨hu, by rw [hrk]; exact HU.out⟩)
            clear hn hu hrk hbd
            go_wp2
            go_roundw
            case rel => exact ⟨u, bs, _, _, true, true, rfl, rfl, S9, hidOf (.inl ⟨rfl, HN.out.1, .inr ⟨rfl, rfl, rfl, HN.out.2⟩⟩)⟩
            case measure => rw [hrd9, hrd]; exact meas_less HM.out
    · have HB := hidOf hB
      clear hB HT0
      have l0 : wr.cell? ⟨C, 0, none⟩ = some (.int .i64 (costOver p bs wd)) := cell_of_row wr _ 0 _ _ _ S.least
      have l1 : wr.cell? ⟨C, 1, none⟩ = some (.int .i64 (costSum p bs)) := cell_of_row wr _ 1 _ _ _ S.least
      have r0 : wr.cell? ⟨w.heap.size + 1, 0, none⟩ = some (.int .i64 0) := cell_of_row wr _ 0 _ _ _ S.res
      have r1 : wr.cell? ⟨w.heap.size + 1, 1, none⟩ = some (.int .i64 0) := cell_of_row wr _ 1 _ _ _ S.res
      have rf0 := frozen_of_row wr _ 0 _ _ S.res
      have rf1 := frozen_of_row wr _ 1 _ _ S.res
      have hne : w.heap.size + 1 ≠ C := by have := S.two; omega
      have hne2 := hne.symm
      have HO := hidOf (told_two S.bel S.res (costOver p bs wd) (costSum p bs) S.best)
      clear S hrd
      go_wp2
      go_region
      go_wp2
      obtain ⟨t0, t1, t2, t3⟩ := HO.out
      refine bodyPost_ret (v := .tuple #[.slice ab bs.length cb, coV (costOver p bs wd) (costSum p bs), .bool true]) (by simp [results, Try.results11, go_sem, t0, t1]) rfl ?_
      exact ⟨bs, HB.out, t2.drew, ab, cb, rfl, owns_below t3 (Below.refl _ _).drew⟩

set_option maxHeartbeats 4000000 in
set_option maxRecDepth 20000 in
theorem sBest_no (p : Pc) (l : Pl) (wd : Int) (w : World) (hF : PcFew p) (hp : PcIn w p l) (h1 : ¬ Right p) :
    Calls Try.prog 11 #[pcV p l, .int .i64 wd] w fun e w' => BoAns [] 0 0 false w e w' := by
  show Calls _ _ #[.agg #[.int .i64 p.indent, .slice l.a1 p.rules.length l.c1, .slice l.a2 p.chunks.length l.c2, .slice l.a3 p.spans.length l.c3, .slice l.a4 p.ties.length l.c4], _] _ _
  obtain ⟨W0, hW0, X0, B0, S0⟩ := boxed w p l 29
  have I0 := hp.below B0 (Nat.le_refl _)
  go_enter Try.func11, Try.ntmps11
  go_wp2_with fail
  rw [← hW0]
  obtain ⟨W1, hW1⟩ : ∃ W1, W1 = W0.alloc (.cells zeroCo coT) := ⟨_, rfl⟩
  rw [← hW1]
  have B1 : Below W0.heap.size W0 W1 := by rw [hW1]; exact (Below.refl _ _).alloc (Nat.le_refl _) _
  have F1 : W1.heap[w.heap.size + 1]? = some (.cells zeroCo coT (0, 0)) := by rw [hW1, ← S0]; exact heap_alloc_new W0 _
  have z1 : w.heap.size + 1 < W1.heap.size := by rw [hW1]; simp; omega
  clear hW0 hW1 S0 hp
  refine (sOk_any p l _ hF (I0.below B1 (Nat.le_refl _))).mono ?_
  rintro e w1 hq
  obtain ⟨rfl, A1⟩ := hq.no h1
  have BW := B0.trans ((B1.trans (A1.mono B1.size)).mono B0.size)
  have zR : w.heap.size + 1 < w1.heap.size := by have := A1.size; omega
  have F2 := (A1.block _ z1).trans F1
  have y0 : w1.cell? ⟨w.heap.size + 1, 0, none⟩ = some (.int .i64 0) := cell_of_row w1 _ 0 _ _ _ F2
  have y1 : w1.cell? ⟨w.heap.size + 1, 1, none⟩ = some (.int .i64 0) := cell_of_row w1 _ 1 _ _ _ F2
  have f0 := frozen_of_row w1 _ 0 _ _ F2
  have f1 := frozen_of_row w1 _ 1 _ _ F2
  have hne : w.heap.size + 1 ≠ w1.heap.size := by omega
  have hne2 := hne.symm
  have O5 := hidOf (none_told BW zR F2)
  clear hq A1 B1 F1 F2 BW z1
  go_wp2
  obtain ⟨t0, t1, t2, t3⟩ := O5.out
  refine bodyPost_ret (v := .tuple #[.slice (some ⟨w1.heap.size, 0, none⟩) 0 0, coV 0 0, .bool false]) (by simp [results, Try.results11, go_sem, t0, t1]) rfl ?_
  exact ⟨t2, _, _, rfl, t3⟩
/-- What both answer, whatever comes. -/
theorem best_key (p : Pc) (wd : Int) (hF : PcFew p) :
    ∃ (us : List Int) (o s : Int) (b : Bool), us.length ≤ 8 ∧
      (∀ (l : Pl) (W : World), PcIn W p l → Calls Try.prog 11 #[pcV p l, .int .i64 wd] W fun e w' => BoAns us o s b W e w') ∧
      (∀ (l : Pl) (W : World), p.chunks.length ≤ l.c2 → PcIn W p l → Calls Try.prog 26 #[pcV p l, .int .i64 wd] W fun e w' => BoAns us o s b W e w') ∧
      (Right p → b = true ∧ Best p wd us ∧ o = costOver p us wd ∧ s = costSum p us) := by
  by_cases h : Right p
  · obtain ⟨bs, hB⟩ := best_is p wd h
    have hl : bs.length ≤ 8 := by have := hB.ties.vals.len; have := h.rules.1; omega
    refine ⟨bs, costOver p bs wd, costSum p bs, true, hl, fun l W hP => ?_, fun l W hc hP => ?_, fun _ => ⟨rfl, hB, rfl, rfl⟩⟩
    · refine (sBest_yes p l wd W hF hP h).mono ?_
      rintro e w' ⟨us, h1, h2⟩
      rw [best_one hB h1]
      exact h2
    · refine (iBest_yes p l wd W hF hc hP h).mono ?_
      rintro e w' ⟨us, h1, h2⟩
      rw [best_one hB h1]
      exact h2
  · exact ⟨[], 0, 0, false, by simp, fun l W hP => sBest_no p l wd W hF hP h, fun l W _ hP => iBest_no p l wd W hF hP h, fun a => absurd a h⟩
end Go.Proofs.Ytgaejcljabhijaa
