/- What impl.BestOf answers. -/
import Derived.Test.YtgaejcljabhijaaKap
import Derived.Deep.RegionHeld3
import Derived.Test.YtgaejcljabhijaaKan
import Derived.Test.YtgaejcljabhijaaOkS2
namespace Go.Proofs.Ytgaejcljabhijaa
open Go.RowKit

/-- A list of numbers in memory of its own, what it costs, and whether there is one. -/
def BoAns (us : List Int) (o s : Int) (b : Bool) (w : World) (e : Ending) (w' : World) : Prop :=
  Below w.heap.size w w' ∧ ∃ a c, e = .returned (.tuple #[.slice a us.length c, coV o s, .bool b]) ∧ w'.ownsRow w.heap.size 3 1 (.slice a us.length c) us.length (intVals us)

theorem two_grown (w : World) (R : Nat) (u v : Value) : w.grownBy ((w.setCell ⟨R, 0, none⟩ u).setCell ⟨R, 1, none⟩ v) (some R) :=
  ⟨rfl, rfl, rfl, by simp, fun k _ hk => (heap_setCell_other _ ⟨R, 1, none⟩ k _ (fun e => hk (by simp [e]))).trans (heap_setCell_other _ ⟨R, 0, none⟩ k _ (fun e => hk (by simp [e])))⟩
theorem kept_far {w w' : World} {base e s n R : Nat} {v : Value} {xs : List Value} (h : w.ownsRow base e s v n xs) (hg : w.grownBy w' (some R)) (hR : R < base) : w'.ownsRow base e s v n xs := by
  refine World.ownsRow.kept h hg ?_
  cases hv : v.ownBlock with
  | none => exact .inl rfl
  | some g => exact .inr (fun e => by have := (h.lt g hv).1; have := Option.some.inj e; omega)

set_option maxHeartbeats 8000000 in
set_option maxRecDepth 20000 in
theorem iBest_yes (p : Pc) (l : Pl) (wd : Int) (w : World) (hF : PcFew p) (hcap : p.chunks.length ≤ l.c2) (hp : PcIn w p l) (h1 : Right p) :
    Calls Try.prog 26 #[pcV p l, .int .i64 wd] w fun e w' => ∃ bs, Best p wd bs ∧ BoAns bs (costOver p bs wd) (costSum p bs) true w e w' := by
  show Calls _ _ #[.agg #[.int .i64 p.indent, .slice l.a1 p.rules.length l.c1, .slice l.a2 p.chunks.length l.c2, .slice l.a3 p.spans.length l.c3, .slice l.a4 p.ties.length l.c4], _] _ _
  obtain ⟨W0, hW0, X0, B0, S0⟩ := boxed w p l 29
  have K0 : W0.heap[w.heap.size]? = some (.cells (pcBox p l) 29 (0, 0)) := by rw [hW0]; exact heap_alloc_new w _
  have hX : w.heap.size < W0.heap.size := by omega
  have I0 := hp.below B0 (Nat.le_refl _)
  have hr8 : p.rules.length ≤ 8 := h1.rules.1
  have HR := hidOf (noLeast_right h1.rules)
  have hS := fun b W => arr_to b p.rules.length hr8 W
  go_enter Try.func26, Try.ntmps26
  go_wp2_with fail
  rw [← hW0]
  obtain ⟨W1, hW1⟩ : ∃ W1, W1 = W0.alloc (.cells zeroCo coT) := ⟨_, rfl⟩
  rw [← hW1]
  have B1 : Below W0.heap.size W0 W1 := by rw [hW1]; exact (Below.refl _ _).alloc (Nat.le_refl _) _
  have F1 : W1.heap[w.heap.size + 1]? = some (.cells zeroCo coT (0, 0)) := by rw [hW1, ← S0]; exact heap_alloc_new W0 _
  have z1 : w.heap.size + 1 < W1.heap.size := by rw [hW1]; simp; omega
  clear hW0 hW1 S0
  refine (iOk_any p l _ hF (I0.below B1 (Nat.le_refl _))).mono ?_
  rintro e w1 hq
  obtain ⟨rfl, A1⟩ := hq.yes h1
  have C1 := B1.trans (A1.mono B1.size)
  clear hq
  go_upto_region 4 with fail
  obtain ⟨N, hN⟩ : ∃ N, N = w1.heap.size := ⟨_, rfl⟩
  obtain ⟨E, hE⟩ : ∃ E, E = w1.heap.size + 1 := ⟨_, rfl⟩
  obtain ⟨W2, hW2⟩ : ∃ W2, W2 = (w1.alloc (.cells eight 98)).alloc (.cells eight 98) := ⟨_, rfl⟩
  rw [← hE, ← hN, ← hW2]
  have hNE : N ≠ E := by omega
  have B2 : Below w1.heap.size w1 W2 := by rw [hW2]; exact ((Below.refl _ _).alloc (Nat.le_refl _) _).alloc (by simp) _
  have C2 := C1.trans (B2.mono C1.size)
  have oN : W2.ownsRow (w.heap.size + 2) 98 1 (.slice (some ⟨N, 0, none⟩) 8 8) 8 (intVals (zeros p) ++ restZ p.rules.length) := by
    refine ⟨restZ_len (zeros_len p) hr8, .inr ⟨N, 8, eight, rfl, by have := A1.size; omega, ?_, Nat.le_refl _, by unfold maxLen; omega, rfl, ?_⟩⟩
    · rw [hW2, hN, Below.heap_alloc (w1.alloc _) _ _ (by simp)]
      exact heap_alloc_new w1 _
    · unfold zeros
      rw [eight_is hr8]
      exact List.take_of_length_le (by rw [← eight_is hr8]; decide)
  have oE : W2.ownsRow (w.heap.size + 2) 98 1 (.slice (some ⟨E, 0, none⟩) 8 8) 8 (intVals (zeros p) ++ restZ p.rules.length) := by
    refine ⟨restZ_len (zeros_len p) hr8, .inr ⟨E, 8, eight, rfl, by have := A1.size; omega, ?_, Nat.le_refl _, by unfold maxLen; omega, rfl, ?_⟩⟩
    · rw [hW2, hE, show w1.heap.size + 1 = (w1.alloc (.cells eight 98)).heap.size by simp]
      exact heap_alloc_new _ _
    · unfold zeros
      rw [eight_is hr8]
      exact List.take_of_length_le (by rw [← eight_is hr8]; decide)
  have K2 := (C2.block _ hX).trans K0
  have F2 := ((A1.trans (B2.mono A1.size)).block _ z1).trans F1
  have BW := B0.trans (C2.mono B0.size)
  obtain ⟨-, c0, c1, c2, c3, c4⟩ := X0.below C2 hX
  have I2 := I0.below C2 (Nat.le_refl _)
  have V2 : KidsAt W2 (some ⟨N, 0, none⟩) (zeros p) := fun _ => ⟨N, 0, rfl, (oN.lt N rfl).2, fun j z hz => by
    have hj := (List.getElem?_eq_some_iff.1 hz).1
    have := zeros_len p
    rw [Nat.zero_add, oN.cellAt j (by omega), List.getElem?_append_left (by rw [intVals_len]; exact hj)]
    unfold intVals
    rw [List.getElem?_map, hz]
    rfl⟩
  have HT := hidOf (zeros_ties h1)
  have qC := fun W hP hK => iCostR_any p l (some ⟨N, 0, none⟩) 8 (zeros p) wd W hF (by rw [zeros_len]; omega) hcap hP hK h1 HT.out.vals
  rw [zeros_len] at qC
  clear hW2 hN hE A1 B1 B2 C1 F1 z1 K0 I0 X0 B0
  go_wp2_with fail
  refine (qC _ I2 V2).mono ?_
  rintro e w2 ⟨rfl, A3⟩
  clear qC
  go_upto_region 6 with fail
  obtain ⟨L, hL⟩ : ∃ L, L = w2.heap.size := ⟨_, rfl⟩
  obtain ⟨W3, hW3⟩ : ∃ W3, W3 = w2.alloc (.cells (coCells p wd (zeros p)) coT) := ⟨_, rfl⟩
  rw [← hL, ← hW3]
  have B3 : Below W2.heap.size W2 W3 := by rw [hW3]; exact A3.alloc A3.size _
  have S3 : BS w p l wd N E L W3 (zeros p) (zeros p) := by
    refine ⟨BW.trans (B3.mono BW.size), (B3.block _ (Array.getElem?_eq_some_iff.1 K2).1).trans K2, (B3.block _ (Array.getElem?_eq_some_iff.1 F2).1).trans F2, owns_below oN B3, owns_below oE B3, ?_, ?_, hNE, zeros_len p, zeros_len p⟩
    · rw [hW3, hL]
      exact heap_alloc_new w2 _
    · have := A3.size
      have := (Array.getElem?_eq_some_iff.1 F2).1
      omega
  have U3 := hidOf (Upto.first (wd := wd) HT.out (zeros_rk p))
  have I3 := hidOf (inV_ok HT.out.vals)
  clear hL hW3 A3 B3 I2 V2 oN oE K2 F2 BW C2 c0 c1 c2 c3 c4 HT hNE
  go_loopw [11] (fun _ wr => ∃ vs bs, BS w p l wd N E L wr vs bs ∧ Hid (InV p.rules vs) ∧ Hid (Upto p wd bs (rk p.rules vs + 1))) (fun _ wr => (tot p.rules - rk p.rules (readI wr N p.rules.length)).toNat)
  case atStart => exact ⟨zeros p, zeros p, S3, I3, U3⟩
  case round =>
    clear S3 I3 U3
    obtain ⟨vs, bs, S, HI, HU⟩ := hrel
    have c1 := cell_of_row wr _ 1 _ _ _ S.box
    have R := (hp.below S.bel (Nat.le_refl _)).rules
    have q := iCu_any p.rules l.a1 l.c1 vs (restZ p.rules.length) (w.heap.size + 2) 98 N 8 8 8 wr (by have := S.vl; omega) HI.out HR.out R (rules_far hp.rules (by have := S.nlo; omega)) S.now
    rw [S.vl] at q
    go_wp2_with fail
    refine q.mono ?_
    rintro e w3 ⟨rfl, o3, g3⟩
    have hrd := S.read hr8
    clear q c1 R
    cases hn : nx p.rules vs with
    | none =>
      rw [after_none hn] at o3
      have HB : Hid (Best p wd bs) := hidOf (by have h := (nx_both _ _ HI.out).2 hn; unfold Best; rw [← h]; exact HU.out)
      have S3 := S.step g3 (by rw [List.length_replicate]; exact S.vl) o3
      have q := fun W hK => clone_any (some ⟨E, 0, none⟩) 8 bs W (by have := S.bl; omega) hK
      rw [S.bl] at q
      have HBL := hidOf S.bl
      clear o3 g3 S HU HI hrd hn
      have c1 := cell_of_row w3 _ 1 _ _ _ S3.box
      have l0 := cell_of_row w3 _ 0 _ _ _ S3.least
      have l1 := cell_of_row w3 _ 1 _ _ _ S3.least
      have z0 : w.heap.size < w3.heap.size := (Array.getElem?_eq_some_iff.1 S3.box).1
      have r0 := cell_of_row w3 _ 0 _ _ _ S3.res
      have r1 := cell_of_row w3 _ 1 _ _ _ S3.res
      have rf0 := frozen_of_row w3 _ 0 _ _ S3.res
      have rf1 := frozen_of_row w3 _ 1 _ _ S3.res
      have zR : w.heap.size + 1 < w3.heap.size := (Array.getElem?_eq_some_iff.1 S3.res).1
      have hbR : w.heap.size ≠ w.heap.size + 1 := by omega
      have zL : L < w3.heap.size := (Array.getElem?_eq_some_iff.1 S3.least).1
      have VD := (S3.kidsB hr8).below (Below.refl w3.heap.size w3).drew (Nat.le_refl _)
      have HS := hidOf S3
      have hRL : w.heap.size + 1 ≠ L := by have := S3.two; omega
      have hRL2 := hRL.symm
      clear S3
      go_wp2
      go_region_held3 (fun W => (W.cell? ⟨w.heap.size, 1, none⟩ = some (.slice l.a1 p.rules.length l.c1) ∧ W.cell? ⟨L, 0, none⟩ = some (.int .i64 (costOver p bs wd)) ∧ W.cell? ⟨L, 1, none⟩ = some (.int .i64 (costSum p bs)))) (first | trivial | go_keep)
        ((go_at_call 68; refine (q _ VD).mono ?_; rintro e w4 ⟨hb4, a4, c4, rfl, o4⟩; have A4 := (Below.refl w3.heap.size w3).drew.trans hb4; have hc4 := (bcell A4).1; have hd4 := (bcell A4).2))
      have y0 := (hc4 _ 0 zR).trans r0
      have y1 := (hc4 _ 1 zR).trans r1
      have BW := HS.out.bel.trans (A4.mono HS.out.bel.size)
      have G5 := two_grown w4 (w.heap.size + 1) (.int .i64 (costOver p bs wd)) (.int .i64 (costSum p bs))
      have O5 := hidOf (And.intro (BW.grown G5 BW.size (fun k e => by cases e; omega)) (ownsRow_base (base' := w.heap.size) (kept_far o4 G5 (by show w.heap.size + 1 < w3.heap.size; exact zR)) (by show w.heap.size ≤ w3.heap.size; omega)))
      clear hc4 hd4 A4 hb4 o4 VD q c1 l0 l1 r0 r1 rf0 rf1 BW G5 HS
      go_wp2
      refine bodyPost_ret (v := .tuple #[.slice a4 bs.length c4, coV (costOver p bs wd) (costSum p bs), .bool true]) (by simp [results, Try.results26, go_sem, y0, y1]) rfl ?_
      exact ⟨bs, HB.out, O5.out.1, a4, c4, rfl, O5.out.2⟩
    | some u =>
      obtain ⟨hu, hrk⟩ := (nx_both _ _ HI.out).1 u hn
      have hbd := rk_bd _ _ hu
      rw [after_some hn] at o3
      have S3 := S.step g3 (inV_len _ _ hu) o3
      have HU3 : Hid (Upto p wd bs (rk p.rules u)) := hidOf (by rw [hrk]; exact HU.out)
      have HI3 := hidOf hu
      have HM := hidOf (And.intro hrk hbd.2)
      have hul := S3.vl
      clear o3 g3 S HU HI hu hrk hbd hn
      have c0 := cell_of_row w3 _ 0 _ _ _ S3.box
      have c1 := cell_of_row w3 _ 1 _ _ _ S3.box
      have c2 := cell_of_row w3 _ 2 _ _ _ S3.box
      have c3 := cell_of_row w3 _ 3 _ _ _ S3.box
      have c4 := cell_of_row w3 _ 4 _ _ _ S3.box
      have q := iTie_any p l (some ⟨N, 0, none⟩) 8 u w3 hF (by omega) HR.out (hp.below S3.bel (Nat.le_refl _)) (S3.kids hr8)
      rw [hul] at q
      go_wp2_with fail
      refine q.mono ?_
      rintro e w4 hq
      clear q c0 c1 c2 c3 c4
      by_cases hT : TiesHold p u
      · obtain ⟨rfl, A4⟩ := hq.yes hT
        have S4 := S3.more A4
        have HT := hidOf hT
        clear hq A4 S3 hT
        have c0 := cell_of_row w4 _ 0 _ _ _ S4.box
        have c1 := cell_of_row w4 _ 1 _ _ _ S4.box
        have c2 := cell_of_row w4 _ 2 _ _ _ S4.box
        have c3 := cell_of_row w4 _ 3 _ _ _ S4.box
        have c4 := cell_of_row w4 _ 4 _ _ _ S4.box
        have q := iCostR_any p l (some ⟨N, 0, none⟩) 8 u wd w4 hF (by omega) hcap (hp.below S4.bel (Nat.le_refl _)) (S4.kids hr8) h1 HT.out.vals
        rw [hul] at q
        go_wp2_with fail
        refine q.mono ?_
        rintro e w5 ⟨rfl, A5⟩
        have S5 := S4.more A5
        clear q c0 c1 c2 c3 c4 A5 S4
        go_upto_region 9 with fail
        obtain ⟨K, hK⟩ : ∃ K, K = w5.heap.size := ⟨_, rfl⟩
        obtain ⟨W6, hW6⟩ : ∃ W6, W6 = w5.alloc (.cells (coCells p wd u) coT) := ⟨_, rfl⟩
        rw [← hK, ← hW6]
        have hKL : K ≠ L := by have := (Array.getElem?_eq_some_iff.1 S5.least).1; omega
        have hKE : K ≠ E := by have := (S5.best.lt E rfl).2; omega
        have S6 : BS w p l wd N E L W6 u bs := S5.more (by rw [hW6]; exact (Below.refl _ _).alloc (Nat.le_refl _) _)
        have FK : W6.heap[K]? = some (.cells (coCells p wd u) coT (0, 0)) := by rw [hW6, hK]; exact heap_alloc_new w5 _
        clear hW6 hK S5
        have k0 := cell_of_row W6 _ 0 _ _ _ FK
        have k1 := cell_of_row W6 _ 1 _ _ _ FK
        have l0 := cell_of_row W6 _ 0 _ _ _ S6.least
        have l1 := cell_of_row W6 _ 1 _ _ _ S6.least
        have q : ∀ W, Calls Try.prog 67 #[coV (costOver p u wd) (costSum p u), coV (costOver p bs wd) (costSum p bs)] W fun e w' => e = .returned (.bool (lessV p wd u bs)) ∧ Below W.heap.size W w' := fun W => iLess_any _ _ _ _ W
        cases hl : lessV p wd u bs with
        | false =>
          rw [hl] at q
          have HUn := hidOf (HU3.out.keep HI3.out hl)
          clear HU3
          go_wp2_with fail
          refine (q _).mono ?_
          rintro e w7 ⟨rfl, A7⟩
          have S7 := S6.more A7
          have hrd7 := S7.read hr8
          clear S6 A7 q k0 k1 l0 l1 FK
          go_wp2
          go_roundw
          case rel => exact ⟨u, bs, S7, HI3, HUn⟩
          case measure => rw [hrd7, hrd]; have := HM.out; omega
        | true =>
          rw [hl] at q
          have HUn := hidOf (HU3.out.take HI3.out HT.out hl)
          clear HU3
          go_wp2_with fail
          refine (q _).mono ?_
          rintro e w7 ⟨rfl, A7⟩
          have S7 := S6.more A7
          have FK7 := (A7.block _ (Array.getElem?_eq_some_iff.1 FK).1).trans FK
          clear S6 A7 q k0 k1 l0 l1 FK
          obtain ⟨x0, x1, x2, x3, x4, x5, x6, x7, hx⟩ := ints8 S7.vl hr8
          obtain ⟨y0, y1, y2, y3, y4, y5, y6, y7, hy⟩ := list8 (restZ_len S7.bl hr8)
          have n0 : w7.cell? ⟨N, 0, none⟩ = some (.int .i64 x0) := (S7.now.cellAt 0 (by omega)).trans (by rw [hx]; rfl)
          have n1 : w7.cell? ⟨N, 1, none⟩ = some (.int .i64 x1) := (S7.now.cellAt 1 (by omega)).trans (by rw [hx]; rfl)
          have n2 : w7.cell? ⟨N, 2, none⟩ = some (.int .i64 x2) := (S7.now.cellAt 2 (by omega)).trans (by rw [hx]; rfl)
          have n3 : w7.cell? ⟨N, 3, none⟩ = some (.int .i64 x3) := (S7.now.cellAt 3 (by omega)).trans (by rw [hx]; rfl)
          have n4 : w7.cell? ⟨N, 4, none⟩ = some (.int .i64 x4) := (S7.now.cellAt 4 (by omega)).trans (by rw [hx]; rfl)
          have n5 : w7.cell? ⟨N, 5, none⟩ = some (.int .i64 x5) := (S7.now.cellAt 5 (by omega)).trans (by rw [hx]; rfl)
          have n6 : w7.cell? ⟨N, 6, none⟩ = some (.int .i64 x6) := (S7.now.cellAt 6 (by omega)).trans (by rw [hx]; rfl)
          have n7 : w7.cell? ⟨N, 7, none⟩ = some (.int .i64 x7) := (S7.now.cellAt 7 (by omega)).trans (by rw [hx]; rfl)
          have e0 : w7.cell? ⟨E, 0, none⟩ = some y0 := (S7.best.cellAt 0 (by omega)).trans (by rw [hy]; rfl)
          have e1 : w7.cell? ⟨E, 1, none⟩ = some y1 := (S7.best.cellAt 1 (by omega)).trans (by rw [hy]; rfl)
          have e2 : w7.cell? ⟨E, 2, none⟩ = some y2 := (S7.best.cellAt 2 (by omega)).trans (by rw [hy]; rfl)
          have e3 : w7.cell? ⟨E, 3, none⟩ = some y3 := (S7.best.cellAt 3 (by omega)).trans (by rw [hy]; rfl)
          have e4 : w7.cell? ⟨E, 4, none⟩ = some y4 := (S7.best.cellAt 4 (by omega)).trans (by rw [hy]; rfl)
          have e5 : w7.cell? ⟨E, 5, none⟩ = some y5 := (S7.best.cellAt 5 (by omega)).trans (by rw [hy]; rfl)
          have e6 : w7.cell? ⟨E, 6, none⟩ = some y6 := (S7.best.cellAt 6 (by omega)).trans (by rw [hy]; rfl)
          have e7 : w7.cell? ⟨E, 7, none⟩ = some y7 := (S7.best.cellAt 7 (by omega)).trans (by rw [hy]; rfl)
          have f0 := S7.best.frozenAt 0
          have f1 := S7.best.frozenAt 1
          have f2 := S7.best.frozenAt 2
          have f3 := S7.best.frozenAt 3
          have f4 := S7.best.frozenAt 4
          have f5 := S7.best.frozenAt 5
          have f6 := S7.best.frozenAt 6
          have f7 := S7.best.frozenAt 7
          have k0 := cell_of_row w7 _ 0 _ _ _ FK7
          have k1 := cell_of_row w7 _ 1 _ _ _ FK7
          have l0 := cell_of_row w7 _ 0 _ _ _ S7.least
          have l1 := cell_of_row w7 _ 1 _ _ _ S7.least
          have g0 := frozen_of_row w7 L 0 _ _ S7.least
          have g1 := frozen_of_row w7 L 1 _ _ S7.least
          have HX := hidOf hx
          have HS := hidOf S7
          have d1 := S7.ne
          have d2 := S7.neL.1
          have d3 := S7.neL.2
          have d1' := d1.symm
          have d2' := d2.symm
          have d3' := d3.symm
          have d4 := hKL.symm
          have d5 := hKE.symm
          clear hx hy S7 FK7
          go_wp2
          go_region
          go_wp2
          have S8 := (HS.out.take HX.out).more (Below.refl _ _).drew
          have hrd8 := S8.read hr8
          rw [hrd8, hrd]
          exact ⟨⟨u, u, S8, HI3, HUn⟩, by have := HM.out; omega⟩
      · obtain ⟨rfl, A4⟩ := hq.no hT
        have S4 := S3.more A4
        have HUn := hidOf (HU3.out.skip HI3.out hT)
        have hrd4 := S4.read hr8
        clear hq A4 S3 hT HU3
        go_wp2
        go_roundw
        case rel => exact ⟨u, bs, S4, HI3, HUn⟩
        case measure => rw [hrd4, hrd]; have := HM.out; omega

theorem none_told {w w1 : World} (hb : Below w.heap.size w w1) (hz : w.heap.size + 1 < w1.heap.size) (hf : w1.heap[w.heap.size + 1]? = some (.cells zeroCo coT (0, 0))) :
    (((w1.setCell ⟨w.heap.size + 1, 0, none⟩ (.int .i64 0)).setCell ⟨w.heap.size + 1, 1, none⟩ (.int .i64 0)).alloc (.cells #[] 3)).cell? ⟨w.heap.size + 1, 0, none⟩ = some (.int .i64 0) ∧
    (((w1.setCell ⟨w.heap.size + 1, 0, none⟩ (.int .i64 0)).setCell ⟨w.heap.size + 1, 1, none⟩ (.int .i64 0)).alloc (.cells #[] 3)).cell? ⟨w.heap.size + 1, 1, none⟩ = some (.int .i64 0) ∧
    Below w.heap.size w (((w1.setCell ⟨w.heap.size + 1, 0, none⟩ (.int .i64 0)).setCell ⟨w.heap.size + 1, 1, none⟩ (.int .i64 0)).alloc (.cells #[] 3)) ∧
    (((w1.setCell ⟨w.heap.size + 1, 0, none⟩ (.int .i64 0)).setCell ⟨w.heap.size + 1, 1, none⟩ (.int .i64 0)).alloc (.cells #[] 3)).ownsRow w.heap.size 3 1 (.slice (some ⟨w1.heap.size, 0, none⟩) 0 0) 0 [] := by
  have G := two_grown w1 (w.heap.size + 1) (.int .i64 0) (.int .i64 0)
  have s1 := heap_setCell_same w1 (w.heap.size + 1) 0 _ _ (.int .i64 0) hf
  have s2 := heap_setCell_same _ (w.heap.size + 1) 1 _ _ (.int .i64 0) s1
  have hs : ((w1.setCell ⟨w.heap.size + 1, 0, none⟩ (.int .i64 0)).setCell ⟨w.heap.size + 1, 1, none⟩ (.int .i64 0)).heap.size = w1.heap.size := by simp
  have hb2 := hb.grown G hb.size (fun k e => by cases e; omega)
  generalize (w1.setCell ⟨w.heap.size + 1, 0, none⟩ (.int .i64 0)).setCell ⟨w.heap.size + 1, 1, none⟩ (.int .i64 0) = u at G s1 s2 hs hb2 ⊢
  have s3 := (Below.heap_alloc u (.cells #[] 3) (w.heap.size + 1) (by omega)).trans s2
  refine ⟨cell_of_row _ _ 0 _ _ _ s3, cell_of_row _ _ 1 _ _ _ s3, hb2.alloc hb2.size _, ?_⟩
  rw [← hs]
  exact own_made0 u _ hb2.size

set_option maxHeartbeats 4000000 in
set_option maxRecDepth 20000 in
theorem iBest_no (p : Pc) (l : Pl) (wd : Int) (w : World) (hF : PcFew p) (hp : PcIn w p l) (h1 : ¬ Right p) :
    Calls Try.prog 26 #[pcV p l, .int .i64 wd] w fun e w' => BoAns [] 0 0 false w e w' := by
  show Calls _ _ #[.agg #[.int .i64 p.indent, .slice l.a1 p.rules.length l.c1, .slice l.a2 p.chunks.length l.c2, .slice l.a3 p.spans.length l.c3, .slice l.a4 p.ties.length l.c4], _] _ _
  obtain ⟨W0, hW0, X0, B0, S0⟩ := boxed w p l 29
  have I0 := hp.below B0 (Nat.le_refl _)
  go_enter Try.func26, Try.ntmps26
  go_wp2_with fail
  rw [← hW0]
  obtain ⟨W1, hW1⟩ : ∃ W1, W1 = W0.alloc (.cells zeroCo coT) := ⟨_, rfl⟩
  rw [← hW1]
  have B1 : Below W0.heap.size W0 W1 := by rw [hW1]; exact (Below.refl _ _).alloc (Nat.le_refl _) _
  have F1 : W1.heap[w.heap.size + 1]? = some (.cells zeroCo coT (0, 0)) := by rw [hW1, ← S0]; exact heap_alloc_new W0 _
  have z1 : w.heap.size + 1 < W1.heap.size := by rw [hW1]; simp; omega
  clear hW0 hW1 S0 hp
  refine (iOk_any p l _ hF (I0.below B1 (Nat.le_refl _))).mono ?_
  rintro e w1 hq
  obtain ⟨rfl, A1⟩ := hq.no h1
  have BW := B0.trans ((B1.trans (A1.mono B1.size)).mono B0.size)
  have zR : w.heap.size + 1 < w1.heap.size := by have := A1.size; omega
  have F2 := (A1.block _ z1).trans F1
  have y0 : w1.cell? ⟨w.heap.size + 1, 0, none⟩ = some (.int .i64 0) := cell_of_row w1 _ 0 _ _ _ F2
  have y1 : w1.cell? ⟨w.heap.size + 1, 1, none⟩ = some (.int .i64 0) := cell_of_row w1 _ 1 _ _ _ F2
  have f0 := frozen_of_row w1 _ 0 _ _ F2
  have f1 := frozen_of_row w1 _ 1 _ _ F2
  have hne : w.heap.size + 1 ≠ w1.heap.size := by omega
  have hne2 := hne.symm
  have O5 := hidOf (none_told BW zR F2)
  clear hq A1 B1 F1 F2 BW z1
  go_wp2
  obtain ⟨t0, t1, t2, t3⟩ := O5.out
  refine bodyPost_ret (v := .tuple #[.slice (some ⟨w1.heap.size, 0, none⟩) 0 0, coV 0 0, .bool false]) (by simp [results, Try.results26, go_sem, t0, t1]) rfl ?_
  exact ⟨t2, _, _, rfl, t3⟩
end Go.Proofs.Ytgaejcljabhijaa
/- What spec.CostOf answers. -/
namespace Go.Proofs.Ytgaejcljabhijaa
open Go.RowKit

set_option maxHeartbeats 8000000 in
set_option maxRecDepth 20000 in
theorem sCost_yes (p : Pc) (l : Pl) (a : Option Addr) (c : Nat) (vs : List Int) (wd : Int) (w : World) (hF : PcFew p) (hm0 : vs.length ≤ 1048576) (hp : PcIn w p l) (hv : KidsAt w a vs) (h1 : Right p) (h2 : ValOk p vs) :
    Calls Try.prog 13 #[pcV p l, .slice a vs.length c, .int .i64 wd] w fun e w' => CoAns (costOver p vs wd) (costSum p vs) w e w' := by
  show Calls _ _ #[.agg #[.int .i64 p.indent, .slice l.a1 p.rules.length l.c1, .slice l.a2 p.chunks.length l.c2, .slice l.a3 p.spans.length l.c3, .slice l.a4 p.ties.length l.c4], _, _] _ _
  obtain ⟨ov, hov⟩ : ∃ ov, ov = costOver p vs wd := ⟨_, rfl⟩
  obtain ⟨sm, hsm⟩ : ∃ sm, sm = costSum p vs := ⟨_, rfl⟩
  have qR := fun W hP hK => sCostR_any p l a c vs wd W hF hm0 hP hK h1 h2
  rw [← hov, ← hsm] at qR
  rw [← hov, ← hsm]
  clear hov hsm
  obtain ⟨W0, hW0, X0, B0, S0⟩ := boxed w p l 29
  have hX : w.heap.size < W0.heap.size := by omega
  have I0 := hp.below B0 (Nat.le_refl _)
  have V0 := hv.below B0 (Nat.le_refl _)
  go_enter Try.func13, Try.ntmps13
  go_wp2_with fail
  rw [← hW0]
  obtain ⟨W1, hW1⟩ : ∃ W1, W1 = W0.alloc (.cells #[.int .i64 0, .int .i64 0] 37) := ⟨_, rfl⟩
  rw [← hW1]
  have B1 : Below W0.heap.size W0 W1 := by rw [hW1]; exact (Below.refl _ _).alloc (Nat.le_refl _) _
  have F1 : W1.heap[w.heap.size + 1]? = some (.cells #[.int .i64 0, .int .i64 0] 37 (0, 0)) := by rw [hW1, ← S0]; exact heap_alloc_new W0 _
  have z1 : w.heap.size + 1 < W1.heap.size := by rw [hW1]; simp; omega
  clear hW0 hW1 hp hv S0
  refine (sOk_any p l _ hF (I0.below B1 (Nat.le_refl _))).mono ?_
  rintro e w1 hq
  obtain ⟨rfl, A1⟩ := hq.yes h1
  clear hq
  have C1 := B1.trans (A1.mono B1.size)
  obtain ⟨-, c0, c1, c2, c3, c4⟩ := X0.below C1 hX
  go_wp2_with fail
  refine (sVal_any p l a c vs _ hF.rules hm0 (noLeast_right h1.rules) (I0.rules.below C1 (Nat.le_refl _)) (V0.below C1 (Nat.le_refl _))).mono ?_
  rintro e w2 hq
  obtain ⟨rfl, hb2⟩ := hq.yes h2
  have A2 := A1.trans (hb2.mono A1.size)
  have C2 := B1.trans (A2.mono B1.size)
  clear hq hb2 A1 C1 c0 c1 c2 c3 c4
  obtain ⟨-, c0, c1, c2, c3, c4⟩ := X0.below C2 hX
  go_wp2_with fail
  refine (qR _ (I0.below C2 (Nat.le_refl _)) (V0.below C2 (Nat.le_refl _))).mono ?_
  rintro e w3 ⟨rfl, hb3⟩
  have A3 := A2.trans (hb3.mono A2.size)
  have F3 := (A3.block (w.heap.size + 1) z1).trans F1
  have y0 : w3.cell? ⟨w.heap.size + 1, 0, none⟩ = some (.int .i64 0) := by rw [Lib.cell_of_heap F3]; rfl
  have y1 : w3.cell? ⟨w.heap.size + 1, 1, none⟩ = some (.int .i64 0) := by rw [Lib.cell_of_heap F3]; rfl
  have f0 := Lib.frozen_of_heap F3 0
  have f1 := Lib.frozen_of_heap F3 1
  have BW : Below w.heap.size w w3 := B0.trans ((B1.trans (A3.mono B1.size)).mono B0.size)
  clear c0 c1 c2 c3 c4 qR A2 A3 hb3 C2 F1
  go_wp2
  refine bodyPost_ret (results_one2 rfl _ _ (w.heap.size + 1) (.int .i64 ov) (.int .i64 sm) _ rfl ?_ ?_ Try.underlying37 rfl infoCoI) rfl ?_
  · go_simp
  · go_simp
  · have q1 : w.heap.size ≤ w.heap.size + 1 := by omega
    exact ⟨rfl, (BW.setCell q1 _).setCell q1 _⟩

set_option maxHeartbeats 8000000 in
set_option maxRecDepth 20000 in
theorem sCost_no (p : Pc) (l : Pl) (a : Option Addr) (c : Nat) (vs : List Int) (wd : Int) (w : World) (hF : PcFew p) (hm0 : vs.length ≤ 1048576) (hp : PcIn w p l) (hv : KidsAt w a vs) (hno : ¬ (Right p ∧ ValOk p vs)) :
    Calls Try.prog 13 #[pcV p l, .slice a vs.length c, .int .i64 wd] w fun e w' => CoAns 1000000 0 w e w' := by
  show Calls _ _ #[.agg #[.int .i64 p.indent, .slice l.a1 p.rules.length l.c1, .slice l.a2 p.chunks.length l.c2, .slice l.a3 p.spans.length l.c3, .slice l.a4 p.ties.length l.c4], _, _] _ _
  obtain ⟨W0, hW0, X0, B0, S0⟩ := boxed w p l 29
  have hX : w.heap.size < W0.heap.size := by omega
  have I0 := hp.below B0 (Nat.le_refl _)
  have V0 := hv.below B0 (Nat.le_refl _)
  go_enter Try.func13, Try.ntmps13
  go_wp2_with fail
  rw [← hW0]
  obtain ⟨W1, hW1⟩ : ∃ W1, W1 = W0.alloc (.cells #[.int .i64 0, .int .i64 0] 37) := ⟨_, rfl⟩
  rw [← hW1]
  have B1 : Below W0.heap.size W0 W1 := by rw [hW1]; exact (Below.refl _ _).alloc (Nat.le_refl _) _
  have F1 : W1.heap[w.heap.size + 1]? = some (.cells #[.int .i64 0, .int .i64 0] 37 (0, 0)) := by rw [hW1, ← S0]; exact heap_alloc_new W0 _
  have z1 : w.heap.size + 1 < W1.heap.size := by rw [hW1]; simp; omega
  clear hW0 hW1 hp hv S0
  have q1 : w.heap.size ≤ w.heap.size + 1 := by omega
  refine (sOk_any p l _ hF (I0.below B1 (Nat.le_refl _))).mono ?_
  rintro e w1 hq
  by_cases h1 : Right p
  · obtain ⟨rfl, A1⟩ := hq.yes h1
    clear hq
    have C1 := B1.trans (A1.mono B1.size)
    obtain ⟨-, c0, c1, c2, c3, c4⟩ := X0.below C1 hX
    go_wp2_with fail
    refine (sVal_any p l a c vs _ hF.rules hm0 (noLeast_right h1.rules) (I0.rules.below C1 (Nat.le_refl _)) (V0.below C1 (Nat.le_refl _))).mono ?_
    rintro e w3 hq
    obtain ⟨rfl, hb2⟩ := hq.no (fun h => hno ⟨h1, h⟩)
    have A3 := A1.trans (hb2.mono A1.size)
    have F3 := (A3.block (w.heap.size + 1) z1).trans F1
    have y0 : w3.cell? ⟨w.heap.size + 1, 0, none⟩ = some (.int .i64 0) := by rw [Lib.cell_of_heap F3]; rfl
    have y1 : w3.cell? ⟨w.heap.size + 1, 1, none⟩ = some (.int .i64 0) := by rw [Lib.cell_of_heap F3]; rfl
    have f0 := Lib.frozen_of_heap F3 0
    have f1 := Lib.frozen_of_heap F3 1
    have BW : Below w.heap.size w w3 := B0.trans ((B1.trans (A3.mono B1.size)).mono B0.size)
    clear c0 c1 c2 c3 c4 A1 A3 C1 F1 hq hb2
    go_wp2
    refine bodyPost_ret (results_one2 rfl _ _ (w.heap.size + 1) (.int .i64 1000000) (.int .i64 0) _ rfl ?_ ?_ Try.underlying37 rfl infoCoI) rfl ?_
    · go_simp
    · go_simp
    · exact ⟨rfl, (BW.setCell q1 _).setCell q1 _⟩
  · obtain ⟨rfl, A3⟩ := hq.no h1
    obtain ⟨w3, hw3⟩ : ∃ w3, w3 = w1 := ⟨_, rfl⟩
    subst hw3
    have F3 := (A3.block (w.heap.size + 1) z1).trans F1
    have y0 : w3.cell? ⟨w.heap.size + 1, 0, none⟩ = some (.int .i64 0) := by rw [Lib.cell_of_heap F3]; rfl
    have y1 : w3.cell? ⟨w.heap.size + 1, 1, none⟩ = some (.int .i64 0) := by rw [Lib.cell_of_heap F3]; rfl
    have f0 := Lib.frozen_of_heap F3 0
    have f1 := Lib.frozen_of_heap F3 1
    have BW : Below w.heap.size w w3 := B0.trans ((B1.trans (A3.mono B1.size)).mono B0.size)
    clear A3 F1 hq
    go_wp2
    refine bodyPost_ret (results_one2 rfl _ _ (w.heap.size + 1) (.int .i64 1000000) (.int .i64 0) _ rfl ?_ ?_ Try.underlying37 rfl infoCoI) rfl ?_
    · go_simp
    · go_simp
    · exact ⟨rfl, (BW.setCell q1 _).setCell q1 _⟩
end Go.Proofs.Ytgaejcljabhijaa
/- What spec.TiesHold answers, where no rule has the least number that there is. -/
namespace Go.Proofs.Ytgaejcljabhijaa
open Go.RowKit

theorem st_out {vs : List Int} {r : Int} (h : ¬ (0 ≤ r ∧ r ≤ (vs.length : Int) - 1)) : st vs r = 0 := by
  unfold st
  rw [if_neg (by omega)]

set_option maxHeartbeats 8000000 in
theorem sTie_any (p : Pc) (l : Pl) (a : Option Addr) (c : Nat) (vs : List Int) (w : World) (hF : PcFew p) (hm0 : vs.length ≤ 1048576) (hR : NoLeast p.rules) (hp : PcIn w p l) (hv : KidsAt w a vs) :
    Calls Try.prog 18 #[pcV p l, .slice a vs.length c] w fun e w' => Tells (TiesHold p vs) w e w' := by
  show Calls _ _ #[.agg #[.int .i64 p.indent, .slice l.a1 p.rules.length l.c1, .slice l.a2 p.chunks.length l.c2, .slice l.a3 p.spans.length l.c3, .slice l.a4 p.ties.length l.c4], _] _ _
  go_enter Try.func18, Try.ntmps18
  go_wp2_with fail
  obtain ⟨W0, hW0, X0, B0, S0⟩ := boxed w p l 29
  rw [← hW0]
  have I0 := hp.below B0 (Nat.le_refl _)
  have V0 := hv.below B0 (Nat.le_refl _)
  have hX : w.heap.size < W0.heap.size := by omega
  clear hW0 S0 hp hv
  have c4 := X0.c4
  obtain ⟨-, c0, c1, c2, c3, -⟩ := X0
  refine (sVal_any p l a c vs _ hF.rules hm0 hR I0.rules V0).mono ?_
  rintro e w1 hq
  by_cases h2 : ValOk p vs
  · obtain ⟨rfl, A1⟩ := hq.yes h2
    clear hq
    have T1 := I0.ties
    have V1 := V0
    have hft := hF.ties
    have HV2 := hidOf h2
    obtain ⟨n, hn⟩ : ∃ n, n = p.ties.length := ⟨_, rfl⟩
    have HN := hidOf hn
    unfold RowsAt at T1
    unfold KidsAt at V1
    rw [← hn] at T1 c4 hft ⊢
    obtain ⟨m, hm⟩ : ∃ m, m = vs.length := ⟨_, rfl⟩
    have HM := hidOf hm
    rw [← hm] at V1 hm0 ⊢
    clear hn h2 I0 V0 hm c0 c1 c2 c3
    go_wp2
    go_loopw [5] (fun i wr => ∃ k : Nat, k ≤ n ∧ i = .int .i64 k ∧ Hid (∀ (j : Nat) (x : Ti), j < k → p.ties[j]? = some x → TieOk vs x) ∧ Below W0.heap.size W0 wr) (fun i _ => n - (intOf i).toNat)
    case atStart => exact ⟨0, Nat.zero_le _, rfl, hidOf fun j x h => by omega, A1⟩
    case round =>
      obtain ⟨k, hk, rfl, HA, hb⟩ := hrel
      have BW := B0.trans (hb.mono B0.size)
      have d4 := (hb.cell (p := ⟨w.heap.size, 4, none⟩) hX).trans c4
      by_cases hlt : k < n
      · obtain ⟨x, ex⟩ : ∃ x, p.ties[k]? = some x := ⟨_, List.getElem?_eq_getElem (by rw [← HN.out]; exact hlt)⟩
        obtain ⟨b1, o1, ea, hb1, hc1⟩ := T1 (by omega)
        obtain ⟨p0, p1⟩ := tiC (w := wr) (fun j hj => by rw [hb.cell hb1]; exact hc1 k x ex j hj)
        rw [ea] at d4 ⊢
        have EX := hidOf ex
        have HB : ∀ o1 : Obj, Below W0.heap.size W0 (wr.alloc o1) := fun o1 => hb.alloc hb.size _
        have HBW : ∀ o1 : Obj, Below w.heap.size w (wr.alloc o1) := fun o1 => BW.alloc BW.size _
        clear ex hc1 T1 ea
        have hA : (0 : Int) ≤ (k : Int) := by omega
        have hB : (k : Int) < (n : Int) := by omega
        have no : ∀ (s t : Nat), st vs x.kid = s → st vs x.up = t → holdB s t = false → ¬ TiesHold p vs := fun s t e1 e2 e3 h => by
          have := h.ties k x EX.out
          unfold TieOk at this
          rw [e1, e2, e3] at this
          cases this
        have NO := hidOf no
        clear no
        have q0 := fun W => sIn_any x.kid 0 ((m : Int) - 1) W
        have q1 := fun W => sIn_any x.up 0 ((m : Int) - 1) W
        by_cases h0 : 0 ≤ x.kid ∧ x.kid ≤ (m : Int) - 1
        · rw [inB_yes h0.1 h0.2] at q0
          obtain ⟨r, er⟩ := Int.eq_ofNat_of_zero_le h0.1
          by_cases h1 : 0 ≤ x.up ∧ x.up ≤ (m : Int) - 1
          · rw [inB_yes h1.1 h1.2] at q1
            obtain ⟨u, eu⟩ := Int.eq_ofNat_of_zero_le h1.1
            obtain ⟨z, ez⟩ : ∃ z, vs[r]? = some z := ⟨_, List.getElem?_eq_getElem (by rw [← HM.out]; omega)⟩
            obtain ⟨y, ey⟩ : ∃ y, vs[u]? = some y := ⟨_, List.getElem?_eq_getElem (by rw [← HM.out]; omega)⟩
            obtain ⟨b2, o2, eb, hb2, hc2⟩ := V1 (by omega)
            have zc := fun ob : Obj => (((HB ob).cell (p := ⟨b2, o2 + r, none⟩) hb2).trans (hc2 r z ez))
            have yc := fun ob : Obj => (((HB ob).cell (p := ⟨b2, o2 + u, none⟩) hb2).trans (hc2 u y ey))
            have hyl : 0 ≤ y := by
              have hu := (List.getElem?_eq_some_iff.1 ey).1
              rw [HV2.out.len] at hu
              exact (HV2.out.all u y _ ey (List.getElem?_eq_getElem hu)).1
            have s1 := hidOf (show st vs x.kid = if 0 < z then 2 else 1 by rw [er]; exact st_in ez)
            have s2 := hidOf (show st vs x.up = if 0 < y then 2 else 1 by rw [eu]; exact st_in ey)
            have hA2 : (0 : Int) ≤ (r : Int) := by omega
            have hB2 : (r : Int) < (m : Int) := by omega
            have hA3 : (0 : Int) ≤ (u : Int) := by omega
            have hB3 : (u : Int) < (m : Int) := by omega
            rw [er] at p0 q0
            rw [eu] at p1 q1
            rw [eb]
            clear er eu ez ey hc2 V1 eb h0 h1
            by_cases hz : 0 < z
            · by_cases hy : y = 0
              · rw [hy] at yc
                have e1 := s1.out
                have e2 := s2.out
                rw [if_pos hz] at e1
                rw [if_neg (by omega)] at e2
                have HNO := hidOf (NO.out _ _ e1 e2 rfl)
                clear e1 e2 s1 s2 hy hyl
                go_wp2_with (first | (go_at_call_of 36 (r); refine (q0 _).mono ?_; rintro e w9 ⟨rfl, rfl⟩) | (go_at_call_of 36 (u); refine (q1 _).mono ?_; rintro e w9 ⟨rfl, rfl⟩))
                go_ret
                exact tells_no HNO.out (HBW _)
              · have e1 := s1.out
                have e2 := s2.out
                rw [if_pos hz] at e1
                rw [if_pos (by omega)] at e2
                have HOK := hidOf (show TieOk vs x by unfold TieOk; rw [e1, e2]; rfl)
                have hy2 : (y == 0) = false := by simpa using hy
                clear e1 e2 s1 s2 hyl
                go_wp2_with (first | (go_at_call_of 36 (r); refine (q0 _).mono ?_; rintro e w9 ⟨rfl, rfl⟩) | (go_at_call_of 36 (u); refine (q1 _).mono ?_; rintro e w9 ⟨rfl, rfl⟩))
                go_roundw
                case rel => exact ⟨k + 1, by omega, by go_num, hidOf (upto_step HA.out EX.out HOK.out), HB _⟩
                case measure => simp [intOf]; omega
            · have e1 := s1.out
              rw [if_neg hz] at e1
              have HOK := hidOf (show TieOk vs x by unfold TieOk; rw [e1, s2.out]; split <;> rfl)
              clear e1 s1 s2 hyl
              go_wp2_with (first | (go_at_call_of 36 (r); refine (q0 _).mono ?_; rintro e w9 ⟨rfl, rfl⟩) | (go_at_call_of 36 (u); refine (q1 _).mono ?_; rintro e w9 ⟨rfl, rfl⟩))
              go_roundw
              case rel => exact ⟨k + 1, by omega, by go_num, hidOf (upto_step HA.out EX.out HOK.out), HB _⟩
              case measure => simp [intOf]; omega
          · rw [inB_no h1] at q1
            have e2 : st vs x.up = 0 := st_out (by rw [← HM.out]; exact h1)
            have HNO := hidOf (NO.out _ _ rfl e2 (by rcases st_cases vs x.kid with h | h | h <;> rw [h] <;> rfl))
            rw [er] at p0 q0
            clear er h0 h1 e2
            go_wp2_with (first | (go_at_call_of 36 (r); refine (q0 _).mono ?_; rintro e w9 ⟨rfl, rfl⟩) | (go_at_call_of 36 (x.up); refine (q1 _).mono ?_; rintro e w9 ⟨rfl, rfl⟩))
            go_ret
            exact tells_no HNO.out (HBW _)
        · rw [inB_no h0] at q0
          have e1 : st vs x.kid = 0 := st_out (by rw [← HM.out]; exact h0)
          have HNO := hidOf (NO.out _ _ e1 rfl (by rcases st_cases vs x.up with h | h | h <;> rw [h] <;> rfl))
          clear h0 e1
          go_wp2_with (go_at_call_of 36 (x.kid); refine (q0 _).mono ?_; rintro e w9 ⟨rfl, rfl⟩)
          go_ret
          exact tells_no HNO.out (HBW _)
      · go_wp2
        go_ret
        exact tells_yes ⟨HV2.out, upto_all (by have := HN.out; omega) HA.out⟩ BW
  · obtain ⟨rfl, A1⟩ := hq.no h2
    go_wp2
    go_ret
    exact tells_no (fun h => h2 h.vals) (B0.trans (A1.mono B0.size))
end Go.Proofs.Ytgaejcljabhijaa
