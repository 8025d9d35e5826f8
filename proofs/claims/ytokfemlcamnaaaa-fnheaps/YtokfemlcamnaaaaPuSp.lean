/- What spec.Pushed answers. -/
import Derived.Test.YtokfemlcamnaaaaPuS
import Derived.Test.YtokfemlcamnaaaaCpSp
import Derived.Test.YtokfemlcamnaaaaStepCall
namespace Go.Proofs.Ytokfemlcamnaaaa
open Go.RowKit

set_option maxHeartbeats 8000000 in
set_option maxRecDepth 20000 in
theorem sPushed_any (a : Option Addr) (c : Nat) (ps : List Sp) (x : Sp) (w : World) (hn0 : ps.length ≤ 1048576) (hF : Few ps) (hx : x.st.vals.length ≤ 1048576) (hT : StsAt w a ps) (hK : KidsAt w x.a x.st.vals) :
    Calls Try.prog 50 #[.slice a ps.length c, .agg #[.slice x.a x.st.vals.length x.c, .int .i64 x.st.sum]] w fun e w' => StsAns (pushL stLess (ps.map Sp.st) x.st) w e w' := by
  go_enter Try.func50, Try.ntmps50
  go_upto_region 1 with fail
  obtain ⟨W, hW, X, hbx, SX⟩ := bx_new w x 57
  rw [← hW]
  have T1 := hT.below hbx (Nat.le_refl _)
  have K1 := hK.below hbx (Nat.le_refl _)
  have hX := X
  obtain ⟨hxl, x0, x1⟩ := X
  have hAD : ∀ ob : Obj, Below W.heap.size W (W.alloc ob).drew := fun ob => ((Below.refl _ _).alloc (Nat.le_refl _) _).drew
  have hD : Below W.heap.size W W.drew := (Below.refl _ _).drew
  have hal : ∀ (ob : Obj) (b k : Nat), b < W.heap.size → (W.alloc ob).cell? ⟨b, k, none⟩ = W.cell? ⟨b, k, none⟩ := fun ob b k h => ((Below.refl W.heap.size W).alloc (Nat.le_refl _) ob).cell (p := ⟨b, k, none⟩) h
  have hz := heap_alloc_new W (.cells #[] 3 (0, 0))
  clear hW SX
  go_region_law (first
    | (refine step_call (by rfl) 111 _ (by go_simp; try rfl) ((sPush_any W.heap.size a1 c1 p1 ⟨x.st, xa, xc⟩ w2 N1 F1 hx O2 xo ap2 hW2).mono ?_); rintro e w3 ⟨a3, c3, rfl, O3, hb3⟩; refine ⟨_, rfl, ?_⟩)
    | (refine step_copyInt rfl _ _ rfl _ w1.heap.size w1.heap.size (Nat.le_refl _) (heap_alloc_new w1 _) x.a x.c x.st.vals rfl rfl (K1.below (E1.trans ((hAD1 _).mono E1.size)) (Nat.le_refl _)) hx ?_; intro xa xc w2 xo hg2; have E12 : Below w1.heap.size w1 w2 := (hAD1 _).grown hg2 (hAD1 _).size (fun k e => by cases e); have ap2 : ∀ q ∈ p1, ∀ g, q.blk = some g → (⟨x.st, xa, xc⟩ : Sp).blk ≠ some g := (fun q hq g hg hg2 => by { have h1 := ((O1.each q hq).lt g hg).2; have h2 := (xo.lt g hg2).1; omega }); have xo := ownsRow_base xo E1.size; have O2 := O1.below E12; have E2 := E1.trans (E12.mono E1.size); have hW2 : W.heap.size ≤ w2.heap.size := E2.size; have q1 := (E2.cell (p := ⟨w.heap.size, 1, none⟩) hxl).trans x1)
    | (refine step_copyInt2 rfl _ _ rfl _ W.heap.size W.heap.size (Nat.le_refl _) zz x.a x.c x.st.vals rfl rfl (K1.below E1 (Nat.le_refl _)) hx ?_; intro xa xc w2 xo hg2 hz2; have E12 : Below w1.heap.size w1 w2 := (Below.refl _ _).grown hg2 (Nat.le_refl _) (fun k e => by cases e); have ap2 : ∀ q ∈ p1, ∀ g, q.blk = some g → (⟨x.st, xa, xc⟩ : Sp).blk ≠ some g := (fun q hq g hg hg2 => by { have h1 := (O1.each q hq).lt g hg; have h2 := hz2 g hg2; simp at h1; omega }); have O2 := (O1.below E12).base (show W.heap.size ≤ (W.alloc (.cells #[] 3 (0, 0))).drew.heap.size by simp); have E2 := E1.trans (E12.mono E1.size); have hW2 : W.heap.size ≤ w2.heap.size := E2.size; have q1 := (E2.cell (p := ⟨w.heap.size, 1, none⟩) hxl).trans x1)
    | (refine step_call (by rfl) 108 _ (by go_simp; try rfl) ((sCopy_any a c ps W.drew (by omega) hF (T1.below hD (Nat.le_refl _))).mono ?_); rintro e w1 ⟨a1, c1, p1, rfl, s1, O1, hb1⟩; have E1 := hD.trans hb1; have r0 := (E1.cell (p := ⟨w.heap.size, 0, none⟩) hxl).trans x0; have r1 := (E1.cell (p := ⟨w.heap.size, 1, none⟩) hxl).trans x1; have hAD1 : ∀ ob : Obj, Below w1.heap.size w1 (w1.alloc ob) := (fun ob => (Below.refl _ _).alloc (Nat.le_refl _) _); have hal1 : ∀ (ob : Obj) (b k : Nat), b < w1.heap.size → (w1.alloc ob).cell? ⟨b, k, none⟩ = w1.cell? ⟨b, k, none⟩ := (fun ob b k h => (hAD1 ob).cell (p := ⟨b, k, none⟩) h); have hl1 : w.heap.size < w1.heap.size := Nat.lt_of_lt_of_le hxl E1.size; have F1 := few_st s1 hF; have N1 : p1.length ≤ 1048576 := len_st s1 hn0; refine ⟨_, rfl, ?_⟩)
    | (refine step_call (by rfl) 108 _ (by go_simp; try rfl) ((sCopy_any a c ps (W.alloc (.cells #[] 3 (0, 0))).drew (by omega) hF (T1.below (hAD _) (Nat.le_refl _))).mono ?_); rintro e w1 ⟨a1, c1, p1, rfl, s1, O1, hb1⟩; have E1 := (hAD _).trans (hb1.mono (hAD _).size); have zz := (hb1.block W.heap.size (by simp)).trans hz; have r0 := (E1.cell (p := ⟨w.heap.size, 0, none⟩) hxl).trans x0; have r1 := (E1.cell (p := ⟨w.heap.size, 1, none⟩) hxl).trans x1; have hl1 : w.heap.size < w1.heap.size := Nat.lt_of_lt_of_le hxl E1.size; have F1 := few_st s1 hF; have N1 : p1.length ≤ 1048576 := len_st s1 hn0; refine ⟨_, rfl, ?_⟩))
  all_goals
    have B3 := (hbx.trans (E2.mono hbx.size)).trans (hb3.mono hbx.size)
    clear q1 r0 r1 x0 x1 hal hz
    go_wp2
    go_ret
    refine ⟨a3, c3, pushL spLess p1 ⟨x.st, xa, xc⟩, ?_, ?_, O3.base hbx.size, B3⟩
    · rw [pushL_len]
      rfl
    · rw [← s1]
      exact pushL_map Sp.st p1 ⟨x.st, xa, xc⟩
end Go.Proofs.Ytokfemlcamnaaaa
