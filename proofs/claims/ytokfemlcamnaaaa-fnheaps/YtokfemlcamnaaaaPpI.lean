/- What impl.Popped answers. -/
import Derived.Test.YtokfemlcamnaaaaPopI
import Derived.Test.YtokfemlcamnaaaaHpOk
import Derived.Test.YtokfemlcamnaaaaCpSt
import Derived.Test.YtokfemlcamnaaaaHeapTot
import Derived.Laws.EntriesVeiled
namespace Go.Proofs.Ytokfemlcamnaaaa
open Go.RowKit

/-- The first, or nothing. -/
def hdS (xs : List St) : St := (xs[0]?).getD ⟨[], 0⟩
/-- The list without its first, the first, and whether there was one, in memory of their own. -/
def PopAns (xs : List St) (w : World) (e : Ending) (w' : World) : Prop :=
  ∃ a c ps, ∃ f : Sp, e = .returned (.tuple #[.slice a ps.length c, .agg #[.slice f.a f.st.vals.length f.c, .int .i64 f.st.sum], .bool (decide (0 < xs.length))]) ∧ ps.map Sp.st = restL stLess xs ∧ f.st = hdS xs ∧ Own w' w.heap.size a c ps ∧ w'.ownsRow w.heap.size 3 1 (.slice f.a f.st.vals.length f.c) f.st.vals.length (intVals f.st.vals) ∧ (∀ q ∈ ps, ∀ g, q.blk = some g → f.blk ≠ some g) ∧ Below w.heap.size w w'

theorem far_low {w : World} {B e s n b : Nat} {v : Value} {xs : List Value} (h : w.ownsRow B e s v n xs) (hb : b < B) : v.ownBlock = none ∨ v.ownBlock ≠ some b := by
  cases hv : v.ownBlock with
  | none => exact .inl rfl
  | some g =>
    right
    intro e
    cases e
    have := (h.lt _ hv).1
    omega
theorem pop_both (kd : HK) (hb B : Nat) (a : Option Addr) (c : Nat) (ps : List Sp) (w : World) (hn0 : ps.length ≤ 1048577) (hF : Few ps) (hO : Own w B a c ps) (H : Hv kd w hb a ps.length c) (hBb : B ≤ hb) (hBw : B ≤ w.heap.size) :
    Calls Try.prog 106 #[.pointer (some ⟨hb, kd.o, none⟩)] w fun e w' => ∃ a' c', ∃ f : Sp, e = .returned (.tuple #[.agg #[.slice f.a f.st.vals.length f.c, .int .i64 f.st.sum], .bool (decide (0 < ps.length))]) ∧ f.st = hdS (ps.map Sp.st) ∧ Own w' B a' c' (restL spLess ps) ∧ Hv kd w' hb a' (restL spLess ps).length c' ∧ w'.ownsRow B 3 1 (.slice f.a f.st.vals.length f.c) f.st.vals.length (intVals f.st.vals) ∧ (∀ q ∈ restL spLess ps, ∀ g, q.blk = some g → f.blk ≠ some g) ∧ Below B w w' := by
  by_cases h0 : ps.length = 0
  · have hp : ps = [] := List.eq_nil_of_length_eq_zero h0
    subst hp
    refine (pop_none kd hb a c w H).mono ?_
    rintro e w1 ⟨rfl, hb1⟩
    have e0 : restL spLess ([] : List Sp) = [] := by
      unfold restL
      exact dn_no (ltAt_out (by simp [cutL]))
    rw [e0]
    exact ⟨a, c, ⟨⟨[], 0⟩, none, 0⟩, rfl, rfl, hO.below hb1, H.kept hb1, ⟨rfl, .inl ⟨rfl, rfl⟩⟩, (fun q hq => by cases hq), hb1.mono hBw⟩
  · obtain ⟨g, rfl⟩ := owns_at hO.row (by omega)
    obtain ⟨f, hf⟩ : ∃ f, ps[0]? = some f := ⟨_, List.getElem?_eq_getElem (by omega)⟩
    refine (pop_any kd hb B g c (ps.length - 1) ps f w hn0 (by omega) hf hF hO H hBb hBw).mono ?_
    rintro e w1 ⟨rfl, o1, H1, f1, hb1, -⟩
    have hd : decide (0 < ps.length) = true := by simp; omega
    rw [hd]
    refine ⟨_, c, f, rfl, ?_, o1, by rw [restL_len]; exact H1, f1, fun q hq b hb2 => ?_, hb1⟩
    · unfold hdS
      rw [List.getElem?_map, hf]
      rfl
    · obtain ⟨j, hj, ej⟩ := rest_mem hq
      exact hO.apart j 0 q f (by omega) ej hf b hb2

set_option maxHeartbeats 8000000 in
theorem iPopped_any (a : Option Addr) (c : Nat) (ps : List Sp) (w : World) (hn0 : ps.length ≤ 1048577) (hF : Few ps) (hT : StsAt w a ps) :
    Calls Try.prog 43 #[.slice a ps.length c] w fun e w' => PopAns (ps.map Sp.st) w e w' := by
  go_enter Try.func43, Try.ntmps43
  go_wp2_with fail
  obtain ⟨W, hW⟩ : ∃ W, W = w.alloc (.cells #[.slice none 0 0, .int .i64 0] 57) := ⟨_, rfl⟩
  rw [← hW]
  have hbx : Below w.heap.size w W := by rw [hW]; exact (Below.refl _ _).alloc (Nat.le_refl _) _
  have R : W.heap[w.heap.size]? = some (.cells #[.slice none 0 0, .int .i64 0] 57) := by rw [hW]; exact heap_alloc_new w _
  clear hW
  have hRl := (Array.getElem?_eq_some_iff.1 R).1
  refine (copySts_any a c ps _ hn0 hF (hT.below hbx (Nat.le_refl _))).mono ?_
  rintro e w1 ⟨a1, c1, p1, rfl, s1, o1, hb1⟩
  have B1 := hbx.trans (hb1.mono hbx.size)
  have R1 := (hb1.block _ hRl).trans R
  have F1 : Few p1 := fun q hq => by
    have h1 : q.st ∈ ps.map Sp.st := by rw [← s1]; exact List.mem_map_of_mem hq
    obtain ⟨p, hp, e⟩ := List.mem_map.1 h1
    rw [← e]
    exact hF p hp
  have L1 := hidOf (show p1.length = ps.length by have := congrArg List.length s1; simpa using this)
  go_upto_region 2 with fail
  obtain ⟨W2, hW2, H2, hb2, S2⟩ := hv_new w1 a1 p1.length c1
  rw [← hW2]
  have B2 := B1.trans (hb2.mono B1.size)
  have o2 := o1.below hb2
  have hL : W.heap.size ≤ w1.heap.size := hb1.size
  have hL2 : W.heap.size ≤ W2.heap.size := Nat.le_trans hb1.size hb2.size
  have R2 := (hb2.block _ (Nat.lt_of_lt_of_le hRl hb1.size)).trans R1
  have hbk0 : w.heap.size < w1.heap.size := Nat.lt_of_lt_of_le hRl hb1.size
  clear hW2 S2 hb2 hb1 o1 R R1
  obtain ⟨hbk, hhb⟩ : ∃ hbk, hbk = w1.heap.size := ⟨_, rfl⟩
  rw [← hhb] at H2 hL hbk0 ⊢
  clear hhb
  have hP := hidOf (pop_both hk0 hbk W.heap.size a1 c1 p1 W2 (by rw [L1.out]; exact hn0) F1 o2 H2 hL hL2)
  obtain ⟨b, hbb⟩ : ∃ b, b = decide (0 < p1.length) := ⟨_, rfl⟩
  rw [← hbb] at hP
  have HBB := hidOf (show b = decide (0 < (ps.map Sp.st).length) by rw [hbb, List.length_map, L1.out])
  clear hbb
  go_wp2_with fail
  refine hP.out.mono ?_
  rintro e w3 ⟨a3, c3, f, rfl, hf, O3, H3, fo3, ap3, hb3⟩
  have B3 := B2.trans (hb3.mono hbx.size)
  have R3 := (hb3.block _ hRl).trans R2
  have ES := hidOf (show (restL spLess p1).map Sp.st = restL stLess (ps.map Sp.st) by rw [← s1]; exact restL_map Sp.st p1)
  have EF := hidOf (show f.st = hdS (ps.map Sp.st) by rw [hf, s1])
  have AP := hidOf ap3
  obtain ⟨qs, hqs⟩ : ∃ qs, qs = restL spLess p1 := ⟨_, rfl⟩
  rw [← hqs] at O3 H3 ES AP
  clear hP o2 H2 hf ap3 hb3 R2 hqs
  go_upto_region 3 with fail
  obtain ⟨W4, hW4, X4, hb4, S4⟩ := bx_new w3 f 57
  rw [← hW4]
  have B4 := B3.trans (hb4.mono B3.size)
  have O4 := O3.below hb4
  have H4 := H3.kept hb4
  have fo4 := owns_below fo3 hb4
  have hw3l : w.heap.size < w3.heap.size := (Array.getElem?_eq_some_iff.1 R3).1
  have R4 := (hb4.block _ hw3l).trans R3
  obtain ⟨vb, hvb⟩ : ∃ vb, vb = w3.heap.size := ⟨_, rfl⟩
  have hvw : vb ≠ w.heap.size := by omega
  have hhw : hbk ≠ w.heap.size := by omega
  rw [← hvb] at X4
  rw [← hvb]
  obtain ⟨rb, hrb⟩ : ∃ rb, rb = w.heap.size := ⟨_, rfl⟩
  have hrbl : w.heap.size ≤ rb := by omega
  have hrW : rb < W.heap.size := by rw [hrb]; exact hRl
  rw [← hrb] at R4 hvw hhw
  rw [← hrb]
  clear hW4 S4 hb4 hvb hrb O3 H3 fo3 R3 hw3l
  obtain ⟨-, v0, v1⟩ := X4
  obtain ⟨-, c0, c1', -⟩ := H4.all0
  have r0 : W4.cell? ⟨rb, 0, none⟩ = some (.slice none 0 0) := cell_of_row W4 _ 0 _ _ _ R4
  have r1 : W4.cell? ⟨rb, 1, none⟩ = some (.int .i64 0) := cell_of_row W4 _ 1 _ _ _ R4
  have z0 := frozen_of_row W4 rb 0 _ _ R4
  have z1 := frozen_of_row W4 rb 1 _ _ R4
  have O4d : Own W4.drew W.heap.size a3 c3 qs := O4.below (below_drewN W4 1)
  have fo4d := owns_below fo4 (below_drewN W4 1)
  have B4d := B4.drew
  have HE := hidOf (And.intro (O4d.other (grown_set W4.drew ⟨rb, 0, none⟩ (.slice f.a f.st.vals.length f.c)) (far_low O4.row hrW) (fun q hq => far_low (O4.each q hq) hrW)) (own_put fo4d ⟨rb, 0, none⟩ (.slice f.a f.st.vals.length f.c) (far_low fo4 hrW)))
  have HE2 := hidOf (And.intro (HE.out.1.other (grown_set _ ⟨rb, 1, none⟩ (.int .i64 f.st.sum)) (far_low O4.row hrW) (fun q hq => far_low (O4.each q hq) hrW)) (own_put HE.out.2 ⟨rb, 1, none⟩ (.int .i64 f.st.sum) (far_low fo4 hrW)))
  have HB := hidOf ((B4d.setCell (p := ⟨rb, 0, none⟩) hrbl (.slice f.a f.st.vals.length f.c)).setCell (p := ⟨rb, 1, none⟩) hrbl (.int .i64 f.st.sum))
  clear R4 O4 H4 fo4 O4d fo4d B4 B4d HE
  go_region
  go_wp2
  have y0 : ((W4.setCell ⟨rb, 0, none⟩ (.slice f.a f.st.vals.length f.c)).setCell ⟨rb, 1, none⟩ (.int .i64 f.st.sum)).drew.cell? ⟨rb, 0, none⟩ = some (.slice f.a f.st.vals.length f.c) := by go_simp
  have y1 : ((W4.setCell ⟨rb, 0, none⟩ (.slice f.a f.st.vals.length f.c)).setCell ⟨rb, 1, none⟩ (.int .i64 f.st.sum)).drew.cell? ⟨rb, 1, none⟩ = some (.int .i64 f.st.sum) := by go_simp
  refine bodyPost_ret (v := .tuple #[.slice a3 qs.length c3, .agg #[.slice f.a f.st.vals.length f.c, .int .i64 f.st.sum], .bool b]) (by simp [results, Try.results43, go_sem, y0, y1]) rfl ?_
  rw [HBB.out]
  exact ⟨a3, c3, qs, f, rfl, ES.out, EF.out, HE2.out.1.base hbx.size, ownsRow_base HE2.out.2 hbx.size, AP.out, HB.out⟩
end Go.Proofs.Ytokfemlcamnaaaa
