/- What spec.Popped answers. -/
import Derived.Test.YtokfemlcamnaaaaPopS
import Derived.Test.YtokfemlcamnaaaaPpI
import Derived.Test.YtokfemlcamnaaaaCpSp
namespace Go.Proofs.Ytokfemlcamnaaaa
open Go.RowKit

set_option maxHeartbeats 8000000 in
theorem sPopped_any (a : Option Addr) (c : Nat) (ps : List Sp) (w : World) (hn0 : ps.length ≤ 1048577) (hF : Few ps) (hT : StsAt w a ps) :
    Calls Try.prog 46 #[.slice a ps.length c] w fun e w' => PopAns (ps.map Sp.st) w e w' := by
  go_enter Try.func46, Try.ntmps46
  go_wp2_with fail
  obtain ⟨W, hW⟩ : ∃ W, W = w.alloc (.cells #[.slice none 0 0, .int .i64 0] 57) := ⟨_, rfl⟩
  rw [← hW]
  have hbx : Below w.heap.size w W := by rw [hW]; exact (Below.refl _ _).alloc (Nat.le_refl _) _
  have R : W.heap[w.heap.size]? = some (.cells #[.slice none 0 0, .int .i64 0] 57) := by rw [hW]; exact heap_alloc_new w _
  clear hW
  have hRl := (Array.getElem?_eq_some_iff.1 R).1
  refine (sCopy_any a c ps _ hn0 hF (hT.below hbx (Nat.le_refl _))).mono ?_
  rintro e w1 ⟨a1, c1, p1, rfl, s1, o1, hb1⟩
  have B1 := hbx.trans (hb1.mono hbx.size)
  have R1 := (hb1.block _ hRl).trans R
  have F1 : Few p1 := fun q hq => by
    have h1 : q.st ∈ ps.map Sp.st := by rw [← s1]; exact List.mem_map_of_mem hq
    obtain ⟨p, hp, e⟩ := List.mem_map.1 h1
    rw [← e]
    exact hF p hp
  have L1 := hidOf (show p1.length = ps.length by have := congrArg List.length s1; simpa using this)
  have hL : W.heap.size ≤ w1.heap.size := hb1.size
  clear R
  obtain ⟨rb, hrb⟩ : ∃ rb, rb = w.heap.size := ⟨_, rfl⟩
  have hrbl : w.heap.size ≤ rb := by omega
  have hrW : rb < W.heap.size := by rw [hrb]; exact hRl
  rw [← hrb] at R1
  rw [← hrb]
  have HRB := hidOf hrb
  clear hrb
  by_cases h0 : ps.length = 0
  · have hps : ps = [] := List.eq_nil_of_length_eq_zero h0
    subst hps
    have hp1 : p1 = [] := List.eq_nil_of_length_eq_zero L1.out
    subst hp1
    have r0 : w1.cell? ⟨rb, 0, none⟩ = some (.slice none 0 0) := cell_of_row w1 _ 0 _ _ _ R1
    have r1 : w1.cell? ⟨rb, 1, none⟩ = some (.int .i64 0) := cell_of_row w1 _ 1 _ _ _ R1
    have z0 := frozen_of_row w1 rb 0 _ _ R1
    have z1 := frozen_of_row w1 rb 1 _ _ R1
    have HE := hidOf (o1.other (grown_set w1 ⟨rb, 0, none⟩ (.slice none 0 0)) (far_low o1.row hrW) (fun q hq => by cases hq))
    have HE2 := hidOf (HE.out.other (grown_set _ ⟨rb, 1, none⟩ (.int .i64 0)) (far_low o1.row hrW) (fun q hq => by cases hq))
    have HB := hidOf ((B1.setCell (p := ⟨rb, 0, none⟩) hrbl (.slice none 0 0)).setCell (p := ⟨rb, 1, none⟩) hrbl (.int .i64 0))
    have e0 : restL stLess ([] : List St) = [] := by
      unfold restL
      exact dn_no (ltAt_out (by simp [cutL]))
    have E0 := hidOf e0
    clear h0 L1 R1 e0
    go_wp2
    have y0 : ((w1.setCell ⟨rb, 0, none⟩ (.slice none 0 0)).setCell ⟨rb, 1, none⟩ (.int .i64 0)).cell? ⟨rb, 0, none⟩ = some (.slice none 0 0) := by go_simp
    have y1 : ((w1.setCell ⟨rb, 0, none⟩ (.slice none 0 0)).setCell ⟨rb, 1, none⟩ (.int .i64 0)).cell? ⟨rb, 1, none⟩ = some (.int .i64 0) := by go_simp
    refine bodyPost_ret (v := .tuple #[.slice a1 0 c1, .agg #[.slice none 0 0, .int .i64 0], .bool false]) (by simp [results, Try.results46, go_sem, y0, y1]) rfl ?_
    exact ⟨a1, c1, [], ⟨⟨[], 0⟩, none, 0⟩, rfl, E0.out.symm, rfl, HE2.out.base hbx.size, ⟨rfl, .inl ⟨rfl, rfl⟩⟩, (fun q hq => by cases hq), HB.out⟩
  · obtain ⟨m, hm⟩ : ∃ m, ps.length = m + 1 := ⟨ps.length - 1, by omega⟩
    have hm1 : p1.length = m + 1 := by rw [L1.out]; exact hm
    obtain ⟨g, rfl⟩ := owns_at o1.row (by omega)
    obtain ⟨f, hf⟩ : ∃ f, p1[0]? = some f := ⟨_, List.getElem?_eq_getElem (by omega)⟩
    have hP := hidOf (sPop_any W.heap.size g c1 m p1 f w1 (by omega) hm1 hf F1 o1 hL)
    rw [hm1]
    have hne0 : ((m : Int) + 1 == 0) = false := by rw [beq_eq_false_iff_ne]; omega
    have hml : m ≤ 1048576 := by omega
    have HM1 := hidOf hm1
    have HMP := hidOf hm
    rw [hm]
    clear hm hm1 h0
    go_wp2_with fail
    refine hP.out.mono ?_
    rintro e w3 ⟨rfl, O3, fo3, hb3⟩
    have B3 := B1.trans (hb3.mono hbx.size)
    have R3 := (hb3.block _ hrW).trans R1
    have ES := hidOf (show (restL spLess p1).map Sp.st = restL stLess (ps.map Sp.st) by rw [← s1]; exact restL_map Sp.st p1)
    have EF := hidOf (show f.st = hdS (ps.map Sp.st) by unfold hdS; rw [← s1, List.getElem?_map, hf]; rfl)
    have AP := hidOf (show ∀ q ∈ restL spLess p1, ∀ b, q.blk = some b → f.blk ≠ some b from fun q hq b hb2 => by
      obtain ⟨j, hj, ej⟩ := rest_mem hq
      exact o1.apart j 0 q f (by omega) ej hf b hb2)
    have LR := hidOf (show (restL spLess p1).length = m by rw [restL_len, HM1.out]; rfl)
    obtain ⟨qs, hqs⟩ : ∃ qs, qs = restL spLess p1 := ⟨_, rfl⟩
    rw [← hqs] at O3 ES AP LR
    clear hP o1 hb3 R1 hqs
    go_upto_region 5 with fail
    obtain ⟨W4, hW4, X4, hb4, S4⟩ := bx_new w3 f 57
    rw [← hW4]
    have B4 := B3.trans (hb4.mono B3.size)
    have O4 := O3.below hb4
    have fo4 := owns_below fo3 hb4
    have hw3l : rb < w3.heap.size := (Array.getElem?_eq_some_iff.1 R3).1
    have R4 := (hb4.block _ hw3l).trans R3
    obtain ⟨vb, hvb⟩ : ∃ vb, vb = w3.heap.size := ⟨_, rfl⟩
    have hvw : vb ≠ rb := by omega
    rw [← hvb] at X4
    rw [← hvb]
    clear hW4 S4 hb4 hvb O3 fo3 R3 hw3l
    obtain ⟨-, v0, v1⟩ := X4
    have r0 : W4.cell? ⟨rb, 0, none⟩ = some (.slice none 0 0) := cell_of_row W4 _ 0 _ _ _ R4
    have r1 : W4.cell? ⟨rb, 1, none⟩ = some (.int .i64 0) := cell_of_row W4 _ 1 _ _ _ R4
    have z0 := frozen_of_row W4 rb 0 _ _ R4
    have z1 := frozen_of_row W4 rb 1 _ _ R4
    have HE := hidOf (And.intro (O4.other (grown_set W4 ⟨rb, 0, none⟩ (.slice f.a f.st.vals.length f.c)) (far_low O4.row hrW) (fun q hq => far_low (O4.each q hq) hrW)) (own_put fo4 ⟨rb, 0, none⟩ (.slice f.a f.st.vals.length f.c) (far_low fo4 hrW)))
    have HE2 := hidOf (And.intro (HE.out.1.other (grown_set _ ⟨rb, 1, none⟩ (.int .i64 f.st.sum)) (far_low O4.row hrW) (fun q hq => far_low (O4.each q hq) hrW)) (own_put HE.out.2 ⟨rb, 1, none⟩ (.int .i64 f.st.sum) (far_low fo4 hrW)))
    have HB := hidOf ((B4.setCell (p := ⟨rb, 0, none⟩) hrbl (.slice f.a f.st.vals.length f.c)).setCell (p := ⟨rb, 1, none⟩) hrbl (.int .i64 f.st.sum))
    clear R4 O4 fo4 B4 HE
    go_region
    go_wp2
    have y0 : ((W4.setCell ⟨rb, 0, none⟩ (.slice f.a f.st.vals.length f.c)).setCell ⟨rb, 1, none⟩ (.int .i64 f.st.sum)).drew.cell? ⟨rb, 0, none⟩ = some (.slice f.a f.st.vals.length f.c) := by go_simp
    have y1 : ((W4.setCell ⟨rb, 0, none⟩ (.slice f.a f.st.vals.length f.c)).setCell ⟨rb, 1, none⟩ (.int .i64 f.st.sum)).drew.cell? ⟨rb, 1, none⟩ = some (.int .i64 f.st.sum) := by go_simp
    refine bodyPost_ret (v := .tuple #[.slice (some ⟨g, 0, none⟩) m c1, .agg #[.slice f.a f.st.vals.length f.c, .int .i64 f.st.sum], .bool true]) (by simp [results, Try.results46, go_sem, y0, y1]) rfl ?_
    refine ⟨some ⟨g, 0, none⟩, c1, qs, f, ?_, ES.out, EF.out, (HE2.out.1.below (below_drewN _ 1)).base hbx.size, ownsRow_base (owns_below HE2.out.2 (below_drewN _ 1)) hbx.size, AP.out, HB.out.drew⟩
    rw [LR.out, show decide (0 < (ps.map Sp.st).length) = true by rw [List.length_map, HMP.out]; simp]
end Go.Proofs.Ytokfemlcamnaaaa
