/- What spec.l08Values draws: some values. -/
import Derived.Test.YtokfemlcamnaaaaFitLib
import Derived.Lib.AppendIntMem
import Derived.Test.YtokfemlcamnaaaaToInt
import Derived.WalkKit
namespace Go.Proofs.Ytokfemlcamnaaaa
open Go.RowKit

/-- Some values, in memory of their own; the cursor has gone on. -/
def VaAns (base B : Nat) (w : World) (blk : Nat) (a : Option Addr) (len cap : Nat) (p : Pc) (l : Pl) (e : Ending) (w' : World) : Prop :=
  ∃ (vs : List Int) (av : Option Addr) (cv : Nat), e = .returned (.slice av vs.length cv) ∧ vs.length ≤ 10 ∧ w'.ownsRow w.heap.size 3 1 (.slice av vs.length cv) vs.length (intVals vs) ∧ Own4 B w' p l ∧ Cur base w' blk a len cap ∧ w.grownBy w' (some blk)
theorem va_mk {base B : Nat} {w0 w : World} {blk : Nat} {a : Option Addr} {len cap : Nat} {p : Pc} {l : Pl} {v : Value} {vs : List Int} (h : VS base B w0 blk a len cap w p l v vs) (hl : vs.length ≤ 10) : VaAns base B w0 blk a len cap p l (.returned v) w := by
  have hv := h.vals
  obtain ⟨ao, c, rfl⟩ := owns_slice hv
  exact ⟨vs, ao, c, rfl, hl, ownsRow_base hv (by omega), h.own, h.cur, h.grow⟩
theorem vs_start {base B : Nat} {w : World} {blk : Nat} {a : Option Addr} {len cap : Nat} {p : Pc} {l : Pl} (hc : Cur base w blk a len cap) (ho : Own4 B w p l) (hB : blk < B) :
    VS base B w blk a len cap ((w.alloc (.cells (pcCells p l) 29)).alloc (.cells #[] 3)) p l (.slice (some ⟨w.heap.size + 1, 0, none⟩) 0 0) [] := by
  have g1 := World.grownBy_alloc w (.cells (pcCells p l) 29) none
  have g2 := World.grownBy_alloc (w.alloc (.cells (pcCells p l) 29)) (.cells #[] 3) none
  have g : w.grownBy ((w.alloc (.cells (pcCells p l) 29)).alloc (.cells #[] 3)) none := grown_row g1 g2 (fun k e => by cases e)
  refine ⟨hc.kept g (fun k e => by cases e), grown_row (World.grownBy.refl w (some blk)) g (fun k e => by cases e), ?_, hc.lt, hB, ho.keptBy g (fun k e => by cases e), own_none1 w _ _ _⟩
  rw [Below.heap_alloc _ _ _ (by simp)]
  exact heap_alloc_new w _

set_option maxHeartbeats 8000000 in
set_option maxRecDepth 20000 in
theorem values_any (base B : Nat) (w : World) (blk : Nat) (a : Option Addr) (len cap : Nat) (p : Pc) (l : Pl) (hc : Cur base w blk a len cap) (hF : Fit p) (ho : Own4 B w p l) (hB : blk < B) :
    Calls Try.prog 140 #[.pointer (some ⟨blk, 0, none⟩), pcV p l] w fun e w' => VaAns base B w blk a len cap p l e w' := by
  show Calls _ _ #[_, .agg #[.int .i64 p.indent, .slice l.a1 p.rules.length l.c1, .slice l.a2 p.chunks.length l.c2, .slice l.a3 p.spans.length l.c3, .slice l.a4 p.ties.length l.c4]] _ _
  obtain ⟨i0, hi, hz0, hz1, hz2⟩ := info_parts infoIntT
  have V0 := vs_start hc ho hB
  have HF := hidOf hF
  clear hc ho hF
  obtain ⟨n, hn⟩ : ∃ n, n = p.rules.length := ⟨_, rfl⟩
  have hn1 : 1 ≤ n := by have := HF.out.r1; omega
  have hn9 : n ≤ 9 := by have := HF.out.r9; omega
  have HN := hidOf hn
  clear hn
  go_enter Try.func140, Try.ntmps140
  go_wp2
  go_loopw [5, 6] (fun v i wr => ∃ (k : Nat) (vs : List Int), k ≤ n ∧ i = .int .i64 k ∧ Hid (vs.length = k) ∧ VS base B w blk a len cap wr p l v vs)
    (fun _ i _ => n - (intOf i).toNat)
  case atStart => exact ⟨0, [], by omega, rfl, hidOf rfl, V0⟩
  case round =>
    clear V0
    obtain ⟨k, vs, hk, rfl, HL, V⟩ := hrel
    obtain ⟨ao, cv, rfl⟩ := owns_slice V.vals
    have c1 := V.cells
    rw [← HN.out] at c1
    by_cases hlt : k < n
    · obtain ⟨x, ex⟩ : ∃ x, p.rules[k]? = some x := ⟨_, List.getElem?_eq_getElem (by rw [← HN.out]; exact hlt)⟩
      obtain ⟨b1, o1, e1, hb1, hc1⟩ := V.own.is.rules (by rw [← HN.out]; omega)
      obtain ⟨p0, p1⟩ := ruC (w := wr) (fun j hj => hc1 k x ex j hj)
      have hx := HF.out.val k x ex
      rw [e1] at c1
      clear ex hc1 e1
      have hA : (0 : Int) ≤ (k : Int) := by omega
      have hB2 : (k : Int) < (n : Int) := by omega
      have hkl : vs.length ≤ 9 := by have := HL.out; omega
      obtain ⟨m, hm0, hm4, hm⟩ : ∃ m : Int, 0 < m ∧ m ≤ 4 ∧ ((x.values < 1 ∧ m = 1) ∨ (¬ x.values < 1 ∧ m = x.values)) := by
        by_cases h : x.values < 1
        · exact ⟨1, by omega, by omega, .inl ⟨h, rfl⟩⟩
        · exact ⟨x.values, by omega, by omega, .inr ⟨h, rfl⟩⟩
      rcases hm with ⟨h1, rfl⟩ | ⟨h1, rfl⟩
      all_goals go_wp2_with fail
      all_goals
        refine (below_any base _ blk a len cap _ V.cur hm0 (by omega)).mono ?_
        rintro e w1 ⟨y, hy, rfl, hc1, hg1⟩
        have V1 := V.draw hc1 hg1
        clear hc1 hg1 p0 p1 c1 V
        have hs1 := V1.lt
        go_wp2_with (at_builtin; refine wpList_append_own _ rfl _ _ 31 rfl (w.heap.size + 1) 3 i0 (.int .i64 0) 1 8 Try.underlying31 hi hz0 hz1 hz2 rfl (by decide) _ _ _ rfl (V1.alloc _).vals ⟨w1.heap.size, 0, none⟩ 1 1 [.int .i64 (y : Int)] rfl rfl (cell_one_new w1 _ _) (fun x hx => by simp at hx; subst hx; rfl) (by unfold maxLen; omega) (by omega) (by simp; omega) ?_; intro v' w3 hown' hgrow3 hnil3)
        go_roundw
        case rel => exact ⟨k + 1, vs ++ [(y : Int)], by omega, by go_num, hidOf (by have := HL.out; simp; omega), (V1.alloc _).app hown' hgrow3⟩
        case measure => simp [intOf]; omega
    · have hkl : vs.length = n := by have := HL.out; omega
      have HKL := hidOf hkl
      clear hkl
      go_wp2_with fail
      refine (below_any base _ blk a len cap 10 V.cur (by omega) (by omega)).mono ?_
      rintro e w1 ⟨y, hy, rfl, hc1, hg1⟩
      have V1 := V.draw hc1 hg1
      clear hc1 hg1 c1 V
      have hs1 := V1.lt
      have hy3 : y = 0 ∨ y = 1 ∨ (¬ (y : Int) = 0 ∧ ¬ (y : Int) = 1) := by omega
      rcases hy3 with rfl | rfl | ⟨hy0, hy1⟩
      · have hkl : vs.length ≤ 9 := by have := HKL.out; omega
        go_wp2_with (at_builtin; refine wpList_append_own _ rfl _ _ 31 rfl (w.heap.size + 1) 3 i0 (.int .i64 0) 1 8 Try.underlying31 hi hz0 hz1 hz2 rfl (by decide) _ _ _ rfl (V1.alloc _).vals ⟨w1.heap.size, 0, none⟩ 1 1 [.int .i64 0] rfl rfl (cell_one_new w1 _ _) (fun x hx => by simp at hx; subst hx; rfl) (by unfold maxLen; omega) (by omega) (by simp; omega) ?_; intro v' w3 hown' hgrow3 hnil3)
        go_ret
        exact va_mk ((V1.alloc _).app hown' hgrow3) (by simp; omega)
      · have hkl : vs.length ≤ 9 := by have := HKL.out; omega
        have hkp : 0 < vs.length := by have := HKL.out; omega
        have hkp2 : (0 : Int) < (vs.length : Int) := by omega
        obtain ⟨g, rfl⟩ := owns_at V1.vals hkp
        go_wp2_with fail
        refine (pickInt_in base _ blk a len cap w1.heap.size 2 2 [-1, 3] (V1.alloc _).cur (by omega) (by omega) rfl (by have := V1.cur.lt; omega) (by simp) (fun j _ => intCells_at w1 _ _ [-1, 3] rfl j)).mono ?_
        rintro e w2 ⟨t, ht, rfl, hc2, hg2⟩
        have V2 := (V1.alloc _).draw hc2 hg2
        clear hc2 hg2 V1
        have q0 := V2.vals.cellAt 0 (by omega)
        have qf := V2.vals.frozenAt 0
        obtain ⟨u, hu⟩ : ∃ u, vs[0]? = some u := ⟨_, List.getElem?_eq_getElem hkp⟩
        rw [show (intVals vs)[0]? = some (.int .i64 u) by simp [intVals, hu]] at q0
        clear hu
        go_wp2
        go_ret
        exact va_mk (V2.put rfl) (by simp; omega)
      · go_wp2
        go_ret
        exact va_mk V1 (by have := HKL.out; omega)
end Go.Proofs.Ytokfemlcamnaaaa
