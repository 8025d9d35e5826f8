/- Drawn signs may be signs of a source. -/
import Derived.Test.YtmmefiaommfpkaaDoorDrawPk
import Derived.Test.YtmmefiaommfpkaaDoorFlatLib
import Derived.Test.YtmmefiaommfpkaaDoorMkS
namespace Go.Proofs.YtmmefiaommfpkaaDoor
open Go.RowKit

/-- A sign that may be, with a short text. -/
def drOk (kd : Int) (T : ByteArray) : Bool := okSg kd T.data.toList && decide (T.size ≤ 12)
def DrOk (xs : List Sg) : Prop := ∀ x ∈ xs, drOk x.kind x.text = true
def dwN : List ByteArray := [⟨#[97]⟩, ⟨#[99, 108, 97, 115, 115]⟩, ⟨#[95, 120, 49]⟩, ⟨#[66, 105, 103]⟩]
def dwF : List ByteArray := [⟨#[48]⟩, ⟨#[49, 50, 51, 52, 53, 54, 55, 56, 57, 48, 49, 50]⟩, ⟨#[55]⟩]
def dwT : List ByteArray := [⟨#[39, 39]⟩, ⟨#[39, 97, 32, 98, 39]⟩, ⟨#[39, 47, 47, 39]⟩]
def dwO : List ByteArray := [⟨#[47, 47]⟩, ⟨#[47, 47, 32, 115, 97, 105, 100]⟩, ⟨#[47, 47, 97, 32, 32, 98]⟩]
theorem dwN_ok : (dwN.all fun t => drOk 1 t) = true := by decide
theorem dwF_ok : (dwF.all fun t => drOk 2 t) = true := by decide
theorem dwT_ok : (dwT.all fun t => drOk 3 t) = true := by decide
theorem dwO_ok : (dwO.all fun t => drOk 5 t) = true := by decide
theorem dwM_ok : (mkStrs.all fun t => drOk 4 t) = true := by decide

theorem infoSgD : (Tryd.prog.info? 30).map (fun i => (i.zero, i.size, i.bytes)) = some (some (.agg #[.int .i64 0, .string ByteArray.empty, .int .i64 0, .bool false]), 4, 40) := by kernel_rfl
/-- Drawn signs, in memory of their own; the cursor has gone on. -/
def SgDr (base : Nat) (w : World) (blk : Nat) (a : Option Addr) (len cap : Nat) (e : Ending) (w' : World) : Prop :=
  ∃ (v : Value) (xs : List Sg), e = .returned v ∧ xs.length ≤ 8 ∧ DrOk xs ∧ w'.ownsRow w.heap.size 30 4 v xs.length (sgVals xs) ∧ Cur base w' blk a len cap ∧ w.grownBy w' (some blk)

theorem dr_snoc {xs : List Sg} {kd p : Int} {t : ByteArray} {b : Bool} (h : DrOk xs) (ht : drOk kd t = true) : DrOk (xs ++ [⟨kd, t, p, b⟩]) := by
  intro x hx
  rw [List.mem_append] at hx
  rcases hx with hx | hx
  · exact h x hx
  · obtain rfl : x = _ := by simpa using hx
    exact ht
theorem cells_at (w : World) (c : Array Value) (T : Nat) (L : List ByteArray) (h : c.toList = strVals L) (j : Nat) : (w.alloc (.cells c T)).cell? ⟨w.heap.size, j, none⟩ = (strVals L)[j]? := by
  rw [World.cell?_alloc_new, ← h]
  simp

set_option maxHeartbeats 8000000 in
set_option maxRecDepth 100000 in
theorem signs_any (base : Nat) (w : World) (blk : Nat) (a : Option Addr) (len cap : Nat) (hc : Cur base w blk a len cap) (hbw : base ≤ w.heap.size) :
    Calls Tryd.prog 24 #[.pointer (some ⟨blk, 0, none⟩)] w fun e w' => SgDr base w blk a len cap e w' := by
  obtain ⟨i0, hi, hz0, hz1, hz2⟩ := info_parts infoSgD
  have hblt := hc.lt
  have HC := hidOf hc
  clear hc
  go_enter Tryd.func24, Tryd.ntmps24
  go_wp2
  obtain ⟨v0, hv0⟩ : ∃ v0, v0 = Value.slice (some ⟨w.heap.size, 0, none⟩) 0 0 := ⟨_, rfl⟩
  have hown0 : (w.alloc (.cells #[] 30)).ownsRow w.heap.size 30 4 v0 0 [] := by rw [hv0]; exact World.ownsRow_made w #[] 0 (Nat.le_refl _) (by decide) rfl
  rw [← hv0]
  clear hv0
  have hC0 : Cur base (w.alloc (.cells #[] 30)) blk a len cap := HC.out.kept (World.grownBy_alloc w _ none) (fun k hk => by cases hk)
  have hG0 : w.grownBy (w.alloc (.cells #[] 30)) (some blk) := grown_row (World.grownBy.refl _ _) (World.grownBy_alloc w _ none) (fun k hk => by cases hk)
  go_loopw [3, 4] (fun v i wr => ∃ (k : Nat) (xs : List Sg), k ≤ 8 ∧ i = .int .i64 k ∧ xs.length = k ∧ wr.ownsRow w.heap.size 30 4 v k (sgVals xs) ∧ Hid (DrOk xs ∧ Cur base wr blk a len cap ∧ w.grownBy wr (some blk))) (fun _ i _ => 8 - (intOf i).toNat)
  case atStart => exact ⟨0, [], by omega, rfl, rfl, hown0, fun x hx => (by cases hx), hC0, hG0⟩
  case round =>
    obtain ⟨k, xs, hk, rfl, hxl, ho, HI⟩ := hrel
    obtain ⟨ao, cc, rfl⟩ := owns_slice ho
    have hsz := HI.out.2.2.size
    have hnb : some blk ≠ (Value.slice ao k cc).ownBlock := fun e => by have := (ho.lt blk e.symm).1; omega
    go_wp2_with fail
    refine (below_any base _ blk a len cap 9 HI.out.2.1 (by omega) (by omega)).mono ?_
    rintro e w1 ⟨x, hx, rfl, hc1, hg1⟩
    have hs1 := hg1.size
    have ho1 := World.ownsRow.kept ho hg1 (by
      cases hv : (Value.slice ao k cc).ownBlock with
      | none => exact .inl rfl
      | some g => exact .inr (fun e => hnb (by rw [hv]; exact e.symm)))
    have H1 := hidOf (And.intro HI.out.1 (And.intro hc1 (grown_two HI.out.2.2 hg1)))
    clear HI ho hc1 hg1
    by_cases hkx : k < x
    · have hA : (k : Int) < (x : Int) := by omega
      go_wp2_with fail
      refine (below_any base _ blk a len cap 5 H1.out.2.1 (by omega) (by omega)).mono ?_
      rintro e w2 ⟨y, hy, rfl, hc2, hg2⟩
      have hs2 := hg2.size
      have ho2 := World.ownsRow.kept ho1 hg2 (by
        cases hv : (Value.slice ao k cc).ownBlock with
        | none => exact .inl rfl
        | some g => exact .inr (fun e => hnb (by rw [hv]; exact e.symm)))
      have H2 := hidOf (And.intro H1.out.1 (And.intro hc2 (grown_two H1.out.2.2 hg2)))
      clear H1 ho1 hc2 hg2
      have hca : ∀ o, Cur base (w2.alloc o) blk a len cap := fun o => H2.out.2.1.kept (World.grownBy_alloc w2 o none) (fun k hk => by cases hk)
      have hbl2 := H2.out.2.1.lt
      rcases (show y = 0 ∨ y = 1 ∨ y = 2 ∨ y = 3 ∨ y = 4 by omega) with rfl | rfl | rfl | rfl | rfl
      · go_wp2_with fail
        refine (pick_in base _ blk a len cap w2.heap.size 4 4 dwN (hca _) (by omega) (by omega) rfl (by omega) (by simp) (fun j _ => cells_at _ _ _ dwN rfl j)).mono ?_
        rintro e w3 ⟨t, ht, rfl, hc3, hg3⟩
        have hok := List.all_eq_true.1 dwN_ok t ht
        have hs3 : w2.heap.size + 1 ≤ w3.heap.size := by have := hg3.size; simp at this; omega
        have ho3 := World.ownsRow.kept (ho2.alloc _) hg3 (by
          cases hv : (Value.slice ao k cc).ownBlock with
          | none => exact .inl rfl
          | some g => exact .inr (fun e => hnb (by rw [hv]; exact e.symm)))
        have H3 := hidOf (And.intro H2.out.1 (And.intro hc3 (grown_two (grown_row H2.out.2.2 (World.grownBy_alloc w2 _ none) (fun k hk => by cases hk)) hg3)))
        have HO := hidOf hok
        clear H2 ho2 hc3 hg3 hok ht hca
        go_wp2_with (at_builtin; refine wpList_append_own _ rfl _ _ 24 rfl w.heap.size 30 i0 _ 4 40 Tryd.underlying24 hi hz0 hz1 hz2 rfl (by decide) (.slice ao k cc) k (sgVals xs) rfl (ho3.alloc _) ⟨w3.heap.size, 0, none⟩ 1 1 (sgCells ⟨1, t, 0, false⟩) rfl rfl (cells_new _ _ _) (sgCells_one _) (by unfold maxLen; omega) (by omega) (by simp; omega) ?_; intro v' w5 hown' hgrow5 hnil5)
        clear hnil5
        refine ⟨⟨k + 1, xs ++ [⟨1, t, 0, false⟩], by omega, by go_num, by simp [hxl], ?_, hidOf ⟨dr_snoc H3.out.1 HO.out, ?_, ?_⟩⟩, ?_⟩
        · rw [sgVals_app]
          exact hown'
        · exact (H3.out.2.1.kept (World.grownBy_alloc w3 _ none) (fun k hk => by cases hk)).kept hgrow5 (fun j hj => by have := (ho3.lt j hj).1; exact ⟨by omega, by omega⟩)
        · exact grown_row (grown_row H3.out.2.2 (World.grownBy_alloc w3 _ none) (fun k hk => by cases hk)) hgrow5 (fun j hj => .inl (ho3.lt j hj).1)
        · simp only [intOf]
          omega
      · go_wp2_with fail
        refine (pick_in base _ blk a len cap w2.heap.size 3 3 dwF (hca _) (by omega) (by omega) rfl (by omega) (by simp) (fun j _ => cells_at _ _ _ dwF rfl j)).mono ?_
        rintro e w3 ⟨t, ht, rfl, hc3, hg3⟩
        have hok := List.all_eq_true.1 dwF_ok t ht
        have hs3 : w2.heap.size + 1 ≤ w3.heap.size := by have := hg3.size; simp at this; omega
        have ho3 := World.ownsRow.kept (ho2.alloc _) hg3 (by
          cases hv : (Value.slice ao k cc).ownBlock with
          | none => exact .inl rfl
          | some g => exact .inr (fun e => hnb (by rw [hv]; exact e.symm)))
        have H3 := hidOf (And.intro H2.out.1 (And.intro hc3 (grown_two (grown_row H2.out.2.2 (World.grownBy_alloc w2 _ none) (fun k hk => by cases hk)) hg3)))
        have HO := hidOf hok
        clear H2 ho2 hc3 hg3 hok ht hca
        go_wp2_with (at_builtin; refine wpList_append_own _ rfl _ _ 24 rfl w.heap.size 30 i0 _ 4 40 Tryd.underlying24 hi hz0 hz1 hz2 rfl (by decide) (.slice ao k cc) k (sgVals xs) rfl (ho3.alloc _) ⟨w3.heap.size, 0, none⟩ 1 1 (sgCells ⟨2, t, 0, false⟩) rfl rfl (cells_new _ _ _) (sgCells_one _) (by unfold maxLen; omega) (by omega) (by simp; omega) ?_; intro v' w5 hown' hgrow5 hnil5)
        clear hnil5
        refine ⟨⟨k + 1, xs ++ [⟨2, t, 0, false⟩], by omega, by go_num, by simp [hxl], ?_, hidOf ⟨dr_snoc H3.out.1 HO.out, ?_, ?_⟩⟩, ?_⟩
        · rw [sgVals_app]
          exact hown'
        · exact (H3.out.2.1.kept (World.grownBy_alloc w3 _ none) (fun k hk => by cases hk)).kept hgrow5 (fun j hj => by have := (ho3.lt j hj).1; exact ⟨by omega, by omega⟩)
        · exact grown_row (grown_row H3.out.2.2 (World.grownBy_alloc w3 _ none) (fun k hk => by cases hk)) hgrow5 (fun j hj => .inl (ho3.lt j hj).1)
        · simp only [intOf]
          omega
      · go_wp2_with fail
        refine (pick_in base _ blk a len cap w2.heap.size 3 3 dwT (hca _) (by omega) (by omega) rfl (by omega) (by simp) (fun j _ => cells_at _ _ _ dwT rfl j)).mono ?_
        rintro e w3 ⟨t, ht, rfl, hc3, hg3⟩
        have hok := List.all_eq_true.1 dwT_ok t ht
        have hs3 : w2.heap.size + 1 ≤ w3.heap.size := by have := hg3.size; simp at this; omega
        have ho3 := World.ownsRow.kept (ho2.alloc _) hg3 (by
          cases hv : (Value.slice ao k cc).ownBlock with
          | none => exact .inl rfl
          | some g => exact .inr (fun e => hnb (by rw [hv]; exact e.symm)))
        have H3 := hidOf (And.intro H2.out.1 (And.intro hc3 (grown_two (grown_row H2.out.2.2 (World.grownBy_alloc w2 _ none) (fun k hk => by cases hk)) hg3)))
        have HO := hidOf hok
        clear H2 ho2 hc3 hg3 hok ht hca
        go_wp2_with (at_builtin; refine wpList_append_own _ rfl _ _ 24 rfl w.heap.size 30 i0 _ 4 40 Tryd.underlying24 hi hz0 hz1 hz2 rfl (by decide) (.slice ao k cc) k (sgVals xs) rfl (ho3.alloc _) ⟨w3.heap.size, 0, none⟩ 1 1 (sgCells ⟨3, t, 0, false⟩) rfl rfl (cells_new _ _ _) (sgCells_one _) (by unfold maxLen; omega) (by omega) (by simp; omega) ?_; intro v' w5 hown' hgrow5 hnil5)
        clear hnil5
        refine ⟨⟨k + 1, xs ++ [⟨3, t, 0, false⟩], by omega, by go_num, by simp [hxl], ?_, hidOf ⟨dr_snoc H3.out.1 HO.out, ?_, ?_⟩⟩, ?_⟩
        · rw [sgVals_app]
          exact hown'
        · exact (H3.out.2.1.kept (World.grownBy_alloc w3 _ none) (fun k hk => by cases hk)).kept hgrow5 (fun j hj => by have := (ho3.lt j hj).1; exact ⟨by omega, by omega⟩)
        · exact grown_row (grown_row H3.out.2.2 (World.grownBy_alloc w3 _ none) (fun k hk => by cases hk)) hgrow5 (fun j hj => .inl (ho3.lt j hj).1)
        · simp only [intOf]
          omega
      · go_wp2_with fail
        refine (pick_in base _ blk a len cap w2.heap.size 3 3 dwO (hca _) (by omega) (by omega) rfl (by omega) (by simp) (fun j _ => cells_at _ _ _ dwO rfl j)).mono ?_
        rintro e w3 ⟨t, ht, rfl, hc3, hg3⟩
        have hok := List.all_eq_true.1 dwO_ok t ht
        have hs3 : w2.heap.size + 1 ≤ w3.heap.size := by have := hg3.size; simp at this; omega
        have ho3 := World.ownsRow.kept (ho2.alloc _) hg3 (by
          cases hv : (Value.slice ao k cc).ownBlock with
          | none => exact .inl rfl
          | some g => exact .inr (fun e => hnb (by rw [hv]; exact e.symm)))
        have H3 := hidOf (And.intro H2.out.1 (And.intro hc3 (grown_two (grown_row H2.out.2.2 (World.grownBy_alloc w2 _ none) (fun k hk => by cases hk)) hg3)))
        have HO := hidOf hok
        clear H2 ho2 hc3 hg3 hok ht hca
        go_wp2_with (at_builtin; refine wpList_append_own _ rfl _ _ 24 rfl w.heap.size 30 i0 _ 4 40 Tryd.underlying24 hi hz0 hz1 hz2 rfl (by decide) (.slice ao k cc) k (sgVals xs) rfl (ho3.alloc _) ⟨w3.heap.size, 0, none⟩ 1 1 (sgCells ⟨5, t, 0, false⟩) rfl rfl (cells_new _ _ _) (sgCells_one _) (by unfold maxLen; omega) (by omega) (by simp; omega) ?_; intro v' w5 hown' hgrow5 hnil5)
        clear hnil5
        refine ⟨⟨k + 1, xs ++ [⟨5, t, 0, false⟩], by omega, by go_num, by simp [hxl], ?_, hidOf ⟨dr_snoc H3.out.1 HO.out, ?_, ?_⟩⟩, ?_⟩
        · rw [sgVals_app]
          exact hown'
        · exact (H3.out.2.1.kept (World.grownBy_alloc w3 _ none) (fun k hk => by cases hk)).kept hgrow5 (fun j hj => by have := (ho3.lt j hj).1; exact ⟨by omega, by omega⟩)
        · exact grown_row (grown_row H3.out.2.2 (World.grownBy_alloc w3 _ none) (fun k hk => by cases hk)) hgrow5 (fun j hj => .inl (ho3.lt j hj).1)
        · simp only [intOf]
          omega
      · go_wp2_with fail
        refine (sMarks_any _).mono ?_
        rintro e wm ⟨hbm, vm, rfl, hom⟩
        rw [mkStrs_len] at hom
        have hsm := hbm.size
        have hoM := owns_below ho2 hbm
        have hcm : Cur base wm blk a len cap := H2.out.2.1.kept (grownBy_of_below hbm none) (fun k hk => by cases hk)
        have hgm : w.grownBy wm (some blk) := grown_row H2.out.2.2 (grownBy_of_below hbm none) (fun k hk => by cases hk)
        rcases hom.2 with ⟨_, e⟩ | ⟨gm, capm, curm, rfl, _⟩
        · omega
        have hgl := hom.lt gm rfl
        have hcl := fun j hj => hom.cellAt j hj
        have HM := hidOf (And.intro H2.out.1 hgm)
        clear H2 ho2 hca hgm hom hbm
        go_wp2_with fail
        refine (pick_in base _ blk a len cap gm 21 capm mkStrs hcm (by omega) (by omega) rfl (by omega) hgl.2 (fun j hj => hcl j (by omega))).mono ?_
        rintro e w3 ⟨t, ht, rfl, hc3, hg3⟩
        have hok := List.all_eq_true.1 dwM_ok t ht
        have hs3 := hg3.size
        have ho3 := World.ownsRow.kept hoM hg3 (by
          cases hv : (Value.slice ao k cc).ownBlock with
          | none => exact .inl rfl
          | some g => exact .inr (fun e => hnb (by rw [hv]; exact e.symm)))
        have H3 := hidOf (And.intro HM.out.1 (And.intro hc3 (grown_two HM.out.2 hg3)))
        have HO := hidOf hok
        clear HM hoM hc3 hg3 hok ht hcm hcl hgl
        go_wp2_with (at_builtin; refine wpList_append_own _ rfl _ _ 24 rfl w.heap.size 30 i0 _ 4 40 Tryd.underlying24 hi hz0 hz1 hz2 rfl (by decide) (.slice ao k cc) k (sgVals xs) rfl (ho3.alloc _) ⟨w3.heap.size, 0, none⟩ 1 1 (sgCells ⟨4, t, 0, false⟩) rfl rfl (cells_new _ _ _) (sgCells_one _) (by unfold maxLen; omega) (by omega) (by simp; omega) ?_; intro v' w5 hown' hgrow5 hnil5)
        clear hnil5
        refine ⟨⟨k + 1, xs ++ [⟨4, t, 0, false⟩], by omega, by go_num, by simp [hxl], ?_, hidOf ⟨dr_snoc H3.out.1 HO.out, ?_, ?_⟩⟩, ?_⟩
        · rw [sgVals_app]
          exact hown'
        · exact (H3.out.2.1.kept (World.grownBy_alloc w3 _ none) (fun k hk => by cases hk)).kept hgrow5 (fun j hj => by have := (ho3.lt j hj).1; exact ⟨by omega, by omega⟩)
        · exact grown_row (grown_row H3.out.2.2 (World.grownBy_alloc w3 _ none) (fun k hk => by cases hk)) hgrow5 (fun j hj => .inl (ho3.lt j hj).1)
        · simp only [intOf]
          omega
    · have hA : ¬ (k : Int) < (x : Int) := by omega
      go_wp2
      go_ret
      exact ⟨_, xs, rfl, by omega, H1.out.1, by rw [hxl]; exact ho1, H1.out.2.1, H1.out.2.2⟩
end Go.Proofs.YtmmefiaommfpkaaDoor
