/- What impl.withoutEnds answers. -/
import Derived.Test.YtlpbhhgikgbfhaaDoorLefI
namespace Go.Proofs.YtlpbhhgikgbfhaaDoor
open Go.RowKit

theorem cells_newJ (w : World) (c : Array Value) (T : Nat) : ∀ j u, c.toList[j]? = some u → (w.alloc (.cells c T)).cell? ((⟨w.heap.size, 0, none⟩ : Addr).add j) = some u := by
  intro j u h
  have e : (⟨w.heap.size, 0, none⟩ : Addr).add j = ⟨w.heap.size, j, none⟩ := by unfold Addr.add; split <;> simp_all
  rw [e, World.cell?_alloc_new]
  simpa using h
theorem sgCells_oneJ (x : Sg) : ∀ u ∈ sgCells x, u.oneCell' = true := by
  intro u hu
  simp [sgCells] at hu
  rcases hu with rfl | rfl | rfl | rfl <;> rfl
/-- The four cells of a sign that was boxed, later on. -/
theorem boxed4 {w w' : World} {x : Sg} {T : Nat} (hb : Below (w.heap.size + 1) (w.alloc (.cells #[.int .i64 x.kind, .string x.text, .int .i64 x.place, .bool x.blank] T)) w') :
    w'.cell? ⟨w.heap.size, 0, none⟩ = some (.int .i64 x.kind) ∧ w'.cell? ⟨w.heap.size, 1, none⟩ = some (.string x.text) ∧ w'.cell? ⟨w.heap.size, 2, none⟩ = some (.int .i64 x.place) ∧ w'.cell? ⟨w.heap.size, 3, none⟩ = some (.bool x.blank) := by
  refine ⟨?_, ?_, ?_, ?_⟩ <;> rw [hb.cell (by simp), World.cell?_alloc_new] <;> rfl

set_option maxHeartbeats 4000000 in
set_option maxRecDepth 20000 in
theorem iLef_any (v : Value) (xs : List Sg) (w : World) (hn0 : xs.length ≤ 1048576) (hT : SgsAt w v xs) :
    Calls Tryd.prog 15 #[v] w fun e w' => SgsAns (lefF xs) 34 w e w' := by
  obtain ⟨i0, hi, hz0, hz1, hz2⟩ := info_parts infoSgL
  have hT0 := hT
  obtain ⟨a, c, rfl, h⟩ := hT
  obtain ⟨n, hn⟩ : ∃ n, n = xs.length := ⟨_, rfl⟩
  rw [← hn] at h hT0 hn0 ⊢
  have HN := hidOf hn
  have HT := hidOf hT0
  clear hT0 hn
  go_enter Tryd.func15, Tryd.ntmps15
  go_wp2
  go_loopw [3, 9] (fun v i wr => ∃ (k : Nat) (os : List Sg), k ≤ n ∧ i = .int .i64 k ∧ os.length ≤ k ∧ Hid (os ++ lefF (xs.drop k) = lefF xs) ∧ wr.ownsRow w.heap.size 34 4 v os.length (sgVals os) ∧ Below w.heap.size w wr)
    (fun _ i _ => n - (intOf i).toNat)
  case atStart => exact ⟨0, [], by omega, rfl, by simp, rfl, World.ownsRow_made w #[] 0 (Nat.le_refl _) (by decide) rfl, (Below.refl _ w).alloc (Nat.le_refl _) _⟩
  case round =>
    obtain ⟨k, os, hk, rfl, hol, HI, hown, hb⟩ := hrel
    obtain ⟨ao, cv, rfl⟩ := owns_slice hown
    have hsz := hb.size
    by_cases hlt : k < n
    · obtain ⟨x, ex⟩ : ∃ x, xs[k]? = some x := ⟨_, List.getElem?_eq_getElem (by rw [← HN.out]; exact hlt)⟩
      obtain ⟨b1, o1, rfl, hb1, hc1⟩ := h (by omega)
      obtain ⟨p0, p1, p2, p3⟩ := cells4 (w := wr) (fun j hj => by rw [hb.cell hb1]; exact hc1 k x ex j hj)
      have EX := hidOf ex
      clear ex hc1 h
      have hA : (0 : Int) ≤ (k : Int) := by omega
      have hB : (k : Int) < (n : Int) := by omega
      have hsep := isMk_sep x
      go_wp2_with fail
      refine (isMark_any x ⟨#[44]⟩ _).mono ?_
      rw [← hsep]
      rintro e w2 ⟨rfl, hb2⟩
      rw [World.size_alloc] at hb2
      obtain ⟨r0, r1, r2, r3⟩ := boxed4 hb2
      have hB2 := (hb.alloc hb.size (.cells #[.int .i64 x.kind, .string x.text, .int .i64 x.place, .bool x.blank] 34)).trans (hb2.mono (by omega))
      have ho2 := owns_below (hown.alloc (.cells #[.int .i64 x.kind, .string x.text, .int .i64 x.place, .bool x.blank] 34)) (by rw [World.size_alloc]; exact hb2)
      have hs2 := hB2.size
      have hs3 := hb2.size
      rw [World.size_alloc] at hs3
      clear hown hsep p0 p1 p2 p3
      cases hS : isSep x
      · go_wp2_with (at_builtin; refine wpList_append_own _ rfl _ _ 29 rfl w.heap.size 34 i0 _ 4 40 Tryd.underlying29 hi hz0 hz1 hz2 rfl (by decide) (.slice ao os.length cv) os.length (sgVals os) rfl (ho2.alloc _) ⟨w2.heap.size, 0, none⟩ 1 1 (sgCells x) rfl rfl (cells_newJ _ _ _) (sgCells_oneJ _) (by unfold maxLen; omega) (by omega) (by simp; omega) ?_; intro v' w5 hown' hgrow5 hnil5)
        clear hnil5
        go_roundw
        case rel => exact ⟨k + 1, os ++ [x], by omega, by go_num, by simp; omega, hidOf (lef_in EX.out (by rw [hS]; rfl) HI.out), by rw [List.length_append, sgVals_app]; exact hown', (hB2.alloc (by omega) _).grown hgrow5 (by simp; omega) (fun q hq => (ho2.lt q hq).1)⟩
        case measure => simp [intOf]; omega
      · go_wp2_with fail
        rw [show ((k : Int) + 1) = ((k + 1 : Nat) : Int) by omega]
        refine (closes_any _ xs (k + 1) _ (by rw [← HN.out]; omega) (by omega) (HT.out.below hB2)).mono ?_
        rintro e w3 ⟨rfl, hb3⟩
        have hb3' := hb3.mono (show wr.heap.size + 1 ≤ w2.heap.size by omega)
        obtain ⟨r0, r1, r2, r3⟩ := boxed4 (hb2.trans hb3')
        have hB3 := hB2.trans (hb3.mono hs2)
        have ho3 := owns_below ho2 hb3
        have hs3' := hB3.size
        clear ho2
        cases hC : shutAt xs (k + 1)
        · go_wp2_with (at_builtin; refine wpList_append_own _ rfl _ _ 29 rfl w.heap.size 34 i0 _ 4 40 Tryd.underlying29 hi hz0 hz1 hz2 rfl (by decide) (.slice ao os.length cv) os.length (sgVals os) rfl (ho3.alloc _) ⟨w3.heap.size, 0, none⟩ 1 1 (sgCells x) rfl rfl (cells_newJ _ _ _) (sgCells_oneJ _) (by unfold maxLen; omega) (by omega) (by simp; omega) ?_; intro v' w5 hown' hgrow5 hnil5)
          clear hnil5
          go_roundw
          case rel => exact ⟨k + 1, os ++ [x], by omega, by go_num, by simp; omega, hidOf (lef_in EX.out (by rw [hC, Bool.and_false]) HI.out), by rw [List.length_append, sgVals_app]; exact hown', (hB3.alloc (by omega) _).grown hgrow5 (by simp; omega) (fun q hq => (ho3.lt q hq).1)⟩
          case measure => simp [intOf]; omega
        · go_wp2
          go_roundw
          case rel => exact ⟨k + 1, os, by omega, by go_num, by omega, hidOf (lef_out EX.out hS hC HI.out), ho3, hB3⟩
          case measure => simp [intOf]; omega
    · go_wp2
      go_ret
      exact ⟨hb, _, rfl, by rw [lef_end (by have := HN.out; omega) HI.out]; exact hown⟩
end Go.Proofs.YtlpbhhgikgbfhaaDoor
