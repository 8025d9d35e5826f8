/- What spec.l07Left answers. -/
import Derived.Test.YtlpbhhgikgbfhaaDoorLefJ
namespace Go.Proofs.YtlpbhhgikgbfhaaDoor
open Go.RowKit

theorem shut_none {xs : List Sg} {k : Nat} (h : xs.length ≤ k) : shutAt xs k = false := by unfold shutAt; rw [List.getElem?_eq_none h]
theorem shut_some {xs : List Sg} {k : Nat} {y : Sg} (h : xs[k]? = some y) : shutAt xs k = isShut y := by unfold shutAt; rw [h]

set_option maxHeartbeats 8000000 in
set_option maxRecDepth 20000 in
theorem sLef_any (v : Value) (xs : List Sg) (w : World) (hn0 : xs.length ≤ 1048576) (hT : SgsAt w v xs) :
    Calls Tryd.prog 13 #[v] w fun e w' => SgsAns (lefF xs) 34 w e w' := by
  obtain ⟨i0, hi, hz0, hz1, hz2⟩ := info_parts infoSgL
  obtain ⟨a, c, rfl, h⟩ := hT
  obtain ⟨n, hn⟩ : ∃ n, n = xs.length := ⟨_, rfl⟩
  rw [← hn] at h hn0 ⊢
  have HN := hidOf hn
  clear hn
  go_enter Tryd.func13, Tryd.ntmps13
  go_wp2
  go_loopw [3, 4] (fun v i wr => ∃ (k : Nat) (os : List Sg), k ≤ n ∧ i = .int .i64 k ∧ os.length ≤ k ∧ Hid (os ++ lefF (xs.drop k) = lefF xs) ∧ wr.ownsRow w.heap.size 34 4 v os.length (sgVals os) ∧ Below w.heap.size w wr)
    (fun _ i _ => n - (intOf i).toNat)
  case atStart => exact ⟨0, [], by omega, rfl, by simp, rfl, World.ownsRow_made w #[] 0 (Nat.le_refl _) (by decide) rfl, (Below.refl _ w).alloc (Nat.le_refl _) _⟩
  case round =>
    obtain ⟨k, os, hk, rfl, hol, HI, hown, hb⟩ := hrel
    obtain ⟨ao, cv, rfl⟩ := owns_slice hown
    have hsz := hb.size
    by_cases hlt : k < n
    · obtain ⟨x, ex⟩ : ∃ x, xs[k]? = some x := ⟨_, List.getElem?_eq_getElem (by rw [← HN.out]; exact hlt)⟩
      obtain ⟨b1, o1, rfl, hb1, hc1⟩ := h (by omega)
      obtain ⟨p0, p1, p2, p3⟩ := cells4 (w := wr) (fun j hj => by rw [hb.cell hb1]; exact hc1 k x ex j hj)
      have EX := hidOf ex
      have HC := hidOf hc1
      clear ex hc1 h
      have hA : (0 : Int) ≤ (k : Int) := by omega
      have hB : (k : Int) < (n : Int) := by omega
      cases h4 : (x.kind == 4)
      · go_wp2_with (at_builtin; refine wpList_append_own _ rfl _ _ 29 rfl w.heap.size 34 i0 _ 4 40 Tryd.underlying29 hi hz0 hz1 hz2 rfl (by decide) (.slice ao os.length cv) os.length (sgVals os) rfl (hown.alloc _) ⟨wr.heap.size, 0, none⟩ 1 1 (sgCells x) rfl rfl (cells_newJ _ _ _) (sgCells_oneJ _) (by unfold maxLen; omega) (by omega) (by simp; omega) ?_; intro v' w5 hown' hgrow5 hnil5)
        clear hnil5
        go_roundw
        case rel => exact ⟨k + 1, os ++ [x], by omega, by go_num, by simp; omega, hidOf (lef_in EX.out (by simp [isSep, h4]) HI.out), by rw [List.length_append, sgVals_app]; exact hown', (hb.alloc (by omega) _).grown hgrow5 (by simp; omega) (fun q hq => (hown.lt q hq).1)⟩
        case measure => simp [intOf]; omega
      · cases h44 : (x.text.toList == [44])
        · go_wp2_with (at_builtin; refine wpList_append_own _ rfl _ _ 29 rfl w.heap.size 34 i0 _ 4 40 Tryd.underlying29 hi hz0 hz1 hz2 rfl (by decide) (.slice ao os.length cv) os.length (sgVals os) rfl (hown.alloc _) ⟨wr.heap.size, 0, none⟩ 1 1 (sgCells x) rfl rfl (cells_newJ _ _ _) (sgCells_oneJ _) (by unfold maxLen; omega) (by omega) (by simp; omega) ?_; intro v' w5 hown' hgrow5 hnil5)
          clear hnil5
          go_roundw
          case rel => exact ⟨k + 1, os ++ [x], by omega, by go_num, by simp; omega, hidOf (lef_in EX.out (by simp [isSep, h44]) HI.out), by rw [List.length_append, sgVals_app]; exact hown', (hb.alloc (by omega) _).grown hgrow5 (by simp; omega) (fun q hq => (hown.lt q hq).1)⟩
          case measure => simp [intOf]; omega
        · by_cases hl1 : k + 1 < n
          · obtain ⟨y, ey⟩ : ∃ y, xs[k + 1]? = some y := ⟨_, List.getElem?_eq_getElem (by rw [← HN.out]; exact hl1)⟩
            obtain ⟨q0, q1, q2, q3⟩ := cells4 (w := wr) (fun j hj => by rw [hb.cell hb1]; exact HC.out (k + 1) y ey j hj)
            have EY := hidOf (shut_some ey)
            clear ey q2 q3
            have hA1 : (0 : Int) ≤ (k : Int) + 1 := by omega
            have hB1 : (k : Int) + 1 < (n : Int) := by omega
            cases g4 : (y.kind == 4)
            · go_wp2_with (at_builtin; refine wpList_append_own _ rfl _ _ 29 rfl w.heap.size 34 i0 _ 4 40 Tryd.underlying29 hi hz0 hz1 hz2 rfl (by decide) (.slice ao os.length cv) os.length (sgVals os) rfl (hown.alloc _) ⟨wr.heap.size, 0, none⟩ 1 1 (sgCells x) rfl rfl (cells_newJ _ _ _) (sgCells_oneJ _) (by unfold maxLen; omega) (by omega) (by simp; omega) ?_; intro v' w5 hown' hgrow5 hnil5)
              clear hnil5
              go_roundw
              case rel => exact ⟨k + 1, os ++ [x], by omega, by go_num, by simp; omega, hidOf (lef_in EX.out (by rw [EY.out]; simp [isShut, g4]) HI.out), by rw [List.length_append, sgVals_app]; exact hown', (hb.alloc (by omega) _).grown hgrow5 (by simp; omega) (fun q hq => (hown.lt q hq).1)⟩
              case measure => simp [intOf]; omega
            · cases g41 : (y.text.toList == [41])
              · cases g93 : (y.text.toList == [93])
                · go_wp2_with (at_builtin; refine wpList_append_own _ rfl _ _ 29 rfl w.heap.size 34 i0 _ 4 40 Tryd.underlying29 hi hz0 hz1 hz2 rfl (by decide) (.slice ao os.length cv) os.length (sgVals os) rfl (hown.alloc _) ⟨wr.heap.size, 0, none⟩ 1 1 (sgCells x) rfl rfl (cells_newJ _ _ _) (sgCells_oneJ _) (by unfold maxLen; omega) (by omega) (by simp; omega) ?_; intro v' w5 hown' hgrow5 hnil5)
                  clear hnil5
                  go_roundw
                  case rel => exact ⟨k + 1, os ++ [x], by omega, by go_num, by simp; omega, hidOf (lef_in EX.out (by rw [EY.out]; simp [isShut, g41, g93]) HI.out), by rw [List.length_append, sgVals_app]; exact hown', (hb.alloc (by omega) _).grown hgrow5 (by simp; omega) (fun q hq => (hown.lt q hq).1)⟩
                  case measure => simp [intOf]; omega
                · go_wp2
                  go_roundw
                  case rel => exact ⟨k + 1, os, by omega, by go_num, by omega, hidOf (lef_out EX.out (by simp [isSep, h4, h44]) (by rw [EY.out]; simp [isShut, g4, g41, g93]) HI.out), hown, hb⟩
                  case measure => simp [intOf]; omega
              · go_wp2
                go_roundw
                case rel => exact ⟨k + 1, os, by omega, by go_num, by omega, hidOf (lef_out EX.out (by simp [isSep, h4, h44]) (by rw [EY.out]; simp [isShut, g4, g41]) HI.out), hown, hb⟩
                case measure => simp [intOf]; omega
          · have hB1 : ¬ ((k : Int) + 1 < (n : Int)) := by omega
            go_wp2_with (at_builtin; refine wpList_append_own _ rfl _ _ 29 rfl w.heap.size 34 i0 _ 4 40 Tryd.underlying29 hi hz0 hz1 hz2 rfl (by decide) (.slice ao os.length cv) os.length (sgVals os) rfl (hown.alloc _) ⟨wr.heap.size, 0, none⟩ 1 1 (sgCells x) rfl rfl (cells_newJ _ _ _) (sgCells_oneJ _) (by unfold maxLen; omega) (by omega) (by simp; omega) ?_; intro v' w5 hown' hgrow5 hnil5)
            clear hnil5
            go_roundw
            case rel => exact ⟨k + 1, os ++ [x], by omega, by go_num, by simp; omega, hidOf (lef_in EX.out (by rw [shut_none (by have := HN.out; omega), Bool.and_false]) HI.out), by rw [List.length_append, sgVals_app]; exact hown', (hb.alloc (by omega) _).grown hgrow5 (by simp; omega) (fun q hq => (hown.lt q hq).1)⟩
            case measure => simp [intOf]; omega
    · go_wp2
      go_ret
      exact ⟨hb, _, rfl, by rw [lef_end (by have := HN.out; omega) HI.out]; exact hown⟩
end Go.Proofs.YtlpbhhgikgbfhaaDoor
