/- Edits turned: BackOf on both sides. -/
import Derived.Test.YtdlpepmdjbmmmaaEdF
import Derived.Test.YtdlpepmdjbmmmaaAppPl
namespace Go.Proofs.Ytdlpepmdjbmmmaa
open Go.RowKit

theorem cell_two_new (w : World) (t : TypeId) (x y : Value) : ∀ (j : Nat) (u : Value), [x, y][j]? = some u → (w.alloc (.cells #[x, y] t)).cell? ((⟨w.heap.size, 0, none⟩ : Addr).add j) = some u := by
  intro j u h
  have hadd : (⟨w.heap.size, 0, none⟩ : Addr).add j = ⟨w.heap.size, 0 + j, none⟩ := by unfold Addr.add; split <;> simp_all
  rw [hadd, Nat.zero_add]
  match j, h with
  | 0, h => simp at h; subst h; exact cell_of_row _ _ 0 _ _ _ (heap_alloc_new w _)
  | 1, h => simp at h; subst h; exact cell_of_row _ _ 1 _ _ _ (heap_alloc_new w _)
  | j + 2, h => simp at h

theorem turn_line (x : Ed) : (turn x).line = x.line := by unfold turn; split <;> (try split) <;> rfl

set_option maxHeartbeats 3000000 in
theorem iBack_any (v : Value) (xs : List Ed) (w : World) (hn0 : xs.length ≤ 4194304) (hx : ∀ (j : Nat) (x : Ed), xs[j]? = some x → x.line.size ≤ 4194304) (hT : EdsAt w v xs) :
    Calls Try.prog 13 #[v] w fun e w' => EdsAns (xs.map turn) 55 w e w' := by
  obtain ⟨i0, hi, hz0, hz1, hz2⟩ := info_parts infoEd.2
  obtain ⟨a, c, rfl, h⟩ := hT
  obtain ⟨n, hn⟩ : ∃ n, n = xs.length := ⟨_, rfl⟩
  rw [← hn] at h hn0 ⊢
  have HN := hidOf hn
  have HX := hidOf hx
  clear hn hx
  go_enter Try.func13, Try.ntmps13
  go_wp2_with (at_make; refine wpList_make_own _ rfl _ _ 27 rfl w.heap.size 55 i0 _ 2 Try.underlying27 hi hz0 hz1 _ _ _ n rfl rfl (by omega) (by rw [hz2]; omega) (by unfold maxLen; omega) (Nat.le_refl _) ?_; intro w1 hown hgrow)
  have hb1 : Below w.heap.size w w1 := (Below.refl _ w).grown hgrow (Nat.le_refl _) (fun k e => by cases e)
  clear hgrow
  go_loopw [3, 11] (fun v i wr => ∃ (k : Nat), k ≤ n ∧ i = .int .i64 k ∧ wr.ownsRow w.heap.size 55 2 v k (edVals ((xs.take k).map turn)) ∧ Below w.heap.size w wr) (fun _ i _ => n - (intOf i).toNat)
  case atStart => exact ⟨0, Nat.zero_le _, rfl, hown, hb1⟩
  case round =>
    obtain ⟨k, hk, rfl, ho, hb⟩ := hrel
    obtain ⟨a1, c1, rfl⟩ := owns_slice ho
    have hsz := hb.size
    by_cases hlt : k < n
    · obtain ⟨x, ex⟩ : ∃ x, xs[k]? = some x := ⟨_, List.getElem?_eq_getElem (by rw [← HN.out]; exact hlt)⟩
      obtain ⟨b1, o1, rfl, hb1, hc1⟩ := h (by omega)
      obtain ⟨p0, p1⟩ := cells2 (w := wr) (fun j hj => by rw [hb.cell hb1]; exact hc1 k x ex j hj)
      have hxs := HX.out k x ex
      have hxt : (turn x).line.size ≤ 8388608 := by rw [turn_line]; omega
      have EX := hidOf ex
      clear ex hc1 h
      have hA : (0 : Int) ≤ (k : Int) := by omega
      have hB : (k : Int) < (n : Int) := by omega
      go_wp2_with fail
      refine (iIn_any x _).mono ?_
      rintro e w2 ⟨rfl, hb2⟩
      have ho2 := owns_below (ho.alloc _) hb2
      have hB2 := (hb.alloc hsz _).trans (hb2.mono (by simp; omega))
      have hs2 := hB2.size
      go_wp2_with fail
      refine (iTurn_any x _).mono ?_
      rintro e w3 ⟨rfl, hb3⟩
      have ho3 := owns_below ho2 hb3
      have hB3 := hB2.trans (hb3.mono hs2)
      have hs3 := hB3.size
      go_wp2_with fail
      refine (iFrom_any (turn x) _ hxt).mono ?_
      rintro e w4 ⟨rfl, hb4⟩
      have ho4 := owns_below ho3 hb4
      have hB4 := hB3.trans (hb4.mono hs3)
      have hs4 := hB4.size
      clear ho ho2 ho3 p0 p1 hb2 hb3 hb4 hB2 hB3
      go_wp2_with (at_builtin; refine wpList_append_own2 rfl _ _ 27 rfl w.heap.size 55 i0 _ 2 24 Try.underlying27 hi hz0 hz1 hz2 rfl (by decide) _ _ _ rfl (ho4.alloc _) ⟨w4.heap.size, 0, none⟩ 1 1 [.int .i64 (turn x).kind, .string (turn x).line] rfl rfl (cell_two_new _ _ _ _) (fun x hx => by simp at hx; rcases hx with rfl | rfl <;> rfl) (by unfold maxLen; omega) (by omega) (by simp; omega) ?_; intro v' w5 hown' hgrow5 hpl5)
      go_roundw
      case rel =>
        refine ⟨k + 1, by omega, by go_num, ?_, (hB4.alloc hs4 _).grown hgrow5 (by simp; omega) (fun q hq => (ho4.lt q hq).1)⟩
        rw [List.take_add_one, EX.out, List.map_append, edVals_app]
        exact hown'
      case measure => simp [intOf]; omega
    · have hkn : k = n := by omega
      subst hkn
      go_wp2
      go_ret
      refine ⟨hb, _, rfl, ?_⟩
      rw [List.take_of_length_le (by rw [← HN.out]; exact Nat.le_refl _)] at ho
      rw [List.length_map, ← HN.out]
      exact ho

set_option maxHeartbeats 3000000 in
theorem sBack_any (v : Value) (xs : List Ed) (w : World) (hn0 : xs.length ≤ 4194304) (hT : EdsAt w v xs) :
    Calls Try.prog 23 #[v] w fun e w' => EdsAns (xs.map turn) 55 w e w' := by
  obtain ⟨i0, hi, hz0, hz1, hz2⟩ := info_parts infoEd.2
  obtain ⟨a, c, rfl, h⟩ := hT
  obtain ⟨n, hn⟩ : ∃ n, n = xs.length := ⟨_, rfl⟩
  rw [← hn] at h hn0 ⊢
  have HN := hidOf hn
  clear hn
  have hme := World.ownsRow_made (base := w.heap.size) (e := 55) (size := 2) w #[] 0 (Nat.le_refl _) (by decide) rfl
  have hb1 : Below w.heap.size w (w.alloc (.cells #[] 55)) := (Below.refl _ w).alloc (Nat.le_refl _) _
  go_enter Try.func23, Try.ntmps23
  go_wp2
  go_loopw [3, 4] (fun v i wr => ∃ (k : Nat), k ≤ n ∧ i = .int .i64 k ∧ wr.ownsRow w.heap.size 55 2 v k (edVals ((xs.take k).map turn)) ∧ Below w.heap.size w wr) (fun _ i _ => n - (intOf i).toNat)
  case atStart => exact ⟨0, Nat.zero_le _, rfl, hme, hb1⟩
  case round =>
    obtain ⟨k, hk, rfl, ho, hb⟩ := hrel
    obtain ⟨a1, c1, rfl⟩ := owns_slice ho
    have hsz := hb.size
    by_cases hlt : k < n
    · obtain ⟨x, ex⟩ : ∃ x, xs[k]? = some x := ⟨_, List.getElem?_eq_getElem (by rw [← HN.out]; exact hlt)⟩
      obtain ⟨b1, o1, rfl, hb1, hc1⟩ := h (by omega)
      obtain ⟨p0, p1⟩ := cells2 (w := wr) (fun j hj => by rw [hb.cell hb1]; exact hc1 k x ex j hj)
      have EX := hidOf ex
      clear ex hc1 h hme
      have hA : (0 : Int) ≤ (k : Int) := by omega
      have hB : (k : Int) < (n : Int) := by omega
      by_cases h2 : x.kind = 2
      · rw [h2] at p0
        have HT : Hid (turn x = ⟨3, x.line⟩) := hidOf (by unfold turn; rw [if_pos h2])
        clear h2
        go_wp2_with (at_builtin; refine wpList_append_own2 rfl _ _ 27 rfl w.heap.size 55 i0 _ 2 24 Try.underlying27 hi hz0 hz1 hz2 rfl (by decide) _ _ _ rfl ((ho.alloc _).alloc _) ⟨wr.heap.size + 1, 0, none⟩ 1 1 [.int .i64 3, .string x.line] rfl rfl (by have := cell_two_new (wr.alloc (.cells #[.int .i64 3, .string x.line] 55)) 55 (.int .i64 3) (.string x.line); simpa using this) (fun x hx => by simp at hx; rcases hx with rfl | rfl <;> rfl) (by unfold maxLen; omega) (by omega) (by simp; omega) ?_; intro v' w5 hown' hgrow5 hpl5)
        go_roundw
        case rel =>
          refine ⟨k + 1, by omega, by go_num, ?_, ((hb.alloc hsz _).alloc (by simp; omega) _).grown hgrow5 (by simp; omega) (fun q hq => (ho.lt q hq).1)⟩
          rw [List.take_add_one, EX.out, List.map_append, edVals_app]
          show w5.ownsRow _ _ _ _ _ (_ ++ edVals [turn x])
          rw [HT.out]
          exact hown'
        case measure => simp [intOf]; omega
      have n2 : (x.kind == 2) = false := by rw [beq_eq_false_iff_ne]; exact h2
      by_cases h3 : x.kind = 3
      · have HT : Hid (turn x = ⟨2, x.line⟩) := hidOf (by unfold turn; rw [if_neg h2, if_pos h3])
        rw [h3] at p0
        clear h2 h3 n2
        go_wp2_with (at_builtin; refine wpList_append_own2 rfl _ _ 27 rfl w.heap.size 55 i0 _ 2 24 Try.underlying27 hi hz0 hz1 hz2 rfl (by decide) _ _ _ rfl ((ho.alloc _).alloc _) ⟨wr.heap.size + 1, 0, none⟩ 1 1 [.int .i64 2, .string x.line] rfl rfl (by have := cell_two_new (wr.alloc (.cells #[.int .i64 2, .string x.line] 55)) 55 (.int .i64 2) (.string x.line); simpa using this) (fun x hx => by simp at hx; rcases hx with rfl | rfl <;> rfl) (by unfold maxLen; omega) (by omega) (by simp; omega) ?_; intro v' w5 hown' hgrow5 hpl5)
        go_roundw
        case rel =>
          refine ⟨k + 1, by omega, by go_num, ?_, ((hb.alloc hsz _).alloc (by simp; omega) _).grown hgrow5 (by simp; omega) (fun q hq => (ho.lt q hq).1)⟩
          rw [List.take_add_one, EX.out, List.map_append, edVals_app]
          show w5.ownsRow _ _ _ _ _ (_ ++ edVals [turn x])
          rw [HT.out]
          exact hown'
        case measure => simp [intOf]; omega
      · have n3 : (x.kind == 3) = false := by rw [beq_eq_false_iff_ne]; exact h3
        have HT : Hid (turn x = x) := hidOf (turn_other h2 h3)
        clear h2 h3
        go_wp2_with (at_builtin; refine wpList_append_own2 rfl _ _ 27 rfl w.heap.size 55 i0 _ 2 24 Try.underlying27 hi hz0 hz1 hz2 rfl (by decide) _ _ _ rfl ((ho.alloc _).alloc _) ⟨wr.heap.size + 1, 0, none⟩ 1 1 [.int .i64 x.kind, .string x.line] rfl rfl (by have := cell_two_new (wr.alloc (.cells #[.int .i64 x.kind, .string x.line] 55)) 55 (.int .i64 x.kind) (.string x.line); simpa using this) (fun x hx => by simp at hx; rcases hx with rfl | rfl <;> rfl) (by unfold maxLen; omega) (by omega) (by simp; omega) ?_; intro v' w5 hown' hgrow5 hpl5)
        go_roundw
        case rel =>
          refine ⟨k + 1, by omega, by go_num, ?_, ((hb.alloc hsz _).alloc (by simp; omega) _).grown hgrow5 (by simp; omega) (fun q hq => (ho.lt q hq).1)⟩
          rw [List.take_add_one, EX.out, List.map_append, edVals_app]
          show w5.ownsRow _ _ _ _ _ (_ ++ edVals [turn x])
          rw [HT.out]
          exact hown'
        case measure => simp [intOf]; omega
    · have hkn : k = n := by omega
      subst hkn
      go_wp2
      go_ret
      refine ⟨hb, _, rfl, ?_⟩
      rw [List.take_of_length_le (by rw [← HN.out]; exact Nat.le_refl _)] at ho
      rw [List.length_map, ← HN.out]
      exact ho
end Go.Proofs.Ytdlpepmdjbmmmaa
