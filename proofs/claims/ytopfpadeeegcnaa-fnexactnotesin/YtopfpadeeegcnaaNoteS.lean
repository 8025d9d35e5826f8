/- What spec.NotesIn answers. -/
import Derived.Test.YtopfpadeeegcnaaProg
import Derived.Test.YtopfpadeeegcnaaNoteLib
import Derived.Lib.AppendIntMem
import Derived.WalkKit
import Derived.BigQuiet
import Derived.Deep.QuietTactic
import Derived.Laws.OwnMore
namespace Go.Proofs.Ytopfpadeeegcnaa
open Go.RowKit

theorem infoStrS : (Try.prog.info? 9).map (fun i => (i.zero, i.size, i.bytes)) = some (some (.string ByteArray.empty), 1, 16) := by kernel_rfl

set_option maxHeartbeats 4000000 in
set_option maxRecDepth 20000 in
theorem sNotes_any (v : Value) (xs : List Sg) (w : World) (hn0 : xs.length ≤ 1048576) (hT : SgsAt w v xs) :
    Calls Try.prog 6 #[v] w fun e w' => StrsAns (nts xs) 9 w e w' := by
  obtain ⟨i0, hi, hz0, hz1, hz2⟩ := info_parts infoStrS
  obtain ⟨a, c, rfl, h⟩ := hT
  obtain ⟨n, hn⟩ : ∃ n, n = xs.length := ⟨_, rfl⟩
  rw [← hn] at h hn0 ⊢
  have HN := hidOf hn
  clear hn
  go_enter Try.func6, Try.ntmps6
  go_wp2
  go_loopw [3, 4] (fun v i wr => ∃ (k : Nat) (os : List ByteArray), k ≤ n ∧ i = .int .i64 k ∧ os.length ≤ k ∧ Hid (os ++ nts (xs.drop k) = nts xs) ∧ wr.ownsRow w.heap.size 9 1 v os.length (strVals os) ∧ Below w.heap.size w wr)
    (fun _ i _ => n - (intOf i).toNat)
  case atStart => exact ⟨0, [], by omega, rfl, by simp, rfl, World.ownsRow_made w #[] 0 (Nat.le_refl _) (by decide) rfl, (Below.refl _ w).alloc (Nat.le_refl _) _⟩
  case round =>
    obtain ⟨k, os, hk, rfl, hol, HI, hown, hb⟩ := hrel
    obtain ⟨ao, cv, rfl⟩ := owns_slice hown
    have hsz := hb.size
    by_cases hlt : k < n
    · obtain ⟨x, ex⟩ : ∃ x, xs[k]? = some x := ⟨_, List.getElem?_eq_getElem (by rw [← HN.out]; exact hlt)⟩
      obtain ⟨b1, o1, rfl, hb1, hc1⟩ := h (by omega)
      obtain ⟨p0, p1, p2, p3⟩ := cells4 (w := wr) (fun j hj => by rw [hb.cell hb1]; exact hc1 k x ex j hj)
      have EX := hidOf ex
      clear ex hc1 h p2 p3
      have hA : (0 : Int) ≤ (k : Int) := by omega
      have hB : (k : Int) < (n : Int) := by omega
      cases h5 : (x.kind == 5)
      · go_wp2
        go_roundw
        case rel => exact ⟨k + 1, os, by omega, by go_num, by omega, hidOf (nts_no EX.out h5 HI.out), hown, hb⟩
        case measure => simp [intOf]; omega
      · go_wp2_with (at_builtin; refine wpList_append_own _ rfl _ _ 24 rfl w.heap.size 9 i0 (.string ByteArray.empty) 1 16 Try.underlying24 hi hz0 hz1 hz2 rfl (by decide) _ _ _ rfl (hown.alloc _) ⟨wr.heap.size, 0, none⟩ 1 1 [.string x.text] rfl rfl (cell_one_new _ _ _) (fun x hx => by simp at hx; subst hx; rfl) (by unfold maxLen; omega) (by omega) (by simp; omega) ?_; intro v' w3 hown' hgrow3 hnil3)
        go_roundw
        case rel => exact ⟨k + 1, os ++ [x.text], by omega, by go_num, by simp; omega, hidOf (nts_yes EX.out h5 HI.out), by simpa [strVals] using hown', (hb.alloc (by omega) _).grown hgrow3 (by simp; omega) (fun q hq => (hown.lt q hq).1)⟩
        case measure => simp [intOf]; omega
    · go_wp2
      go_ret
      have := HN.out
      exact ⟨hb, _, rfl, by rw [nts_end (by omega) HI.out]; exact hown⟩
end Go.Proofs.Ytopfpadeeegcnaa
