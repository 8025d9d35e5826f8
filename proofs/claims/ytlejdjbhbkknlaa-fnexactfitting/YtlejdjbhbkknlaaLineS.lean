/- What spec.LinesOf answers. -/
import Derived.Test.YtlejdjbhbkknlaaLineLib
import Derived.Test.YtlejdjbhbkknlaaProg
import Derived.Lib.AppendIntMem
import Derived.WalkKit
import Derived.Laws.OwnMore
namespace Go.Proofs.Ytlejdjbhbkknlaa
open Go.RowKit

theorem infoStrS : (Try.prog.info? 9).map (fun i => (i.zero, i.size, i.bytes)) = some (some (.string ByteArray.empty), 1, 16) := by kernel_rfl

set_option maxHeartbeats 1600000 in
set_option maxRecDepth 20000 in
theorem sLines_any (s : ByteArray) (w : World) (hs : s.size ≤ 4194304) :
    Calls Try.prog 9 #[.string s] w fun e w' => StrsAns (lns s) 9 w e w' := by
  obtain ⟨i0, hi, hz0, hz1, hz2⟩ := info_parts infoStrS
  have hby := by8_at s
  go_enter Try.func9, Try.ntmps9
  go_wp2
  go_loopw [3, 4, 5] (fun v b i wr => ∃ (k m : Nat) (os : List ByteArray), k ≤ s.size ∧ m ≤ k ∧ b = .int .i64 m ∧ i = .int .i64 k ∧ os.length ≤ k ∧ Hid (LInv s os m k) ∧ wr.ownsRow w.heap.size 9 1 v os.length (strVals os) ∧ Below w.heap.size w wr)
    (fun _ _ i _ => s.size - (intOf i).toNat)
  case atStart => exact ⟨0, 0, [], by omega, by omega, rfl, rfl, by simp, linv_zero s, World.ownsRow_made w #[] 0 (Nat.le_refl _) (by decide) rfl, (Below.refl _ w).alloc (Nat.le_refl _) _⟩
  case round =>
    obtain ⟨k, m, os, hk, hm, rfl, rfl, hol, HI, hown, hb⟩ := hrel
    obtain ⟨ao, cv, rfl⟩ := owns_slice hown
    have hr := by8_range s k
    have hsz := hb.size
    by_cases hlt : k < s.size
    · by_cases h10 : by8 s k = 10
      · have h10' : (by8 s k == 10) = true := by simp [h10]
        have H10 := hidOf h10
        clear h10
        have hsl := str_slice (P := Try.prog) 9 s m k (m : Int) (k : Int) Try.underlying9 rfl rfl (by omega) (by omega)
        go_wp2_with (at_builtin; refine wpList_append_own _ rfl _ _ 24 rfl w.heap.size 9 i0 (.string ByteArray.empty) 1 16 Try.underlying24 hi hz0 hz1 hz2 rfl (by decide) _ _ _ rfl (hown.alloc _) ⟨wr.heap.size, 0, none⟩ 1 1 [.string (s.extract m k)] rfl rfl (cell_one_new _ _ _) (fun x hx => by simp at hx; subst hx; rfl) (by unfold maxLen; omega) (by omega) (by simp; omega) ?_; intro v' w3 hown' hgrow3 hnil3)
        go_roundw
        case rel => exact ⟨k + 1, k + 1, os ++ [s.extract m k], by omega, by omega, by go_num, by go_num, by simp; omega, linv_line HI.out hlt H10.out, by simpa [strVals] using hown', (hb.alloc (by omega) _).grown hgrow3 (by simp; omega) (fun q hq => (hown.lt q hq).1)⟩
        case measure => simp [intOf]; omega
      · have h10' : (by8 s k == 10) = false := by rw [beq_eq_false_iff_ne]; exact h10
        have H10 := hidOf h10
        clear h10
        go_wp2
        go_roundw
        case rel => exact ⟨k + 1, m, os, by omega, by omega, rfl, by go_num, by omega, linv_char HI.out hlt H10.out, hown, hb⟩
        case measure => simp [intOf]; omega
    · have hke : k = s.size := by omega
      subst hke
      by_cases hmk : m < s.size
      · have hsl := str_from (P := Try.prog) 9 s m (m : Int) Try.underlying9 rfl (by omega)
        go_wp2_with (at_builtin; refine wpList_append_own _ rfl _ _ 24 rfl w.heap.size 9 i0 (.string ByteArray.empty) 1 16 Try.underlying24 hi hz0 hz1 hz2 rfl (by decide) _ _ _ rfl (hown.alloc _) ⟨wr.heap.size, 0, none⟩ 1 1 [.string (s.extract m s.size)] rfl rfl (cell_one_new _ _ _) (fun x hx => by simp at hx; subst hx; rfl) (by unfold maxLen; omega) (by omega) (by simp; omega) ?_; intro v' w3 hown' hgrow3 hnil3)
        go_ret
        exact ⟨(hb.alloc (by omega) _).grown hgrow3 (by simp; omega) (fun q hq => (hown.lt q hq).1), _, rfl, by rw [← linv_last HI.out hmk]; simpa [strVals] using hown'⟩
      · go_wp2
        go_ret
        exact ⟨hb, _, rfl, by rw [← linv_end HI.out (by omega)]; exact hown⟩
end Go.Proofs.Ytlejdjbhbkknlaa
