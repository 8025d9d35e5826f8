/- What spec.WordsOf answers. -/
import Derived.Test.YtabbfpkhlofccaaGreatDoorWrapWd
import Derived.Test.YtabbfpkhlofccaaGreatDoorProg
import Derived.Lib.AppendIntMem
import Derived.WalkKit
import Derived.Laws.OwnMore
namespace Go.Proofs.YtabbfpkhlofccaaGreatDoor
open Go.RowKit

theorem infoStrW : (Tryz.prog.info? 9).map (fun i => (i.zero, i.size, i.bytes)) = some (some (.string ByteArray.empty), 1, 16) := by kernel_rfl

set_option maxHeartbeats 1600000 in
set_option maxRecDepth 20000 in
theorem sWords_any (s : ByteArray) (w : World) (hs : s.size ≤ 4194304) :
    Calls Tryz.prog 20 #[.string s] w fun e w' => StrsAns (wds s) 9 w e w' := by
  obtain ⟨i0, hi, hz0, hz1, hz2⟩ := info_parts infoStrW
  have hby := by8_at s
  go_enter Tryz.func20, Tryz.ntmps20
  go_wp2
  go_loopw [3, 4, 5] (fun v b i wr => ∃ (k : Nat) (m : Int) (os : List ByteArray), k ≤ s.size + 1 ∧ b = .int .i64 m ∧ i = .int .i64 k ∧ os.length ≤ k ∧ ((m = -1 ∧ Hid (WA s os [] k)) ∨ ∃ j : Nat, m = j ∧ j < k ∧ k ≤ s.size ∧ Hid (WA s os ((s.data.toList.take k).drop j) k)) ∧ wr.ownsRow w.heap.size 9 1 v os.length (strVals os) ∧ Below w.heap.size w wr)
    (fun _ _ i _ => s.size + 1 - (intOf i).toNat)
  case atStart => exact ⟨0, -1, [], by omega, rfl, rfl, by simp, .inl ⟨rfl, wa_zero s⟩, World.ownsRow_made w #[] 0 (Nat.le_refl _) (by decide) rfl, (Below.refl _ w).alloc (Nat.le_refl _) _⟩
  case round =>
    obtain ⟨k, m, os, hk, rfl, rfl, hol, HJ, hown, hb⟩ := hrel
    obtain ⟨ao, cv, rfl⟩ := owns_slice hown
    have hr := by8_range s k
    have hsz := hb.size
    by_cases hlt : k < s.size
    · by_cases h32 : by8 s k = 32
      · have h32' : (by8 s k != 32) = false := by simp [h32]
        have H32 := hidOf h32
        clear h32
        rcases HJ with ⟨rfl, HI⟩ | ⟨j, rfl, hjk, hks, HI⟩
        · go_wp2
          go_roundw
          case rel => exact ⟨k + 1, -1, os, by omega, rfl, by go_num, by omega, .inl ⟨rfl, wa_gap HI.out hlt H32.out⟩, hown, hb⟩
          case measure => simp [intOf]; omega
        · have hsl := str_slice (P := Tryz.prog) 9 s j k (j : Int) (k : Int) Tryz.underlying9 rfl rfl (by omega) (by omega)
          go_wp2_with (at_builtin; refine wpList_append_own _ rfl _ _ 24 rfl w.heap.size 9 i0 (.string ByteArray.empty) 1 16 Tryz.underlying24 hi hz0 hz1 hz2 rfl (by decide) _ _ _ rfl (hown.alloc _) ⟨wr.heap.size, 0, none⟩ 1 1 [.string (s.extract j k)] rfl rfl (cell_one_new _ _ _) (fun x hx => by simp at hx; subst hx; rfl) (by unfold maxLen; omega) (by omega) (by simp; omega) ?_; intro v' w3 hown' hgrow3 hnil3)
          go_roundw
          case rel => exact ⟨k + 1, -1, os ++ [s.extract j k], by omega, rfl, by go_num, by simp; omega, .inl ⟨rfl, wa_word HI.out hjk hlt H32.out⟩, by simpa [strVals] using hown', (hb.alloc (by omega) _).grown hgrow3 (by simp; omega) (fun q hq => (hown.lt q hq).1)⟩
          case measure => simp [intOf]; omega
      · have h32' : (by8 s k != 32) = true := by simpa using h32
        have H32 := hidOf h32
        clear h32
        rcases HJ with ⟨rfl, HI⟩ | ⟨j, rfl, hjk, hks, HI⟩
        · go_wp2
          go_roundw
          case rel => exact ⟨k + 1, k, os, by omega, rfl, by go_num, by omega, .inr ⟨k, rfl, by omega, by omega, wa_begin HI.out hlt H32.out⟩, hown, hb⟩
          case measure => simp [intOf]; omega
        · go_wp2
          go_roundw
          case rel => exact ⟨k + 1, j, os, by omega, rfl, by go_num, by omega, .inr ⟨j, rfl, by omega, by omega, wa_char HI.out (by omega) hlt H32.out⟩, hown, hb⟩
          case measure => simp [intOf]; omega
    · by_cases hke : k = s.size
      · have HK := hidOf hke
        have hle : (k : Int) ≤ (s.size : Int) := by omega
        clear hke
        rcases HJ with ⟨rfl, HI⟩ | ⟨j, rfl, hjk, hks, HI⟩
        · go_wp2
          go_roundw
          case rel => exact ⟨k + 1, -1, os, by omega, rfl, by go_num, by omega, .inl ⟨rfl, wa_none HI.out HK.out⟩, hown, hb⟩
          case measure => simp [intOf]; omega
        · have hsl := str_slice (P := Tryz.prog) 9 s j k (j : Int) (k : Int) Tryz.underlying9 rfl rfl (by omega) (by omega)
          go_wp2_with (at_builtin; refine wpList_append_own _ rfl _ _ 24 rfl w.heap.size 9 i0 (.string ByteArray.empty) 1 16 Tryz.underlying24 hi hz0 hz1 hz2 rfl (by decide) _ _ _ rfl (hown.alloc _) ⟨wr.heap.size, 0, none⟩ 1 1 [.string (s.extract j k)] rfl rfl (cell_one_new _ _ _) (fun x hx => by simp at hx; subst hx; rfl) (by unfold maxLen; omega) (by omega) (by simp; omega) ?_; intro v' w3 hown' hgrow3 hnil3)
          go_roundw
          case rel => exact ⟨k + 1, -1, os ++ [s.extract j k], by omega, rfl, by go_num, by simp; omega, .inl ⟨rfl, wa_last HI.out hjk HK.out⟩, by simpa [strVals] using hown', (hb.alloc (by omega) _).grown hgrow3 (by simp; omega) (fun q hq => (hown.lt q hq).1)⟩
          case measure => simp [intOf]; omega
      · rcases HJ with ⟨rfl, HI⟩ | ⟨j, rfl, hjk, hks, HI⟩
        · go_wp2
          go_ret
          exact ⟨hb, _, rfl, by rw [← wa_end HI.out (by omega)]; exact hown⟩
        · omega
end Go.Proofs.YtabbfpkhlofccaaGreatDoor
