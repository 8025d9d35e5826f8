/- Contracts of the program's own functions alone. -/
import Derived.Test.YtcaimnffnlpdcaaDoorVarI
import Derived.Deep.RegionHeld3
import Derived.WalkSmall
namespace Go.Proofs.YtcaimnffnlpdcaaDoor
open Go.RowKit

/-- A figure. -/
def fig (x : Int) : Int := if x < 10 then 48 + x else 87 + x

def hexL (s : ByteArray) : Nat → List Int
  | 0 => []
  | k + 1 => hexL s k ++ [fig (by8 s k / 16), fig (by8 s k % 16)]

theorem hexL_len (s : ByteArray) : ∀ k, (hexL s k).length = 2 * k
  | 0 => rfl
  | k + 1 => by simp [hexL, hexL_len s k]; omega

theorem figs_at (x : Int) (h0 : 0 ≤ x) (h1 : x < 16) (h : x.toNat < (ByteArray.mk #[48, 49, 50, 51, 52, 53, 54, 55, 56, 57, 97, 98, 99, 100, 101, 102]).size) :
    (((ByteArray.mk #[48, 49, 50, 51, 52, 53, 54, 55, 56, 57, 97, 98, 99, 100, 101, 102])[x.toNat]'h).toNat : Int) = fig x := by
  rcases (show x = 0 ∨ x = 1 ∨ x = 2 ∨ x = 3 ∨ x = 4 ∨ x = 5 ∨ x = 6 ∨ x = 7 ∨ x = 8 ∨ x = 9 ∨ x = 10 ∨ x = 11 ∨ x = 12 ∨ x = 13 ∨ x = 14 ∨ x = 15 by omega) with rfl | rfl | rfl | rfl | rfl | rfl | rfl | rfl | rfl | rfl | rfl | rfl | rfl | rfl | rfl | rfl <;> rfl

theorem figs_run (x : Int) (h0 : 0 ≤ x) (h1 : x < 16) : ∀ w : World, (Instr.index 9 (.string ⟨#[48, 49, 50, 51, 52, 53, 54, 55, 56, 57, 97, 98, 99, 100, 101, 102]⟩) (.int .u8 x)).run Tryd.prog w = .ok (.int .u8 (fig x)) w := by
  intro w
  rw [run_index_string w _ _ _ _ Tryd.underlying9, dif_pos ⟨h0, h1⟩, figs_at x h0 h1]

set_option maxHeartbeats 1600000 in
set_option maxRecDepth 20000 in
theorem iHex_yes (s : ByteArray) (w : World) (h : s.size ≤ 20000) :
    Calls Tryd.prog 15 #[.string s] w fun e w' => e = .returned (.tuple #[.string (strOfNums (hexL s s.size)), .bool true]) ∧ Below w.heap.size w w' := by
  obtain ⟨i0, hi, hz0, hz1, hz2⟩ := info_parts infoU8
  have hby := by8_at s
  go_enter Tryd.func15, Tryd.ntmps15
  go_wp2_with (at_make; refine wpList_make_own _ rfl _ _ 22 rfl w.heap.size 5 i0 (.int .u8 0) 1 Tryd.underlying22 hi hz0 hz1 _ _ _ (2 * s.size) rfl rfl (by omega) (by rw [hz2]; omega) (by unfold maxLen; omega) (Nat.le_refl _) ?_)
  intro w1 hown1 hgrow1
  go_wp2
  go_loopw [4, 5] (fun v i wr => ∃ k : Nat, k ≤ s.size ∧ i = .int .i64 k ∧ wr.ownsRow w.heap.size 5 1 v (hexL s k).length ((hexL s k).map (Value.int .u8)) ∧ Below w.heap.size w wr)
    (fun _ i _ => s.size - (intOf i).toNat)
  case atStart => exact ⟨0, Nat.zero_le _, rfl, hown1, (Below.refl _ w).grown hgrow1 (Nat.le_refl _) (fun _ h => by cases h)⟩
  case round =>
    obtain ⟨k, hk, rfl, hown, hb⟩ := hrel
    have hl := hexL_len s k
    have hsz := hb.size
    by_cases hlt : k < s.size
    · have hr := by8_range s k
      have hA : (0 : Int) ≤ (k : Int) := by omega
      have hB : (k : Int) < (s.size : Int) := by omega
      have hE2 := by8_quo s k
      have hE3 := by8_rem s k
      have hE4 : IntKind.u8.wrap (by8 s k / 16) = by8 s k / 16 := by rw [IntKind.wrap_u8]; omega
      have hE5 : IntKind.u8.wrap (by8 s k % 16) = by8 s k % 16 := by rw [IntKind.wrap_u8]; omega
      have hF1 := figs_run (by8 s k / 16) (by omega) (by omega)
      have hF2 := figs_run (by8 s k % 16) (by omega) (by omega)
      go_wp2
      go_region_held3 (fun _ => True) (trivial) (first
        | (refine step_append_own rfl _ _ 22 rfl w.heap.size 5 i0 (.int .u8 0) 1 1 Tryd.underlying22 hi hz0 hz1 hz2 rfl (by decide) _ _ _ rfl (hown.alloc _).drew ⟨wr.heap.size, 0, none⟩ 2 2 [.int .u8 (fig (by8 s k / 16)), .int .u8 (fig (by8 s k % 16))] rfl rfl (cell_two_new wr _ _ _) (fun x hx => by simp at hx; rcases hx with rfl | rfl <;> rfl) (by unfold maxLen; omega) (by omega) (by simp; omega) ?_; intro v' w3 hown' hgrow3 hnil3))
      all_goals
        go_wp2
        go_roundw
        case rel => exact ⟨k + 1, by omega, by go_num, by simpa [hexL] using hown', (hb.alloc (by omega) _).drew.grown hgrow3 (by simp; omega) (fun q hq => (hown.lt q hq).1)⟩
        case measure => simp [intOf]; omega
    · have hke : k = s.size := by omega
      have hcv := conv_owned (P := Tryd.prog) 22 9 5 w.heap.size _ _ _ Tryd.underlying22 Tryd.underlying5 Tryd.underlying9 hown
      have HK := hidOf hke
      clear hke
      go_wp2
      go_ret2
      exact ⟨ret_sb (by rw [HK.out]), hb⟩

theorem iHex_no (s : ByteArray) (w : World) (h : 20000 < s.size) :
    Calls Tryd.prog 15 #[.string s] w fun e w' => e = .returned (.tuple #[.string ⟨#[]⟩, .bool false]) ∧ w' = w := by
  go_enter Tryd.func15, Tryd.ntmps15
  go_wp2
  go_ret2
  exact ⟨rfl, rfl⟩
end Go.Proofs.YtcaimnffnlpdcaaDoor
