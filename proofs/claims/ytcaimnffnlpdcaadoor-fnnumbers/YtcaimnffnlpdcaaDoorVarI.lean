/- Contracts of the program's own functions alone. -/
import Derived.Test.YtcaimnffnlpdcaaDoorChecked
import Derived.Test.YtcaimnffnlpdcaaDoorLib
namespace Go.Proofs.YtcaimnffnlpdcaaDoor
open Go.RowKit

theorem infoU8 : (Tryd.prog.info? 5).map (fun i => (i.zero, i.size, i.bytes)) = some (some (.int .u8 0), 1, 1) := by kernel_rfl

theorem vb_pre_len {pre : List Int} {m n : Nat} (h : pre ++ vb m = vb n) (hn : n ≤ 1000000000) : pre.length ≤ 5 := by
  have := vb_len n (by omega)
  rw [← h] at this
  simp at this
  omega

theorem vb_step {pre : List Int} {m n : Nat} (h : pre ++ vb m = vb n) (hm : 127 < m) : (pre ++ [(m : Int) % 128 + 128]) ++ vb (m / 128) = vb n := by
  rw [← h, vb_more m hm]
  simp

theorem vb_done {pre : List Int} {m n : Nat} (h : pre ++ vb m = vb n) (hm : m ≤ 127) : pre ++ [(m : Int)] = vb n := by
  rw [← h, vb_last m hm]

set_option maxHeartbeats 800000 in
theorem iVar_yes (n : Nat) (w : World) (h : n ≤ 1000000000) :
    Calls Tryd.prog 8 #[.int .i64 n] w fun e w' => e = .returned (.tuple #[.string (strOfNums (vb n)), .bool true]) ∧ Below w.heap.size w w' := by
  obtain ⟨i0, hi, hz0, hz1, hz2⟩ := info_parts infoU8
  go_enter Tryd.func8, Tryd.ntmps8
  go_wp2
  go_loopw [0, 4] (fun x v wr => ∃ (m : Nat) (pre : List Int), m ≤ 1000000000 ∧ x = .int .i64 m ∧ Hid (pre ++ vb m = vb n) ∧ wr.ownsRow w.heap.size 5 1 v pre.length (pre.map (Value.int .u8)) ∧ Below w.heap.size w wr)
    (fun x _ _ => (intOf x).toNat)
  case atStart => exact ⟨n, [], h, rfl, rfl, World.ownsRow_made w #[] 0 (Nat.le_refl _) (by decide) rfl, (Below.refl _ w).alloc (Nat.le_refl _) _⟩
  case round =>
    obtain ⟨m, pre, hm, rfl, HP, hown, hb⟩ := hrel
    have hpl := vb_pre_len HP.out h
    have hsz := hb.size
    by_cases hlt : 127 < m
    · go_wp2_with (at_builtin; refine wpList_append_own _ rfl _ _ 22 rfl w.heap.size 5 i0 (.int .u8 0) 1 1 Tryd.underlying22 hi hz0 hz1 hz2 rfl (by decide) _ _ _ rfl (hown.alloc _) ⟨wr.heap.size, 0, none⟩ 1 1 [.int .u8 ((m : Int) % 128 + 128)] rfl rfl (cell_one_new _ _ _) (fun x hx => by simp at hx; subst hx; rfl) (by unfold maxLen; omega) (by omega) (by simp; omega) ?_; intro v' w3 hown' hgrow3 hnil3)
      go_roundw
      case rel => exact ⟨m / 128, pre ++ [(m : Int) % 128 + 128], by omega, by go_num, vb_step HP.out hlt, by simpa using hown', (hb.alloc (by omega) _).grown hgrow3 (by simp; omega) (fun q hq => (hown.lt q hq).1)⟩
      case measure => simp [intOf]; omega
    · go_wp2_with (at_builtin; refine wpList_append_own _ rfl _ _ 22 rfl w.heap.size 5 i0 (.int .u8 0) 1 1 Tryd.underlying22 hi hz0 hz1 hz2 rfl (by decide) _ _ _ rfl (hown.alloc _) ⟨wr.heap.size, 0, none⟩ 1 1 [.int .u8 (m : Int)] rfl rfl (cell_one_new _ _ _) (fun x hx => by simp at hx; subst hx; rfl) (by unfold maxLen; omega) (by omega) (by simp; omega) ?_)
      intro v' w3 hown' hgrow3 hnil3
      have hcv := conv_owned (P := Tryd.prog) 22 9 5 w.heap.size v' _ (pre ++ [(m : Int)]) Tryd.underlying22 Tryd.underlying5 Tryd.underlying9 (by simpa using hown')
      go_wp2
      go_ret2
      exact ⟨ret_sb (congrArg strOfNums (vb_done HP.out (by omega))), (hb.alloc (by omega) _).grown hgrow3 (by simp; omega) (fun q hq => (hown.lt q hq).1)⟩

theorem iVar_no (n : Int) (w : World) (h : n < 0 ∨ 1000000000 < n) :
    Calls Tryd.prog 8 #[.int .i64 n] w fun e w' => e = .returned (.tuple #[.string ⟨#[]⟩, .bool false]) ∧ w' = w := by
  rcases h with h | h
  · go_enter Tryd.func8, Tryd.ntmps8
    go_wp2
    go_ret2
    exact ⟨rfl, rfl⟩
  · have h' : ¬ n < 0 := by omega
    go_enter Tryd.func8, Tryd.ntmps8
    go_wp2
    go_ret2
    exact ⟨rfl, rfl⟩
end Go.Proofs.YtcaimnffnlpdcaaDoor
