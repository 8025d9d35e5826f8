/- A text of one kind of byte has as many as was asked for. -/
import Derived.Test.YtmmefiaommfpkaaDoorDrawK
namespace Go.Proofs.YtmmefiaommfpkaaDoor
open Go.RowKit

/-- A text of one kind of byte. -/
def LongAns (w : World) (n : Nat) (e : Ending) (w' : World) : Prop := ∃ t : ByteArray, t.size = n ∧ e = .returned (.string t) ∧ Below w.heap.size w w'

theorem long_mk {w w' : World} {n : Nat} {t : ByteArray} (ht : t.size = n) (hb : Below w.heap.size w w') : LongAns w n (.returned (.string t)) w' := ⟨t, ht, rfl, hb⟩

set_option maxHeartbeats 1600000 in
theorem long_any (w : World) (n : Nat) (x : Int) (hn : n ≤ 1048576) :
    Calls Tryd.prog 38 #[.int .i64 n, .int .u8 x] w fun e w' => LongAns w n e w' := by
  obtain ⟨i0, hi, hz0, hz1, hz2⟩ := info_parts infoByte
  go_enter Tryd.func38, Tryd.ntmps38
  go_wp2_with (at_make; refine wpList_make_full _ rfl _ _ 22 rfl w.heap.size 5 i0 (.int .u8 0) 1 Tryd.underlying22 hi hz0 hz1 _ _ _ _ n rfl rfl rfl rfl (by rw [hz2]; omega) (by unfold maxLen; omega) (Nat.le_refl _) ?_)
  intro w1 hown1 hgrow1
  rw [toList_madeCells_one] at hown1
  have hown2 : w1.ownsRow w.heap.size 5 1 (.slice (some ⟨w.heap.size, 0, none⟩) n n) n ((List.replicate n (0 : Int)).map (Value.int .u8)) := by simpa using hown1
  clear hown1
  have hbel1 : Below w.heap.size w w1 := (Below.refl _ w).grown hgrow1 (Nat.le_refl _) (fun _ h => by cases h)
  go_wp2
  go_loopw [6] (fun i wr => ∃ (k : Nat) (bs : List Int), k ≤ n ∧ i = .int .i64 k ∧ Hid (bs.length = n) ∧ wr.ownsRow w.heap.size 5 1 (.slice (some ⟨w.heap.size, 0, none⟩) n n) n (bs.map (Value.int .u8)) ∧ Below w.heap.size w wr) (fun i _ => n - (intOf i).toNat)
  case atStart => exact ⟨0, List.replicate n 0, Nat.zero_le _, rfl, by show (List.replicate n (0 : Int)).length = n; simp, hown2, hbel1⟩
  case round =>
    obtain ⟨k, bs, hk, rfl, HL, hown, hb⟩ := hrel
    have hsz := hb.size
    by_cases hlt : k < n
    · have hA : (0 : Int) ≤ (k : Int) := by omega
      have hB : (k : Int) < (n : Int) := by omega
      have hc := hown.cellAt k (by omega)
      rw [List.getElem?_eq_getElem (by have := HL.out; simp; omega)] at hc
      have hf := hown.frozenAt k
      have hst := hown.stored k (.int .u8 x)
      rw [← List.map_set] at hst
      have HS := hidOf hst
      clear hst
      go_wp2
      go_roundw
      case rel => exact ⟨k + 1, bs.set k x, by omega, by go_num, by have := HL.out; show (bs.set k x).length = n; simp; omega, HS.out.1, hb.grown HS.out.2 hsz (fun q hq => by cases hq; exact Nat.le_refl _)⟩
      case measure => simp [intOf]; omega
    · have hcv := conv_owned (P := Tryd.prog) 22 9 5 w.heap.size _ _ _ Tryd.underlying22 Tryd.underlying5 Tryd.underlying9 hown
      go_wp2
      go_ret
      exact long_mk (by rw [strOfNums_size]; exact HL.out) hb
end Go.Proofs.YtmmefiaommfpkaaDoor
