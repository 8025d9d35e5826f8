/- What spec.l04Marks and spec.MarkOk answer. -/
import Derived.Test.YtlpbhhgikgbfhaaDoorProg
import Derived.Test.YtlpbhhgikgbfhaaDoorMkLib
import Derived.Laws.OwnMore
namespace Go.Proofs.YtlpbhhgikgbfhaaDoor
open Go.RowKit

/-- The marks as texts. -/
def mkStrs : List ByteArray := mkPs.map fun p => ⟨p.1.toArray⟩
theorem mkStrs_len : mkStrs.length = 21 := rfl
theorem mkStrs_cells : (#[.string ⟨#[38, 38]⟩, .string ⟨#[124, 124]⟩, .string ⟨#[61, 61]⟩, .string ⟨#[61, 62]⟩, .string ⟨#[46, 46]⟩, .string ⟨#[40]⟩, .string ⟨#[41]⟩, .string ⟨#[123]⟩, .string ⟨#[125]⟩, .string ⟨#[91]⟩, .string ⟨#[93]⟩, .string ⟨#[59]⟩, .string ⟨#[44]⟩, .string ⟨#[46]⟩, .string ⟨#[61]⟩, .string ⟨#[43]⟩, .string ⟨#[45]⟩, .string ⟨#[42]⟩, .string ⟨#[60]⟩, .string ⟨#[63]⟩, .string ⟨#[58]⟩] : Array Value).toList = strVals mkStrs := rfl

set_option maxHeartbeats 1600000 in
theorem sMarks_any (w : World) : Calls Tryd.prog 46 #[] w fun e w' => StrsAns mkStrs 9 w e w' := by
  go_enter Tryd.func46, Tryd.ntmps46
  go_wp2
  go_ret
  refine ⟨(Below.refl _ _).alloc (Nat.le_refl _) _, _, rfl, ?_⟩
  exact ⟨rfl, .inr ⟨w.heap.size, 21, _, rfl, Nat.le_refl _, heap_alloc_new w _, by decide, by decide, rfl, by rw [List.take_of_length_le (by decide)]; exact mkStrs_cells⟩⟩
theorem mkIs_at {l : List UInt8} {k : Nat} {t : ByteArray} (h : mkStrs[k]? = some t) (he : t.toList = l) : mkIs l = true := by
  subst he
  obtain ⟨hk, e⟩ := List.getElem?_eq_some_iff.1 h
  unfold mkIs
  rw [List.any_eq_true]
  simp [mkStrs] at e hk
  refine ⟨mkPs[k], List.getElem_mem _, ?_⟩
  rw [← e]
  simp [ByteArray.toList_eq]
theorem mkIs_not {l : List UInt8} (h : ∀ (k : Nat) (t : ByteArray), mkStrs[k]? = some t → t.toList ≠ l) : mkIs l = false := by
  unfold mkIs
  rw [List.any_eq_false]
  intro p hp he
  obtain ⟨k, hk, e⟩ := List.getElem_of_mem hp
  refine h k ⟨p.1.toArray⟩ ?_ ?_
  · simp [mkStrs, hk, e]
  · simpa [ByteArray.toList_eq] using he
end Go.Proofs.YtlpbhhgikgbfhaaDoor
