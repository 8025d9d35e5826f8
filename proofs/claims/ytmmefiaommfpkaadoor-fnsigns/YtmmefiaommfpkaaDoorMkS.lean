/- What spec.l04Marks and spec.MarkOk answer. -/
import Derived.Test.YtmmefiaommfpkaaDoorProg
import Derived.Test.YtmmefiaommfpkaaDoorMkLib
import Derived.Laws.OwnMore
namespace Go.Proofs.YtmmefiaommfpkaaDoor
open Go.RowKit

/-- The marks as texts. -/
def mkStrs : List ByteArray := mkPs.map fun p => ⟨p.1.toArray⟩
theorem mkStrs_len : mkStrs.length = 21 := rfl
theorem mkStrs_cells : (#[.string ⟨#[38, 38]⟩, .string ⟨#[124, 124]⟩, .string ⟨#[61, 61]⟩, .string ⟨#[61, 62]⟩, .string ⟨#[46, 46]⟩, .string ⟨#[40]⟩, .string ⟨#[41]⟩, .string ⟨#[123]⟩, .string ⟨#[125]⟩, .string ⟨#[91]⟩, .string ⟨#[93]⟩, .string ⟨#[59]⟩, .string ⟨#[44]⟩, .string ⟨#[46]⟩, .string ⟨#[61]⟩, .string ⟨#[43]⟩, .string ⟨#[45]⟩, .string ⟨#[42]⟩, .string ⟨#[60]⟩, .string ⟨#[63]⟩, .string ⟨#[58]⟩] : Array Value).toList = strVals mkStrs := rfl

set_option maxHeartbeats 1600000 in
theorem sMarks_any (w : World) : Calls Tryd.prog 43 #[] w fun e w' => StrsAns mkStrs 9 w e w' := by
  go_enter Tryd.func43, Tryd.ntmps43
  go_wp2
  go_ret
  refine ⟨(Below.refl _ _).alloc (Nat.le_refl _) _, _, rfl, ?_⟩
  exact ⟨rfl, .inr ⟨w.heap.size, 21, _, rfl, Nat.le_refl _, heap_alloc_new w _, by decide, by decide, rfl, by rw [List.take_of_length_le (by decide)]; exact mkStrs_cells⟩⟩
theorem mkIs_at {l : List UInt8} {k : Nat} {t : ByteArray} (h : mkStrs[k]? = some t) (he : t.toList = l) : mkIs l = true := by
  subst he
  obtain ⟨hk, e⟩ := List.getElem?_eq_some_iff.1 h
  unfold mkIs
  rw [List.any_eq_true]
  simp [mkStrs] at e hk
  refine ⟨mkPs[k], List.getElem_mem _, ?_⟩
  rw [← e]
  simp [ByteArray.toList_eq]
theorem mkIs_not {l : List UInt8} (h : ∀ (k : Nat) (t : ByteArray), mkStrs[k]? = some t → t.toList ≠ l) : mkIs l = false := by
  unfold mkIs
  rw [List.any_eq_false]
  intro p hp he
  obtain ⟨k, hk, e⟩ := List.getElem_of_mem hp
  refine h k ⟨p.1.toArray⟩ ?_ ?_
  · simp [mkStrs, hk, e]
  · simpa [ByteArray.toList_eq] using he

set_option maxHeartbeats 1600000 in
theorem sMark_any (s : ByteArray) (w : World) : Calls Tryd.prog 20 #[.string s] w fun e w' => e = .returned (.bool (mkIs s.toList)) ∧ Below w.heap.size w w' := by
  go_enter Tryd.func20, Tryd.ntmps20
  go_wp2_with fail
  refine (sMarks_any _).mono ?_
  rintro e w1 ⟨hb, v, rfl, ho⟩
  rw [mkStrs_len] at ho
  rcases ho.2 with ⟨_, e⟩ | ⟨g, cap, cur, rfl, _⟩
  · omega
  go_wp2
  go_loop [4] (fun i => ∃ k : Nat, k ≤ 21 ∧ i = .int .i64 k ∧ Hid (∀ j t, j < k → mkStrs[j]? = some t → t.toList ≠ s.toList)) (fun i => 21 - (intOf i).toNat)
  case atStart => exact ⟨0, by omega, rfl, hidOf fun j t h => by omega⟩
  case round =>
    obtain ⟨k, hk, rfl, HB⟩ := hrel
    by_cases hlt : k < 21
    · obtain ⟨t, ht⟩ : ∃ t, mkStrs[k]? = some t := ⟨_, List.getElem?_eq_getElem (by rw [mkStrs_len]; exact hlt)⟩
      have hc := ho.cellAt k (by omega)
      rw [show (strVals mkStrs)[k]? = some (.string t) by simp [strVals, ht]] at hc
      have HT := hidOf ht
      clear ht
      have hA : (0 : Int) ≤ (k : Int) := by omega
      have hB : (k : Int) < 21 := by omega
      cases hE : (t.toList == s.toList)
      · go_wp2
        go_round
        case rel => exact ⟨k + 1, by omega, by go_num, hidOf fun j t' h1 h2 => by
          by_cases e : j = k
          · subst e
            have := HT.out
            rw [h2] at this
            cases this
            simpa using hE
          · exact HB.out j t' (by omega) h2⟩
        case measure => simp [intOf]; omega
      · go_wp2
        go_ret
        exact ⟨ret_bool (mkIs_at HT.out (by simpa using hE)).symm, hb⟩
    · go_wp2
      go_ret
      exact ⟨ret_bool (mkIs_not fun j t h => HB.out j t (by have := (List.getElem?_eq_some_iff.1 h).1; rw [mkStrs_len] at this; omega) h).symm, hb⟩
end Go.Proofs.YtmmefiaommfpkaaDoor
