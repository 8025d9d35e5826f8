/- What impl.JoinLines answers. -/
import Derived.Test.YtdpdlddbnpnabaaDoorBuildI
import Derived.Test.YtdpdlddbnpnabaaDoorLineLib
import Derived.Laws.OwnMore
namespace Go.Proofs.YtdpdlddbnpnabaaDoor
open Go.RowKit

theorem cells_next {ss : List ByteArray} {k : Nat} {t : ByteArray} (h : ss[k]? = some t) :
    Lib.byteCells (joinL (lists (ss.take k))) ++ Lib.strCells t ++ Lib.strCells ⟨#[10]⟩ = Lib.byteCells (joinL (lists (ss.take (k + 1)))) := by
  have h1 : lists (ss.take (k + 1)) = lists (ss.take k) ++ [t.data.toList] := by
    rw [List.take_add_one, h]
    simp [lists]
  rw [h1, joinL_snoc, Lib.strCells_eq, Lib.strCells_eq, Lib.byteCells_append, Lib.byteCells_append]
theorem cells_len (ss : List ByteArray) : (Lib.byteCells (joinL (lists ss))).length = (joins ss).size := by
  rw [Lib.byteCells_length, joins_size]

set_option maxHeartbeats 1600000 in
set_option maxRecDepth 20000 in
theorem iJoin_any (v : Value) (b n : Nat) (ss : List ByteArray) (w : World) (hj : (joins ss).size ≤ 8388608) (hown : w.ownsRow b 9 1 v n (strVals ss)) :
    Calls Tryd.prog 8 #[v] w fun e w' => e = .returned (.string (joins ss)) ∧ Below w.heap.size w w' := by
  have hmany := joins_many ss
  have hl : ss.length = n := by have := hown.1; simpa [strVals] using this
  obtain ⟨ao, cv, rfl⟩ := owns_slice hown
  have HL := hidOf hl
  rw [hl] at hmany
  clear hl
  have hfr := Lib.fresh_isBuilder 46 5 w
  go_enter Tryd.func8, Tryd.ntmps8
  go_wp2
  go_loopw [8] (fun i wr => ∃ (k : Nat), k ≤ n ∧ i = .int .i64 k ∧ Lib.IsBuilder 46 5 w.heap.size w.heap.size (Lib.byteCells (joinL (lists (ss.take k)))) wr ∧ Below w.heap.size w wr) (fun i _ => n - (intOf i).toNat)
  case atStart => exact ⟨0, Nat.zero_le _, rfl, hfr, (Below.refl _ w).alloc (Nat.le_refl _) _⟩
  case round =>
    obtain ⟨k, hk, rfl, hbd, hb⟩ := hrel
    have hsz := hb.size
    by_cases hlt : k < n
    · obtain ⟨t, ht⟩ : ∃ t, ss[k]? = some t := ⟨_, List.getElem?_eq_getElem (by rw [HL.out]; exact hlt)⟩
      obtain ⟨g, rfl⟩ := owns_at hown (by omega)
      have hown2 := owns_below hown hb
      have hc := hown2.cellAt k (by omega)
      rw [show (strVals ss)[k]? = some (.string t) by simp [strVals, ht]] at hc
      have hroom := joins_room ht
      rw [← cells_len (ss.take k)] at hroom
      have HX := hidOf (cells_next ht)
      clear ht
      have hA : (0 : Int) ≤ (k : Int) := by omega
      have hB : (k : Int) < (n : Int) := by omega
      go_wp2_with fail
      refine (write_any w.heap.size w.heap.size _ t wr hbd (by omega) hsz).mono ?_
      rintro e w1 ⟨rfl, hbd1, hb1⟩
      have hs1 := hb1.size
      go_wp2_with fail
      refine (write_any w.heap.size w.heap.size _ ⟨#[10]⟩ w1 hbd1 (by simp [Lib.strCells_length]; have : (⟨#[10]⟩ : ByteArray).size = 1 := rfl; omega) (by omega)).mono ?_
      rintro e w2 ⟨rfl, hbd2, hb2⟩
      rw [HX.out] at hbd2
      go_wp2
      go_roundw
      case rel => exact ⟨k + 1, by omega, by go_num, hbd2, (hb.trans hb1).trans hb2⟩
      case measure => simp [intOf]; omega
    · have hke : k = n := by omega
      have HK := hidOf hke
      clear hke
      go_wp2_with fail
      refine (Tryd.Builder_String_any w.heap.size w.heap.size _ wr hbd hsz).mono ?_
      rintro e w1 ⟨rfl, hb1⟩
      go_wp2
      go_ret
      refine ⟨ret_str ?_, hb.trans hb1⟩
      rw [HK.out, List.take_of_length_le (by rw [HL.out]; exact Nat.le_refl _)]
      rfl
end Go.Proofs.YtdpdlddbnpnabaaDoor
