/- What spec.CellNum and spec.CellPut answer. -/
import Derived.Test.YtdlbnllkfnfgoaaCelLib
import Derived.Test.YtdlbnllkfnfgoaaAppPl
import Derived.Test.YtdlbnllkfnfgoaaCopyLib
import Derived.WalkKit
namespace Go.Proofs.Ytdlbnllkfnfgoaa
open Go.RowKit

set_option maxHeartbeats 2500000 in
set_option maxRecDepth 100000 in
theorem sCellNum (a : Option Addr) (cc : Nat) (cs : List Cel) (s : ByteArray) (w : World) (hn : cs.length ≤ 1048576) (h : RowsAt 2 celCells w a cs) : Calls Try.prog 7 #[.slice a cs.length cc, .string s] w fun e w' => e = .returned (.tuple #[.int .i64 ((cNum s cs).getD 0), .bool (cNum s cs).isSome]) ∧ w' = w := by
  have HH := hidOf h
  clear h
  go_enter Try.func7, Try.ntmps7
  go_wp2
  go_loop [6] (fun i => ∃ k : Nat, k ≤ cs.length ∧ i = .int .i64 (k : Int) ∧ Hid (cNum s (cs.drop k) = cNum s cs)) (fun i => cs.length - (intOf i).toNat)
  case atStart => exact ⟨0, Nat.zero_le _, rfl, hidOf rfl⟩
  case round =>
    obtain ⟨k, hk, rfl, HK⟩ := hrel
    by_cases hlt : k < cs.length
    · obtain ⟨c, ec⟩ : ∃ c, cs[k]? = some c := ⟨_, List.getElem?_eq_getElem hlt⟩
      obtain ⟨b, o, rfl, hb, c0, c1⟩ := cel_at HH.out ec
      have HC := hidOf ec
      obtain ⟨nm, hnm⟩ : ∃ nm, nm = c.name := ⟨_, rfl⟩
      rw [← hnm] at c0
      have HM := hidOf hnm
      have hA : (0 : Int) ≤ (k : Int) := by omega
      have hB : (k : Int) < (cs.length : Int) := by omega
      clear ec hnm
      cases he : (nm.toList == s.toList)
      · have HX := hidOf (show cNum s (cs.drop (k + 1)) = cNum s cs by rw [← HK.out]; exact (num_no HC.out (by rw [← HM.out]; exact he)).symm)
        go_wp2
        go_round
        case rel => exact ⟨k + 1, by omega, by go_num, HX⟩
        case measure => simp [intOf]; omega
      · have HX := hidOf (show cNum s cs = some c.num by rw [← HK.out]; exact num_yes HC.out (by rw [← HM.out]; exact he))
        go_wp2
        go_ret2
        rw [HX.out]
        exact ⟨rfl, rfl⟩
    · have hB : ¬ (k : Int) < (cs.length : Int) := by omega
      have HX := hidOf (show cNum s cs = none by rw [← HK.out, List.drop_eq_nil_of_le (by omega)]; rfl)
      go_wp2
      go_ret2
      rw [HX.out]
      exact ⟨rfl, rfl⟩

theorem infoCel : (Try.prog.info? tCel).map (fun i => (i.zero, i.size, i.bytes)) = some (some (.agg #[.string ByteArray.empty, .int .i64 0]), 2, 24) := by kernel_rfl
/-- Cells, in memory of their own. -/
def CelsAns (cs : List Cel) (w : World) (e : Ending) (w' : World) : Prop := Below w.heap.size w w' ∧ ∃ a c, e = .returned (.slice a cs.length c) ∧ w'.ownsRow w.heap.size tCel 2 (.slice a cs.length c) cs.length (rowVals celCells cs)
set_option maxHeartbeats 4000000 in
set_option maxRecDepth 100000 in
theorem sCellPut (a : Option Addr) (cc : Nat) (cs : List Cel) (s : ByteArray) (n : Int) (w : World) (hn : cs.length ≤ 1048576) (h : RowsAt 2 celCells w a cs) : Calls Try.prog 11 #[.slice a cs.length cc, .string s, .int .i64 n] w (CelsAns (cPut s n cs) w) := by
  obtain ⟨i0, hi, hz0, hz1, hz2⟩ := info_parts infoCel
  have HH := hidOf (h.below ((Below.refl _ w).alloc (Nat.le_refl _) (.cells #[] tCel)) (Nat.le_refl _))
  have B1 : Below w.heap.size w (w.alloc (.cells #[] tCel)) := (Below.refl _ _).alloc (Nat.le_refl _) _
  clear h
  go_enter Try.func11, Try.ntmps11
  go_wp2_with (at_builtin; refine wpList_plain rfl fun _ hK => wp_copy celCells_len celCells_one _ _ 26 rfl tCel i0 _ 24 Try.underlying26 hi hz0 hz1 hz2 rfl (by decide) (w.alloc (.cells #[] tCel)) w.heap.size w.heap.size (Nat.le_refl _) (heap_alloc_new w _) a cc cs rfl rfl HH.out (by omega) (by omega) fun a' c' w1 h2 h3 => hK _ _ ?_)
  have BB := B1.grown h3 B1.size (fun k e => by cases e)
  have HO := hidOf h2
  have HBB := hidOf BB
  clear h2 h3 HH B1 BB
  go_wp2
  go_loop [8] (fun i => ∃ k : Nat, k ≤ cs.length ∧ i = .int .i64 (k : Int) ∧ Hid (∀ (j : Nat) (d : Cel), j < k → cs[j]? = some d → (d.name.toList == s.toList) = false)) (fun i => cs.length - (intOf i).toNat)
  case atStart => exact ⟨0, Nat.zero_le _, rfl, hidOf fun j d h => by omega⟩
  case round =>
    obtain ⟨k, hk, rfl, HK⟩ := hrel
    by_cases hlt : k < cs.length
    · obtain ⟨c, ec⟩ : ∃ c, cs[k]? = some c := ⟨_, List.getElem?_eq_getElem hlt⟩
      obtain ⟨b, rfl⟩ := owns_at HO.out (by omega)
      obtain ⟨b', o, hbb, hb, c0, c1⟩ := cel_at (RowsAt.of_own celCells_len HO.out rfl) ec
      obtain ⟨rfl, rfl⟩ : b = b' ∧ 0 = o := by injection hbb with hbb; injection hbb with e1 e2; exact ⟨e1, e2⟩
      have z1 := HO.out.frozenAt (k * 2 + 1)
      have HC := hidOf ec
      obtain ⟨nm, hnm⟩ : ∃ nm, nm = c.name := ⟨_, rfl⟩
      rw [← hnm] at c0
      rw [Nat.zero_add] at c0 c1
      have HM := hidOf hnm
      have hA : (0 : Int) ≤ (k : Int) := by omega
      have hB : (k : Int) < (cs.length : Int) := by omega
      clear ec hnm hbb
      cases he : (nm.toList == s.toList)
      · have HX := hidOf (upto_step HK.out HC.out (by rw [← HM.out]; exact he))
        go_wp2
        go_round
        case rel => exact ⟨k + 1, by omega, by go_num, HX⟩
        case measure => simp [intOf]; omega
      · have HX := hidOf (put_split (n := n) HC.out HK.out (by rw [← HM.out]; exact he))
        have HS := hidOf (HO.out.stored (k * 2 + 1) (.int .i64 n))
        have HL := hidOf (HO.out.lt b rfl).1
        have HBL := hidOf hb
        go_wp2
        go_ret
        rw [HX.out]
        refine ⟨HBB.out.setCell HL.out _, _, _, by rw [List.length_set]; rfl, ?_⟩
        rw [← cels_set cs k c n HC.out, List.length_set]
        exact HS.out.1
    · have hB : ¬ (k : Int) < (cs.length : Int) := by omega
      have HX := hidOf (put_end (n := n) (upto_all (by omega) HK.out))
      go_wp2_with (at_builtin; refine wpList_append_own2 rfl _ _ 26 rfl w.heap.size tCel i0 _ 2 24 Try.underlying26 hi hz0 hz1 hz2 rfl (by decide) (.slice a' cs.length c') cs.length _ rfl (owns_below HO.out ((Below.refl _ _).alloc (Nat.le_refl _) _)) ⟨w1.heap.size, 0, none⟩ 1 1 (celCells ⟨s, n⟩) rfl rfl (cel_new w1 ⟨s, n⟩ _) (celCells_one _) (by unfold maxLen; omega) (by omega) (by have := HBB.out.size; simp; omega) ?_; intro v' w3 hown' hgrow3 hpl3)
      go_ret
      rw [HX.out]
      obtain ⟨na', nc', rfl⟩ := owns_slice hown'
      refine ⟨(HBB.out.alloc HBB.out.size _).grown hgrow3 (by have := HBB.out.size; simp; omega) (fun q hq => (HO.out.lt q hq).1), na', nc', by rw [List.length_append]; rfl, ?_⟩
      rw [rowVals_app, rowVals_one, List.length_append]
      exact hown'
end Go.Proofs.Ytdlbnllkfnfgoaa
