/- What the program's SumMore, SumOf, Sealed and Unsealed answer. -/
import Derived.Test.YtkbcikiencogbaaDoorSumI
import Derived.Test.YtkbcikiencogbaaDoorShelf
import Derived.Deep.RegionHeld3
namespace Go.Proofs.YtkbcikiencogbaaDoor
open Go.RowKit

theorem cloneT_any (s : ByteArray) (w : World) (h : s.size ≤ 1048576) :
    Calls Tryd.prog 25 #[.string s] w fun e w' => e = .returned (.string s) ∧ Below w.heap.size w w' := by
  go_enter Tryd.func25, Tryd.ntmps25
  go_wp2_with fail
  refine (Tryd.stringslite_Clone s _ (by omega)).mono ?_
  rintro e w1 ⟨rfl, hb⟩
  go_wp2
  go_ret
  exact ⟨rfl, hb⟩

/-- The sum of a text from the beginning. -/
theorem iStart_any (t : ByteArray) (w : World) (ht : t.size ≤ 1048576) (hq : QTab w) :
    Calls Tryd.prog 23 #[.int .u32 4294967295, .string t] w fun e w' => e = .returned (.int .u32 (sumOf t : Nat)) ∧ w' = w :=
  iMore_any 4294967295 t w (by decide) ht hq
theorem iSumMore_any (s : Nat) (t : ByteArray) (w : World) (hs : s < 4294967296) (ht : t.size ≤ 1048576) (hq : QTab w) :
    Calls Tryd.prog 13 #[.int .u32 s, .string t] w fun e w' => e = .returned (.int .u32 (crc s t t.size : Nat)) ∧ w' = w := by
  have HQ := hidOf hq
  have hc := crc_lt t hs t.size
  clear hq
  go_enter Tryd.func13, Tryd.ntmps13
  go_wp2_with fail
  refine (iMore_any s t _ hs ht HQ.out).mono ?_
  rintro e w ⟨rfl, rfl⟩
  go_wp2
  go_ret
  exact ⟨rfl, rfl⟩
theorem iSumOf_any (t : ByteArray) (w : World) (ht : t.size ≤ 1048576) (hq : QTab w) :
    Calls Tryd.prog 14 #[.string t] w fun e w' => e = .returned (.int .u32 (sumOf t : Nat)) ∧ w' = w := by
  have HQ := hidOf hq
  have hc := sumOf_lt t
  clear hq
  go_enter Tryd.func14, Tryd.ntmps14
  go_wp2_with fail
  refine (iStart_any t _ ht HQ.out).mono ?_
  rintro e w ⟨rfl, rfl⟩
  go_wp2
  go_ret
  exact ⟨rfl, rfl⟩

theorem iSealed_yes (t : ByteArray) (w : World) (ht : t.size ≤ 20000) (hq : QTab w) :
    Calls Tryd.prog 11 #[.string t] w fun e w' => e = .returned (.tuple #[.string (t ++ four (sumOf t)), .bool true]) ∧ Below w.heap.size w w' := by
  have HQ := hidOf hq
  have hc := sumOf_lt t
  have h4 := four_size (sumOf t)
  clear hq
  go_enter Tryd.func11, Tryd.ntmps11
  go_wp2_with fail
  refine (iStart_any t _ (by omega) HQ.out).mono ?_
  rintro e w ⟨rfl, rfl⟩
  go_wp2_with fail
  refine (iBytes_any (sumOf t) _ hc).mono ?_
  rintro e w1 ⟨rfl, hb⟩
  go_wp2
  go_ret2
  exact ⟨rfl, hb⟩
theorem iSealed_no (t : ByteArray) (w : World) (ht : 20000 < t.size) (hm : t.size ≤ 1048576) :
    Calls Tryd.prog 11 #[.string t] w fun e w' => e = .returned (.tuple #[.string ⟨#[]⟩, .bool false]) ∧ w' = w := by
  go_enter Tryd.func11, Tryd.ntmps11
  go_wp2
  go_ret2
  exact ⟨rfl, rfl⟩
theorem iSealed_any (t : ByteArray) (w : World) (hm : t.size ≤ 1048576) (hq : QTab w) :
    Calls Tryd.prog 11 #[.string t] w fun e w' => SeAns t e ∧ Below w.heap.size w w' := by
  by_cases h : t.size ≤ 20000
  · exact (iSealed_yes t w h hq).mono fun e w' ⟨h1, h2⟩ => ⟨.inl ⟨h, h1⟩, h2⟩
  · refine (iSealed_no t w (by omega) hm).mono fun e w' h2 => ⟨.inr ⟨by omega, h2.1⟩, ?_⟩
    rw [h2.2]
    exact Below.refl _ _

theorem iUnsealed_size (t : ByteArray) (w : World) (h : t.size < 4 ∨ 20004 < t.size) (hm : t.size ≤ 1048576) :
    Calls Tryd.prog 12 #[.string t] w fun e w' => e = .returned (.tuple #[.string ⟨#[]⟩, .bool false]) ∧ w' = w := by
  rcases h with h | h
  · go_enter Tryd.func12, Tryd.ntmps12
    go_wp2
    go_ret2
    exact ⟨rfl, rfl⟩
  · go_enter Tryd.func12, Tryd.ntmps12
    go_wp2
    go_ret2
    exact ⟨rfl, rfl⟩
set_option maxHeartbeats 1600000 in
theorem iUnsealed_in (t : ByteArray) (w : World) (h4 : 4 ≤ t.size) (hm : t.size ≤ 20004) (hq : QTab w) :
    Calls Tryd.prog 12 #[.string t] w fun e w' => UsAns t e ∧ Below w.heap.size w w' := by
  have HQ := hidOf hq
  have hsl1 := str_to (P := Tryd.prog) 9 t (t.size - 4) ((t.size : Int) - 4) Tryd.underlying9 (by omega) (by omega)
  have hsl2 := str_from (P := Tryd.prog) 9 t (t.size - 4) ((t.size : Int) - 4) Tryd.underlying9 (by omega) (by omega)
  have hz1 : (t.extract 0 (t.size - 4)).size = t.size - 4 := by rw [ByteArray.size_extract]; omega
  have hz2 : (t.extract (t.size - 4) t.size).size = 4 := by rw [ByteArray.size_extract]; omega
  have hc := sumOf_lt (t.extract 0 (t.size - 4))
  have hf := four_size (sumOf (t.extract 0 (t.size - 4)))
  clear hq
  go_enter Tryd.func12, Tryd.ntmps12
  go_wp2_with fail
  go_region_held3 (fun _ => True) (trivial) (first
    | (go_at_call 23; refine (iStart_any (t.extract 0 (t.size - 4)) _ (by omega) (by exact HQ.out)).mono ?_; rintro e w' ⟨rfl, rfl⟩)
    | (go_at_call 24; refine (iBytes_any (sumOf (t.extract 0 (t.size - 4))) _ hc).mono ?_; rintro e w' ⟨rfl, hb'⟩))
  have hbw : Below w.heap.size w w' := ⟨hb'.os, hb'.tape, hb'.output, hb'.size, hb'.block⟩
  by_cases he : t.extract (t.size - 4) t.size = four (sumOf (t.extract 0 (t.size - 4)))
  · have hE := str_same he.symm
    have HE := hidOf he
    clear he
    simp only [hE, Bool.not_true]
    go_wp2_with fail
    refine (cloneT_any (t.extract 0 (t.size - 4)) _ (by omega)).mono ?_
    rintro e w2 ⟨rfl, hb2⟩
    go_wp2
    go_ret2
    exact ⟨.inl ⟨⟨h4, hm, HE.out⟩, rfl⟩, hbw.trans (hb2.mono hbw.size)⟩
  · have hE : ((four (sumOf (t.extract 0 (t.size - 4)))).toList == (t.extract (t.size - 4) t.size).toList) = false := by
      rw [str_beq]
      exact decide_eq_false fun e => he e.symm
    have HE := hidOf he
    clear he
    simp only [hE, Bool.not_false]
    go_wp2
    go_ret2
    exact ⟨.inr ⟨fun h => HE.out h.2.2, rfl⟩, hbw⟩
theorem iUnsealed_any (t : ByteArray) (w : World) (hm : t.size ≤ 1048576) (hq : QTab w) :
    Calls Tryd.prog 12 #[.string t] w fun e w' => UsAns t e ∧ Below w.heap.size w w' := by
  by_cases h : 4 ≤ t.size ∧ t.size ≤ 20004
  · exact iUnsealed_in t w h.1 h.2 hq
  · refine (iUnsealed_size t w (by omega) hm).mono fun e w' h2 => ⟨.inr ⟨fun h3 => h ⟨h3.1, h3.2.1⟩, h2.1⟩, ?_⟩
    rw [h2.2]
    exact Below.refl _ _
end Go.Proofs.YtkbcikiencogbaaDoor
