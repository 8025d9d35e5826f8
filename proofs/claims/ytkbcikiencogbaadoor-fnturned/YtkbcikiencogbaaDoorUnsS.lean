/- What the specification's Unsealed answers. -/
import Derived.Test.YtkbcikiencogbaaDoorSumS
import Derived.BigQuiet
import Derived.Deep.QuietTactic
namespace Go.Proofs.YtkbcikiencogbaaDoor
open Go.RowKit


set_option maxHeartbeats 1600000 in
theorem sUnsealed_in (t : ByteArray) (w : World) (h4 : 4 ≤ t.size) (hm : t.size ≤ 20004) :
    Calls Tryd.prog 18 #[.string t] w fun e w' => UsAns t e ∧ Below w.heap.size w w' := by
  have hsl1 := str_to (P := Tryd.prog) 9 t (t.size - 4) ((t.size : Int) - 4) Tryd.underlying9 (by omega) (by omega)
  have hsl2 := str_from (P := Tryd.prog) 9 t (t.size - 4) ((t.size : Int) - 4) Tryd.underlying9 (by omega) (by omega)
  have hz1 : (t.extract 0 (t.size - 4)).size = t.size - 4 := by rw [ByteArray.size_extract]; omega
  have hz2 : (t.extract (t.size - 4) t.size).size = 4 := by rw [ByteArray.size_extract]; omega
  have hc := sumOf_lt (t.extract 0 (t.size - 4))
  have hf := four_size (sumOf (t.extract 0 (t.size - 4)))
  have hA : decide ((t.size : Int) - 4 < 0) = false := decide_eq_false (by omega)
  have hB : decide (20000 < (t.size : Int) - 4) = false := decide_eq_false (by omega)
  go_enter Tryd.func18, Tryd.ntmps18
  go_wp2_with fail
  go_region_held3 (fun _ => True) (trivial) (first
    | (go_at_call 16; refine (sSumOf_any (t.extract 0 (t.size - 4)) _ (by omega)).mono ?_; rintro e w' ⟨rfl, rfl⟩)
    | (go_at_call 26; refine (sFour_any (sumOf (t.extract 0 (t.size - 4))) _ hc).mono ?_; rintro e w' ⟨rfl, hb'⟩))
  have hbw : Below w.heap.size w w' := ⟨hb'.os, hb'.tape, hb'.output, hb'.size, hb'.block⟩
  by_cases he : t.extract (t.size - 4) t.size = four (sumOf (t.extract 0 (t.size - 4)))
  · have hE := str_same he
    have HE := hidOf he
    clear he
    simp only [hE, Bool.not_true]
    go_wp2
    go_ret2
    exact ⟨.inl ⟨⟨h4, hm, HE.out⟩, rfl⟩, hbw⟩
  · have hE : ((t.extract (t.size - 4) t.size).toList == (four (sumOf (t.extract 0 (t.size - 4)))).toList) = false := by
      rw [str_beq]
      exact decide_eq_false he
    have HE := hidOf he
    clear he
    simp only [hE, Bool.not_false]
    go_wp2
    go_ret2
    exact ⟨.inr ⟨fun h => HE.out h.2.2, rfl⟩, hbw⟩
set_option maxHeartbeats 1600000 in
theorem sUnsealed_short (t : ByteArray) (w : World) (h : t.size < 4) :
    Calls Tryd.prog 18 #[.string t] w fun e w' => UsAns t e ∧ Below w.heap.size w w' := by
  have hn : ¬ SealOk t := fun h3 => by have := h3.1; omega
  have HN := hidOf hn
  clear hn
  have hA : decide ((t.size : Int) - 4 < 0) = true := decide_eq_true (by omega)
  go_enter Tryd.func18, Tryd.ntmps18
  go_wp2_with fail
  go_quiet (fail)
  go_wp2
  go_ret2
  exact ⟨.inr ⟨HN.out, rfl⟩, below_drewN w nq⟩
set_option maxHeartbeats 1600000 in
theorem sUnsealed_long (t : ByteArray) (w : World) (h : 20004 < t.size) (hm : t.size ≤ 1048576) :
    Calls Tryd.prog 18 #[.string t] w fun e w' => UsAns t e ∧ Below w.heap.size w w' := by
  have hn : ¬ SealOk t := fun h3 => by have := h3.2.1; omega
  have HN := hidOf hn
  clear hn
  have hA : decide ((t.size : Int) - 4 < 0) = false := decide_eq_false (by omega)
  have hB : decide (20000 < (t.size : Int) - 4) = true := decide_eq_true (by omega)
  go_enter Tryd.func18, Tryd.ntmps18
  go_wp2_with fail
  go_quiet (fail)
  go_wp2
  go_ret2
  exact ⟨.inr ⟨HN.out, rfl⟩, below_drewN w nq⟩
theorem sUnsealed_any (t : ByteArray) (w : World) (hm : t.size ≤ 1048576) :
    Calls Tryd.prog 18 #[.string t] w fun e w' => UsAns t e ∧ Below w.heap.size w w' := by
  by_cases h1 : t.size < 4
  · exact sUnsealed_short t w h1
  · by_cases h2 : 20004 < t.size
    · exact sUnsealed_long t w h2 hm
    · exact sUnsealed_in t w (by omega) (by omega)
end Go.Proofs.YtkbcikiencogbaaDoor
