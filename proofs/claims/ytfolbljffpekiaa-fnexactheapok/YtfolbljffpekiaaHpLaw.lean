/- The law on HeapOk: two answers alike, and the argument as it was. -/
import Derived.Test.YtfolbljffpekiaaHpOk
import Derived.Test.YtfolbljffpekiaaEqSt
namespace Go.Proofs.Ytfolbljffpekiaa
open Go.RowKit

set_option maxHeartbeats 4000000 in
theorem lawHeapOk (a : Option Addr) (c : Nat) (ps : List Sp) (w : World) (hn0 : ps.length ≤ 9223372036854775807) (hok : StsOk ps) (hT : StsAt w a ps) :
    Calls Try.prog 5 #[.slice a ps.length c] w fun e w' => e = .returned (.bool true) ∧ Below w.heap.size w w' := by
  have hz := szStates_any a c ps 1048576 w hn0 hok (by omega) (by omega) hT
  have hto := fun (h1 : ps.length ≤ 1048576) (h2 : Few ps) W hW => toStates_any a c ps W h1 h2 hW
  obtain ⟨n, hn⟩ : ∃ n, n = ps.length := ⟨_, rfl⟩
  rw [← hn] at hz hto ⊢
  have HN := hidOf hn
  clear hn
  go_enter Try.func5, Try.ntmps5
  go_wp2_with fail
  refine hz.mono ?_
  rintro e w1 ⟨r, rfl, hr, A1⟩
  rcases hr with rfl | ⟨hr0, hr1⟩
  · go_wp2
    go_ret
    exact ⟨rfl, A1⟩
  have hF : Few ps := few_wt (by omega)
  have hn1 : n ≤ 1048576 := by omega
  have hrn : ¬ r < 0 := by omega
  have hto := hto hn1 hF
  have hn2 : ps.length ≤ 1048576 := by have := HN.out; omega
  clear hr1 hz hn0
  obtain ⟨b, hb⟩ : ∃ b, b = heapB stLess (ps.map Sp.st) := ⟨_, rfl⟩
  have hbb : (b != b) = false := by cases b <;> rfl
  have HB := hidOf hb
  clear hb
  go_wp2_with fail
  refine (hto _ (hT.below A1 (Nat.le_refl _))).mono ?_
  rintro e w2 ⟨a2, c2, p2, rfl, s2, o2, hb2⟩
  have A2 := A1.trans (hb2.mono A1.size)
  have hS := sHp_any a2 c2 p2 w2 (by have := same_len s2; omega) (few_same s2.symm hF) o2.sts
  rw [show heapB spLess p2 = b by rw [HB.out, ← s2]; exact heapB_map Sp.st p2] at hS
  clear hb2 o2
  go_wp2_with fail
  refine hS.mono ?_
  rintro e w3 ⟨rfl, hb3⟩
  have A3 := A2.trans (hb3.mono A2.size)
  clear hb3 hS
  go_wp2_with fail
  refine (hto _ (hT.below A3 (Nat.le_refl _))).mono ?_
  rintro e w4 ⟨a4, c4, p4, rfl, s4, o4, hb4⟩
  have A4 := A3.trans (hb4.mono A3.size)
  have hI := iHp_any a4 c4 p4 w4 (by have := same_len s4; omega) (few_same s4.symm hF) o4.sts
  rw [show heapB spLess p4 = b by rw [HB.out, ← s4]; exact heapB_map Sp.st p4] at hI
  clear hb4
  go_wp2_with fail
  refine hI.mono ?_
  rintro e w5 ⟨rfl, hb5⟩
  have A5 := A4.trans (hb5.mono A4.size)
  have o5 := o4.below hb5
  clear hb5 hI
  go_wp2_with fail
  refine (hto _ (hT.below A5 (Nat.le_refl _))).mono ?_
  rintro e w6 ⟨a6, c6, p6, rfl, s6, o6, hb6⟩
  have A6 := A5.trans (hb6.mono A5.size)
  have o5 := o5.below hb6
  have hE := eqStates_same a4 a6 c4 c6 p4 p6 w6 (by have := same_len s4; omega) (few_same s4.symm hF) (s4.trans s6.symm) o5.sts o6.sts
  go_wp2_with fail
  refine hE.mono ?_
  rintro e w7 ⟨rfl, hb7⟩
  go_wp2
  go_ret
  exact ⟨rfl, A6.trans (hb7.mono A6.size)⟩
end Go.Proofs.Ytfolbljffpekiaa
