/- Fitting on both sides, and its law. -/
import Derived.Test.YtlejdjbhbkknlaaWideI
import Derived.Test.YtlejdjbhbkknlaaWideS
import Derived.Test.YtlejdjbhbkknlaaMaxI
namespace Go.Proofs.Ytlejdjbhbkknlaa
open Go.RowKit

set_option maxHeartbeats 1600000 in
theorem iFit_any (s : ByteArray) (b m : Int) (w : World) (hs : s.size ≤ 4194304) (hM0 : 0 < w.heap.size) (hM : w.cell? ⟨0, 0, none⟩ = some (.int .i64 m)) :
    Calls Try.prog 8 #[.string s, .int .i64 b] w fun e w' => e = .returned (.bool (decide ((widest (lns s) : Int) ≤ b))) ∧ Below w.heap.size w w' := by
  obtain ⟨n, hn⟩ : ∃ n : Int, n = widest (lns s) := ⟨_, rfl⟩
  have HN := hidOf hn
  rw [← hn]
  clear hn
  go_enter Try.func8, Try.ntmps8
  go_wp2_with fail
  refine (iWide_any s m _ hs hM0 hM).mono ?_
  rw [← HN.out]
  rintro e w1 ⟨rfl, hb1⟩
  go_wp2
  go_ret
  exact ⟨rfl, hb1⟩

set_option maxHeartbeats 1600000 in
theorem sFit_any (s : ByteArray) (b : Int) (w : World) (hs : s.size ≤ 4194304) :
    Calls Try.prog 7 #[.string s, .int .i64 b] w fun e w' => e = .returned (.bool (decide ((widest (lns s) : Int) ≤ b))) ∧ Below w.heap.size w w' := by
  obtain ⟨n, hn⟩ : ∃ n : Int, n = widest (lns s) := ⟨_, rfl⟩
  have HN := hidOf hn
  rw [← hn]
  clear hn
  go_enter Try.func7, Try.ntmps7
  go_wp2_with fail
  refine (sWide_any s _ hs).mono ?_
  rw [← HN.out]
  rintro e w1 ⟨rfl, hb1⟩
  go_wp2
  go_ret
  exact ⟨rfl, hb1⟩

set_option maxHeartbeats 1600000 in
theorem lawFitting (s : ByteArray) (b : Int) (w : World) (hs : s.size ≤ maxLen) (m : Int) (hM : MaxIn m w) :
    Calls Try.prog 4 #[.string s, .int .i64 b] w fun e w' => e = .returned (.bool true) ∧ Below w.heap.size w w' := by
  unfold maxLen at hs
  have HT := hidOf hM
  clear hM
  by_cases h0 : 1048576 < s.size
  · go_enter Try.func4, Try.ntmps4
    go_wp2
    go_ret
    exact ⟨rfl, Below.refl _ _⟩
  · obtain ⟨n, hn⟩ : ∃ n : Bool, n = decide ((widest (lns s) : Int) ≤ b) := ⟨_, rfl⟩
    have HN := hidOf hn
    clear hn
    have hne : (n != n) = false := by simp
    go_enter Try.func4, Try.ntmps4
    go_wp2_with fail
    refine (sFit_any s b _ (by omega)).mono ?_
    rw [← HN.out]
    rintro e w1 ⟨rfl, hb1⟩
    have hs1 := hb1.size
    go_wp2_with fail
    refine (iFit_any s b m _ (by omega) (HT.out.below hb1).1 (HT.out.below hb1).2).mono ?_
    rw [← HN.out]
    rintro e w2 ⟨rfl, hb2⟩
    go_wp2
    go_ret
    exact ⟨rfl, hb1.trans (hb2.mono hs1)⟩
end Go.Proofs.Ytlejdjbhbkknlaa
