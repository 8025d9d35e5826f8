/- The law on PlaceOf: two answers alike. -/
import Derived.Test.YtdpdlddbnpnabaaPlaceI
namespace Go.Proofs.Ytdpdlddbnpnabaa
open Go.RowKit

theorem place_is (s : ByteArray) (n : Int) : ∃ a b : Int, ∀ e, PlaceAns s n e → e = .returned (.tuple #[.int .i64 a, .int .i64 b]) := by
  by_cases h : 0 ≤ n ∧ n ≤ s.size
  · exact ⟨_, _, fun e he => he.1 h⟩
  · exact ⟨_, _, fun e he => he.2 h⟩

set_option maxHeartbeats 1600000 in
theorem lawPlaceOf (s : ByteArray) (n : Int) (w : World) (hs : s.size ≤ maxLen) (hn : (Lit.int .i64 n).wf = true) :
    Calls Try.prog 5 #[.string s, .int .i64 n] w fun e w' => e = .returned (.bool true) ∧ Below w.heap.size w w' := by
  unfold maxLen at hs
  by_cases h0 : 1048576 < s.size
  · go_enter Try.func5, Try.ntmps5
    go_wp2
    go_ret
    exact ⟨rfl, Below.refl _ _⟩
  · obtain ⟨a, b, hA⟩ := place_is s n
    have HA := hidOf hA
    clear hA
    have ha : (a != a) = false := by simp
    have hb : (b != b) = false := by simp
    go_enter Try.func5, Try.ntmps5
    go_wp2_with fail
    refine (sPlace_any s n _ (by omega) hn).mono ?_
    rintro e w ⟨he, rfl⟩
    obtain rfl := HA.out _ he
    clear he
    go_wp2_with fail
    refine (iPlace_any s n _ (by omega) hn).mono ?_
    rintro e w ⟨he, rfl⟩
    obtain rfl := HA.out _ he
    clear he
    go_wp2
    go_ret
    exact ⟨rfl, Below.refl _ _⟩
end Go.Proofs.Ytdpdlddbnpnabaa
