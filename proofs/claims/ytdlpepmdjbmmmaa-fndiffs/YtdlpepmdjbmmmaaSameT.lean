/- The law's own comparison tells two lists of texts alike. -/
import Derived.Test.YtdlpepmdjbmmmaaCutLib
import Derived.Test.YtdlpepmdjbmmmaaProg
import Derived.WalkKit
import Derived.Laws.OwnMore
import Derived.BigQuiet
import Derived.Deep.QuietTactic
namespace Go.Proofs.Ytdlpepmdjbmmmaa
open Go.RowKit

set_option maxHeartbeats 800000 in
theorem same_any (v1 v2 : Value) (b1 b2 n : Nat) (ss : List ByteArray) (w : World) (hn : n ≤ 4611686018427387904)
    (h1 : w.ownsRow b1 9 1 v1 n (strVals ss)) (h2 : w.ownsRow b2 9 1 v2 n (strVals ss)) :
    Calls Try.prog 19 #[v1, v2] w fun e w' => e = .returned (.bool true) ∧ ∃ q, w' = w.drewN q := by
  have hl : ss.length = n := by have := h1.1; simpa [strVals] using this
  by_cases hz : n = 0
  · obtain ⟨a1, c1, rfl⟩ := owns_slice h1
    obtain ⟨a2, c2, rfl⟩ := owns_slice h2
    subst hz
    clear h1 h2 hl
    go_enter Try.func19, Try.ntmps19
    go_wp2
    go_loop [5] (fun i => i = .int .i64 0) (fun _ => 0)
    case atStart => rfl
    case round =>
      subst hrel
      go_wp2
      go_ret
      exact ⟨rfl, 0, rfl⟩
  · rcases h1.2 with ⟨_, e⟩ | ⟨g1, cap1, cur1, rfl, _⟩
    · omega
    rcases h2.2 with ⟨_, e⟩ | ⟨g2, cap2, cur2, rfl, _⟩
    · omega
    have hc1 : ∀ (j : Nat), j < n → w.cell? ⟨g1, j, none⟩ = some (.string (ss.getD j ByteArray.empty)) := fun j hj => by
      rw [h1.cellAt j (by omega)]
      simp [strVals, List.getD, List.getElem?_eq_getElem (show j < ss.length by omega)]
    have hc2 : ∀ (j : Nat), j < n → w.cell? ⟨g2, j, none⟩ = some (.string (ss.getD j ByteArray.empty)) := fun j hj => by
      rw [h2.cellAt j (by omega)]
      simp [strVals, List.getD, List.getElem?_eq_getElem (show j < ss.length by omega)]
    clear h1 h2 hl
    go_enter Try.func19, Try.ntmps19
    go_wp2
    go_loopw [5] (fun i wr => ∃ (k q : Nat), k ≤ n ∧ i = .int .i64 k ∧ wr = w.drewN q) (fun i _ => n - (intOf i).toNat)
    case atStart => exact ⟨0, 0, Nat.zero_le _, rfl, rfl⟩
    case round =>
      obtain ⟨k, q, hk, rfl, rfl⟩ := hrel
      by_cases hlt : k < n
      · obtain ⟨t, ht⟩ : ∃ t, t = ss.getD k ByteArray.empty := ⟨_, rfl⟩
        have d1 := hc1 k hlt
        have d2 := hc2 k hlt
        rw [← ht] at d1 d2
        clear ht
        have hA : (0 : Int) ≤ (k : Int) := by omega
        have hB : (k : Int) < (n : Int) := by omega
        clear hc1 hc2
        go_wp2
        go_quiet (fail)
        go_wp2
        go_roundw
        case rel => exact ⟨k + 1, q + nq, by omega, by go_num, rfl⟩
        case measure => simp [intOf]; omega
      · go_wp2
        go_ret
        exact ⟨rfl, q, rfl⟩

end Go.Proofs.Ytdlpepmdjbmmmaa
