/- What szStringS tells of a list of texts, whatever is left. -/
import Derived.Test.YtdlpepmdjbmmmaaToS
namespace Go.Proofs.Ytdlpepmdjbmmmaa
open Go.RowKit

set_option maxHeartbeats 1600000 in
theorem szS_all (a : Option Addr) (n c : Nat) (ss : List ByteArray) (L : Int) (w : World) (hn : n ≤ 9223372036854775807) (hL0 : 0 ≤ L) (hL1 : L ≤ 1048576) (hT : TextsAt w a n ss) :
    Calls Try.prog 26 #[.slice a n c, .int .i64 L] w fun e w' => ∃ r : Int, e = .returned (.int .i64 r) ∧ ((r = -1) ∨ (0 ≤ r ∧ r ≤ 1048576 ∧ n ≤ 1048576 ∧ ∀ (j : Nat) (x : ByteArray), ss[j]? = some x → x.size ≤ 1048576)) ∧ w' = w := by
  by_cases hbig : L < n
  · go_enter Try.func26, Try.ntmps26
    go_wp2
    go_ret
    exact ⟨-1, rfl, .inl rfl, rfl⟩
  · have hl := hT.1
    have HL := hidOf hl
    clear hl
    go_enter Try.func26, Try.ntmps26
    go_wp2
    go_loop [1, 5] (fun r i => ∃ (k : Nat) (z : Int), k ≤ n ∧ r = .int .i64 z ∧ i = .int .i64 k ∧ 0 ≤ z ∧ z ≤ L ∧ Hid (∀ (j : Nat) (x : ByteArray), j < k → ss[j]? = some x → x.size ≤ 1048576)) (fun _ i => n - (intOf i).toNat)
    case atStart => exact ⟨0, L - n, Nat.zero_le _, by go_num, rfl, by omega, by omega, hidOf fun j x h => by omega⟩
    case round =>
      obtain ⟨k, z, hk, rfl, rfl, hz0, hz1, HA⟩ := hrel
      by_cases hlt : k < n
      · obtain ⟨t, ht⟩ : ∃ t, ss[k]? = some t := ⟨_, List.getElem?_eq_getElem (by rw [HL.out]; exact hlt)⟩
        obtain ⟨b, off, rfl, hlb, hcs⟩ := hT.2.2 (by omega)
        have hc := hcs k t ht
        have hts := hT.2.1 t (List.mem_of_getElem? ht)
        unfold maxLen at hts
        have EX := hidOf ht
        clear ht hcs
        have hA : (0 : Int) ≤ (k : Int) := by omega
        have hB : (k : Int) < (n : Int) := by omega
        by_cases hneg : z < t.size
        · go_wp2
          go_ret
          exact ⟨-1, rfl, .inl rfl, rfl⟩
        · go_wp2
          go_round
          case rel => exact ⟨k + 1, z - t.size, by omega, by go_num, by go_num, by omega, by omega, hidOf fun j y h1 h2 => by
            by_cases e : j = k
            · subst e
              have e1 := EX.out
              rw [h2] at e1
              cases e1
              omega
            · exact HA.out j y (by omega) h2⟩
          case measure => simp [intOf]; omega
      · go_wp2
        go_ret
        exact ⟨z, rfl, .inr ⟨hz0, by omega, by omega, fun j x h1 => HA.out j x (by have := (List.getElem?_eq_some_iff.1 h1).1; rw [HL.out] at this; omega) h1⟩, rfl⟩
end Go.Proofs.Ytdlpepmdjbmmmaa
