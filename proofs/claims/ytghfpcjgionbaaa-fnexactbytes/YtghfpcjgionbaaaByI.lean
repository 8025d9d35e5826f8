/- How many bytes of a text are no blank and no byte 10: what the program tells, and the law. -/
import Derived.Test.YtghfpcjgionbaaaByS
import Derived.Laws.IdiomStrings
namespace Go.Proofs.Ytghfpcjgionbaaa
open Go.RowKit

/-- The bytes of a text in a row of their own. -/
theorem bytes_row (t : ByteArray) (w : World) : ∃ (cap : Nat) (w5 : World), (convert 9 22 (.string t)).run Try.prog w = .ok (.slice (some ⟨w.heap.size, 0, none⟩) t.size cap) w5 ∧ Below w.heap.size w w5 ∧ w.heap.size < w5.heap.size ∧
    ∀ j, j < t.size → w5.cell? ⟨w.heap.size, j, none⟩ = some (.int .u8 (by8 t j)) := by
  refine ⟨_, _, run_bytes_of_string w _ _ _ t Try.underlying9 Try.underlying22 Try.underlying5, (Below.refl _ w).drew.alloc (Nat.le_refl _) _, ?_, fun j hj => ?_⟩
  · show w.heap.size < (w.heap.push _).size
    simp
  · have hd : j < t.data.size := hj
    refine (World.cell?_alloc_mark w.drew _ _ _ j).trans ?_
    rw [bytesRow_at t _ j hd, ← by8_at t j hj]
    rfl
def gapR (r : Int) : Bool := (r == 32) || (r == 10)
set_option maxHeartbeats 1600000 in
theorem part_any (r : Int) (w : World) : Calls Try.prog 60 #[.int .i32 r] w fun e w' => e = .returned (.bool (gapR r)) ∧ w' = w := by
  unfold gapR
  go_enter Try.func60, Try.ntmps60
  by_cases h1 : r = 32
  · have hb1 : (r == 32) = true := by simpa using h1
    clear h1
    go_wp2
    go_ret
    exact ⟨by first | rfl | simp [hb1], rfl⟩
  · have hb1 : (r == 32) = false := by simpa using h1
    clear h1
    go_wp2
    go_ret
    exact ⟨by first | rfl | simp [hb1], rfl⟩
set_option maxHeartbeats 1600000 in
theorem full_any (b : Int) (w : World) (hb : 0 ≤ b ∧ b ≤ 255) : Calls Try.prog 59 #[.int .u8 b] w fun e w' => e = .returned (.bool (fullB b)) ∧ w' = w := by
  have hw : IntKind.i32.wrap b = b := IntWalk.i32_in _ ⟨by omega, by omega⟩
  have q := fun W => part_any b W
  obtain ⟨c, hc⟩ : ∃ c, c = gapR b := ⟨_, rfl⟩
  rw [← hc] at q
  have HE := hidOf (show fullB b = !c by rw [hc]; unfold fullB gapR bne; cases (b == 32) <;> cases (b == 10) <;> rfl)
  clear hc
  go_enter Try.func59, Try.ntmps59
  go_wp2_with fail
  refine (q _).mono ?_
  rintro e w ⟨rfl, rfl⟩
  clear q
  go_wp2
  go_ret
  exact ⟨by rw [HE.out]; rfl, rfl⟩
set_option maxHeartbeats 1600000 in
theorem many_any (t : ByteArray) (g cap : Nat) (w : World) (hs : t.size ≤ 4194304) (hg : g < w.heap.size) (hc : ∀ j, j < t.size → w.cell? ⟨g, j, none⟩ = some (.int .u8 (by8 t j))) :
    Calls Try.prog 58 #[.slice (some ⟨g, 0, none⟩) t.size cap, .func (.func 59) #[] #[]] w fun e w' => e = .returned (.int .i64 (byN t t.size : Nat)) ∧ w' = w := by
  have HC := hidOf hc
  clear hc
  go_enter Try.func58, Try.ntmps58
  go_wp2
  go_loop [5, 10] (fun n i => ∃ k : Nat, k ≤ t.size ∧ n = .int .i64 (byN t k : Nat) ∧ i = .int .i64 k) (fun _ i => t.size - (intOf i).toNat)
  case atStart => exact ⟨0, Nat.zero_le _, rfl, rfl⟩
  case round =>
    obtain ⟨k, hk, rfl, rfl⟩ := hrel
    have hn := byN_le t k
    by_cases hlt : k < t.size
    · have hA : (0 : Int) ≤ (k : Int) := by omega
      have hB : (k : Int) < (t.size : Int) := by omega
      have ck := HC.out k hlt
      have q := fun W => full_any (by8 t k) W (by8_range t k)
      have HN : Hid (byN t (k + 1) = byN t k + (if fullB (by8 t k) = true then 1 else 0)) := hidOf rfl
      obtain ⟨b, hb⟩ : ∃ b, b = fullB (by8 t k) := ⟨_, rfl⟩
      rw [← hb] at q HN
      clear hb
      go_wp2_with fail
      refine (q _).mono ?_
      rintro e w ⟨rfl, rfl⟩
      clear q
      cases b with
      | true =>
        go_wp2
        go_round
        case rel => exact ⟨k + 1, by omega, by rw [HN.out]; go_num, by go_num⟩
        case measure => simp [intOf]; omega
      | false =>
        go_wp2
        go_round
        case rel => exact ⟨k + 1, by omega, by rw [HN.out]; rfl, by go_num⟩
        case measure => simp [intOf]; omega
    · have e : k = t.size := by omega
      go_wp2
      go_ret
      exact ⟨by first | rfl | (rw [e]; rfl), rfl⟩
set_option maxHeartbeats 1600000 in
theorem iBytes_any (t : ByteArray) (w : World) (hs : t.size ≤ 4194304) :
    Calls Try.prog 26 #[.string t] w fun e w' => e = .returned (.int .i64 (byN t t.size : Nat)) ∧ Below w.heap.size w w' := by
  obtain ⟨cap, w5, hcv, hb5, hs5, hrow⟩ := bytes_row t w
  go_enter Try.func26, Try.ntmps26
  go_wp2_with fail
  refine (many_any t w.heap.size cap w5 hs hs5 hrow).mono ?_
  rintro e w6 ⟨rfl, rfl⟩
  clear hcv
  go_wp2
  go_ret
  exact ⟨rfl, hb5⟩
set_option maxHeartbeats 1600000 in
theorem lawBytes (t : ByteArray) (w : World) (hs : t.size ≤ maxLen) : Calls Try.prog 5 #[.string t] w fun e w' => e = .returned (.bool true) ∧ Below w.heap.size w w' := by
  unfold maxLen at hs
  by_cases h0 : 1048576 < t.size
  · go_enter Try.func5, Try.ntmps5
    go_wp2
    go_ret
    exact ⟨rfl, Below.refl _ _⟩
  · have qS := fun W => sBytes_any t W (by omega)
    have qI := fun W => iBytes_any t W (by omega)
    obtain ⟨n, hn⟩ : ∃ n, n = byN t t.size := ⟨_, rfl⟩
    rw [← hn] at qS qI
    have hm : ((n : Int) != (n : Int)) = false := by simp
    clear hn
    go_enter Try.func5, Try.ntmps5
    go_wp2_with fail
    refine (qS _).mono ?_
    rintro e w ⟨rfl, rfl⟩
    go_wp2_with fail
    refine (qI _).mono ?_
    rintro e w2 ⟨rfl, hb⟩
    clear qS qI
    go_wp2
    go_ret
    exact ⟨rfl, hb⟩
end Go.Proofs.Ytghfpcjgionbaaa
