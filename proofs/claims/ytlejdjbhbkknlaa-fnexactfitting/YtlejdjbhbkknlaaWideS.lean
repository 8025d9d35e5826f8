/- What spec.WidestOf answers. -/
import Derived.Test.YtlejdjbhbkknlaaLineS
namespace Go.Proofs.Ytlejdjbhbkknlaa
open Go.RowKit

set_option maxHeartbeats 1600000 in
set_option maxRecDepth 20000 in
theorem sWide_any (s : ByteArray) (w : World) (hs : s.size ≤ 4194304) :
    Calls Try.prog 14 #[.string s] w fun e w' => e = .returned (.int .i64 (widest (lns s))) ∧ Below w.heap.size w w' := by
  have hmany := lns_many s
  go_enter Try.func14, Try.ntmps14
  go_wp2_with fail
  refine (sLines_any s _ hs).mono ?_
  rintro e w1 ⟨hb1, v, rfl, hown⟩
  obtain ⟨n, hn⟩ : ∃ n, n = (lns s).length := ⟨_, rfl⟩
  rw [← hn] at hown hmany
  have HN := hidOf hn
  clear hn
  obtain ⟨ao, cv, rfl⟩ := owns_slice hown
  go_wp2
  go_loop [3, 5] (fun r i => ∃ (k : Nat), k ≤ n ∧ r = .int .i64 (widest ((lns s).take k)) ∧ i = .int .i64 k) (fun _ i => n - (intOf i).toNat)
  case atStart => exact ⟨0, Nat.zero_le _, rfl, rfl⟩
  case round =>
    obtain ⟨k, hk, rfl, rfl⟩ := hrel
    by_cases hlt : k < n
    · obtain ⟨t, ht⟩ : ∃ t, (lns s)[k]? = some t := ⟨_, List.getElem?_eq_getElem (by rw [← HN.out]; exact hlt)⟩
      have hts := lns_size (List.mem_of_getElem? ht)
      obtain ⟨g, rfl⟩ := owns_at hown (by omega)
      have hc := hown.cellAt k (by omega)
      rw [show (strVals (lns s))[k]? = some (.string t) by simp [strVals, ht]] at hc
      have hw : widest ((lns s).take (k + 1)) = max (widest ((lns s).take k)) t.size := by
        rw [List.take_add_one, ht]
        exact widest_snoc _ _
      have HW := hidOf hw
      have HT2 := hidOf ht
      clear ht hw
      generalize hr : widest ((lns s).take k) = r at *
      have HR := hidOf hr
      clear hr
      have hA : (0 : Int) ≤ (k : Int) := by omega
      have hB : (k : Int) < (n : Int) := by omega
      by_cases hg : r < t.size
      · go_wp2
        go_round
        case rel => exact ⟨k + 1, by omega, by rw [HW.out, Nat.max_eq_right (by omega)], by go_num⟩
        case measure => simp [intOf]; omega
      · go_wp2
        go_round
        case rel => exact ⟨k + 1, by omega, by rw [HW.out, Nat.max_eq_left (by omega)], by go_num⟩
        case measure => simp [intOf]; omega
    · have hke : k = n := by omega
      have HK := hidOf hke
      clear hke
      go_wp2
      go_ret
      refine ⟨ret_int ?_, hb1⟩
      rw [HK.out, HN.out, List.take_length]
end Go.Proofs.Ytlejdjbhbkknlaa
