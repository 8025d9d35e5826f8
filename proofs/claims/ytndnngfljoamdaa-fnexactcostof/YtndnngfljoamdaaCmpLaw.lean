/- The laws on Compare and CostLess: two answers alike, and the arguments as they were. -/
import Derived.Test.YtndnngfljoamdaaCmp
import Derived.Test.YtndnngfljoamdaaLess
import Derived.Test.YtndnngfljoamdaaToInt
namespace Go.Proofs.Ytndnngfljoamdaa
open Go.RowKit

set_option maxHeartbeats 4000000 in
theorem lawCompare (a1 a2 : Option Addr) (c1 c2 : Nat) (us bs : List Int) (w : World) (hu0 : us.length ≤ 9223372036854775807) (hu : KidsAt w a1 us) (hv0 : bs.length ≤ 9223372036854775807) (hv : KidsAt w a2 bs) :
    Calls Try.prog 9 #[.slice a1 us.length c1, .slice a2 bs.length c2] w fun e w' => e = .returned (.bool true) ∧ Below w.heap.size w w' := by
  have hu1 := hu0
  have hv1 := hv0
  clear hu0 hv0
  by_cases hbig : (1048576 : Int) < (us.length : Int)
  · go_enter Try.func9, Try.ntmps9
    go_wp2
    go_ret
    exact ⟨rfl, Below.refl _ _⟩
  by_cases hbig2 : (1048576 : Int) < (bs.length : Int)
  · go_enter Try.func9, Try.ntmps9
    go_wp2
    go_ret
    exact ⟨rfl, Below.refl _ _⟩
  have hm0 : us.length ≤ 1048576 := by omega
  have hm1 : (us.length : Int) ≤ 1048576 := by omega
  have hn0 : bs.length ≤ 1048576 := by omega
  have hn1 : (bs.length : Int) ≤ 1048576 := by omega
  clear hbig hbig2
  obtain ⟨z, hz⟩ : ∃ z, z = cmpL us bs := ⟨_, rfl⟩
  have hne : (z != z) = false := by simp
  have HZ := hidOf hz
  clear hz
  go_enter Try.func9, Try.ntmps9
  go_wp2_with fail
  refine (toInts_any a1 c1 us _ hm0 hu).mono ?_
  rintro e w1 ⟨rfl, o1, A1⟩
  go_wp2_with fail
  refine (toInts_any a2 c2 bs _ hn0 (hv.below A1 (Nat.le_refl _))).mono ?_
  rintro e w2 ⟨rfl, o2, hb2⟩
  have A2 := A1.trans (hb2.mono A1.size)
  have o1 := owns_below o1 hb2
  clear hb2
  go_wp2_with fail
  refine (sCmp_any _ _ _ _ us bs _ hm0 hn0 (.of_own o1) (.of_own o2)).mono ?_
  rw [← HZ.out]
  rintro e w3 ⟨rfl, hb3⟩
  have A3 := A2.trans (hb3.mono A2.size)
  clear o1 o2 hb3
  go_wp2_with fail
  refine (toInts_any a1 c1 us _ hm0 (hu.below A3 (Nat.le_refl _))).mono ?_
  rintro e w4 ⟨rfl, o1, hb4⟩
  have A4 := A3.trans (hb4.mono A3.size)
  clear hb4
  go_wp2_with fail
  refine (toInts_any a2 c2 bs _ hn0 (hv.below A4 (Nat.le_refl _))).mono ?_
  rintro e w5 ⟨rfl, o2, hb5⟩
  have A5 := A4.trans (hb5.mono A4.size)
  have o1 := owns_below o1 hb5
  clear hb5
  go_wp2_with fail
  refine (iCmp_any _ _ _ _ us bs _ hm0 hn0 (.of_own o1) (.of_own o2)).mono ?_
  rw [← HZ.out]
  rintro e w5 ⟨rfl, rfl⟩
  go_wp2_with fail
  refine (toInts_any a1 c1 us _ hm0 (hu.below A5 (Nat.le_refl _))).mono ?_
  rintro e w6 ⟨rfl, o3, hb6⟩
  have A6 := A5.trans (hb6.mono A5.size)
  have o1 := owns_below o1 hb6
  have o2 := owns_below o2 hb6
  clear hb6
  go_wp2_with fail
  refine (eqInts_same _ _ _ _ us _ (by omega) (.of_own o1) (.of_own o3)).mono ?_
  rintro e w7 ⟨rfl, hb7⟩
  have A7 := A6.trans (hb7.mono A6.size)
  have o2 := owns_below o2 hb7
  clear hb7 o1 o3
  go_wp2_with fail
  refine (toInts_any a2 c2 bs _ hn0 (hv.below A7 (Nat.le_refl _))).mono ?_
  rintro e w8 ⟨rfl, o3, hb8⟩
  have A8 := A7.trans (hb8.mono A7.size)
  have o2 := owns_below o2 hb8
  clear hb8
  go_wp2_with fail
  refine (eqInts_same _ _ _ _ bs _ (by omega) (.of_own o2) (.of_own o3)).mono ?_
  rintro e w9 ⟨rfl, hb9⟩
  have A9 := A8.trans (hb9.mono A8.size)
  go_wp2
  go_ret
  exact ⟨rfl, A9⟩

theorem infoCo : (Try.prog.info? 50).map (·.size) = some 2 := by kernel_rfl
set_option maxHeartbeats 1600000 in
theorem toCo_any (o s : Int) (w : World) :
    Calls Try.prog 56 #[.agg #[.int .i64 o, .int .i64 s]] w fun e w' => e = .returned (.agg #[.int .i64 o, .int .i64 s]) ∧ Below w.heap.size w w' := by
  go_enter Try.func56, Try.ntmps56
  go_wp2
  refine bodyPost_ret (results_cell_row rfl _ _ (w.heap.size + 1) 50 #[.int .i64 o, .int .i64 s] (0, 0) _ rfl ?_ Try.underlying50 rfl infoCo) rfl ?_
  · rw [heap_alloc_old _ _ (by simp)]
    exact heap_alloc2_new w _ _
  · exact ⟨rfl, (((Below.refl _ _).alloc (Nat.le_refl _) _).alloc (by simp) _).alloc (by simp; omega) _⟩
end Go.Proofs.Ytndnngfljoamdaa
