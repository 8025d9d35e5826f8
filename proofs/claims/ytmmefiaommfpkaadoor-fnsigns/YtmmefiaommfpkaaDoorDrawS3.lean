/- The drawn sources of the law on signs. -/
import Derived.Test.YtmmefiaommfpkaaDoorDrawS2
namespace Go.Proofs.YtmmefiaommfpkaaDoor
open Go.RowKit

def soL (u : ByteArray) : List ByteArray := [⟨#[39, 97]⟩, ⟨#[38]⟩, ⟨#[124]⟩, ⟨#[9]⟩, ⟨#[49, 50, 51, 52, 53, 54, 55, 56, 57, 48, 49, 50, 51]⟩, ⟨#[47, 47, 32, 7]⟩, ⟨#[36]⟩, u]
theorem soL_size {u t : ByteArray} (hu : u.size = 31) (h : t ∈ soL u) : t.size ≤ 31 := by
  simp only [soL, List.mem_cons, List.not_mem_nil, or_false] at h
  rcases h with rfl | rfl | rfl | rfl | rfl | rfl | rfl | rfl
  · decide
  · decide
  · decide
  · decide
  · decide
  · decide
  · decide
  · omega

set_option maxHeartbeats 4000000 in
theorem drawSource_any (base : Nat) (w : World) (a : Option Addr) (len cap : Nat) (hc : CodeAt base w a len) (hb : base ≤ w.heap.size) :
    Calls Tryd.prog 9 #[.slice a len cap] w fun e w' => StAns w 4000 e w' := by
  have HC := hidOf hc
  clear hc
  go_enter Tryd.func9, Tryd.ntmps9
  go_wp2_with fail
  refine (new_any base _ a len cap HC.out hb).mono ?_
  rintro e w1 ⟨blk, rfl, hblk, hc1, hb1⟩
  have hs1 := hb1.size
  go_wp2_with fail
  refine (below_any base _ blk a len cap 8 hc1 (by omega) (by omega)).mono ?_
  rintro e w2 ⟨y, hy, rfl, hc2, hg2⟩
  have hs2 := hg2.size
  have B2 := hb1.grown hg2 hs1 (fun k hk => by cases hk; exact hblk)
  clear hc1 hg2 hb1
  go_wp2_with fail
  refine (signs_any base _ blk a len cap hc2 (by omega)).mono ?_
  rintro e w3 ⟨v, xs, rfl, hl, hok, ho, hc3, hg3⟩
  obtain ⟨ao, cc, rfl⟩ := owns_slice ho
  have hs3 := hg3.size
  have B3 := B2.grown hg3 (by omega) (fun k hk => by cases hk; exact hblk)
  have hat := SgsAt.of_own ho
  have hds := dr_size hok
  clear hc2 hg3 B2 ho hok
  go_wp2_with fail
  refine (sFlat_any _ xs _ hl hds hat).mono ?_
  rintro e w3 ⟨s, hss, rfl, rfl⟩
  have HH := hidOf (And.intro hc3 B3)
  clear hat hds hc3 B3
  by_cases h0 : y = 0
  · subst h0
    go_wp2_with fail
    refine (long_any _ 31 97 (by omega)).mono ?_
    rintro e w4 ⟨u, hu, rfl, hb4⟩
    have hs4 := hb4.size
    have hc4 : Cur base w4 blk a len cap := HH.out.1.kept (grownBy_of_below hb4 none) (fun k hk => by cases hk)
    have B4 : Below w.heap.size w w4 := HH.out.2.trans (hb4.mono (by omega))
    have hbl := hc4.lt
    have hca : ∀ o, Cur base (w4.alloc o) blk a len cap := fun o => hc4.kept (World.grownBy_alloc w4 o none) (fun k hk => by cases hk)
    clear HH hc4 hb4
    go_wp2_with fail
    refine (pick_in base _ blk a len cap w4.heap.size 8 8 (soL u) (hca _) (by omega) (by omega) rfl (by omega) (by simp) (fun j _ => cells_at _ _ _ (soL u) rfl j)).mono ?_
    rintro e w5 ⟨t, ht, rfl, hc5, hg5⟩
    have hts := soL_size hu ht
    have HE := hidOf ((B4.alloc (by omega) _).grown hg5 (by simp; omega) (fun k hk => by cases hk; exact hblk))
    clear hc5 hg5 B4 hca ht hu
    go_wp2
    go_ret
    exact st_mk (by simp; omega) HE.out
  · have n0 : ((y : Int) == 0) = false := by rw [beq_eq_false_iff_ne]; omega
    by_cases h1 : y = 1
    · subst h1
      have e1 : (⟨#[10, 32, 10]⟩ : ByteArray).size = 3 := rfl
      have e2 : (⟨#[10, 10, 32, 32, 97]⟩ : ByteArray).size = 5 := rfl
      go_wp2
      go_ret
      exact st_mk (by simp; omega) HH.out.2
    · have n1 : ((y : Int) == 1) = false := by rw [beq_eq_false_iff_ne]; omega
      by_cases h2 : y = 2
      · subst h2
        go_wp2_with fail
        refine (below_any base _ blk a len cap 2 HH.out.1 (by omega) (by omega)).mono ?_
        rintro e w4 ⟨z, hz, rfl, hc4, hg4⟩
        have hs4 := hg4.size
        have HB := hidOf (HH.out.2.grown hg4 (by omega) (fun k hk => by cases hk; exact hblk))
        clear hc4 hg4 HH
        go_wp2_with fail
        rw [show ((3000 : Int) + (z : Int)) = ((3000 + z : Nat) : Int) by omega]
        refine (long_any _ (3000 + z) 32 (by omega)).mono ?_
        rintro e w5 ⟨u, hu, rfl, hb5⟩
        have HE := hidOf (HB.out.trans (hb5.mono (by omega)))
        clear HB hb5
        go_wp2
        go_ret
        exact st_mk (by omega) HE.out
      · have n2 : ((y : Int) == 2) = false := by rw [beq_eq_false_iff_ne]; omega
        go_wp2
        go_ret
        exact st_mk (by omega) HH.out.2
end Go.Proofs.YtmmefiaommfpkaaDoor
