/- What impl.SameRan answers. -/
import Derived.Test.YtdlbnllkfnfgoaaSrnS
import Derived.Test.YtdlbnllkfnfgoaaEqSl
import Derived.Test.YtdlbnllkfnfgoaaRanLib
namespace Go.Proofs.Ytdlbnllkfnfgoaa
open Go.RowKit

set_option maxHeartbeats 4000000 in
theorem iSameRan (xs ys : List Int) (a b : Option Addr) (c d : Nat) (r1 k1 s1 r2 k2 s2 : Int) (w : World) (hx : xs.length ≤ 4611686018427387904) (hy : ys.length ≤ 4611686018427387904) (h1 : KidsAt w a xs) (h2 : KidsAt w b ys) :
    Calls Try.prog 18 #[raV xs r1 k1 s1 a c, raV ys r2 k2 s2 b d] w fun e w' => e = .returned (.bool (sameRan xs ys r1 k1 s1 r2 k2 s2)) ∧ Below w.heap.size w w' := by
  obtain ⟨W2, hW2⟩ : ∃ W2, W2 = (w.alloc (.cells #[.slice a xs.length c, .int .i64 r1, .int .i64 k1, .int .i64 s1] 38)).alloc (.cells #[.slice b ys.length d, .int .i64 r2, .int .i64 k2, .int .i64 s2] 38) := ⟨_, rfl⟩
  have b2 : Below w.heap.size w W2 := by rw [hW2]; exact ((Below.refl _ _).alloc (Nat.le_refl _) _).alloc (by simp) _
  have X1 : Rx W2 w.heap.size ⟨xs, r1, k1, s1, a, c⟩ := by rw [hW2]; exact ⟨by simp; omega, by simp, by simp, by simp, by simp⟩
  have X2 : Rx W2 (w.heap.size + 1) ⟨ys, r2, k2, s2, b, d⟩ := by rw [hW2]; exact ⟨by simp, by simp, by simp, by simp, by simp⟩
  obtain ⟨u, hu⟩ : ∃ u, u = (xs == ys) := ⟨_, rfl⟩
  have q := eqSl_any a b c d xs ys W2 hx hy (h1.below b2 (Nat.le_refl _)) (h2.below b2 (Nat.le_refl _))
  rw [← hu] at q
  have HU := hidOf (show sameRan xs ys r1 k1 s1 r2 k2 s2 = (u && (r1 == r2) && (k1 == k2) && (s1 == s2)) by rw [hu]; rfl)
  have HB := hidOf b2
  rw [HU.out]
  have HW := hidOf hW2
  clear hu HU h1 h2 b2 hW2
  go_enter Try.func18, Try.ntmps18
  go_upto_region 1 with fail
  rw [← HW.out]
  clear HW
  obtain ⟨l1, c10, c11, c12, c13⟩ := X1
  obtain ⟨l2, c20, c21, c22, c23⟩ := X2
  dsimp only at c10 c11 c12 c13 c20 c21 c22 c23
  go_wp2_with fail
  refine q.mono ?_
  rintro e w3 ⟨rfl, hb3⟩
  have d11 := (hb3.cell (p := ⟨w.heap.size, 1, none⟩) l1).trans c11
  have d12 := (hb3.cell (p := ⟨w.heap.size, 2, none⟩) l1).trans c12
  have d13 := (hb3.cell (p := ⟨w.heap.size, 3, none⟩) l1).trans c13
  have d21 := (hb3.cell (p := ⟨w.heap.size + 1, 1, none⟩) l2).trans c21
  have d22 := (hb3.cell (p := ⟨w.heap.size + 1, 2, none⟩) l2).trans c22
  have d23 := (hb3.cell (p := ⟨w.heap.size + 1, 3, none⟩) l2).trans c23
  have HE := hidOf (HB.out.trans (hb3.mono HB.out.size))
  clear c10 c11 c12 c13 c20 c21 c22 c23 hb3 q
  cases u
  · go_wp2
    go_ret
    exact ⟨rfl, HE.out⟩
  · cases e1 : (r1 == r2)
    · go_wp2
      go_ret
      exact ⟨by rw [e1]; rfl, HE.out⟩
    · cases e2 : (k1 == k2)
      · go_wp2
        go_ret
        exact ⟨by rw [e1, e2]; rfl, HE.out⟩
      · go_wp2
        go_ret
        exact ⟨by rw [e1, e2]; rfl, HE.out⟩
end Go.Proofs.Ytdlbnllkfnfgoaa
