/- What StateLess answers, on both sides. -/
import Derived.Test.YtokfemlcamnaaaaStLib
import Derived.Test.YtokfemlcamnaaaaCmp
namespace Go.Proofs.Ytokfemlcamnaaaa
open Go.RowKit

set_option maxHeartbeats 1600000 in
theorem iSL_any (p q : Sp) (w : World) (hp : p.st.vals.length ≤ 1048576) (hq : q.st.vals.length ≤ 1048576) (k1 : KidsAt w p.a p.st.vals) (k2 : KidsAt w q.a q.st.vals) :
    Calls Try.prog 44 #[.agg #[.slice p.a p.st.vals.length p.c, .int .i64 p.st.sum], .agg #[.slice q.a q.st.vals.length q.c, .int .i64 q.st.sum]] w fun e w' => e = .returned (.bool (spLess p q)) ∧ Below w.heap.size w w' := by
  have HB : ∀ o1 o2 : Obj, Below w.heap.size w ((w.alloc o1).alloc o2) := fun o1 o2 => ((Below.refl _ _).alloc (Nat.le_refl _) _).alloc (by simp) _
  by_cases h1 : p.st.sum < q.st.sum
  · clear k1 k2
    go_enter Try.func44, Try.ntmps44
    go_wp2
    go_ret
    exact ⟨ret_bool (by simp [spLess, stLess, h1]), HB _ _⟩
  · by_cases h2 : p.st.sum = q.st.sum
    · have hE : (p.st.sum == q.st.sum) = true := by simpa using h2
      have hC : ∀ W : World, Below w.heap.size w W → Calls Try.prog 107 #[.slice p.a p.st.vals.length p.c, .slice q.a q.st.vals.length q.c] W fun e w' => e = .returned (.int .i64 (cmpL p.st.vals q.st.vals)) ∧ w' = W := fun W hW => iCmp_any p.a q.a p.c q.c p.st.vals q.st.vals W hp hq (k1.below hW (Nat.le_refl _)) (k2.below hW (Nat.le_refl _))
      have HR := hidOf (show spLess p q = decide (cmpL p.st.vals q.st.vals < 0) by simp [spLess, stLess, h2])
      have HC := hidOf hC
      have H1 := hidOf h1
      clear k1 k2 hC h2
      generalize cmpL p.st.vals q.st.vals = z at *
      by_cases h3 : z < 0
      · go_enter Try.func44, Try.ntmps44
        go_wp2_with (go_at_call 107; refine (HC.out _ (HB _ _)).mono ?_; rintro e w1 ⟨rfl, rfl⟩)
        go_ret
        exact ⟨ret_bool (by rw [HR.out]; try simpa using h3), HB _ _⟩
      · go_enter Try.func44, Try.ntmps44
        go_wp2_with (go_at_call 107; refine (HC.out _ (HB _ _)).mono ?_; rintro e w1 ⟨rfl, rfl⟩)
        go_ret
        exact ⟨ret_bool (by rw [HR.out]; try simpa using h3), HB _ _⟩
    · have hE : (p.st.sum == q.st.sum) = false := by simpa using h2
      clear k1 k2
      go_enter Try.func44, Try.ntmps44
      go_wp2
      go_ret
      exact ⟨ret_bool (by simp [spLess, stLess, h1, h2]), HB _ _⟩

set_option maxHeartbeats 1600000 in
theorem sSL_any (p q : Sp) (w : World) (hp : p.st.vals.length ≤ 1048576) (hq : q.st.vals.length ≤ 1048576) (k1 : KidsAt w p.a p.st.vals) (k2 : KidsAt w q.a q.st.vals) :
    Calls Try.prog 51 #[.agg #[.slice p.a p.st.vals.length p.c, .int .i64 p.st.sum], .agg #[.slice q.a q.st.vals.length q.c, .int .i64 q.st.sum]] w fun e w' => e = .returned (.bool (spLess p q)) ∧ Below w.heap.size w w' := by
  have HB : ∀ o1 o2 : Obj, Below w.heap.size w ((w.alloc o1).alloc o2) := fun o1 o2 => ((Below.refl _ _).alloc (Nat.le_refl _) _).alloc (by simp) _
  by_cases h1 : p.st.sum < q.st.sum
  · clear k1 k2
    go_enter Try.func51, Try.ntmps51
    go_wp2
    go_ret
    exact ⟨ret_bool (by simp [spLess, stLess, h1]), HB _ _⟩
  · by_cases h2 : p.st.sum = q.st.sum
    · have hE : (p.st.sum == q.st.sum) = true := by simpa using h2
      have hC : ∀ W : World, Below w.heap.size w W → Calls Try.prog 33 #[.slice p.a p.st.vals.length p.c, .slice q.a q.st.vals.length q.c] W fun e w' => e = .returned (.int .i64 (cmpL p.st.vals q.st.vals)) ∧ Below W.heap.size W w' := fun W hW => sCmp_any p.a q.a p.c q.c p.st.vals q.st.vals W hp hq (k1.below hW (Nat.le_refl _)) (k2.below hW (Nat.le_refl _))
      have HR := hidOf (show spLess p q = decide (cmpL p.st.vals q.st.vals < 0) by simp [spLess, stLess, h2])
      have HC := hidOf hC
      have H1 := hidOf h1
      clear k1 k2 hC h2
      generalize cmpL p.st.vals q.st.vals = z at *
      by_cases h3 : z < 0
      · go_enter Try.func51, Try.ntmps51
        go_wp2_with (go_at_call 33; refine (HC.out _ (HB _ _)).mono ?_; rintro e w1 ⟨rfl, hb1⟩)
        go_ret
        exact ⟨ret_bool (by rw [HR.out]; try simpa using h3), (HB _ _).trans (hb1.mono (HB _ _).size)⟩
      · go_enter Try.func51, Try.ntmps51
        go_wp2_with (go_at_call 33; refine (HC.out _ (HB _ _)).mono ?_; rintro e w1 ⟨rfl, hb1⟩)
        go_ret
        exact ⟨ret_bool (by rw [HR.out]; try simpa using h3), (HB _ _).trans (hb1.mono (HB _ _).size)⟩
    · have hE : (p.st.sum == q.st.sum) = false := by simpa using h2
      clear k1 k2
      go_enter Try.func51, Try.ntmps51
      go_wp2
      go_ret
      exact ⟨ret_bool (by simp [spLess, stLess, h1, h2]), HB _ _⟩
end Go.Proofs.Ytokfemlcamnaaaa
