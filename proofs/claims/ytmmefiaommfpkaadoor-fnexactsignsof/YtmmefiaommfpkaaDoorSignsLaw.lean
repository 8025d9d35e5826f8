/- The law on SignsOf: two answers alike, and what is answered owns its memory. -/
import Derived.Test.YtmmefiaommfpkaaDoorSignsI
import Derived.Test.YtmmefiaommfpkaaDoorSgnS6
import Derived.Test.YtmmefiaommfpkaaDoorEqSg
import Derived.Test.YtmmefiaommfpkaaDoorMarkSg
namespace Go.Proofs.YtmmefiaommfpkaaDoor
open Go.RowKit

theorem lexA_many (t : ByteArray) : ∀ (d k ends : Nat) (pre : List Sg), t.size - k ≤ d → (lexA t k ends pre).1.length ≤ pre.length + d
  | d, k, ends, pre, hd0 => by
    by_cases hk : k < t.size
    · obtain ⟨d, rfl⟩ : ∃ e, d = e + 1 := ⟨d - 1, by omega⟩
      by_cases h32 : by8 t k = 32
      · rw [lexA_blank hk h32]
        have := lexA_many t d (k + 1) ends pre (by omega)
        omega
      · by_cases h10 : by8 t k = 10
        · rw [lexA_line hk h10]
          have := lexA_many t d (k + 1) (ends + 1) pre (by omega)
          omega
        · by_cases hn : (hd (t.extract k t.size)).2 = 0
          · rw [lexA_none hk h32 h10 hn]
            exact Nat.zero_le _
          · rw [lexA_sign hk h32 h10 hn]
            have := lexA_many t d (k + (hd (t.extract k t.size)).2) 0 (pre ++ [⟨(hd (t.extract k t.size)).1, t.extract k (k + (hd (t.extract k t.size)).2), k, decide (1 < ends)⟩]) (by omega)
            simp only [List.length_append, List.length_cons, List.length_nil] at this
            omega
    · rw [lexA_end hk]
      exact Nat.le_add_right _ _
theorem sgn_many (t : ByteArray) : (sgn t).1.length ≤ 3000 ∧ (sgn t).2.1 ≤ 3000 + t.size := by
  constructor
  · by_cases h : 3000 < t.size
    · rw [sgn_long h]; exact Nat.zero_le _
    · rw [sgn_short h]
      have := lexA_many t t.size 0 0 [] (by omega)
      simp only [List.length_nil] at this
      omega
  · by_cases h : 3000 < t.size
    · rw [sgn_long h]; exact Nat.le_add_right _ _
    · rw [sgn_short h]
      have H : ∀ (d k ends : Nat) (pre : List Sg), t.size - k ≤ d → (lexA t k ends pre).2.1 ≤ t.size := by
        intro d
        induction d with
        | zero => intro k ends pre hd0; rw [lexA_end (by omega)]; exact Nat.zero_le _
        | succ d ih =>
          intro k ends pre hd0
          by_cases hk : k < t.size
          · by_cases h32 : by8 t k = 32
            · rw [lexA_blank hk h32]; exact ih _ _ _ (by omega)
            · by_cases h10 : by8 t k = 10
              · rw [lexA_line hk h10]; exact ih _ _ _ (by omega)
              · by_cases hn : (hd (t.extract k t.size)).2 = 0
                · rw [lexA_none hk h32 h10 hn]
                  show k ≤ t.size
                  omega
                · rw [lexA_sign hk h32 h10 hn]; exact ih _ _ _ (by omega)
          · rw [lexA_end hk]; exact Nat.zero_le _
      have := H t.size 0 0 [] (by omega)
      omega

set_option maxHeartbeats 8000000 in
theorem lawSignsOf (t : ByteArray) (w : World) (hs : t.size ≤ maxLen) :
    Calls Tryd.prog 4 #[.string t] w fun e w' => e = .returned (.bool true) ∧ Below w.heap.size w w' := by
  unfold maxLen at hs
  by_cases h0 : 1048576 < t.size
  · go_enter Tryd.func4, Tryd.ntmps4
    go_wp2
    go_ret
    exact ⟨rfl, Below.refl _ _⟩
  · have hm := sgn_many t
    have hS := fun W => sSigns_any t W (by omega)
    have hI := fun W => iSigns_any t W (by omega)
    unfold SgnAns at hS hI
    generalize sgn t = r at hS hI hm
    obtain ⟨xs, p, bo⟩ := r
    simp only at hS hI hm
    obtain ⟨hm1, hm2⟩ := hm
    have e1 : ((p : Int) != (p : Int)) = false := by simp
    have e2 : (bo != bo) = false := by simp
    have hq : ((1 : Int) + 4 * (xs.length : Int) != 1 + 4 * (xs.length : Int)) = false := by simp
    go_enter Tryd.func4, Tryd.ntmps4
    go_wp2_with fail
    refine (hS _).mono ?_
    rintro e w1 ⟨hb1, v0, rfl, ho0⟩
    have hs1 := hb1.size
    go_wp2_with fail
    refine (hI _).mono ?_
    rintro e w2 ⟨hb2, v1, rfl, ho1⟩
    have hs2 := hb2.size
    have hbw2 : Below w.heap.size w w2 := hb1.trans (hb2.mono hs1)
    have hne := own_other ho0 (Nat.le_refl _) ho1
    have ho0 := owns_below ho0 hb2
    go_wp2_with fail
    refine (eqSigns_same v1 v0 xs _ (by omega) (.of_own ho1) (.of_own ho0)).mono ?_
    rintro e w3 ⟨rfl, hb3⟩
    have hs3 := hb3.size
    have hbw3 : Below w.heap.size w w3 := hbw2.trans (hb3.mono (by omega))
    have ho0 := owns_below ho0 hb3
    have ho1 := owns_below ho1 hb3
    go_wp2_with fail
    refine (markSg_any v1 w1.heap.size xs.length 1 xs _ (by omega) (by omega) (by omega) ho1).mono ?_
    rintro e w4 ⟨rfl, ho1m, hg4⟩
    have hs4 := hg4.size
    have hbw4 : Below w.heap.size w w4 := hbw3.grown hg4 (by omega) (fun k hk => by have := (ho1.lt k hk).1; omega)
    have ho0m := World.ownsRow.kept ho0 hg4 hne
    clear ho1 ho0
    go_wp2_with fail
    refine (heldSg_any v1 xs.length 1 _ (by omega) (by omega) (by omega) (by have := SgsAt.of_own ho1m; exact this)).mono ?_
    rintro e w5 ⟨rfl, hb5⟩
    have hs5 := hb5.size
    have hbw5 : Below w.heap.size w w5 := hbw4.trans (hb5.mono (by omega))
    have ho1 := owns_below ho1m hb5
    have ho0 := owns_below ho0m hb5
    clear ho1m ho0m
    go_wp2_with fail
    refine (hI _).mono ?_
    rintro e w6 ⟨hb6, v2, rfl, ho2⟩
    have hs6 := hb6.size
    have hbw6 : Below w.heap.size w w6 := hbw5.trans (hb6.mono (by omega))
    have ho0 := owns_below ho0 hb6
    have ho1 := owns_below ho1 hb6
    go_wp2_with fail
    refine (eqSigns_same v2 v0 xs _ (by omega) (.of_own ho2) (.of_own ho0)).mono ?_
    rintro e w7 ⟨rfl, hb7⟩
    have hs7 := hb7.size
    have hbw7 : Below w.heap.size w w7 := hbw6.trans (hb7.mono (by omega))
    have ho1 := owns_below ho1 hb7
    go_wp2_with fail
    refine (heldSg_any v1 xs.length 1 _ (by omega) (by omega) (by omega) (.of_own ho1)).mono ?_
    rintro e w8 ⟨rfl, hb8⟩
    go_wp2
    go_ret
    exact ⟨rfl, hbw7.trans (hb8.mono (by omega))⟩
end Go.Proofs.YtmmefiaommfpkaaDoor
