/- What slices.Equal answers of two lists of numbers. -/
import Derived.Test.YtdlbnllkfnfgoaaProg
import Derived.Test.YtdlbnllkfnfgoaaIntLib
import Derived.BigQuiet
import Derived.Deep.QuietTactic
namespace Go.Proofs.Ytdlbnllkfnfgoaa
open Go.RowKit

theorem li_len {ks ls : List Int} (h : ks.length ≠ ls.length) : (ks == ls) = false := by
  rw [beq_eq_false_iff_ne]
  rintro rfl
  exact h rfl
theorem li_not {ks ls : List Int} {j : Nat} {x y : Int} (h1 : ks[j]? = some x) (h2 : ls[j]? = some y) (h : x ≠ y) : (ks == ls) = false := by
  rw [beq_eq_false_iff_ne]
  rintro rfl
  rw [h1] at h2
  injection h2 with h2
  exact h h2
theorem li_yes {ks ls : List Int} (hl : ks.length = ls.length) (h : ∀ (j : Nat) (x y : Int), ks[j]? = some x → ls[j]? = some y → x = y) : (ks == ls) = true := by
  rw [beq_iff_eq]
  apply List.ext_getElem hl
  intro j h1 h2
  exact h j _ _ (List.getElem?_eq_getElem h1) (List.getElem?_eq_getElem h2)
set_option maxHeartbeats 1600000 in
theorem eqSl_any (a1 a2 : Option Addr) (c1 c2 : Nat) (ks ls : List Int) (w : World) (hx0 : ks.length ≤ 4611686018427387904) (hy : ls.length ≤ 4611686018427387904) (h1 : KidsAt w a1 ks) (h2 : KidsAt w a2 ls) :
    Calls Try.prog 28 #[.slice a1 ks.length c1, .slice a2 ls.length c2] w fun e w' => e = .returned (.bool (ks == ls)) ∧ Below w.heap.size w w' := by
  have hx := hx0
  clear hx0
  by_cases hl : ks.length = ls.length
  · unfold KidsAt at h1 h2
    rw [← hl] at h2
    rw [← hl] at hy
    obtain ⟨n, hn⟩ : ∃ n, n = ks.length := ⟨_, rfl⟩
    rw [← hn] at h1 h2 hx hy
    rw [← hl, ← hn]
    have HN := hidOf hn
    have HL := hidOf hl
    clear hn hl
    obtain ⟨u, hu⟩ : ∃ u, u = (ks == ls) := ⟨_, rfl⟩
    rw [← hu]
    have HU := hidOf hu
    clear hu
    go_enter Try.func28, Try.ntmps28
    go_wp2
    go_loopw [13] (fun i wr => ∃ k q : Nat, k ≤ n ∧ i = .int .i64 k ∧ wr = w.drewN q ∧ Hid (∀ (j : Nat) (x y : Int), j < k → ks[j]? = some x → ls[j]? = some y → x = y)) (fun i _ => n - (intOf i).toNat)
    case atStart => exact ⟨0, 0, Nat.zero_le _, rfl, rfl, hidOf fun j x y h => by omega⟩
    case round =>
      obtain ⟨k, q, hk, rfl, rfl, HA⟩ := hrel
      by_cases hlt : k < n
      · obtain ⟨x, ex⟩ : ∃ x, ks[k]? = some x := ⟨_, List.getElem?_eq_getElem (by rw [← HN.out]; exact hlt)⟩
        obtain ⟨y, ey⟩ : ∃ y, ls[k]? = some y := ⟨_, List.getElem?_eq_getElem (by rw [← HL.out, ← HN.out]; exact hlt)⟩
        obtain ⟨b1, o1, rfl, hb1, hc1⟩ := h1 (by omega)
        obtain ⟨b2, o2, rfl, hb2, hc2⟩ := h2 (by omega)
        have p0 := hc1 k x ex
        have q0 := hc2 k y ey
        have EX := hidOf ex
        have EY := hidOf ey
        clear ex ey hc1 hc2 h1 h2
        have hA : (0 : Int) ≤ (k : Int) := by omega
        have hB : (k : Int) < (n : Int) := by omega
        cases hk1 : (x == y)
        · have hm1 : (x != y) = true := by simp [bne, hk1]
          go_wp2
          go_quiet (fail)
          go_wp2
          go_ret
          exact ⟨ret_bool (by rw [HU.out, li_not EX.out EY.out (by simpa using hk1)]), bel_drewN (below_drewN _ _) _⟩
        · have hm1 : (x != y) = false := by simp [bne, hk1]
          go_wp2
          go_quiet (fail)
          go_wp2
          go_roundw
          case rel => exact ⟨k + 1, q + nq, by omega, by go_num, rfl, hidOf fun j x' y' h1 h2 h3 => by
            by_cases e : j = k
            · subst e
              have e1 := EX.out
              have e2 := EY.out
              rw [h2] at e1
              rw [h3] at e2
              cases e1
              cases e2
              simpa using hk1
            · exact HA.out j x' y' (by omega) h2 h3⟩
          case measure => simp [intOf]; omega
      · go_wp2
        go_ret
        exact ⟨ret_bool (by rw [HU.out, li_yes HL.out (fun j x y h2 h3 => HA.out j x y (by have := (List.getElem?_eq_some_iff.1 h2).1; rw [← HN.out] at this; omega) h2 h3)]), below_drewN _ _⟩
  · have hne : ((ks.length : Int) == (ls.length : Int)) = false := by rw [beq_eq_false_iff_ne]; omega
    have HL := hidOf hl
    clear hl h1 h2
    go_enter Try.func28, Try.ntmps28
    go_wp2
    go_ret
    exact ⟨ret_bool (li_len HL.out).symm, Below.refl _ _⟩
end Go.Proofs.Ytdlbnllkfnfgoaa
