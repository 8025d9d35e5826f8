/- What spec.SameSigns answers. -/
import Derived.Test.YtopfpadeeegcnaaProg
import Derived.Test.YtopfpadeeegcnaaSgLib
import Derived.BigQuiet
import Derived.Deep.QuietTactic
namespace Go.Proofs.Ytopfpadeeegcnaa
open Go.RowKit

set_option maxHeartbeats 4000000 in
theorem sSame_any (v1 v2 : Value) (xs ys : List Sg) (w : World) (hx0 : xs.length ≤ 4611686018427387904) (hy : ys.length ≤ 4611686018427387904) (h1 : SgsAt w v1 xs) (h2 : SgsAt w v2 ys) :
    Calls Try.prog 21 #[v1, v2] w fun e w' => e = .returned (.bool (sameAll xs ys)) ∧ Below w.heap.size w w' := by
  obtain ⟨a1, c1, rfl, h1⟩ := h1
  obtain ⟨a2, c2, rfl, h2⟩ := h2
  have hx := hx0
  clear hx0
  by_cases hl : xs.length = ys.length
  · rw [← hl] at h2
    rw [← hl] at hy
    obtain ⟨n, hn⟩ : ∃ n, n = xs.length := ⟨_, rfl⟩
    rw [← hn] at h1 h2 hx hy
    rw [← hl, ← hn]
    have HN := hidOf hn
    have HL := hidOf hl
    clear hn hl
    go_enter Try.func21, Try.ntmps21
    go_wp2
    go_loopw [5] (fun i wr => ∃ k q : Nat, k ≤ n ∧ i = .int .i64 k ∧ wr = w.drewN q ∧ Hid (∀ (j : Nat) (x y : Sg), j < k → xs[j]? = some x → ys[j]? = some y → same2 x y = true)) (fun i _ => n - (intOf i).toNat)
    case atStart => exact ⟨0, 0, Nat.zero_le _, rfl, rfl, hidOf fun j x y h => by omega⟩
    case round =>
      obtain ⟨k, q, hk, rfl, rfl, HA⟩ := hrel
      by_cases hlt : k < n
      · obtain ⟨x, ex⟩ : ∃ x, xs[k]? = some x := ⟨_, List.getElem?_eq_getElem (by rw [← HN.out]; exact hlt)⟩
        obtain ⟨y, ey⟩ : ∃ y, ys[k]? = some y := ⟨_, List.getElem?_eq_getElem (by rw [← HL.out, ← HN.out]; exact hlt)⟩
        obtain ⟨b1, o1, rfl, hb1, hc1⟩ := h1 (by omega)
        obtain ⟨b2, o2, rfl, hb2, hc2⟩ := h2 (by omega)
        obtain ⟨p0, p1, p2, p3⟩ := cells4 (w := w) (fun j hj => hc1 k x ex j hj)
        obtain ⟨q0, q1, q2, q3⟩ := cells4 (w := w) (fun j hj => hc2 k y ey j hj)
        have EX := hidOf ex
        have EY := hidOf ey
        clear ex ey hc1 hc2 h1 h2 p2 p3 q2 q3
        have hA : (0 : Int) ≤ (k : Int) := by omega
        have hB : (k : Int) < (n : Int) := by omega
        cases hk1 : (x.kind == y.kind)
        · have hm1 : (x.kind != y.kind) = true := by simp [bne, hk1]
          go_wp2
          go_quiet (fail)
          go_wp2
          go_ret
          exact ⟨ret_bool (sameAll_not k EX.out EY.out (by simp [same2, hk1])).symm, bel_drewN (below_drewN _ _) _⟩
        · have hm1 : (x.kind != y.kind) = false := by simp [bne, hk1]
          cases hk2 : (x.text.toList == y.text.toList)
          · have hm2 : (x.text.toList != y.text.toList) = true := by simp [bne, hk2]
            go_wp2
            go_quiet (fail)
            go_wp2
            go_ret
            exact ⟨ret_bool (sameAll_not k EX.out EY.out (by simp [same2, hk1, hk2])).symm, bel_drewN (below_drewN _ _) _⟩
          · have hm2 : (x.text.toList != y.text.toList) = false := by simp [bne, hk2]
            go_wp2
            go_quiet (fail)
            go_wp2
            go_roundw
            case rel => exact ⟨k + 1, q + nq, by omega, by go_num, rfl, hidOf fun j x' y' h1 h2 h3 => by
              by_cases e : j = k
              · subst e
                have e1 := EX.out
                have e2 := EY.out
                rw [h2] at e1
                rw [h3] at e2
                cases e1
                cases e2
                simp [same2, hk1, hk2]
              · exact HA.out j x' y' (by omega) h2 h3⟩
            case measure => simp [intOf]; omega
      · go_wp2
        go_ret
        exact ⟨ret_bool (sameAll_yes HL.out (fun j x y h2 h3 => HA.out j x y (by have := (List.getElem?_eq_some_iff.1 h2).1; rw [← HN.out] at this; omega) h2 h3)).symm, below_drewN _ _⟩
  · have hne : ((xs.length : Int) == (ys.length : Int)) = false := by rw [beq_eq_false_iff_ne]; omega
    have HL := hidOf hl
    clear hl h1 h2
    go_enter Try.func21, Try.ntmps21
    go_wp2
    go_ret
    exact ⟨ret_bool (sameAll_len HL.out).symm, Below.refl _ _⟩
end Go.Proofs.Ytopfpadeeegcnaa
