/- What spec.SameTree answers. -/
import Derived.Test.YthaffmoljegknaaProg
import Derived.Test.YthaffmoljegknaaNdLib
import Derived.BigQuiet
import Derived.Deep.QuietTactic
namespace Go.Proofs.Ythaffmoljegknaa
open Go.RowKit

theorem drewN_two (w : World) (a b : Nat) : (w.drewN a).drewN b = w.drewN (a + b) := by
  unfold World.drewN
  simp [Nat.add_assoc]

set_option maxHeartbeats 8000000 in
set_option maxRecDepth 20000 in
theorem sSame_any (v1 v2 : Value) (xs ys : List Nd) (w : World) (hx0 : xs.length ≤ 4611686018427387904) (hy : ys.length ≤ 4611686018427387904) (hf1 : KidsFew xs) (hf2 : KidsFew ys) (h1 : NdsAt w v1 xs) (h2 : NdsAt w v2 ys) :
    Calls Try.prog 5 #[v1, v2] w fun e w' => e = .returned (.bool (sameNds xs ys)) ∧ Below w.heap.size w w' := by
  obtain ⟨a1, c1, rfl, h1⟩ := h1
  obtain ⟨a2, c2, rfl, h2⟩ := h2
  have hx := hx0
  clear hx0
  by_cases hl : xs.length = ys.length
  · rw [← hl] at h2
    rw [← hl] at hy
    obtain ⟨n, hn⟩ : ∃ n, n = xs.length := ⟨_, rfl⟩
    rw [← hn] at h1 h2 hx hy
    rw [← hl, ← hn]
    have HN := hidOf hn
    have HL := hidOf hl
    clear hn hl
    go_enter Try.func5, Try.ntmps5
    go_wp2
    go_loopw [5] (fun i wr => ∃ k q : Nat, k ≤ n ∧ i = .int .i64 k ∧ wr = w.drewN q ∧ Hid (∀ (j : Nat) (x y : Nd), j < k → xs[j]? = some x → ys[j]? = some y → sameNd x y = true)) (fun i _ => n - (intOf i).toNat)
    case atStart => exact ⟨0, 0, Nat.zero_le _, rfl, rfl, hidOf fun j x y h => by omega⟩
    case round =>
      obtain ⟨k, q, hk, rfl, rfl, HA⟩ := hrel
      by_cases hlt : k < n
      · obtain ⟨x, ex⟩ : ∃ x, xs[k]? = some x := ⟨_, List.getElem?_eq_getElem (by rw [← HN.out]; exact hlt)⟩
        obtain ⟨y, ey⟩ : ∃ y, ys[k]? = some y := ⟨_, List.getElem?_eq_getElem (by rw [← HL.out, ← HN.out]; exact hlt)⟩
        obtain ⟨b1, o1, rfl, hb1, hc1⟩ := h1 (by omega)
        obtain ⟨b2, o2, rfl, hb2, hc2⟩ := h2 (by omega)
        obtain ⟨ka1, kc1, g1, K1⟩ := hc1 k x ex
        obtain ⟨ka2, kc2, g2, K2⟩ := hc2 k y ey
        have G1 := hf1 x (List.mem_of_getElem? ex)
        have G2 := hf2 y (List.mem_of_getElem? ey)
        obtain ⟨p0, p1, p2, p3⟩ := nd4 (w := w) g1
        obtain ⟨q0, q1, q2, q3⟩ := nd4 (w := w) g2
        have EX := hidOf ex
        have EY := hidOf ey
        clear ex ey hc1 hc2 h1 h2 g1 g2
        have hA : (0 : Int) ≤ (k : Int) := by omega
        have hB : (k : Int) < (n : Int) := by omega
        cases hk1 : (x.kind == y.kind)
        · have hm1 : (x.kind != y.kind) = true := by simp [bne, hk1]
          go_wp2
          go_quiet (fail)
          go_wp2
          go_ret
          exact ⟨ret_bool (sameNds_not k EX.out EY.out (by simp [sameNd, hk1])).symm, bel_drewN (below_drewN _ _) _⟩
        · have hm1 : (x.kind != y.kind) = false := by simp [bne, hk1]
          cases hk2 : (x.text.toList == y.text.toList)
          · have hm2 : (x.text.toList != y.text.toList) = true := by simp [bne, hk2]
            go_wp2
            go_quiet (fail)
            go_wp2
            go_ret
            exact ⟨ret_bool (sameNds_not k EX.out EY.out (by simp [sameNd, hk1, hk2])).symm, bel_drewN (below_drewN _ _) _⟩
          · have hm2 : (x.text.toList != y.text.toList) = false := by simp [bne, hk2]
            cases hk3 : (x.blank == y.blank)
            · have hm3 : (x.blank != y.blank) = true := by simp [bne, hk3]
              go_wp2
              go_quiet (fail)
              go_wp2
              go_ret
              exact ⟨ret_bool (sameNds_not k EX.out EY.out (by simp [sameNd, hk1, hk2, hk3])).symm, bel_drewN (below_drewN _ _) _⟩
            · have hm3 : (x.blank != y.blank) = false := by simp [bne, hk3]
              by_cases hkl : x.kids.length = y.kids.length
              · obtain ⟨m, hm⟩ : ∃ m, m = x.kids.length := ⟨_, rfl⟩
                unfold KidsAt at K1 K2
                rw [← hkl] at q2 K2
                rw [← hm] at p2 q2 K1 K2 G1
                have hm4 : ((m : Int) != (m : Int)) = false := by simp
                have HKL := hidOf hkl
                have HM := hidOf hm
                clear hkl hm G2
                go_wp2
                go_quiet (fail)
                go_wp2
                go_loopw [6] (fun i wr => ∃ u t : Nat, u ≤ m ∧ i = .int .i64 u ∧ wr = w.drewN t ∧ Hid (∀ (j : Nat) (a b : Int), j < u → x.kids[j]? = some a → y.kids[j]? = some b → a = b)) (fun i _ => m - (intOf i).toNat)
                case atStart => exact ⟨0, q + nq, Nat.zero_le _, rfl, drewN_two w q nq, hidOf fun j a b h => by omega⟩
                case round =>
                  obtain ⟨u, t, hu, rfl, rfl, HC⟩ := hrel
                  by_cases hult : u < m
                  · obtain ⟨a, ea⟩ : ∃ a, x.kids[u]? = some a := ⟨_, List.getElem?_eq_getElem (by rw [← HM.out]; exact hult)⟩
                    obtain ⟨b, eb⟩ : ∃ b, y.kids[u]? = some b := ⟨_, List.getElem?_eq_getElem (by rw [← HKL.out, ← HM.out]; exact hult)⟩
                    obtain ⟨b3, o3, rfl, hb3, hc3⟩ := K1 (by omega)
                    obtain ⟨b4, o4, rfl, hb4, hc4⟩ := K2 (by omega)
                    have r0 := hc3 u a ea
                    have r1 := hc4 u b eb
                    have EA := hidOf ea
                    have EB := hidOf eb
                    clear ea eb hc3 hc4 K1 K2
                    have hA2 : (0 : Int) ≤ (u : Int) := by omega
                    have hB2 : (u : Int) < (m : Int) := by omega
                    cases hab : (a == b)
                    · have hm5 : (a != b) = true := by simp [bne, hab]
                      go_wp2
                      go_quiet (fail)
                      go_wp2
                      go_ret
                      exact ⟨ret_bool (sameNds_not k EX.out EY.out (by simp only [sameNd, ints_not EA.out EB.out (by simpa using hab), Bool.and_false])).symm, bel_drewN (below_drewN _ _) _⟩
                    · have hm5 : (a != b) = false := by simp [bne, hab]
                      go_wp2
                      go_quiet (fail)
                      go_wp2
                      go_roundw
                      case rel => exact ⟨u + 1, t + nq, by omega, by go_num, rfl, hidOf fun j a' b' h1 h2 h3 => by
                        by_cases e : j = u
                        · subst e
                          have e1 := EA.out
                          have e2 := EB.out
                          rw [h2] at e1
                          rw [h3] at e2
                          cases e1
                          cases e2
                          simpa using hab
                        · exact HC.out j a' b' (by omega) h2 h3⟩
                      case measure => simp [intOf]; omega
                  · go_wp2
                    go_roundw
                    case rel => exact ⟨k + 1, t, by omega, by go_num, rfl, hidOf fun j x' y' h1 h2 h3 => by
                      by_cases e : j = k
                      · subst e
                        have e1 := EX.out
                        have e2 := EY.out
                        rw [h2] at e1
                        rw [h3] at e2
                        cases e1
                        cases e2
                        have hks : (x.kids == y.kids) = true := ints_yes HKL.out (fun j a b h2 h3 => HC.out j a b (by have := (List.getElem?_eq_some_iff.1 h2).1; rw [← HM.out] at this; omega) h2 h3)
                        simp only [sameNd, hk1, hk2, hk3, hks, Bool.and_self]
                      · exact HA.out j x' y' (by omega) h2 h3⟩
                    case measure => simp [intOf]; omega
              · have hm4 : ((x.kids.length : Int) != (y.kids.length : Int)) = true := by simp; omega
                have HKL := hidOf hkl
                clear hkl
                go_wp2
                go_quiet (fail)
                go_wp2
                go_ret
                exact ⟨ret_bool (sameNds_not k EX.out EY.out (by simp only [sameNd, ints_len HKL.out, Bool.and_false])).symm, bel_drewN (below_drewN _ _) _⟩
      · go_wp2
        go_ret
        exact ⟨ret_bool (sameNds_yes HL.out (fun j x y h2 h3 => HA.out j x y (by have := (List.getElem?_eq_some_iff.1 h2).1; rw [← HN.out] at this; omega) h2 h3)).symm, below_drewN _ _⟩
  · have hne : ((xs.length : Int) == (ys.length : Int)) = false := by rw [beq_eq_false_iff_ne]; omega
    have HL := hidOf hl
    clear hl h1 h2
    go_enter Try.func5, Try.ntmps5
    go_wp2
    go_ret
    exact ⟨ret_bool (sameNds_len HL.out).symm, Below.refl _ _⟩
end Go.Proofs.Ythaffmoljegknaa
