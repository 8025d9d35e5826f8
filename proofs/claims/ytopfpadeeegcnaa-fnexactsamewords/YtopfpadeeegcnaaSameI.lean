/- What impl.SameSigns answers. -/
import Derived.Test.YtopfpadeeegcnaaProg
import Derived.Test.YtopfpadeeegcnaaSgLib
import Derived.BigQuiet
import Derived.Deep.QuietTactic
namespace Go.Proofs.Ytopfpadeeegcnaa
open Go.RowKit

set_option maxHeartbeats 1600000 in
theorem same2_any (x y : Sg) (w : World) :
    Calls Try.prog 27 #[.agg #[.int .i64 x.kind, .string x.text, .int .i64 x.place, .bool x.blank], .agg #[.int .i64 y.kind, .string y.text, .int .i64 y.place, .bool y.blank]] w fun e w' => e = .returned (.bool (same2 x y)) ∧ Below w.heap.size w w' := by
  cases hk : (x.kind == y.kind)
  all_goals go_enter Try.func27, Try.ntmps27
  all_goals go_wp2
  all_goals go_ret
  all_goals exact ⟨ret_bool (by simp [same2, hk]), ((Below.refl _ _).alloc (Nat.le_refl _) _).alloc (by simp) _⟩

set_option maxHeartbeats 1600000 in
theorem eqFunc_any (v1 v2 : Value) (xs ys : List Sg) (w : World) (hx0 : xs.length ≤ 4611686018427387904) (hy : ys.length ≤ 4611686018427387904) (h1 : SgsAt w v1 xs) (h2 : SgsAt w v2 ys) :
    Calls Try.prog 26 #[v1, v2, .func (.func 27) #[] #[]] w fun e w' => e = .returned (.bool (sameAll xs ys)) ∧ Below w.heap.size w w' := by
  obtain ⟨a1, c1, rfl, h1⟩ := h1
  obtain ⟨a2, c2, rfl, h2⟩ := h2
  have hx := hx0
  clear hx0
  by_cases hl : xs.length = ys.length
  · rw [← hl] at h2
    rw [← hl] at hy
    obtain ⟨n, hn⟩ : ∃ n, n = xs.length := ⟨_, rfl⟩
    rw [← hn] at h1 h2 hx hy
    rw [← hl, ← hn]
    have HN := hidOf hn
    have HL := hidOf hl
    clear hn hl
    go_enter Try.func26, Try.ntmps26
    go_wp2
    go_loopw [17] (fun i wr => ∃ k : Nat, k ≤ n ∧ i = .int .i64 k ∧ Below w.heap.size w wr ∧ Hid (∀ (j : Nat) (x y : Sg), j < k → xs[j]? = some x → ys[j]? = some y → same2 x y = true)) (fun i _ => n - (intOf i).toNat)
    case atStart => exact ⟨0, Nat.zero_le _, rfl, Below.refl _ _, hidOf fun j x y h => by omega⟩
    case round =>
      obtain ⟨k, hk, rfl, hb, HA⟩ := hrel
      by_cases hlt : k < n
      · obtain ⟨x, ex⟩ : ∃ x, xs[k]? = some x := ⟨_, List.getElem?_eq_getElem (by rw [← HN.out]; exact hlt)⟩
        obtain ⟨y, ey⟩ : ∃ y, ys[k]? = some y := ⟨_, List.getElem?_eq_getElem (by rw [← HL.out, ← HN.out]; exact hlt)⟩
        obtain ⟨b1, o1, rfl, hb1, hc1⟩ := h1 (by omega)
        obtain ⟨b2, o2, rfl, hb2, hc2⟩ := h2 (by omega)
        obtain ⟨p0, p1, p2, p3⟩ := cells4 (w := wr) (fun j hj => by rw [hb.cell hb1]; exact hc1 k x ex j hj)
        have hq := fun ob : Obj => cells4 (w := wr.alloc ob) (b := b2) (o := o2 + k * 4) (x := y) (fun j hj => by rw [(hb.alloc hb.size ob).cell hb2]; exact hc2 k y ey j hj)
        have q0 := fun ob => (hq ob).1
        have q1 := fun ob => (hq ob).2.1
        have q2 := fun ob => (hq ob).2.2.1
        have q3 := fun ob => (hq ob).2.2.2
        have EX := hidOf ex
        have EY := hidOf ey
        clear ex ey hc1 hc2 hq h1 h2
        have hA : (0 : Int) ≤ (k : Int) := by omega
        have hB : (k : Int) < (n : Int) := by omega
        go_wp2_with fail
        refine (same2_any x y _).mono ?_
        cases hS : same2 x y
        · rintro e w1 ⟨rfl, hb1⟩
          have hB1 := ((hb.alloc hb.size (.cells #[.int .i64 x.kind, .string x.text, .int .i64 x.place, .bool x.blank] 37)).alloc (by have := hb.size; simp; omega) (.cells #[.int .i64 y.kind, .string y.text, .int .i64 y.place, .bool y.blank] 37)).trans (hb1.mono (by have := hb.size; simp; omega))
          go_wp2
          go_ret
          exact ⟨ret_bool (sameAll_not k EX.out EY.out hS).symm, hB1⟩
        · rintro e w1 ⟨rfl, hb1⟩
          have hB1 := ((hb.alloc hb.size (.cells #[.int .i64 x.kind, .string x.text, .int .i64 x.place, .bool x.blank] 37)).alloc (by have := hb.size; simp; omega) (.cells #[.int .i64 y.kind, .string y.text, .int .i64 y.place, .bool y.blank] 37)).trans (hb1.mono (by have := hb.size; simp; omega))
          go_wp2
          go_roundw
          case rel => exact ⟨k + 1, by omega, by go_num, hB1, hidOf fun j x' y' h1 h2 h3 => by
            by_cases e : j = k
            · subst e
              have e1 := EX.out
              have e2 := EY.out
              rw [h2] at e1
              rw [h3] at e2
              cases e1
              cases e2
              exact hS
            · exact HA.out j x' y' (by omega) h2 h3⟩
          case measure => simp [intOf]; omega
      · go_wp2
        go_ret
        exact ⟨ret_bool (sameAll_yes HL.out (fun j x y h2 h3 => HA.out j x y (by have := (List.getElem?_eq_some_iff.1 h2).1; rw [← HN.out] at this; omega) h2 h3)).symm, hb⟩
  · have hne : ((xs.length : Int) == (ys.length : Int)) = false := by rw [beq_eq_false_iff_ne]; omega
    have HL := hidOf hl
    clear hl h1 h2
    go_enter Try.func26, Try.ntmps26
    go_wp2
    go_ret
    exact ⟨ret_bool (sameAll_len HL.out).symm, Below.refl _ _⟩

set_option maxHeartbeats 1600000 in
theorem iSame_any (v1 v2 : Value) (xs ys : List Sg) (w : World) (hx : xs.length ≤ 4611686018427387904) (hy : ys.length ≤ 4611686018427387904) (h1 : SgsAt w v1 xs) (h2 : SgsAt w v2 ys) :
    Calls Try.prog 23 #[v1, v2] w fun e w' => e = .returned (.bool (sameAll xs ys)) ∧ Below w.heap.size w w' := by
  have hE := eqFunc_any v1 v2 xs ys w hx hy h1 h2
  obtain ⟨a1, c1, rfl, h1⟩ := h1
  obtain ⟨a2, c2, rfl, h2⟩ := h2
  clear h1 h2
  go_enter Try.func23, Try.ntmps23
  go_wp2_with fail
  refine hE.mono ?_
  rintro e w1 ⟨rfl, hb1⟩
  go_wp2
  go_ret
  exact ⟨rfl, hb1⟩
end Go.Proofs.Ytopfpadeeegcnaa
