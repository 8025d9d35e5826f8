/- What spec.SameRan answers. -/
import Derived.Test.YtdlbnllkfnfgoaaProg
import Derived.Test.YtdlbnllkfnfgoaaIntLib
import Derived.BigQuiet
import Derived.Deep.QuietTactic
import Derived.WalkKit
import Derived.Deep.CutBlock
namespace Go.Proofs.Ytdlbnllkfnfgoaa
open Go.RowKit

/-- The four cells of what a run tells. -/
def ranC (a : Option Addr) (n c : Nat) (r k s : Int) : Array Value := #[.slice a n c, .int .i64 r, .int .i64 k, .int .i64 s]
def sameRan (xs ys : List Int) (r1 k1 s1 r2 k2 s2 : Int) : Bool := (xs == ys) && (r1 == r2) && (k1 == k2) && (s1 == s2)
theorem ran_len {xs ys : List Int} {r1 k1 s1 r2 k2 s2 : Int} (h : xs.length ≠ ys.length) : sameRan xs ys r1 k1 s1 r2 k2 s2 = false := by
  have : (xs == ys) = false := by
    rw [beq_eq_false_iff_ne]
    rintro rfl
    exact h rfl
  unfold sameRan
  rw [this]
  rfl
theorem ran_not {xs ys : List Int} {r1 k1 s1 r2 k2 s2 x y : Int} {j : Nat} (h1 : xs[j]? = some x) (h2 : ys[j]? = some y) (h : x ≠ y) : sameRan xs ys r1 k1 s1 r2 k2 s2 = false := by
  have : (xs == ys) = false := by
    rw [beq_eq_false_iff_ne]
    rintro rfl
    rw [h1] at h2
    injection h2 with h2
    exact h h2
  unfold sameRan
  rw [this]
  rfl
theorem ran_yes {xs ys : List Int} {r k s : Int} (hl : xs.length = ys.length) (h : ∀ (j : Nat) (x y : Int), j < xs.length → xs[j]? = some x → ys[j]? = some y → x = y) : sameRan xs ys r k s r k s = true := by
  have : xs = ys := List.ext_getElem hl fun j h1 h2 => h j _ _ h1 (List.getElem?_eq_getElem h1) (List.getElem?_eq_getElem h2)
  subst this
  simp [sameRan]
set_option maxHeartbeats 4000000 in
set_option maxRecDepth 100000 in
theorem sSameRan (xs ys : List Int) (a b : Option Addr) (c d : Nat) (r1 k1 s1 r2 k2 s2 : Int) (w : World) (hx : xs.length ≤ 4611686018427387904) (h1 : KidsAt w a xs) (h2 : KidsAt w b ys) :
    Calls Try.prog 16 #[.agg #[.slice a xs.length c, .int .i64 r1, .int .i64 k1, .int .i64 s1], .agg #[.slice b ys.length d, .int .i64 r2, .int .i64 k2, .int .i64 s2]] w fun e w' => e = .returned (.bool (sameRan xs ys r1 k1 s1 r2 k2 s2)) ∧ Below w.heap.size w w' := by
  have HH := hidOf (And.intro h1 h2)
  clear h1 h2
  by_cases hl : xs.length = ys.length
  case neg =>
    have hn : ((xs.length : Int) != (ys.length : Int)) = true := by simpa using by omega
    rw [ran_len hl]
    clear hl
    go_enter Try.func16, Try.ntmps16
    go_wp2
    go_ret
    exact ⟨rfl, ((Below.refl _ _).alloc (Nat.le_refl _) _).alloc (by simp) _⟩
  have hn : ((xs.length : Int) != (ys.length : Int)) = false := by simpa using by omega
  have HL := hidOf hl
  clear hl
  cases q1 : (r1 == r2)
  case false =>
    have m1 : (r1 != r2) = true := by simp [bne, q1]
    have HE := hidOf (show sameRan xs ys r1 k1 s1 r2 k2 s2 = false by simp [sameRan, q1])
    rw [HE.out]
    clear q1
    go_enter Try.func16, Try.ntmps16
    go_wp2
    go_ret
    exact ⟨rfl, ((Below.refl _ _).alloc (Nat.le_refl _) _).alloc (by simp) _⟩
  have m1 : (r1 != r2) = false := by simp [bne, q1]
  cases q2 : (k1 == k2)
  case false =>
    have m2 : (k1 != k2) = true := by simp [bne, q2]
    have HE := hidOf (show sameRan xs ys r1 k1 s1 r2 k2 s2 = false by simp [sameRan, q2])
    rw [HE.out]
    clear q2 q1
    go_enter Try.func16, Try.ntmps16
    go_wp2
    go_ret
    exact ⟨rfl, ((Below.refl _ _).alloc (Nat.le_refl _) _).alloc (by simp) _⟩
  have m2 : (k1 != k2) = false := by simp [bne, q2]
  cases q3 : (s1 == s2)
  case false =>
    have m3 : (s1 != s2) = true := by simp [bne, q3]
    have HE := hidOf (show sameRan xs ys r1 k1 s1 r2 k2 s2 = false by simp [sameRan, q3])
    rw [HE.out]
    clear q3 q2 q1
    go_enter Try.func16, Try.ntmps16
    go_wp2
    go_ret
    exact ⟨rfl, ((Below.refl _ _).alloc (Nat.le_refl _) _).alloc (by simp) _⟩
  have m3 : (s1 != s2) = false := by simp [bne, q3]
  have HQ := hidOf (show r1 = r2 ∧ k1 = k2 ∧ s1 = s2 from ⟨by simpa using q1, by simpa using q2, by simpa using q3⟩)
  obtain ⟨R, hR⟩ : ∃ R, R = sameRan xs ys r1 k1 s1 r2 k2 s2 := ⟨_, rfl⟩
  rw [← hR]
  have HR := hidOf hR
  clear q1 q2 q3 hR
  obtain ⟨W2, hW2⟩ : ∃ W2, W2 = (w.alloc (.cells #[.slice a xs.length c, .int .i64 r1, .int .i64 k1, .int .i64 s1] 38)).alloc (.cells #[.slice b ys.length d, .int .i64 r2, .int .i64 k2, .int .i64 s2] 38) := ⟨_, rfl⟩
  have b2 : Below w.heap.size w W2 := by rw [hW2]; exact ((Below.refl _ _).alloc (Nat.le_refl _) _).alloc (by simp) _
  have HB := hidOf b2
  have e1 : W2.cell? ⟨w.heap.size, 0, none⟩ = some (.slice a xs.length c) := by rw [hW2]; simp
  have e2 : W2.cell? ⟨w.heap.size + 1, 0, none⟩ = some (.slice b ys.length d) := by rw [hW2]; simp
  have HK := hidOf (show KidsAt W2 a xs ∧ KidsAt W2 b ys from ⟨HH.out.1.below b2 (Nat.le_refl _), HH.out.2.below b2 (Nat.le_refl _)⟩)
  have HW := hidOf hW2
  clear hW2 b2 HH
  go_enter Try.func16, Try.ntmps16
  go_upto_region 3 with fail
  rw [← HW.out]
  clear HW
  go_wp2
  go_loopw [5] (fun i wr => ∃ j q : Nat, j ≤ xs.length ∧ i = .int .i64 (j : Int) ∧ wr = W2.drewN q ∧ Hid (∀ (i : Nat) (x y : Int), i < j → xs[i]? = some x → ys[i]? = some y → x = y)) (fun i _ => xs.length - (intOf i).toNat)
  case atStart => exact ⟨0, 0, Nat.zero_le _, rfl, rfl, hidOf fun i x y h => by omega⟩
  case round =>
    obtain ⟨j, q, hj, rfl, rfl, HI⟩ := hrel
    by_cases hlt : j < xs.length
    · obtain ⟨x, ex⟩ : ∃ x, xs[j]? = some x := ⟨_, List.getElem?_eq_getElem hlt⟩
      obtain ⟨y, ey⟩ : ∃ y, ys[j]? = some y := ⟨_, List.getElem?_eq_getElem (by rw [← HL.out]; exact hlt)⟩
      obtain ⟨b1, o1, rfl, hb1, hc1⟩ := HK.out.1 (by omega)
      obtain ⟨b3, o3, rfl, hb3, hc3⟩ := HK.out.2 (by rw [← HL.out]; omega)
      have p1 := hc1 j x ex
      have p3 := hc3 j y ey
      have EX := hidOf ex
      have EY := hidOf ey
      have hA : (0 : Int) ≤ (j : Int) := by omega
      have hB : (j : Int) < (xs.length : Int) := by omega
      have hB2 : (j : Int) < (ys.length : Int) := by rw [← HL.out]; exact hB
      clear ex ey hc1 hc3 HK
      cases hxy : (x == y)
      · have hm : (x != y) = true := by simp [bne, hxy]
        have HE := hidOf (show R = false by rw [HR.out]; exact ran_not EX.out EY.out (by simpa using hxy))
        go_wp2
        go_quiet (fail)
        go_wp2
        go_ret
        exact ⟨by rw [HE.out]; rfl, bel_drewN (bel_drewN HB.out _) _⟩
      · have hm : (x != y) = false := by simp [bne, hxy]
        have HI2 := hidOf (show ∀ (i : Nat) (x y : Int), i < j + 1 → xs[i]? = some x → ys[i]? = some y → x = y from fun i x' y' h1 h2 h3 => by
          by_cases e : i = j
          · subst e
            rw [EX.out] at h2
            rw [EY.out] at h3
            injection h2 with h2
            injection h3 with h3
            rw [← h2, ← h3]
            simpa using hxy
          · exact HI.out i x' y' (by omega) h2 h3)
        go_wp2
        go_quiet (fail)
        go_wp2
        go_roundw
        case rel => exact ⟨j + 1, q + nq, by omega, by go_num, rfl, HI2⟩
        case measure => simp [intOf]; omega
    · have hB : ¬ (j : Int) < (xs.length : Int) := by omega
      have HE := hidOf (show R = true by
        rw [HR.out]
        obtain ⟨rfl, rfl, rfl⟩ := HQ.out
        exact ran_yes HL.out fun i x y h => HI.out i x y (by omega))
      go_wp2
      go_ret
      exact ⟨by rw [HE.out]; rfl, bel_drewN HB.out _⟩
end Go.Proofs.Ytdlbnllkfnfgoaa
