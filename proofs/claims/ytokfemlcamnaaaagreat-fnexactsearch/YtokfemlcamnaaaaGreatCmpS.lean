/- What spec.Compare answers. -/
import Derived.Test.YtokfemlcamnaaaaGreatProg
import Derived.Test.YtokfemlcamnaaaaGreatKaa
import Derived.BigQuiet
import Derived.Deep.QuietTactic
namespace Go.Proofs.YtokfemlcamnaaaaGreat
open Go.RowKit

def cmp1 (x y : Int) : Int := if x < y then -1 else if y < x then 1 else 0
/-- Which list is ahead. -/
def cmpL : List Int → List Int → Int
  | [], [] => 0
  | [], _ :: _ => -1
  | _ :: _, [] => 1
  | a :: us, b :: bs => if a < b then -1 else if b < a then 1 else cmpL us bs
theorem cmp_lt {us bs : List Int} {k : Nat} {x y : Int} (hx : us[k]? = some x) (hy : bs[k]? = some y) (h : x < y) : cmpL (us.drop k) (bs.drop k) = -1 := by
  have h1 := (List.getElem?_eq_some_iff.1 hx)
  have h2 := (List.getElem?_eq_some_iff.1 hy)
  rw [List.drop_eq_getElem_cons h1.1, List.drop_eq_getElem_cons h2.1, cmpL, h1.2, h2.2, if_pos h]
theorem cmp_gt {us bs : List Int} {k : Nat} {x y : Int} (hx : us[k]? = some x) (hy : bs[k]? = some y) (h : y < x) : cmpL (us.drop k) (bs.drop k) = 1 := by
  have h1 := (List.getElem?_eq_some_iff.1 hx)
  have h2 := (List.getElem?_eq_some_iff.1 hy)
  rw [List.drop_eq_getElem_cons h1.1, List.drop_eq_getElem_cons h2.1, cmpL, h1.2, h2.2, if_neg (by omega), if_pos h]
theorem cmp_eq {us bs : List Int} {k : Nat} {x y : Int} (hx : us[k]? = some x) (hy : bs[k]? = some y) (h1 : ¬ x < y) (h2 : ¬ y < x) : cmpL (us.drop k) (bs.drop k) = cmpL (us.drop (k + 1)) (bs.drop (k + 1)) := by
  have e1 := (List.getElem?_eq_some_iff.1 hx)
  have e2 := (List.getElem?_eq_some_iff.1 hy)
  rw [List.drop_eq_getElem_cons e1.1, List.drop_eq_getElem_cons e2.1, cmpL, e1.2, e2.2, if_neg h1, if_neg h2]
theorem cmp_end {us bs : List Int} {k : Nat} (h : us.length ≤ k) (h2 : bs.length ≤ k) : cmpL (us.drop k) (bs.drop k) = 0 := by
  rw [List.drop_of_length_le h, List.drop_of_length_le h2, cmpL]
theorem cmp_short {us bs : List Int} {k : Nat} (h : us.length ≤ k) (h2 : k < bs.length) : cmpL (us.drop k) (bs.drop k) = -1 := by
  rw [List.drop_of_length_le h, List.drop_eq_getElem_cons h2, cmpL]
theorem cmp_long {us bs : List Int} {k : Nat} (h : k < us.length) (h2 : bs.length ≤ k) : cmpL (us.drop k) (bs.drop k) = 1 := by
  rw [List.drop_of_length_le h2, List.drop_eq_getElem_cons h, cmpL]
theorem cmp_back : ∀ (us bs : List Int), cmpL bs us = - cmpL us bs
  | [], [] => rfl
  | [], _ :: _ => rfl
  | _ :: _, [] => rfl
  | a :: us, b :: bs => by
    rw [cmpL, cmpL]
    by_cases h1 : a < b
    · rw [if_neg (by omega), if_pos h1, if_pos h1]; rfl
    · by_cases h2 : b < a
      · rw [if_pos h2, if_neg h1, if_pos h2]
      · rw [if_neg h2, if_neg h1, if_neg h1, if_neg h2]; exact cmp_back us bs
theorem cmp_in (us bs : List Int) : cmpL us bs = -1 ∨ cmpL us bs = 0 ∨ cmpL us bs = 1 := by
  induction us generalizing bs with
  | nil => cases bs <;> simp [cmpL]
  | cons a us ih =>
    cases bs with
    | nil => simp [cmpL]
    | cons b bs =>
      rw [cmpL]
      split
      · exact .inl rfl
      · split
        · exact .inr (.inr rfl)
        · exact ih bs

set_option maxHeartbeats 4000000 in
theorem sCmp_any (a1 a2 : Option Addr) (c1 c2 : Nat) (us bs : List Int) (w : World) (hm0 : us.length ≤ 1048576) (hn0 : bs.length ≤ 1048576) (h1 : KidsAt w a1 us) (h2 : KidsAt w a2 bs) :
    Calls Tryz.prog 22 #[.slice a1 us.length c1, .slice a2 bs.length c2] w fun e w' => e = .returned (.int .i64 (cmpL us bs)) ∧ Below w.heap.size w w' := by
  unfold KidsAt at h1 h2
  obtain ⟨n, hn⟩ : ∃ n, n = us.length := ⟨_, rfl⟩
  obtain ⟨m, hm⟩ : ∃ m, m = bs.length := ⟨_, rfl⟩
  rw [← hn] at h1 hm0 ⊢
  rw [← hm] at h2 hn0 ⊢
  have HN := hidOf hn
  have HM := hidOf hm
  clear hn hm
  go_enter Tryz.func22, Tryz.ntmps22
  go_wp2
  go_loopw [5] (fun i wr => ∃ k q : Nat, k ≤ n ∧ k ≤ m ∧ i = .int .i64 k ∧ wr = w.drewN q ∧ Hid (cmpL (us.drop k) (bs.drop k) = cmpL us bs)) (fun i _ => n - (intOf i).toNat)
  case atStart => exact ⟨0, 0, Nat.zero_le _, Nat.zero_le _, rfl, rfl, hidOf rfl⟩
  case round =>
    obtain ⟨k, q, hk, hk2, rfl, rfl, HC⟩ := hrel
    have hA : (0 : Int) ≤ (k : Int) := by omega
    by_cases hlt : k < n
    · have hB : (k : Int) < (n : Int) := by omega
      by_cases hlt2 : k < m
      · have hB2 : (k : Int) < (m : Int) := by omega
        obtain ⟨x, ex⟩ : ∃ x, us[k]? = some x := ⟨_, List.getElem?_eq_getElem (by rw [← HN.out]; exact hlt)⟩
        obtain ⟨y, ey⟩ : ∃ y, bs[k]? = some y := ⟨_, List.getElem?_eq_getElem (by rw [← HM.out]; exact hlt2)⟩
        obtain ⟨b1, o1, rfl, hb1, hc1⟩ := h1 (by omega)
        obtain ⟨b2, o2, rfl, hb2, hc2⟩ := h2 (by omega)
        have p1 := hc1 k x ex
        have p2 := hc2 k y ey
        have EX := hidOf ex
        have EY := hidOf ey
        clear ex ey hc1 hc2 h1 h2
        by_cases g1 : x < y
        · have d1 : decide (x < y) = true := by simp [g1]
          have G := hidOf g1
          clear g1
          go_wp2
          go_quiet (fail)
          go_wp2
          go_ret
          exact ⟨ret_int (by rw [← HC.out, cmp_lt EX.out EY.out G.out]), bel_drewN (below_drewN _ _) _⟩
        · have d1 : decide (x < y) = false := by simp [g1]
          by_cases g2 : y < x
          · have d2 : decide (x > y) = true := by simpa using g2
            have G := hidOf g2
            clear g1 g2
            go_wp2
            go_quiet (fail)
            go_wp2
            go_quiet (fail)
            go_wp2
            go_ret
            exact ⟨ret_int (by rw [← HC.out, cmp_gt EX.out EY.out G.out]), bel_drewN (bel_drewN (below_drewN _ _) _) _⟩
          · have d2 : decide (x > y) = false := by simpa using g2
            have G1 := hidOf g1
            have G2 := hidOf g2
            clear g1 g2
            go_wp2
            go_quiet (fail)
            go_wp2
            go_quiet (fail)
            go_wp2
            go_roundw
            case rel => exact ⟨k + 1, _, by omega, by omega, by go_num, rfl, hidOf (by rw [← HC.out, cmp_eq EX.out EY.out (by have := G1.out; omega) (by have := G2.out; omega)])⟩
            case measure => simp [intOf]; omega
      · clear h1 h2
        have hlm : ¬ (n : Int) < (m : Int) := by omega
        have hlm2 : (n : Int) > (m : Int) := by omega
        go_wp2
        go_ret
        exact ⟨ret_int (by rw [← HC.out, cmp_long (by rw [← HN.out]; exact hlt) (by rw [← HM.out]; omega)]), below_drewN _ _⟩
    · clear h1 h2
      by_cases hlt2 : n < m
      · have hlm : (n : Int) < (m : Int) := by omega
        go_wp2
        go_ret
        exact ⟨ret_int (by rw [← HC.out, cmp_short (by rw [← HN.out]; omega) (by rw [← HM.out]; omega)]), below_drewN _ _⟩
      · have hlm : ¬ (n : Int) < (m : Int) := by omega
        have hlm2 : ¬ (n : Int) > (m : Int) := by omega
        go_wp2
        go_ret
        exact ⟨ret_int (by rw [← HC.out, cmp_end (by rw [← HN.out]; omega) (by rw [← HM.out]; omega)]), below_drewN _ _⟩
end Go.Proofs.YtokfemlcamnaaaaGreat
