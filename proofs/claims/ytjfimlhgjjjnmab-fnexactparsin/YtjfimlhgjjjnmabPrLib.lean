/- How many nodes are brackets, on both sides. -/
import Derived.Test.YtjfimlhgjjjnmabProg
import Derived.Test.YtjfimlhgjjjnmabNdLib
import Derived.BigQuiet
import Derived.Deep.QuietTactic
import Derived.WalkKit
namespace Go.Proofs.Ytjfimlhgjjjnmab
open Go.RowKit

/-- How many of them are brackets. -/
def parN (xs : List Nd) : Nat := (xs.filter (fun x => x.kind == 11)).length
theorem parN_at {l : List Nd} {k : Nat} {x : Nd} (h : l[k]? = some x) : parN (l.take (k + 1)) = parN (l.take k) + (if x.kind == 11 then 1 else 0) := by
  unfold parN
  rw [List.take_add_one, h, Option.toList_some, List.filter_append, List.length_append]
  cases hx : (x.kind == 11) <;> simp [List.filter, hx]
theorem parN_le (l : List Nd) : parN l ≤ l.length := List.length_filter_le _ _

set_option maxHeartbeats 4000000 in
set_option maxRecDepth 20000 in
theorem sPars_any (v : Value) (xs : List Nd) (w : World) (hn0 : xs.length ≤ 1048576) (h : NdsAt w v xs) :
    Calls Try.prog 5 #[v] w fun e w' => e = .returned (.int .i64 (parN xs : Nat)) ∧ Below w.heap.size w w' := by
  obtain ⟨a, c, rfl, h⟩ := h
  obtain ⟨n, hn⟩ : ∃ n, n = xs.length := ⟨_, rfl⟩
  rw [← hn] at h hn0 ⊢
  have HN := hidOf hn
  clear hn
  go_enter Try.func5, Try.ntmps5
  go_wp2
  go_loopw [3, 4] (fun v i wr => ∃ (j m : Nat), j ≤ n ∧ m ≤ j ∧ v = .int .i64 (m : Int) ∧ i = .int .i64 (j : Int) ∧ Hid (m = parN (xs.take j)) ∧ Below w.heap.size w wr) (fun _ i _ => n - (intOf i).toNat)
  case atStart => exact ⟨0, 0, Nat.zero_le _, Nat.le_refl _, rfl, rfl, hidOf rfl, Below.refl _ _⟩
  case round =>
    obtain ⟨j, m, hj, hm, rfl, rfl, HM, br⟩ := hrel
    by_cases hlt : j < n
    · obtain ⟨x, ex⟩ : ∃ x, xs[j]? = some x := ⟨_, List.getElem?_eq_getElem (by rw [← HN.out]; exact hlt)⟩
      obtain ⟨b1, o1, rfl, hb1, hc1⟩ := h (by omega)
      obtain ⟨ka, kc, g, -⟩ := hc1 j x ex
      obtain ⟨p0, p1, p2, p3⟩ := nd4 (w := wr) (fun i hi => by rw [br.cell hb1]; exact g i hi)
      have HT := hidOf (parN_at ex)
      obtain ⟨kd, hkd⟩ : ∃ kd, kd = x.kind := ⟨_, rfl⟩
      rw [← hkd] at p0 HT
      clear ex hc1 h g hkd
      have hA : (0 : Int) ≤ (j : Int) := by omega
      have hB : (j : Int) < (n : Int) := by omega
      cases h5 : (kd == 11)
      · have HX := hidOf (show m = parN (xs.take (j + 1)) by rw [HT.out, h5, ← HM.out]; rfl)
        go_wp2
        go_roundw
        case rel => exact ⟨j + 1, m, by omega, by omega, rfl, by go_num, HX, br⟩
        case measure => simp [intOf]; omega
      · have HX := hidOf (show m + 1 = parN (xs.take (j + 1)) by rw [HT.out, h5, ← HM.out]; rfl)
        go_wp2
        go_roundw
        case rel => exact ⟨j + 1, m + 1, by omega, by omega, by go_num, by go_num, HX, br⟩
        case measure => simp [intOf]; omega
    · have hC : ¬ (j : Int) < (n : Int) := by omega
      obtain rfl : j = n := by omega
      have HX := hidOf (show m = parN xs by rw [HM.out, List.take_of_length_le (by rw [← HN.out]; exact Nat.le_refl _)])
      go_wp2
      go_ret
      exact ⟨by rw [← HX.out]; rfl, br⟩
end Go.Proofs.Ytjfimlhgjjjnmab
