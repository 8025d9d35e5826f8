/- How many nodes are brackets: the program. -/
import Derived.Test.YtjfimlhgjjjnmabPrLib
namespace Go.Proofs.Ytjfimlhgjjjnmab
open Go.RowKit

/-- Whether a node is in brackets. -/
theorem iParK (kd : Int) (t : ByteArray) (ks : Value) (bl : Bool) (w : World) : Calls Try.prog 12 #[.agg #[.int .i64 kd, .string t, ks, .bool bl]] w fun e w' => e = .returned (.bool (kd == 11)) ∧ Below w.heap.size w w' := by
  obtain ⟨b, hb⟩ : ∃ b, b = (kd == 11) := ⟨_, rfl⟩
  rw [← hb]
  have hb1 := hb.symm
  clear hb
  have B0 : ∀ o, Below w.heap.size w (w.alloc o) := fun o => (Below.refl _ _).alloc (Nat.le_refl _) o
  go_enter Try.func12, Try.ntmps12
  go_wp2
  go_ret
  exact ⟨by first | rfl | (rw [← hb1]; rfl), B0 _⟩
set_option maxHeartbeats 4000000 in
set_option maxRecDepth 20000 in
theorem iHow_any (v : Value) (xs : List Nd) (w : World) (hn0 : xs.length ≤ 1048576) (h : NdsAt w v xs) :
    Calls Try.prog 11 #[v, .func (.func 12) #[] #[]] w fun e w' => e = .returned (.int .i64 (parN xs : Nat)) ∧ Below w.heap.size w w' := by
  obtain ⟨a, c, rfl, h⟩ := h
  obtain ⟨n, hn⟩ : ∃ n, n = xs.length := ⟨_, rfl⟩
  rw [← hn] at h hn0 ⊢
  have HN := hidOf hn
  clear hn
  go_enter Try.func11, Try.ntmps11
  go_wp2
  go_loopw [5, 10] (fun v i wr => ∃ (j m : Nat), j ≤ n ∧ m ≤ j ∧ v = .int .i64 (m : Int) ∧ i = .int .i64 (j : Int) ∧ Hid (m = parN (xs.take j)) ∧ Below w.heap.size w wr) (fun _ i _ => n - (intOf i).toNat)
  case atStart => exact ⟨0, 0, Nat.zero_le _, Nat.le_refl _, rfl, rfl, hidOf rfl, Below.refl _ _⟩
  case round =>
    obtain ⟨j, m, hj, hm, rfl, rfl, HM, br⟩ := hrel
    have hsz := br.size
    by_cases hlt : j < n
    · obtain ⟨x, ex⟩ : ∃ x, xs[j]? = some x := ⟨_, List.getElem?_eq_getElem (by rw [← HN.out]; exact hlt)⟩
      obtain ⟨b1, o1, rfl, hb1, hc1⟩ := h (by omega)
      obtain ⟨ka, kc, g, -⟩ := hc1 j x ex
      obtain ⟨p0, p1, p2, p3⟩ := nd4 (w := wr) (fun i hi => by rw [br.cell hb1]; exact g i hi)
      have HT := hidOf (parN_at ex)
      obtain ⟨kd, hkd⟩ : ∃ kd, kd = x.kind := ⟨_, rfl⟩
      rw [← hkd] at p0 HT
      have qK := fun W => iParK kd x.text (.slice ka x.kids.length kc) x.blank W
      obtain ⟨kb, hkb⟩ : ∃ kb, kb = (kd == 11) := ⟨_, rfl⟩
      rw [← hkb] at qK HT
      clear ex hc1 h g hkd hkb
      have hA : (0 : Int) ≤ (j : Int) := by omega
      have hB : (j : Int) < (n : Int) := by omega
      go_wp2_with fail
      refine (qK _).mono ?_
      rintro e w2 ⟨rfl, hb3⟩
      have B2 := hidOf (((br.alloc hsz _).trans (hb3.mono (Nat.le_trans hsz (by simp)))))
      clear qK hb3 br p0 p1 p2 p3
      cases kb with
      | true =>
        have HX := hidOf (show m + 1 = parN (xs.take (j + 1)) by rw [HT.out, ← HM.out]; rfl)
        go_wp2
        go_roundw
        case rel => exact ⟨j + 1, m + 1, by omega, by omega, by go_num, by go_num, HX, B2.out⟩
        case measure => simp [intOf]; omega
      | false =>
        have HX := hidOf (show m = parN (xs.take (j + 1)) by rw [HT.out, ← HM.out]; rfl)
        go_wp2
        go_roundw
        case rel => exact ⟨j + 1, m, by omega, by omega, rfl, by go_num, HX, B2.out⟩
        case measure => simp [intOf]; omega
    · have hC : ¬ (j : Int) < (n : Int) := by omega
      obtain rfl : j = n := by omega
      have HX := hidOf (show m = parN xs by rw [HM.out, List.take_of_length_le (by rw [← HN.out]; exact Nat.le_refl _)])
      go_wp2
      go_ret
      exact ⟨by rw [← HX.out]; rfl, br⟩
theorem iPars_any (v : Value) (xs : List Nd) (w : World) (hn0 : xs.length ≤ 1048576) (h : NdsAt w v xs) :
    Calls Try.prog 7 #[v] w fun e w' => e = .returned (.int .i64 (parN xs : Nat)) ∧ Below w.heap.size w w' := by
  have q := iHow_any v xs w hn0 h
  have hp := parN_le xs
  obtain ⟨p, hpp⟩ : ∃ p, p = parN xs := ⟨_, rfl⟩
  rw [← hpp] at q hp ⊢
  clear hpp h
  go_enter Try.func7, Try.ntmps7
  go_wp2_with fail
  refine q.mono ?_
  rintro e w2 ⟨rfl, hb⟩
  go_wp2
  go_ret
  exact ⟨rfl, hb⟩
end Go.Proofs.Ytjfimlhgjjjnmab
