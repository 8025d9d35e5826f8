/- How many edits are kept, and edits turned: KeptIn and BackOf on both sides. -/
import Derived.Test.YtdlpepmdjbmmmaaEdF
import Derived.Test.YtdlpepmdjbmmmaaAppPl
namespace Go.Proofs.Ytdlpepmdjbmmmaa
open Go.RowKit

/-- How many of the first k are kept. -/
def keptN (xs : List Ed) (k : Nat) : Nat := ((xs.take k).filter (fun x => x.kind == 1)).length
theorem keptN_zero (xs : List Ed) : keptN xs 0 = 0 := by simp [keptN]
theorem keptN_yes {xs : List Ed} {k : Nat} {x : Ed} (h : xs[k]? = some x) (h1 : x.kind = 1) : keptN xs (k + 1) = keptN xs k + 1 := by
  unfold keptN
  rw [List.take_add_one, h]
  simp [List.filter_append, h1]
theorem keptN_no {xs : List Ed} {k : Nat} {x : Ed} (h : xs[k]? = some x) (h1 : x.kind ≠ 1) : keptN xs (k + 1) = keptN xs k := by
  unfold keptN
  rw [List.take_add_one, h]
  simp [List.filter_append, h1]
theorem keptN_le (xs : List Ed) (k : Nat) : keptN xs k ≤ k := by
  unfold keptN
  refine Nat.le_trans (List.length_filter_le _ _) ?_
  simp
  omega
def kept (xs : List Ed) : Nat := keptN xs xs.length

set_option maxHeartbeats 3000000 in
theorem sKept_any (v : Value) (xs : List Ed) (w : World) (hn0 : xs.length ≤ 4194304) (hT : EdsAt w v xs) :
    Calls Try.prog 24 #[v] w fun e w' => e = .returned (.int .i64 (kept xs : Int)) ∧ Below w.heap.size w w' := by
  obtain ⟨a, c, rfl, h⟩ := hT
  unfold kept
  obtain ⟨n, hn⟩ : ∃ n, n = xs.length := ⟨_, rfl⟩
  rw [← hn] at h hn0 ⊢
  have HN := hidOf hn
  clear hn
  go_enter Try.func24, Try.ntmps24
  go_wp2
  go_loopw [3, 4] (fun c i wr => ∃ (k : Nat), k ≤ n ∧ i = .int .i64 k ∧ c = .int .i64 (keptN xs k : Int) ∧ Below w.heap.size w wr) (fun _ i _ => n - (intOf i).toNat)
  case atStart => exact ⟨0, Nat.zero_le _, rfl, by rw [keptN_zero]; rfl, Below.refl _ _⟩
  case round =>
    obtain ⟨k, hk, rfl, rfl, hb⟩ := hrel
    have hle := keptN_le xs k
    obtain ⟨q, hq⟩ : ∃ q, q = keptN xs k := ⟨_, rfl⟩
    rw [← hq] at hle ⊢
    have HQ := hidOf hq
    clear hq
    by_cases hlt : k < n
    · obtain ⟨x, ex⟩ : ∃ x, xs[k]? = some x := ⟨_, List.getElem?_eq_getElem (by rw [← HN.out]; exact hlt)⟩
      obtain ⟨b1, o1, rfl, hb1, hc1⟩ := h (by omega)
      obtain ⟨p0, p1⟩ := cells2 (w := wr) (fun j hj => by rw [hb.cell hb1]; exact hc1 k x ex j hj)
      have EX := hidOf ex
      clear ex hc1 h
      have hA : (0 : Int) ≤ (k : Int) := by omega
      have hB : (k : Int) < (n : Int) := by omega
      by_cases h1 : x.kind = 1
      · rw [h1] at p0
        have H1 := hidOf h1
        clear h1
        go_wp2
        go_roundw
        case rel => exact ⟨k + 1, by omega, by go_num, by rw [keptN_yes EX.out H1.out, ← HQ.out]; go_num, hb⟩
        case measure => simp [intOf]; omega
      · have n1 : (x.kind == 1) = false := by rw [beq_eq_false_iff_ne]; exact h1
        have H1 := hidOf h1
        clear h1
        go_wp2
        go_roundw
        case rel => exact ⟨k + 1, by omega, by go_num, by rw [keptN_no EX.out H1.out, ← HQ.out], hb⟩
        case measure => simp [intOf]; omega
    · have hkn : k = n := by omega
      subst hkn
      go_wp2
      go_ret
      exact ⟨ret_int (by rw [HQ.out]), hb⟩

set_option maxHeartbeats 3000000 in
theorem iKept_any (v : Value) (xs : List Ed) (w : World) (hn0 : xs.length ≤ 4194304) (hT : EdsAt w v xs) :
    Calls Try.prog 20 #[v] w fun e w' => e = .returned (.int .i64 (kept xs : Int)) ∧ Below w.heap.size w w' := by
  obtain ⟨a, c, rfl, h⟩ := hT
  unfold kept
  obtain ⟨n, hn⟩ : ∃ n, n = xs.length := ⟨_, rfl⟩
  rw [← hn] at h hn0 ⊢
  have HN := hidOf hn
  clear hn
  go_enter Try.func20, Try.ntmps20
  go_wp2
  go_loopw [3, 10] (fun c i wr => ∃ (k : Nat), k ≤ n ∧ i = .int .i64 k ∧ c = .int .i64 (keptN xs k : Int) ∧ Below w.heap.size w wr) (fun _ i _ => n - (intOf i).toNat)
  case atStart => exact ⟨0, Nat.zero_le _, rfl, by rw [keptN_zero]; rfl, Below.refl _ _⟩
  case round =>
    obtain ⟨k, hk, rfl, rfl, hb⟩ := hrel
    have hle := keptN_le xs k
    obtain ⟨q, hq⟩ : ∃ q, q = keptN xs k := ⟨_, rfl⟩
    rw [← hq] at hle ⊢
    have HQ := hidOf hq
    have hsz := hb.size
    clear hq
    by_cases hlt : k < n
    · obtain ⟨x, ex⟩ : ∃ x, xs[k]? = some x := ⟨_, List.getElem?_eq_getElem (by rw [← HN.out]; exact hlt)⟩
      obtain ⟨b1, o1, rfl, hb1, hc1⟩ := h (by omega)
      obtain ⟨p0, p1⟩ := cells2 (w := wr) (fun j hj => by rw [hb.cell hb1]; exact hc1 k x ex j hj)
      have EX := hidOf ex
      clear ex hc1 h
      have hA : (0 : Int) ≤ (k : Int) := by omega
      have hB : (k : Int) < (n : Int) := by omega
      go_wp2_with fail
      refine (iIn_any x _).mono ?_
      rintro e w2 ⟨rfl, hb2⟩
      have hs2 := hb2.size
      have hB2 : Below w.heap.size w w2 := (hb.alloc hsz _).trans (hb2.mono (by simp; omega))
      have hB2s := hB2.size
      by_cases h1 : x.kind = 1
      · rw [ifE_1 h1]
        have a1 := fun w => taKK (.agg #[.string x.line]) w
        have H1 := hidOf h1
        clear h1
        go_wp2
        go_roundw
        case rel => exact ⟨k + 1, by omega, by go_num, by rw [keptN_yes EX.out H1.out, ← HQ.out]; go_num, hB2.alloc hB2s _⟩
        case measure => simp [intOf]; omega
      · have H1 := hidOf h1
        by_cases h2 : x.kind = 2
        · rw [ifE_2 h2]
          have a1 := fun w => taDK (.agg #[.string x.line]) w
          clear h1 h2
          go_wp2
          go_roundw
          case rel => exact ⟨k + 1, by omega, by go_num, by rw [keptN_no EX.out H1.out, ← HQ.out], hB2.alloc hB2s _⟩
          case measure => simp [intOf]; omega
        by_cases h3 : x.kind = 3
        · rw [ifE_3 h3]
          have a1 := fun w => taAK (.agg #[.string x.line]) w
          clear h1 h2 h3
          go_wp2
          go_roundw
          case rel => exact ⟨k + 1, by omega, by go_num, by rw [keptN_no EX.out H1.out, ← HQ.out], hB2.alloc hB2s _⟩
          case measure => simp [intOf]; omega
        · rw [ifE_4 h1 h2 h3]
          have a1 := fun w => taSK (.agg #[.int .i64 x.kind, .string x.line]) w
          clear h1 h2 h3
          go_wp2
          go_roundw
          case rel => exact ⟨k + 1, by omega, by go_num, by rw [keptN_no EX.out H1.out, ← HQ.out], hB2.alloc hB2s _⟩
          case measure => simp [intOf]; omega
    · have hkn : k = n := by omega
      subst hkn
      go_wp2
      go_ret
      exact ⟨ret_int (by rw [HQ.out]), hb⟩
end Go.Proofs.Ytdlpepmdjbmmmaa
