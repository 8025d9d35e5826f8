/- What the specification's helpers on texts and marks answer. -/
import Derived.Test.YtlpbhhgikgbfhaaDoorSgnS1
namespace Go.Proofs.YtlpbhhgikgbfhaaDoor
open Go.RowKit

/-- How long the text at a place is; 0: it has no end. -/
def qtRaw (t : ByteArray) (k : Nat) : Nat := if k + 1 + spn texB t (k + 1) < t.size ∧ by8 t (k + 1 + spn texB t (k + 1)) = 39 then spn texB t (k + 1) + 2 else 0
theorem qtSz_rest {t : ByteArray} {k : Nat} (hk : k < t.size) : qtSz (t.extract k t.size) = qtRaw t k := by
  unfold qtSz qtRaw
  rw [spn_rest, rest_size, by8_rest, show k + (1 + spn texB t (k + 1)) = k + 1 + spn texB t (k + 1) by omega]
  by_cases h : k + 1 + spn texB t (k + 1) < t.size ∧ by8 t (k + 1 + spn texB t (k + 1)) = 39
  · rw [if_pos h, if_pos ⟨by omega, h.2⟩]
    omega
  · rw [if_neg h, if_neg (fun h' => h ⟨by omega, h'.2⟩)]

set_option maxHeartbeats 1600000 in
theorem sQuoted_any (t : ByteArray) (k : Nat) (w : World) (hs : t.size ≤ 4194304) (hk : k < t.size) :
    Calls Tryd.prog 32 #[.string t, .int .i64 k] w fun e w' => e = .returned (.int .i64 (qtRaw t k)) ∧ w' = w := by
  have hby := by8_at t
  go_enter Tryd.func32, Tryd.ntmps32
  go_wp2
  go_loop [5] (fun i => ∃ j : Nat, k + 1 + j ≤ t.size ∧ i = .int .i64 ((k : Int) + 1 + j) ∧ Hid (∀ m, m < j → texB (by8 t (k + 1 + m)) = true)) (fun i => t.size - (intOf i).toNat)
  case atStart => exact ⟨0, by omega, by go_num, hidOf fun m h => by omega⟩
  case round =>
    obtain ⟨j, hj, rfl, HA⟩ := hrel
    by_cases hlt : k + 1 + j < t.size
    · have hA : (0 : Int) ≤ (k : Int) + 1 + j := by omega
      have hB : (k : Int) + 1 + j < (t.size : Int) := by omega
      have hbr := by8_range t (k + 1 + j)
      have hix : ((k : Int) + 1 + j).toNat = k + 1 + j := by omega
      by_cases h39 : by8 t (k + 1 + j) = 39
      · have hS : spn texB t (k + 1) = j := spn_is j (k + 1) hj HA.out (fun _ => by rw [h39]; rfl)
        have hr : qtRaw t k = j + 2 := by unfold qtRaw; rw [hS, if_pos ⟨hlt, h39⟩]
        have HR := hidOf hr
        have h39' : (by8 t (k + 1 + j) == 39) = true := by simp [h39]
        clear h39 hS hr
        go_wp2
        go_ret
        exact ⟨ret_int (by rw [HR.out]; omega), rfl⟩
      · have h39' : (by8 t (k + 1 + j) == 39) = false := by simpa using h39
        have hP := fun W => sPla_any (by8 t (k + 1 + j)) W
        have ht : texB (by8 t (k + 1 + j)) = plaB (by8 t (k + 1 + j)) := by
          unfold texB
          rw [bne, h39']
          simp
        cases hpl : plaB (by8 t (k + 1 + j))
        · rw [hpl] at hP ht
          have hS : spn texB t (k + 1) = j := spn_is j (k + 1) hj HA.out (fun _ => ht)
          have hr : qtRaw t k = 0 := by unfold qtRaw; rw [hS, if_neg (fun h => h39 h.2)]
          have HR := hidOf hr
          clear hS hpl h39 ht hr
          go_wp2_with fail
          refine (hP _).mono ?_
          rintro e w ⟨rfl, rfl⟩
          go_wp2
          go_ret
          exact ⟨ret_int (by rw [HR.out]; rfl), rfl⟩
        · rw [hpl] at hP ht
          have HP := hidOf ht
          clear hpl h39 ht
          go_wp2_with fail
          refine (hP _).mono ?_
          rintro e w ⟨rfl, rfl⟩
          go_wp2
          go_round
          case rel => exact ⟨j + 1, by omega, by go_num, hidOf fun m hm => by
            by_cases e : m = j
            · subst e; exact HP.out
            · exact HA.out m (by omega)⟩
          case measure => simp [intOf]; omega
    · have hS : spn texB t (k + 1) = j := spn_is j (k + 1) hj HA.out (fun h => by omega)
      have hr : qtRaw t k = 0 := by unfold qtRaw; rw [hS, if_neg (fun h => hlt h.1)]
      have HR := hidOf hr
      clear hS hr
      go_wp2
      go_ret
      exact ⟨ret_int (by rw [HR.out]; rfl), rfl⟩

/-- A mark stands at a place. -/
def Stands (t : ByteArray) (k : Nat) (m : ByteArray) : Prop := k + m.size ≤ t.size ∧ t.extract k (k + m.size) = m
theorem mkStrs_size : ∀ j, j < 21 → (mkStrs.getD j ByteArray.empty).size = if j < 5 then 2 else 1 := by decide
theorem mk_size {j : Nat} {m : ByteArray} (h : mkStrs[j]? = some m) : m.size = if j < 5 then 2 else 1 := by
  have hj : j < 21 := (List.getElem?_eq_some_iff.1 h).1
  have := mkStrs_size j hj
  rw [List.getD_eq_getElem?_getD, h] at this
  exact this
theorem mkIs_some {l : List UInt8} (h : mkIs l = true) : ∃ (j : Nat) (m : ByteArray), mkStrs[j]? = some m ∧ m.data.toList = l := by
  unfold mkIs at h
  rw [List.any_eq_true] at h
  obtain ⟨p, hp, he⟩ := h
  obtain ⟨j, hj, e⟩ := List.getElem_of_mem hp
  refine ⟨j, ⟨p.1.toArray⟩, ?_, ?_⟩
  · simp [mkStrs, hj, e]
  · simpa using he
theorem stands_take {t : ByteArray} {k n : Nat} {m : ByteArray} (hk : k ≤ t.size) (hn : n ≤ t.size - k) (h : m.data.toList = (t.extract k t.size).data.toList.take n) : m.size = n ∧ Stands t k m := by
  have hs : m.size = n := by
    have := congrArg List.length h
    rw [rest_bytes] at this
    simp at this
    omega
  refine ⟨hs, by omega, ?_⟩
  apply str_ext
  rw [bytes_ext, h, rest_bytes, hs, List.take_drop]
theorem stands_is {t : ByteArray} {k j : Nat} {m : ByteArray} (hm : mkStrs[j]? = some m) (h : Stands t k m) : mkIs ((t.extract k t.size).data.toList.take m.size) = true := by
  refine mkIs_at hm ?_
  rw [ByteArray.toList_eq, rest_bytes, List.take_drop, ← bytes_ext, h.2]
/-- No mark stands there. -/
theorem mkSz_not {t : ByteArray} {k : Nat} (hk : k ≤ t.size) (h : ∀ (j : Nat) (m : ByteArray), mkStrs[j]? = some m → ¬ Stands t k m) : mkSz (t.extract k t.size) = 0 := by
  unfold mkSz
  rw [rest_size, if_neg, if_neg]
  · rintro ⟨h1, h2⟩
    obtain ⟨j, m, hm, he⟩ := mkIs_some h2
    exact h j m hm (stands_take hk h1 he).2
  · rintro ⟨h1, h2⟩
    obtain ⟨j, m, hm, he⟩ := mkIs_some h2
    exact h j m hm (stands_take hk h1 he).2
/-- The first mark that stands there. -/
theorem mkSz_first {t : ByteArray} {k i : Nat} {m : ByteArray} (hk : k ≤ t.size) (h : ∀ (j : Nat) (m : ByteArray), j < i → mkStrs[j]? = some m → ¬ Stands t k m) (hm : mkStrs[i]? = some m) (hst : Stands t k m) : mkSz (t.extract k t.size) = m.size := by
  have hs := mk_size hm
  have hi := stands_is hm hst
  have hle := hst.1
  unfold mkSz
  rw [rest_size]
  by_cases h5 : i < 5
  · rw [if_pos h5] at hs
    rw [hs] at hi ⊢
    rw [if_pos ⟨by omega, hi⟩]
  · rw [if_neg h5] at hs
    rw [hs] at hi ⊢
    rw [if_neg, if_pos ⟨by omega, hi⟩]
    rintro ⟨h1, h2⟩
    obtain ⟨j, m2, hm2, he⟩ := mkIs_some h2
    obtain ⟨hs2, hst2⟩ := stands_take hk h1 he
    have hj := mk_size hm2
    rw [hs2] at hj
    by_cases hj5 : j < 5
    · exact h j m2 (by omega) hm2 hst2
    · rw [if_neg hj5] at hj
      omega

set_option maxHeartbeats 4000000 in
theorem sMarkAt_any (t : ByteArray) (k : Nat) (w : World) (hs : t.size ≤ 4194304) (hk : k < t.size) :
    Calls Tryd.prog 33 #[.string t, .int .i64 k] w fun e w' => e = .returned (.string (t.extract k (k + mkSz (t.extract k t.size)))) ∧ Below w.heap.size w w' := by
  go_enter Tryd.func33, Tryd.ntmps33
  go_wp2_with fail
  refine (sMarks_any _).mono ?_
  rintro e w1 ⟨hb, v, rfl, ho⟩
  rw [mkStrs_len] at ho
  rcases ho.2 with ⟨_, e⟩ | ⟨g, cap, cur, rfl, _⟩
  · omega
  go_wp2
  go_loopw [6] (fun i wr => ∃ (j q : Nat), j ≤ 21 ∧ i = .int .i64 j ∧ wr = w1.drewN q ∧ Hid (∀ (n : Nat) (m : ByteArray), n < j → mkStrs[n]? = some m → ¬ Stands t k m)) (fun i _ => 21 - (intOf i).toNat)
  case atStart => exact ⟨0, 0, by omega, rfl, rfl, hidOf fun n m h => by omega⟩
  case round =>
    obtain ⟨j, q, hj, rfl, rfl, HB⟩ := hrel
    by_cases hlt : j < 21
    · obtain ⟨m, hm⟩ : ∃ m, mkStrs[j]? = some m := ⟨_, List.getElem?_eq_getElem (by rw [mkStrs_len]; exact hlt)⟩
      have hc := ho.cellAt j (by omega)
      rw [show (strVals mkStrs)[j]? = some (.string m) by simp [strVals, hm]] at hc
      have hmsz : m.size ≤ 2 := by have := mk_size hm; split at this <;> omega
      have HM := hidOf hm
      clear hm
      have hA : (0 : Int) ≤ (j : Int) := by omega
      have hB : (j : Int) < 21 := by omega
      by_cases hfit : k + m.size ≤ t.size
      · have hfd : decide ((k : Int) + m.size ≤ (t.size : Int)) = true := by simp; omega
        have hfi : (k : Int) + m.size ≤ (t.size : Int) := by omega
        have hsl := str_slice (P := Tryd.prog) 9 t k (k + m.size) (k : Int) ((k : Int) + m.size) Tryd.underlying9 rfl (by omega) (by omega) hfit
        obtain ⟨u, hu⟩ : ∃ u, u = t.extract k (k + m.size) := ⟨_, rfl⟩
        rw [← hu] at hsl
        have HU := hidOf hu
        clear hu
        have hwr : IntKind.i64.wrap ((k : Int) + m.size) = (k : Int) + m.size := IntWalk.i64_in _ ⟨by omega, by omega⟩
        cases hE : (u.toList == m.toList)
        · go_wp2
          go_quiet (fail)
          go_wp2
          go_roundw
          case rel => exact ⟨j + 1, q + nq, by omega, by go_num, rfl, hidOf fun n m' h1 h2 => by
            by_cases e : n = j
            · subst e
              have := HM.out
              rw [h2] at this
              cases this
              intro h
              have h3 := h.2
              rw [← HU.out] at h3
              rw [h3] at hE
              simp at hE
            · exact HB.out n m' (by omega) h2⟩
          case measure => simp [intOf]; omega
        · go_wp2
          go_quiet (fail)
          go_wp2
          go_ret
          have hum : u = m := by rw [str_beq, decide_eq_true_eq] at hE; exact hE
          have hst : Stands t k m := ⟨hfit, by rw [← HU.out]; exact hum⟩
          refine ⟨ret_str ?_, bel_drewN hb _⟩
          rw [mkSz_first (by omega) HB.out HM.out hst]
          exact hst.2.symm
      · have hfd : decide ((k : Int) + m.size ≤ (t.size : Int)) = false := by simp; omega
        have hwr : IntKind.i64.wrap ((k : Int) + m.size) = (k : Int) + m.size := IntWalk.i64_in _ ⟨by omega, by omega⟩
        go_wp2
        go_quiet (fail)
        go_wp2
        go_roundw
        case rel => exact ⟨j + 1, q + nq, by omega, by go_num, rfl, hidOf fun n m' h1 h2 => by
          by_cases e : n = j
          · subst e
            have := HM.out
            rw [h2] at this
            cases this
            exact fun h => hfit h.1
          · exact HB.out n m' (by omega) h2⟩
        case measure => simp [intOf]; omega
    · go_wp2
      go_ret
      refine ⟨ret_str ?_, bel_drewN hb _⟩
      rw [mkSz_not (by omega) (fun n m h => HB.out n m (by have := (List.getElem?_eq_some_iff.1 h).1; rw [mkStrs_len] at this; omega) h)]
      apply str_ext
      rw [bytes_ext]
      simp
end Go.Proofs.YtlpbhhgikgbfhaaDoor
