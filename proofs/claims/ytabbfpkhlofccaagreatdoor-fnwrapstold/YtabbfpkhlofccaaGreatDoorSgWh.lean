/- A sign's own text is cut as that one sign. -/
import Derived.Test.YtabbfpkhlofccaaGreatDoorKae
namespace Go.Proofs.YtabbfpkhlofccaaGreatDoor
open Go.RowKit

theorem ext_size {r : ByteArray} {n : Nat} (h : n ≤ r.size) : (r.extract 0 n).size = n := by
  simp
  omega
theorem ext_by {r : ByteArray} {n j : Nat} (h : j < n) : by8 (r.extract 0 n) j = by8 r j := by rw [by8_ext (by omega), Nat.zero_add]
theorem ext_all (r : ByteArray) : r.extract 0 r.size = r := by simp
theorem ext_ext {r : ByteArray} {n m : Nat} (h : m ≤ n) : (r.extract 0 n).extract 0 m = r.extract 0 m := by
  apply str_ext
  rw [bytes_ext, bytes_ext, bytes_ext, List.drop_zero, List.drop_zero, List.drop_zero, List.take_take, Nat.min_eq_left h]
/-- What is trimmed does not end with a blank. -/
theorem trimB_last (s : ByteArray) : ∃ m, m ≤ s.size ∧ trimB s = s.extract 0 m ∧ (trimB s).size = m ∧ (0 < m → by8 s (m - 1) ≠ 32) := by
  have H : ∀ k, k ≤ s.size → (∀ j, k ≤ j → j < s.size → by8 s j = 32) → ∃ m, m ≤ s.size ∧ s.extract 0 m = trimB s ∧ (0 < m → by8 s (m - 1) ≠ 32) := by
    intro k
    induction k with
    | zero => exact fun hk h => ⟨0, hk, trimB_is hk h (fun h => by omega), fun h => by omega⟩
    | succ k ih =>
      intro hk h
      by_cases e : by8 s k = 32
      · exact ih (by omega) (fun j h1 h2 => by
          by_cases e' : j = k
          · subst e'; exact e
          · exact h j (by omega) h2)
      · exact ⟨k + 1, hk, trimB_is hk h (fun _ => by simpa using e), fun _ => by simpa using e⟩
  obtain ⟨m, h1, h2, h3⟩ := H s.size (Nat.le_refl _) (fun j h1 h2 => by omega)
  refine ⟨m, h1, h2.symm, ?_, h3⟩
  rw [← h2]
  exact ext_size h1
theorem hd_whole (r : ByteArray) (hn : (hd r).2 ≠ 0) (h4 : (hd r).1 ≠ 4) : hd (r.extract 0 (hd r).2) = hd r := by
  have hl := hd_le r
  have hs := ext_size hl
  have hb := fun j (h : j < (hd r).2) => ext_by (r := r) h
  have hpos : 0 < (hd r).2 := by omega
  by_cases h1 : figB (by8 r 0) = true
  · have e := hd_fig h1
    have hsp := spn_le (p := figB) (s := r) (k := 0) (Nat.zero_le _)
    have ha := spn_all (p := figB) (s := r) (k := 0) (Nat.zero_le _)
    have hc : (hd r).2 = spn figB r 0 ∧ spn figB r 0 ≤ 12 := by
      rw [e] at hn ⊢
      unfold capN at hn ⊢
      split at hn
      · exact absurd rfl hn
      · rename_i h; rw [if_neg h]; exact ⟨rfl, by omega⟩
    have e2 : spn figB (r.extract 0 (hd r).2) 0 = (hd r).2 := spn_is _ 0 (by omega) (fun j hj => by rw [Nat.zero_add, hb j hj]; have := ha j (by omega); rwa [Nat.zero_add] at this) (fun h => by omega)
    rw [hd_fig (by rw [hb 0 hpos]; exact h1), e2, e]
    have hc1 : capN 12 (hd r).2 = (hd r).2 := by unfold capN; rw [if_neg (by omega)]
    rw [← e, hc1, e]
  have h1' : figB (by8 r 0) = false := by simpa using h1
  by_cases h2 : firB (by8 r 0) = true
  · have e := hd_nam h1' h2
    have hsp := spn_le (p := namB) (s := r) (k := 0) (Nat.zero_le _)
    have ha := spn_all (p := namB) (s := r) (k := 0) (Nat.zero_le _)
    have hc : (hd r).2 = spn namB r 0 ∧ spn namB r 0 ≤ 30 := by
      rw [e] at hn ⊢
      unfold capN at hn ⊢
      split at hn
      · exact absurd rfl hn
      · rename_i h; rw [if_neg h]; exact ⟨rfl, by omega⟩
    have e2 : spn namB (r.extract 0 (hd r).2) 0 = (hd r).2 := spn_is _ 0 (by omega) (fun j hj => by rw [Nat.zero_add, hb j hj]; have := ha j (by omega); rwa [Nat.zero_add] at this) (fun h => by omega)
    rw [hd_nam (by rw [hb 0 hpos]; exact h1') (by rw [hb 0 hpos]; exact h2), e2]
    have hc1 : capN 30 (hd r).2 = (hd r).2 := by unfold capN; rw [if_neg (by omega)]
    rw [hc1]
    rw [e]
  have h2' : firB (by8 r 0) = false := by simpa using h2
  by_cases h3 : by8 r 0 = 39
  · have e := hd_qt h1' h2' h3
    have ha := spn_all (p := texB) (s := r) (k := 1)
    obtain ⟨m, hm⟩ : ∃ m, m = spn texB r 1 := ⟨_, rfl⟩
    rw [← hm] at ha
    have hc : (hd r).2 = m + 2 ∧ 1 + m < r.size ∧ by8 r (1 + m) = 39 := by
      rw [e] at hn ⊢
      unfold qtSz at hn ⊢
      rw [← hm] at hn ⊢
      split at hn
      · rename_i h; rw [if_pos h]; exact ⟨by show 1 + m + 1 = m + 2; omega, h⟩
      · exact absurd rfl hn
    obtain ⟨c1, c2, c3⟩ := hc
    have e2 : spn texB (r.extract 0 (hd r).2) 1 = m := spn_is _ 1 (by omega) (fun j hj => by rw [hb _ (by omega)]; exact ha (by omega) j hj) (fun h => by rw [hb _ (by omega), c3]; decide)
    rw [hd_qt (by rw [hb 0 hpos]; exact h1') (by rw [hb 0 hpos]; exact h2') (by rw [hb 0 hpos]; exact h3)]
    have e3 : qtSz (r.extract 0 (hd r).2) = (hd r).2 := by
      unfold qtSz
      rw [e2, if_pos ⟨by omega, by rw [hb _ (by omega)]; exact c3⟩]
      omega
    rw [e3]
    rw [e]
  by_cases h5 : by8 r 0 = 47 ∧ by8 r 1 = 47
  · have e := hd_nt h5
    have h2n : 2 ≤ (hd r).2 := by
      rw [e] at hn ⊢
      exact nt_two h5 hn
    have hsp := spn_le (p := plaB) (s := r) (k := 0) (Nat.zero_le _)
    have ha := spn_all (p := plaB) (s := r) (k := 0) (Nat.zero_le _)
    obtain ⟨m, hm1, hm2, hm3, hm4⟩ := trimB_last (r.extract 0 (spn plaB r 0))
    rw [ext_size (by omega)] at hm1
    have hc : (hd r).2 = m := by
      rw [e] at hn ⊢
      unfold ntSz at hn ⊢
      split at hn
      · exact absurd rfl hn
      · rename_i h; rw [if_neg h]; exact hm3
    rw [hd_nt ⟨by rw [hb 0 hpos]; exact h5.1, by rw [hb 1 (by omega)]; exact h5.2⟩]
    have e2 : spn plaB (r.extract 0 (hd r).2) 0 = (hd r).2 := spn_is _ 0 (by omega) (fun j hj => by rw [Nat.zero_add, hb j hj]; have := ha j (by omega); rwa [Nat.zero_add] at this) (fun h => by omega)
    have e3 : trimB (r.extract 0 (hd r).2) = r.extract 0 (hd r).2 := by
      have := trimB_is (s := r.extract 0 (hd r).2) (n := (hd r).2) (by omega) (fun j h6 h7 => by omega) (fun h6 => by
        rw [hb _ (by omega), hc]
        have := hm4 (by omega)
        rwa [ext_by (by omega)] at this)
      rw [← this, ext_ext (Nat.le_refl _)]
    have e4 : ntSz (r.extract 0 (hd r).2) = (hd r).2 := by
      unfold ntSz
      rw [e2, if_neg (by omega), ext_ext (Nat.le_refl _), e3, hs]
    rw [e4]
    rw [e]
  · exact absurd (by rw [hd_mk h1' h2' h3 h5]) h4
/-- A sign whose text is cut as it. -/
def Whole (k : Int) (t : ByteArray) : Prop := hd t = (k, t.size)
theorem lexF_whole (t : ByteArray) : ∀ (f k ends : Nat) (pre : List Sg), (∀ x ∈ pre, x.kind ≠ 4 → Whole x.kind x.text) → ∀ x ∈ (lexF t f k ends pre).1, x.kind ≠ 4 → Whole x.kind x.text
  | 0, k, ends, pre, h => h
  | f + 1, k, ends, pre, h => by
    rw [lexF]
    split
    · split
      · exact lexF_whole t f (k + 1) ends pre h
      split
      · exact lexF_whole t f (k + 1) (ends + 1) pre h
      split
      · exact fun x hx => by simp at hx
      · rename_i hk _ _ hn
        have hl := hd_le (t.extract k t.size)
        rw [rest_size] at hl
        have hx : t.extract k (k + (hd (t.extract k t.size)).2) = (t.extract k t.size).extract 0 (hd (t.extract k t.size)).2 := by
          rw [ext_rest, Nat.add_zero, Nat.min_eq_left (by omega)]
        refine lexF_whole t f _ 0 _ (fun x hx' => ?_)
        rcases List.mem_append.1 hx' with h3 | h3
        · exact h x h3
        · have e : x = ⟨(hd (t.extract k t.size)).1, t.extract k (k + (hd (t.extract k t.size)).2), k, decide (1 < ends)⟩ := by simpa using h3
          subst e
          intro h4
          show hd (t.extract k (k + (hd (t.extract k t.size)).2)) = ((hd (t.extract k t.size)).1, (t.extract k (k + (hd (t.extract k t.size)).2)).size)
          rw [hx, hd_whole _ hn h4, ext_size (hd_le _)]
    · exact h
theorem sgn_whole (t : ByteArray) : ∀ x ∈ (sgn t).1, x.kind ≠ 4 → Whole x.kind x.text := by
  unfold sgn
  split
  · exact fun x hx => by simp at hx
  · exact lexF_whole t _ 0 0 [] (fun x hx => by simp at hx)
end Go.Proofs.YtabbfpkhlofccaaGreatDoor
