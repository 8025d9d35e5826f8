/- What impl.ReadShort and spec.ReadShort answer, and the law on them. -/
import Derived.Test.YtcaimnffnlpdcaaRv
import Derived.Test.YtcaimnffnlpdcaaShelf
namespace Go.Proofs.Ytcaimnffnlpdcaa
open Go.RowKit

def rsVal (s : ByteArray) : Option (Int × Nat) → Value
  | none => .tuple #[.string ⟨#[]⟩, .int .i64 0, .bool false]
  | some (n, q) => if 20000 < n ∨ (s.size : Int) - q < n then .tuple #[.string ⟨#[]⟩, .int .i64 0, .bool false] else .tuple #[.string (s.extract q (q + n.toNat)), .int .i64 (q + n), .bool true]

theorem clone_any (s : ByteArray) (w : World) (h : s.size ≤ 1048576) :
    Calls Try.prog 26 #[.string s] w fun e w' => e = .returned (.string s) ∧ Below w.heap.size w w' := by
  go_enter Try.func26, Try.ntmps26
  go_wp2_with fail
  refine (Try.stringslite_Clone s _ (by omega)).mono ?_
  rintro e w1 ⟨rfl, hb⟩
  go_wp2
  go_ret
  exact ⟨rfl, hb⟩

theorem rv_bounds {s : ByteArray} {p : Nat} {n : Int} {q : Nat} (h : rv s p = some (n, q)) : 0 ≤ n ∧ n ≤ 1000000000 ∧ p < q ∧ q ≤ s.size := rvF_bounds (by omega) (by omega) h

theorem sRs_any (s : ByteArray) (p : Nat) (w : World) (hs : s.size ≤ 1048576) (hp : p ≤ s.size) :
    Calls Try.prog 16 #[.string s, .int .i64 p] w fun e w' => e = .returned (rsVal s (rv s p)) ∧ Below w.heap.size w w' := by
  have h1 := fun w => sRv_any s p w (by omega) hp
  rcases hrv : rv s p with _ | ⟨n, q⟩
  · rw [hrv] at h1
    simp only [rvVal] at h1
    have H1 := hidOf h1
    clear h1 hrv
    go_enter Try.func16, Try.ntmps16
    go_wp2_with fail
    refine (H1.out _).mono ?_
    rintro e w1 ⟨rfl, hb1⟩
    go_wp2
    go_ret3
    exact ⟨rfl, hb1⟩
  · have hbd := rv_bounds hrv
    rw [hrv] at h1
    simp only [rvVal] at h1
    have H1 := hidOf h1
    clear h1 hrv
    by_cases hc : 20000 < n ∨ (s.size : Int) - q < n
    · have e : rsVal s (some (n, q)) = .tuple #[.string ⟨#[]⟩, .int .i64 0, .bool false] := by simp only [rsVal]; rw [if_pos hc]
      rw [e]
      clear e
      by_cases hc1 : 20000 < n
      · clear hc
        go_enter Try.func16, Try.ntmps16
        go_wp2_with fail
        refine (H1.out _).mono ?_
        rintro e w1 ⟨rfl, hb1⟩
        go_wp2
        go_ret3
        exact ⟨rfl, hb1⟩
      · have hc2 : (s.size : Int) - q < n := by omega
        clear hc
        go_enter Try.func16, Try.ntmps16
        go_wp2_with fail
        refine (H1.out _).mono ?_
        rintro e w1 ⟨rfl, hb1⟩
        go_wp2
        go_ret3
        exact ⟨rfl, hb1⟩
    · have e : rsVal s (some (n, q)) = .tuple #[.string (s.extract q (q + n.toNat)), .int .i64 (q + n), .bool true] := by simp only [rsVal]; rw [if_neg hc]
      rw [e]
      clear e
      have hc1 : n ≤ 20000 := by omega
      have hc2 : n ≤ (s.size : Int) - q := by omega
      have hsl := str_slice (P := Try.prog) 9 s q (q + n.toNat) (q : Int) ((q : Int) + n) Try.underlying9 rfl (by omega) (by omega) (by omega)
      clear hc
      go_enter Try.func16, Try.ntmps16
      go_wp2_with fail
      refine (H1.out _).mono ?_
      rintro e w1 ⟨rfl, hb1⟩
      go_wp2
      go_ret3
      exact ⟨rfl, hb1⟩
theorem iRs_any (s : ByteArray) (p : Nat) (w : World) (hs : s.size ≤ 1048576) (hp : p ≤ s.size) :
    Calls Try.prog 17 #[.string s, .int .i64 p] w fun e w' => e = .returned (rsVal s (rv s p)) ∧ Below w.heap.size w w' := by
  have h1 := fun w => iRv_any s p w (by omega) hp
  rcases hrv : rv s p with _ | ⟨n, q⟩
  · rw [hrv] at h1
    simp only [rvVal] at h1
    have H1 := hidOf h1
    clear h1 hrv
    go_enter Try.func17, Try.ntmps17
    go_wp2_with fail
    refine (H1.out _).mono ?_
    rintro e w1 ⟨rfl, rfl⟩
    go_wp2
    go_ret3
    exact ⟨rfl, Below.refl _ _⟩
  · have hbd := rv_bounds hrv
    rw [hrv] at h1
    simp only [rvVal] at h1
    have H1 := hidOf h1
    clear h1 hrv
    by_cases hc : 20000 < n ∨ (s.size : Int) - q < n
    · have e : rsVal s (some (n, q)) = .tuple #[.string ⟨#[]⟩, .int .i64 0, .bool false] := by simp only [rsVal]; rw [if_pos hc]
      rw [e]
      clear e
      by_cases hc1 : 20000 < n
      · clear hc
        go_enter Try.func17, Try.ntmps17
        go_wp2_with fail
        refine (H1.out _).mono ?_
        rintro e w1 ⟨rfl, rfl⟩
        go_wp2
        go_ret3
        exact ⟨rfl, Below.refl _ _⟩
      · have hc2 : (s.size : Int) - q < n := by omega
        clear hc
        go_enter Try.func17, Try.ntmps17
        go_wp2_with fail
        refine (H1.out _).mono ?_
        rintro e w1 ⟨rfl, rfl⟩
        go_wp2
        go_ret3
        exact ⟨rfl, Below.refl _ _⟩
    · have e : rsVal s (some (n, q)) = .tuple #[.string (s.extract q (q + n.toNat)), .int .i64 (q + n), .bool true] := by simp only [rsVal]; rw [if_neg hc]
      rw [e]
      clear e
      have hc1 : n ≤ 20000 := by omega
      have hc2 : n ≤ (s.size : Int) - q := by omega
      have hsl := str_slice (P := Try.prog) 9 s q (q + n.toNat) (q : Int) ((q : Int) + n) Try.underlying9 rfl (by omega) (by omega) (by omega)
      clear hc
      go_enter Try.func17, Try.ntmps17
      go_wp2_with fail
      refine (H1.out _).mono ?_
      rintro e w1 ⟨rfl, rfl⟩
      go_wp2_with fail
      refine (clone_any _ _ (by rw [ByteArray.size_extract]; omega)).mono ?_
      rintro e w2 ⟨rfl, hb2⟩
      go_wp2
      go_ret3
      exact ⟨rfl, hb2⟩

theorem sRs_no (s : ByteArray) (p : Int) (w : World) (hp : p < 0 ∨ s.size < p) :
    Calls Try.prog 16 #[.string s, .int .i64 p] w fun e w' => e = .returned (rsVal s none) ∧ w' = w := by
  go_enter Try.func16, Try.ntmps16
  go_wp2_with fail
  refine (sRv_no s p _ hp).mono ?_
  simp only [rvVal]
  rintro e w1 ⟨rfl, rfl⟩
  go_wp2
  go_ret3
  exact ⟨rfl, rfl⟩
theorem iRs_no (s : ByteArray) (p : Int) (w : World) (hp : p < 0 ∨ s.size < p) :
    Calls Try.prog 17 #[.string s, .int .i64 p] w fun e w' => e = .returned (rsVal s none) ∧ w' = w := by
  go_enter Try.func17, Try.ntmps17
  go_wp2_with fail
  refine (iRv_no s p _ hp).mono ?_
  simp only [rvVal]
  rintro e w1 ⟨rfl, rfl⟩
  go_wp2
  go_ret3
  exact ⟨rfl, rfl⟩

theorem rsVal_is (s : ByteArray) (r : Option (Int × Nat)) : ∃ (t : ByteArray) (n : Int) (b : Bool), rsVal s r = .tuple #[.string t, .int .i64 n, .bool b] := by
  rcases r with _ | ⟨n, q⟩
  · exact ⟨_, _, _, rfl⟩
  · simp only [rsVal]
    split
    · exact ⟨_, _, _, rfl⟩
    · exact ⟨_, _, _, rfl⟩

theorem lawReadShort (s : ByteArray) (p : Int) (w : World) (hs : s.size ≤ maxLen) :
    Calls Try.prog 6 #[.string s, .int .i64 p] w fun e w' => e = .returned (.bool true) ∧ Below w.heap.size w w' := by
  unfold maxLen at hs
  by_cases h0 : 1048576 < s.size
  · go_enter Try.func6, Try.ntmps6
    go_wp2
    go_ret
    exact ⟨rfl, Below.refl _ _⟩
  · by_cases hp : 0 ≤ p ∧ p ≤ s.size
    · obtain ⟨q, rfl⟩ := Int.eq_ofNat_of_zero_le hp.1
      have hq : q ≤ s.size := by omega
      clear hp
      have h1 := fun w => sRs_any s q w (by omega) hq
      have h2 := fun w => iRs_any s q w (by omega) hq
      obtain ⟨t, n, b, e⟩ := rsVal_is s (rv s q)
      rw [e] at h1 h2
      have H1 := hidOf h1
      have H2 := hidOf h2
      clear h1 h2 e
      go_enter Try.func6, Try.ntmps6
      go_wp2_with fail
      refine (H1.out _).mono ?_
      rintro e w1 ⟨rfl, hb1⟩
      go_wp2_with fail
      refine (H2.out _).mono ?_
      rintro e w2 ⟨rfl, hb2⟩
      go_wp2
      go_ret
      exact ⟨rfl, hb1.trans (hb2.mono hb1.size)⟩
    · have hp' : p < 0 ∨ s.size < p := by omega
      clear hp
      go_enter Try.func6, Try.ntmps6
      go_wp2_with fail
      refine (sRs_no s p _ hp').mono ?_
      simp only [rsVal]
      rintro e w1 ⟨rfl, rfl⟩
      go_wp2_with fail
      refine (iRs_no s p _ hp').mono ?_
      simp only [rsVal]
      rintro e w2 ⟨rfl, rfl⟩
      go_wp2
      go_ret
      exact ⟨rfl, Below.refl _ _⟩
end Go.Proofs.Ytcaimnffnlpdcaa
