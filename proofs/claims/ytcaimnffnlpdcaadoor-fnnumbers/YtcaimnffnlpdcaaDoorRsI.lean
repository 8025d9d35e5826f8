/- Contracts of the program's own functions alone. -/
import Derived.Test.YtcaimnffnlpdcaaDoorRvI
import Derived.Test.YtcaimnffnlpdcaaDoorShelf
namespace Go.Proofs.YtcaimnffnlpdcaaDoor
open Go.RowKit

def rsVal (s : ByteArray) : Option (Int × Nat) → Value
  | none => .tuple #[.string ⟨#[]⟩, .int .i64 0, .bool false]
  | some (n, q) => if 20000 < n ∨ (s.size : Int) - q < n then .tuple #[.string ⟨#[]⟩, .int .i64 0, .bool false] else .tuple #[.string (s.extract q (q + n.toNat)), .int .i64 (q + n), .bool true]

theorem clone_any (s : ByteArray) (w : World) (h : s.size ≤ 1048576) :
    Calls Tryd.prog 30 #[.string s] w fun e w' => e = .returned (.string s) ∧ Below w.heap.size w w' := by
  go_enter Tryd.func30, Tryd.ntmps30
  go_wp2_with fail
  refine (Tryd.stringslite_Clone s _ (by omega)).mono ?_
  rintro e w1 ⟨rfl, hb⟩
  go_wp2
  go_ret
  exact ⟨rfl, hb⟩

theorem rv_bounds {s : ByteArray} {p : Nat} {n : Int} {q : Nat} (h : rv s p = some (n, q)) : 0 ≤ n ∧ n ≤ 1000000000 ∧ p < q ∧ q ≤ s.size := rvF_bounds (by omega) (by omega) h

theorem iRs_any (s : ByteArray) (p : Nat) (w : World) (hs : s.size ≤ 1048576) (hp : p ≤ s.size) :
    Calls Tryd.prog 14 #[.string s, .int .i64 p] w fun e w' => e = .returned (rsVal s (rv s p)) ∧ Below w.heap.size w w' := by
  have h1 := fun w => iRv_any s p w (by omega) hp
  rcases hrv : rv s p with _ | ⟨n, q⟩
  · rw [hrv] at h1
    simp only [rvVal] at h1
    have H1 := hidOf h1
    clear h1 hrv
    go_enter Tryd.func14, Tryd.ntmps14
    go_wp2_with fail
    refine (H1.out _).mono ?_
    rintro e w1 ⟨rfl, rfl⟩
    go_wp2
    go_ret3
    exact ⟨rfl, Below.refl _ _⟩
  · have hbd := rv_bounds hrv
    rw [hrv] at h1
    simp only [rvVal] at h1
    have H1 := hidOf h1
    clear h1 hrv
    by_cases hc : 20000 < n ∨ (s.size : Int) - q < n
    · have e : rsVal s (some (n, q)) = .tuple #[.string ⟨#[]⟩, .int .i64 0, .bool false] := by simp only [rsVal]; rw [if_pos hc]
      rw [e]
      clear e
      by_cases hc1 : 20000 < n
      · clear hc
        go_enter Tryd.func14, Tryd.ntmps14
        go_wp2_with fail
        refine (H1.out _).mono ?_
        rintro e w1 ⟨rfl, rfl⟩
        go_wp2
        go_ret3
        exact ⟨rfl, Below.refl _ _⟩
      · have hc2 : (s.size : Int) - q < n := by omega
        clear hc
        go_enter Tryd.func14, Tryd.ntmps14
        go_wp2_with fail
        refine (H1.out _).mono ?_
        rintro e w1 ⟨rfl, rfl⟩
        go_wp2
        go_ret3
        exact ⟨rfl, Below.refl _ _⟩
    · have e : rsVal s (some (n, q)) = .tuple #[.string (s.extract q (q + n.toNat)), .int .i64 (q + n), .bool true] := by simp only [rsVal]; rw [if_neg hc]
      rw [e]
      clear e
      have hc1 : n ≤ 20000 := by omega
      have hc2 : n ≤ (s.size : Int) - q := by omega
      have hsl := str_slice (P := Tryd.prog) 9 s q (q + n.toNat) (q : Int) ((q : Int) + n) Tryd.underlying9 rfl (by omega) (by omega) (by omega)
      clear hc
      go_enter Tryd.func14, Tryd.ntmps14
      go_wp2_with fail
      refine (H1.out _).mono ?_
      rintro e w1 ⟨rfl, rfl⟩
      go_wp2_with fail
      refine (clone_any _ _ (by rw [ByteArray.size_extract]; omega)).mono ?_
      rintro e w2 ⟨rfl, hb2⟩
      go_wp2
      go_ret3
      exact ⟨rfl, hb2⟩

theorem iRs_no (s : ByteArray) (p : Int) (w : World) (hp : p < 0 ∨ s.size < p) :
    Calls Tryd.prog 14 #[.string s, .int .i64 p] w fun e w' => e = .returned (rsVal s none) ∧ w' = w := by
  go_enter Tryd.func14, Tryd.ntmps14
  go_wp2_with fail
  refine (iRv_no s p _ hp).mono ?_
  simp only [rvVal]
  rintro e w1 ⟨rfl, rfl⟩
  go_wp2
  go_ret3
  exact ⟨rfl, rfl⟩
end Go.Proofs.YtcaimnffnlpdcaaDoor
