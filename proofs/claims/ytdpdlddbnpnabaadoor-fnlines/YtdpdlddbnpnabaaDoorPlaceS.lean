/- What spec.PlaceOf answers. -/
import Derived.Test.YtdpdlddbnpnabaaDoorLineLib
import Derived.Test.YtdpdlddbnpnabaaDoorProg
import Derived.WalkKit
namespace Go.Proofs.YtdpdlddbnpnabaaDoor
open Go.RowKit

/-- The line and the column. -/
def plLine (s : ByteArray) (k : Nat) : Int := 1 + (lineN (s.data.toList.take k) : Int)
def plCol (s : ByteArray) (k : Nat) : Int := (colN (s.data.toList.take k) : Int)
theorem pl_range (s : ByteArray) (k : Nat) (h : k ≤ s.size) : 1 ≤ plLine s k ∧ plLine s k ≤ k + 1 ∧ 0 ≤ plCol s k ∧ plCol s k ≤ k + 1 := by
  have h1 := lineN_le (s.data.toList.take k)
  have h2 := colN_le s k h
  have h3 : (s.data.toList.take k).length ≤ k := by simp; omega
  unfold plLine plCol
  omega
theorem pl_nl {s : ByteArray} {k : Nat} (h : k < s.size) (h2 : by8 s k = 10) : plLine s (k + 1) = plLine s k + 1 ∧ plCol s (k + 1) = 1 := by
  have := place_nl h h2
  unfold plLine plCol
  omega
theorem pl_other {s : ByteArray} {k : Nat} (h : k < s.size) (h2 : by8 s k ≠ 10) : plLine s (k + 1) = plLine s k ∧ plCol s (k + 1) = plCol s k + 1 := by
  have := place_other h h2
  unfold plLine plCol
  omega
/-- What PlaceOf answers: the two, or 0 and 0. -/
def PlaceAns (s : ByteArray) (n : Int) (e : Ending) : Prop :=
  (0 ≤ n ∧ n ≤ s.size → e = .returned (.tuple #[.int .i64 (plLine s n.toNat), .int .i64 (plCol s n.toNat)])) ∧
  (¬ (0 ≤ n ∧ n ≤ s.size) → e = .returned (.tuple #[.int .i64 0, .int .i64 0]))
theorem place_yes {s : ByteArray} {n : Int} {k : Nat} {a b : Int} (hn : n = k) (hk : k ≤ s.size) (h1 : a = plLine s k) (h2 : b = plCol s k) : PlaceAns s n (.returned (.tuple #[.int .i64 a, .int .i64 b])) := by
  subst hn h1 h2
  exact ⟨fun _ => by rw [show ((k : Int)).toNat = k by omega], fun h => absurd ⟨by omega, by omega⟩ h⟩
theorem place_no {s : ByteArray} {n : Int} (h : ¬ (0 ≤ n ∧ n ≤ s.size)) : PlaceAns s n (.returned (.tuple #[.int .i64 0, .int .i64 0])) :=
  ⟨fun h' => absurd h' h, fun _ => rfl⟩

set_option maxHeartbeats 1600000 in
set_option maxRecDepth 20000 in
theorem sPlace_any (s : ByteArray) (n : Int) (w : World) (hs : s.size ≤ 4194304) (hn : (Lit.int .i64 n).wf = true) :
    Calls Tryd.prog 12 #[.string s, .int .i64 n] w fun e w' => PlaceAns s n e ∧ w' = w := by
  have hby := by8_at s
  by_cases h0 : n < 0
  · go_enter Tryd.func12, Tryd.ntmps12
    go_wp2
    go_ret2
    exact ⟨place_no (by omega), rfl⟩
  · by_cases h1 : (s.size : Int) < n
    · go_enter Tryd.func12, Tryd.ntmps12
      go_wp2
      go_ret2
      exact ⟨place_no (by omega), rfl⟩
    · obtain ⟨m, rfl⟩ := Int.eq_ofNat_of_zero_le (show 0 ≤ n by omega)
      clear hn
      have hm : m ≤ s.size := by omega
      clear h0 h1
      go_enter Tryd.func12, Tryd.ntmps12
      go_wp2
      go_loop [6, 7, 8] (fun a b i => ∃ k : Nat, k ≤ m ∧ a = .int .i64 (plLine s k) ∧ b = .int .i64 (plCol s k) ∧ i = .int .i64 k) (fun _ _ i => m - (intOf i).toNat)
      case atStart => exact ⟨0, Nat.zero_le _, by simp [plLine, lineN], by simp [plCol, colN], rfl⟩
      case round =>
        obtain ⟨k, hk, rfl, rfl, rfl⟩ := hrel
        have hr := by8_range s k
        have hp := pl_range s k (by omega)
        obtain ⟨a, ha⟩ : ∃ a, a = plLine s k := ⟨_, rfl⟩
        obtain ⟨b, hb⟩ : ∃ b, b = plCol s k := ⟨_, rfl⟩
        rw [← ha, ← hb] at hp ⊢
        have HA := hidOf ha
        have HB := hidOf hb
        clear ha hb
        by_cases hlt : k < m
        · have hlt2 : k < s.size := by omega
          by_cases h10 : by8 s k = 10
          · have h10' : (by8 s k == 10) = true := by simp [h10]
            have H10 := hidOf h10
            clear h10
            go_wp2
            go_round
            case rel => exact ⟨k + 1, by omega, by rw [(pl_nl hlt2 H10.out).1, ← HA.out], by rw [(pl_nl hlt2 H10.out).2], by go_num⟩
            case measure => simp [intOf]; omega
          · have h10' : (by8 s k == 10) = false := by rw [beq_eq_false_iff_ne]; exact h10
            have H10 := hidOf h10
            clear h10
            go_wp2
            go_round
            case rel => exact ⟨k + 1, by omega, by rw [(pl_other hlt2 H10.out).1, ← HA.out], by rw [(pl_other hlt2 H10.out).2, ← HB.out], by go_num⟩
            case measure => simp [intOf]; omega
        · have hke : k = m := by omega
          have HK := hidOf hke
          clear hke
          go_wp2
          go_ret2
          exact ⟨place_yes rfl hm (by rw [HA.out, HK.out]) (by rw [HB.out, HK.out]), rfl⟩
end Go.Proofs.YtdpdlddbnpnabaaDoor
