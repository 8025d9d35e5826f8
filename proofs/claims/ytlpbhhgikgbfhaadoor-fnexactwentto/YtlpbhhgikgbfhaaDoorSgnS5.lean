/- What spec.l04Sign answers at texts and marks, and anywhere. -/
import Derived.Test.YtlpbhhgikgbfhaaDoorSgnS4
namespace Go.Proofs.YtlpbhhgikgbfhaaDoor
open Go.RowKit

set_option maxHeartbeats 8000000 in
set_option maxRecDepth 100000 in
theorem sSign_text (t : ByteArray) (k : Nat) (w : World) (hs : t.size ≤ 4194304) (hk : k < t.size) (hn : ntRaw t k = 0) (hf : figB (by8 t k) = false) (hF : firB (by8 t k) = false) (hq : by8 t k = 39) :
    Calls Tryd.prog 17 #[.string t, .int .i64 k] w fun e w' => SignAns t k w e w' := by
  have hhd : hd (t.extract k t.size) = (3, qtRaw t k) := by rw [hd_qt (by rw [by8_rest0]; exact hf) (by rw [by8_rest0]; exact hF) (by rw [by8_rest0]; exact hq), qtSz_rest hk]
  have hN := fun W => sNote_any t k W hs hk
  rw [hn] at hN
  have hC := fun W => sFir_any (by8 t k) W
  rw [hF] at hC
  have hD := fun W => sFig_any (by8 t k) W
  rw [hf] at hD
  have hQ := fun W => sQuoted_any t k W hs hk
  have hle := hd_le (t.extract k t.size)
  rw [hhd, rest_size] at hle
  simp only at hle
  have hok := sgOk_same hhd (by omega)
  obtain ⟨n, en⟩ : ∃ n, n = qtRaw t k := ⟨_, rfl⟩
  rw [← en] at hQ hle hok
  have hsl := str_slice (P := Tryd.prog) 9 t k (k + n) (k : Int) ((k : Int) + n) Tryd.underlying9 rfl (by omega) (by omega) (by omega)
  obtain ⟨u, hu⟩ : ∃ u, u = t.extract k (k + n) := ⟨_, rfl⟩
  rw [← hu] at hok hsl
  clear hu en hhd
  have HO := hidOf hok
  have hby := by8_at t
  have hbr := by8_range t k
  have hq' : (by8 t k == 39) = true := by simp [hq]
  clear hok hn hf hF hq
  go_enter Tryd.func17, Tryd.ntmps17
  go_wp2_with fail
  refine (hN _).mono ?_
  rintro e w1 ⟨rfl, rfl⟩
  go_wp2_with fail
  refine (hC _).mono ?_
  rintro e w1 ⟨rfl, rfl⟩
  go_wp2_with fail
  refine (hD _).mono ?_
  rintro e w1 ⟨rfl, rfl⟩
  go_wp2_with fail
  refine (hQ _).mono ?_
  rintro e w1 ⟨rfl, rfl⟩
  go_wp2
  refine bodyPost_ret (results_agg4 rfl _ _ w.heap.size (.int .i64 3) (.string u) (.int .i64 k) (.bool false) _ rfl (by simp) (by simp) (by simp) (by simp) Tryd.underlying34 rfl infoSg4) rfl ?_
  exact ⟨(Below.refl _ _).alloc (Nat.le_refl _) _, _, _, _, n, rfl, fun _ => rfl, HO.out⟩

set_option maxHeartbeats 8000000 in
set_option maxRecDepth 100000 in
theorem sSign_mark (t : ByteArray) (k : Nat) (w : World) (hs : t.size ≤ 4194304) (hk : k < t.size) (hn : ntRaw t k = 0) (hf : figB (by8 t k) = false) (hF : firB (by8 t k) = false) (hq : by8 t k ≠ 39) :
    Calls Tryd.prog 17 #[.string t, .int .i64 k] w fun e w' => SignAns t k w e w' := by
  have hok := sgOk_mark hk hn hf hF hq
  have hN := fun W => sNote_any t k W hs hk
  rw [hn] at hN
  have hC := fun W => sFir_any (by8 t k) W
  rw [hF] at hC
  have hD := fun W => sFig_any (by8 t k) W
  rw [hf] at hD
  have hQ := fun W => sMarkAt_any t k W hs hk
  obtain ⟨u, hu⟩ : ∃ u, u = t.extract k (k + mkSz (t.extract k t.size)) := ⟨_, rfl⟩
  have hus : u.size ≤ 4194304 := by rw [hu]; simp; omega
  rw [← hu] at hok hQ
  clear hu
  have HO := hidOf hok
  have hby := by8_at t
  have hbr := by8_range t k
  have hq' : (by8 t k == 39) = false := by simpa using hq
  clear hok hn hf hF hq
  go_enter Tryd.func17, Tryd.ntmps17
  go_wp2_with fail
  refine (hN _).mono ?_
  rintro e w1 ⟨rfl, rfl⟩
  go_wp2_with fail
  refine (hC _).mono ?_
  rintro e w1 ⟨rfl, rfl⟩
  go_wp2_with fail
  refine (hD _).mono ?_
  rintro e w1 ⟨rfl, rfl⟩
  go_wp2_with fail
  refine (hQ _).mono ?_
  rintro e w1 ⟨rfl, hb1⟩
  have c0 : w1.cell? ⟨w.heap.size, 0, none⟩ = some (.int .i64 0) := (hb1.cell (p := ⟨w.heap.size, 0, none⟩) (by simp)).trans (by simp)
  have c1 : w1.cell? ⟨w.heap.size, 1, none⟩ = some (.string ⟨#[]⟩) := (hb1.cell (p := ⟨w.heap.size, 1, none⟩) (by simp)).trans (by simp)
  have c2 : w1.cell? ⟨w.heap.size, 2, none⟩ = some (.int .i64 0) := (hb1.cell (p := ⟨w.heap.size, 2, none⟩) (by simp)).trans (by simp)
  have c3 : w1.cell? ⟨w.heap.size, 3, none⟩ = some (.bool false) := (hb1.cell (p := ⟨w.heap.size, 3, none⟩) (by simp)).trans (by simp)
  have hfz : ∀ i, w1.frozen? ⟨w.heap.size, i, none⟩ = false := fun i => (hb1.frozen (p := ⟨w.heap.size, i, none⟩) (by simp)).trans (by simp)
  have f0 := hfz 0
  have f1 := hfz 1
  have f2 := hfz 2
  have f3 := hfz 3
  have hB : Below w.heap.size w w1 := ((Below.refl _ _).alloc (Nat.le_refl _) _).trans (hb1.mono (by simp))
  clear hfz hb1
  go_wp2
  refine bodyPost_ret (results_agg4 rfl _ _ w.heap.size (.int .i64 4) (.string u) (.int .i64 k) (.bool false) _ rfl (by go_simp) (by go_simp) (by go_simp) (by go_simp) Tryd.underlying34 rfl infoSg4) rfl ?_
  exact ⟨(((hB.setCell (p := ⟨w.heap.size, 0, none⟩) (Nat.le_refl _) _).setCell (p := ⟨w.heap.size, 1, none⟩) (Nat.le_refl _) _).setCell (p := ⟨w.heap.size, 2, none⟩) (Nat.le_refl _) _).setCell (p := ⟨w.heap.size, 3, none⟩) (Nat.le_refl _) _, _, _, _, u.size, rfl, fun _ => rfl, HO.out⟩

theorem sSign_any (t : ByteArray) (k : Nat) (w : World) (hs : t.size ≤ 4194304) (hk : k < t.size) :
    Calls Tryd.prog 17 #[.string t, .int .i64 k] w fun e w' => SignAns t k w e w' := by
  rcases Nat.eq_zero_or_pos (ntRaw t k) with hn | hn
  · cases hF : firB (by8 t k)
    · cases hf : figB (by8 t k)
      · by_cases hq : by8 t k = 39
        · exact sSign_text t k w hs hk hn hf hF hq
        · exact sSign_mark t k w hs hk hn hf hF hq
      · exact sSign_num t k w hs hk hn hf hF
    · have hf : figB (by8 t k) = false := by
        rw [Bool.eq_false_iff]
        intro hf
        simp [firB] at hF
        simp [figB] at hf
        omega
      exact sSign_name t k w hs hk hn hf hF
  · exact sSign_note t k w hs hk hn
end Go.Proofs.YtlpbhhgikgbfhaaDoor
