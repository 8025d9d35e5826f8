/- What the laws' helper heldCellS does: it finds again the marks that markCellS writes. -/
import Derived.Test.YtdlbnllkfnfgoaaMkCl
namespace Go.Proofs.Ytdlbnllkfnfgoaa
open Go.RowKit

set_option maxHeartbeats 4000000 in
theorem heldCl_any (v : Value) (n k : Nat) (w : World) (hn : n ≤ 4194304) (hk0 : 0 < k) (hk : k ≤ 4194304) (hT : ClsAt w v (marksCl k n)) :
    Calls Try.prog 14 #[v, .int .i64 k] w fun e w' => e = .returned (.int .i64 ((k : Int) + 2 * n)) ∧ Below w.heap.size w w' := by
  obtain ⟨a, c, rfl, h⟩ := hT
  rw [marksCl_len] at h ⊢
  go_enter Try.func14, Try.ntmps14
  go_wp2
  go_loopw [1, 5] (fun q i wr => ∃ (j : Nat), j ≤ n ∧ i = .int .i64 j ∧ q = .int .i64 ((k : Int) + 2 * j) ∧ Below w.heap.size w wr) (fun _ i _ => n - (intOf i).toNat)
  case atStart => exact ⟨0, Nat.zero_le _, rfl, by go_num, Below.refl _ _⟩
  case round =>
    obtain ⟨j, hj, rfl, rfl, hb⟩ := hrel
    by_cases hlt : j < n
    · have hA : (0 : Int) ≤ (j : Int) := by omega
      have hB : (j : Int) < (n : Int) := by omega
      obtain ⟨p, hp⟩ : ∃ p, p = k + 2 * j := ⟨_, rfl⟩
      rw [show ((k : Int) + 2 * (j : Int)) = (p : Int) by omega]
      have hp0 : 0 < p ∧ p ≤ 20971520 := by omega
      obtain ⟨g, off, rfl, hgl, hcs⟩ := h (by omega)
      obtain ⟨p0, p1⟩ := cells2c (w := wr) (fun i hi => by rw [hb.cell hgl]; exact hcs j _ (marksCl_at hlt) i hi)
      rw [← hp] at p0 p1
      simp only [mkCl] at p0 p1
      obtain ⟨m, hm⟩ : ∃ m, m = mk p := ⟨_, rfl⟩
      have hMT := fun W => markText_any p W (by omega) (by omega)
      rw [← hm] at p0 hMT
      have hmm : (m.toList != m.toList) = false := by simp
      have HM := hidOf hm
      have HP := hidOf hp
      have hsz := hb.size
      have hgw := Nat.lt_of_lt_of_le hgl hsz
      clear hm hp hcs h
      have e1 : ((p : Int) + 1 != (p : Int) + 1) = false := by simp
      go_wp2
      go_region_held3 (fun w' => w'.cell? ⟨g, off + j * 2, none⟩ = some (.string m)) (first | (simpa using p0) | (rw [hb1.cell (by simp; omega)]; simpa using p0)) (first | (go_at_call 25; refine (hMT _).mono ?_; rintro e w1 ⟨rfl, hb1⟩))
      have p1 : w1.cell? ⟨g, off + j * 2 + 1, none⟩ = some (.int .i64 ((p : Int) + 1)) := by rw [hb1.cell (by simp; omega)]; simpa using p1
      clear p0
      have hB1 : Below w.heap.size w w1 := hb.drew.trans (hb1.mono hsz)
      go_wp2
      refine ⟨⟨j + 1, by omega, by go_num, ?_, hB1⟩, ?_⟩
      · congr 1
        have := HP.out
        omega
      · simp only [intOf]
        omega
    · have hjn : j = n := by omega
      subst hjn
      go_wp2
      go_ret
      exact ⟨rfl, hb⟩
end Go.Proofs.Ytdlbnllkfnfgoaa
