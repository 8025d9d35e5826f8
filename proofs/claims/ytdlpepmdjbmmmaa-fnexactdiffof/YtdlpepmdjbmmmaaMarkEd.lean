/- What the laws' helper heldEditS does: it finds again the marks that markEditS writes. -/
import Derived.Test.YtdlpepmdjbmmmaaMkEd
namespace Go.Proofs.Ytdlpepmdjbmmmaa
open Go.RowKit

set_option maxHeartbeats 4000000 in
theorem heldEd_any (v : Value) (n k : Nat) (w : World) (hn : n ≤ 4194304) (hk0 : 0 < k) (hk : k ≤ 4194304) (hT : EdsAt w v (marksEd k n)) :
    Calls Try.prog 32 #[v, .int .i64 k] w fun e w' => e = .returned (.int .i64 ((k : Int) + 2 * n)) ∧ Below w.heap.size w w' := by
  obtain ⟨a, c, rfl, h⟩ := hT
  rw [marksEd_len] at h ⊢
  go_enter Try.func32, Try.ntmps32
  go_wp2
  go_loopw [1, 5] (fun q i wr => ∃ (j : Nat), j ≤ n ∧ i = .int .i64 j ∧ q = .int .i64 ((k : Int) + 2 * j) ∧ Below w.heap.size w wr) (fun _ i _ => n - (intOf i).toNat)
  case atStart => exact ⟨0, Nat.zero_le _, rfl, by go_num, Below.refl _ _⟩
  case round =>
    obtain ⟨j, hj, rfl, rfl, hb⟩ := hrel
    by_cases hlt : j < n
    · have hA : (0 : Int) ≤ (j : Int) := by omega
      have hB : (j : Int) < (n : Int) := by omega
      obtain ⟨p, hp⟩ : ∃ p, p = k + 2 * j := ⟨_, rfl⟩
      rw [show ((k : Int) + 2 * (j : Int)) = (p : Int) by omega]
      have hp0 : 0 < p ∧ p ≤ 20971520 := by omega
      obtain ⟨g, off, rfl, hgl, hcs⟩ := h (by omega)
      obtain ⟨p0, p1⟩ := cells2 (w := wr) (fun i hi => by rw [hb.cell hgl]; exact hcs j _ (marksEd_at hlt) i hi)
      rw [← hp] at p0 p1
      simp only [mkEd] at p0 p1
      obtain ⟨m, hm⟩ : ∃ m, m = mk (p + 1) := ⟨_, rfl⟩
      have hMT := fun W => markText_any (p + 1) W (by omega) (by omega)
      rw [← hm] at p1 hMT
      have hmm : (m.toList != m.toList) = false := by simp
      have HM := hidOf hm
      have HP := hidOf hp
      have hsz := hb.size
      clear hm hp hcs h
      have e1 : ((p : Int) != (p : Int)) = false := by simp
      go_wp2
      rw [show ((p : Int) + 1) = ((p + 1 : Nat) : Int) by omega]
      go_region_held3 (fun w' => w'.cell? ⟨g, off + j * 2 + 1, none⟩ = some (.string m)) (first | (simpa using p1) | (rw [hb1.cell (by simp; omega)]; simpa using p1)) (first | (go_at_call 51; refine (hMT _).mono ?_; rintro e w1 ⟨rfl, hb1⟩))
      clear p0 p1
      have hB1 : Below w.heap.size w w1 := hb.drew.trans (hb1.mono hsz)
      go_wp2
      refine ⟨⟨j + 1, by omega, by go_num, ?_, hB1⟩, ?_⟩
      · congr 1
        have := HP.out
        omega
      · simp only [intOf]
        omega
    · have hjn : j = n := by omega
      subst hjn
      go_wp2
      go_ret
      exact ⟨rfl, hb⟩
end Go.Proofs.Ytdlpepmdjbmmmaa
