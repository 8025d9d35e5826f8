/- What laws.sameStates tells of the same states. -/
import Derived.Test.YtokfemlcamnaaaaEqSt
import Derived.Test.YtokfemlcamnaaaaSamI
import Derived.Test.YtokfemlcamnaaaaBCell
namespace Go.Proofs.Ytokfemlcamnaaaa
open Go.RowKit

set_option maxHeartbeats 8000000 in
theorem sameStates_any (a1 a2 : Option Addr) (c1 c2 : Nat) (ps qs : List Sp) (w : World) (hx0 : ps.length ≤ 4611686018427387904) (hF : Few ps) (hS : ps.map Sp.st = qs.map Sp.st) (h1 : StsAt w a1 ps) (h2 : StsAt w a2 qs) :
    Calls Try.prog 49 #[.slice a1 ps.length c1, .slice a2 qs.length c2] w fun e w' => e = .returned (.bool true) ∧ Below w.heap.size w w' := by
  obtain ⟨h1, K1⟩ := h1
  obtain ⟨h2, K2⟩ := h2
  unfold RowsAt at h1 h2
  have hx := hx0
  clear hx0
  rw [← same_len hS] at h2 ⊢
  obtain ⟨n, hn⟩ : ∃ n, n = ps.length := ⟨_, rfl⟩
  rw [← hn] at h1 h2 hx
  rw [← hn]
  have HN := hidOf hn
  clear hn
  have hnn : ((n : Int) != (n : Int)) = false := by simp
  go_enter Try.func49, Try.ntmps49
  go_wp2
  go_loopw [5] (fun i wr => ∃ k : Nat, k ≤ n ∧ i = .int .i64 k ∧ Below w.heap.size w wr) (fun i _ => n - (intOf i).toNat)
  case atStart => exact ⟨0, Nat.zero_le _, rfl, Below.refl _ _⟩
  case round =>
    obtain ⟨k, hk, rfl, hb⟩ := hrel
    by_cases hlt : k < n
    · obtain ⟨p, ex⟩ : ∃ p, ps[k]? = some p := ⟨_, List.getElem?_eq_getElem (by rw [← HN.out]; exact hlt)⟩
      obtain ⟨q, ey, hq⟩ := same_at hS ex
      obtain ⟨b1, o1, rfl, hb1, hc1⟩ := h1 (by omega)
      obtain ⟨b2, o2, rfl, hb2, hc2⟩ := h2 (by omega)
      have G1 := hF p (List.mem_of_getElem? ex)
      obtain ⟨p0, p1⟩ := sp2 (w := wr) (b := b1) (o := o1 + k * 2) (p := p) (fun j hj => by rw [hb.cell hb1]; exact hc1 k p ex j hj)
      obtain ⟨q0, q1⟩ := sp2 (w := wr) (b := b2) (o := o2 + k * 2) (p := q) (fun j hj => by rw [hb.cell hb2]; exact hc2 k q ey j hj)
      have KK1 := (K1 p (List.mem_of_getElem? ex)).below hb.drew (Nat.le_refl _)
      have KK2 := (K2 q (List.mem_of_getElem? ey)).below hb.drew (Nat.le_refl _)
      have hl1 := Nat.lt_of_lt_of_le hb1 hb.size
      have hl2 := Nat.lt_of_lt_of_le hb2 hb.size
      obtain ⟨⟨xv, xs⟩, qa, qc⟩ := q
      obtain ⟨y, pa, pc⟩ := p
      dsimp only at hq p0 p1 q0 q1 KK1 KK2 G1
      subst hq
      dsimp only at p0 p1 q0 q1 KK1 KK2 G1
      clear ex ey hc1 hc2 h1 h2 K1 K2
      have hA : (0 : Int) ≤ (k : Int) := by omega
      have hB : (k : Int) < (n : Int) := by omega
      have hse : (xs != xs) = false := by simp
      go_wp2
      go_region_held3 (fun W => (W.cell? ⟨b1, o1 + k * 2, none⟩ = some (.slice pa xv.length pc) ∧ W.cell? ⟨b1, o1 + k * 2 + 1, none⟩ = some (.int .i64 xs)) ∧ W.cell? ⟨b2, o2 + k * 2, none⟩ = some (.slice qa xv.length qc) ∧ W.cell? ⟨b2, o2 + k * 2 + 1, none⟩ = some (.int .i64 xs)) (first | trivial | go_keep)
        ((go_at_call 27; refine (sameInts_any pa qa pc qc xv _ (by omega) KK1 KK2).mono ?_; rintro e w1 ⟨rfl, hbb⟩; have E1 := (Below.refl wr.heap.size wr).drew.trans hbb; have hc1 := (bcell E1).1))
      have B1 := hb.trans (E1.mono hb.size)
      clear p0 p1 q0 q1
      go_wp2
      go_roundw
      case rel => exact ⟨k + 1, by omega, by go_num, B1⟩
      case measure => simp [intOf]; omega
    · go_wp2
      go_ret
      exact ⟨rfl, hb⟩
end Go.Proofs.Ytokfemlcamnaaaa
