/- What the laws' helpers eqState and eqStateS tell of the same states. -/
import Derived.Test.YtokfemlcamnaaaaToSt
import Derived.Deep.RegionWith
import Derived.Deep.RegionHeld3
namespace Go.Proofs.Ytokfemlcamnaaaa
open Go.RowKit

set_option maxHeartbeats 1600000 in
theorem eqState_same (x : St) (a1 a2 : Option Addr) (c1 c2 : Nat) (w : World) (hx : x.vals.length ≤ 1048576) (k1 : KidsAt w a1 x.vals) (k2 : KidsAt w a2 x.vals) :
    Calls Try.prog 68 #[.agg #[.slice a1 x.vals.length c1, .int .i64 x.sum], .agg #[.slice a2 x.vals.length c2, .int .i64 x.sum]] w fun e w' => e = .returned (.bool true) ∧ Below w.heap.size w w' := by
  obtain ⟨ks, sm⟩ := x
  dsimp only at hx k1 k2 ⊢
  have h1 : (sm != sm) = false := by simp
  have HB : ∀ o1 o2 : Obj, Below w.heap.size w ((w.alloc o1).alloc o2) := fun o1 o2 => ((Below.refl _ _).alloc (Nat.le_refl _) _).alloc (by simp) _
  go_enter Try.func68, Try.ntmps68
  go_wp2_with fail
  refine (eqInts_same a1 a2 c1 c2 ks _ (by omega) (k1.below (HB _ _) (Nat.le_refl _)) (k2.below (HB _ _) (Nat.le_refl _))).mono ?_
  have HB3 := HB (.cells #[.slice a1 ks.length c1, .int .i64 sm] 57) (.cells #[.slice a2 ks.length c2, .int .i64 sm] 57)
  have A0 := heap_alloc2_old w (.cells #[.slice a1 ks.length c1, .int .i64 sm] 57) (.cells #[.slice a2 ks.length c2, .int .i64 sm] 57)
  have A1 := heap_alloc2_new w (.cells #[.slice a1 ks.length c1, .int .i64 sm] 57) (.cells #[.slice a2 ks.length c2, .int .i64 sm] 57)
  generalize (w.alloc (.cells #[.slice a1 ks.length c1, .int .i64 sm] 57)).alloc (.cells #[.slice a2 ks.length c2, .int .i64 sm] 57) = W at *
  rintro e w4 ⟨rfl, hb⟩
  have B0 := (hb.block w.heap.size (Array.getElem?_eq_some_iff.1 A0).1).trans A0
  have B1 := (hb.block (w.heap.size + 1) (Array.getElem?_eq_some_iff.1 A1).1).trans A1
  have p3 : w4.cell? ⟨w.heap.size, 1, none⟩ = some (.int .i64 sm) := cell_of_row w4 _ 1 _ _ _ B0
  have r3 : w4.cell? ⟨w.heap.size + 1, 1, none⟩ = some (.int .i64 sm) := cell_of_row w4 _ 1 _ _ _ B1
  have HW := hidOf (HB3.trans (hb.mono HB3.size))
  clear HB HB3 hb A0 A1 B0 B1 k1 k2
  go_wp2
  go_ret
  exact ⟨rfl, HW.out⟩

theorem same_at {ps qs : List Sp} (h : ps.map Sp.st = qs.map Sp.st) {k : Nat} {p : Sp} (hp : ps[k]? = some p) : ∃ q, qs[k]? = some q ∧ q.st = p.st := by
  have h1 : (ps.map Sp.st)[k]? = some p.st := by rw [List.getElem?_map, hp]; rfl
  rw [h, List.getElem?_map] at h1
  cases hq : qs[k]? with
  | none => rw [hq] at h1; cases h1
  | some q => rw [hq] at h1; exact ⟨q, rfl, by simpa using h1⟩
theorem same_len {ps qs : List Sp} (h : ps.map Sp.st = qs.map Sp.st) : ps.length = qs.length := by
  have := congrArg List.length h
  simpa using this
theorem few_same {ps qs : List Sp} (h : ps.map Sp.st = qs.map Sp.st) (hF : Few ps) : Few qs := fun q hq => by
  have h1 : q.st ∈ ps.map Sp.st := by rw [h]; exact List.mem_map_of_mem hq
  obtain ⟨p, hp, e⟩ := List.mem_map.1 h1
  rw [← e]
  exact hF p hp

set_option maxHeartbeats 4000000 in
theorem eqStates_same (a1 a2 : Option Addr) (c1 c2 : Nat) (ps qs : List Sp) (w : World) (hx0 : ps.length ≤ 4611686018427387904) (hF : Few ps) (hS : ps.map Sp.st = qs.map Sp.st) (h1 : StsAt w a1 ps) (h2 : StsAt w a2 qs) :
    Calls Try.prog 67 #[.slice a1 ps.length c1, .slice a2 qs.length c2] w fun e w' => e = .returned (.bool true) ∧ Below w.heap.size w w' := by
  obtain ⟨h1, K1⟩ := h1
  obtain ⟨h2, K2⟩ := h2
  unfold RowsAt at h1 h2
  have hx := hx0
  clear hx0
  rw [← same_len hS] at h2 ⊢
  obtain ⟨n, hn⟩ : ∃ n, n = ps.length := ⟨_, rfl⟩
  rw [← hn] at h1 h2 hx
  rw [← hn]
  have HN := hidOf hn
  clear hn
  have hnn : ((n : Int) != (n : Int)) = false := by simp
  go_enter Try.func67, Try.ntmps67
  go_wp2
  go_loopw [5] (fun i wr => ∃ k : Nat, k ≤ n ∧ i = .int .i64 k ∧ Below w.heap.size w wr) (fun i _ => n - (intOf i).toNat)
  case atStart => exact ⟨0, Nat.zero_le _, rfl, Below.refl _ _⟩
  case round =>
    obtain ⟨k, hk, rfl, hb⟩ := hrel
    by_cases hlt : k < n
    · obtain ⟨p, ex⟩ : ∃ p, ps[k]? = some p := ⟨_, List.getElem?_eq_getElem (by rw [← HN.out]; exact hlt)⟩
      obtain ⟨q, ey, hq⟩ := same_at hS ex
      obtain ⟨b1, o1, rfl, hb1, hc1⟩ := h1 (by omega)
      obtain ⟨b2, o2, rfl, hb2, hc2⟩ := h2 (by omega)
      have G1 := hF p (List.mem_of_getElem? ex)
      obtain ⟨p0, p1⟩ := sp2 (w := wr) (b := b1) (o := o1 + k * 2) (p := p) (fun j hj => by rw [hb.cell hb1]; exact hc1 k p ex j hj)
      obtain ⟨q0, q1⟩ := sp2 (w := wr) (b := b2) (o := o2 + k * 2) (p := q) (fun j hj => by rw [hb.cell hb2]; exact hc2 k q ey j hj)
      have KK1 := (K1 p (List.mem_of_getElem? ex)).below hb.drew (Nat.le_refl _)
      have KK2 := (K2 q (List.mem_of_getElem? ey)).below hb.drew (Nat.le_refl _)
      obtain ⟨x, qa, qc⟩ := q
      obtain ⟨y, pa, pc⟩ := p
      dsimp only at hq p0 p1 q0 q1 KK1 KK2 G1
      subst hq
      clear ex ey hc1 hc2 h1 h2 K1 K2
      have hA : (0 : Int) ≤ (k : Int) := by omega
      have hB : (k : Int) < (n : Int) := by omega
      go_wp2
      go_region_with (go_at_call 68; refine (eqState_same x pa qa pc qc _ G1 KK1 KK2).mono ?_; rintro e w1 ⟨rfl, hbb⟩)
      all_goals go_wp2
      all_goals go_roundw
      all_goals first | exact ⟨k + 1, by omega, by go_num, hb.drew.trans (hbb.mono hb.size)⟩ | (simp [intOf]; omega)
    · go_wp2
      go_ret
      exact ⟨rfl, hb⟩
end Go.Proofs.Ytokfemlcamnaaaa
