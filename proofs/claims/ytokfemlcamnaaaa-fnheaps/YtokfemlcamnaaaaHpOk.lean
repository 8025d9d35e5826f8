/- What HeapOk answers, on both sides. -/
import Derived.Test.YtokfemlcamnaaaaHpI
import Derived.Deep.CutBlock
import Derived.Laws.EntriesVeiled
namespace Go.Proofs.Ytokfemlcamnaaaa
open Go.RowKit

set_option maxHeartbeats 4000000 in
theorem isRight_any (kd : HK) (hb : Nat) (a : Option Addr) (c : Nat) (ps : List Sp) (w : World) (hn0 : ps.length ≤ 1048577) (hF : Few ps) (hT : StsAt w a ps) (H : Hv kd w hb a ps.length c) :
    Calls Try.prog 110 #[.pointer (some ⟨hb, kd.o, none⟩)] w fun e w' => e = .returned (.bool (heapB spLess ps)) ∧ Below w.heap.size w w' := by
  obtain ⟨n, hn⟩ : ∃ n, n = ps.length := ⟨_, rfl⟩
  have HN := hidOf hn
  go_enter Try.func110, Try.ntmps110
  go_wp2
  go_loopw [3] (fun i wr => ∃ k : Nat, 1 ≤ k ∧ (k ≤ n ∨ k = 1) ∧ i = .int .i64 k ∧ Below w.heap.size w wr ∧ Hid (∀ m, 0 < m → m < k → ltAt spLess ps m (par m) = false)) (fun i _ => n - (intOf i).toNat)
  case atStart => exact ⟨1, Nat.le_refl _, .inr rfl, rfl, Below.refl _ _, hidOf fun m h1 h2 => by omega⟩
  case round =>
    obtain ⟨k, hk1, hk, rfl, hb1, HK⟩ := hrel
    have H1 := H.kept hb1
    have T1 := hT.below hb1 (Nat.le_refl _)
    obtain ⟨hl, c0, c1, -⟩ := H1.all
    have H1 := hidOf (H.kept hb1)
    rw [← hn] at c0
    clear hn
    by_cases hlt : k < n
    · have hB : (k : Int) < (n : Int) := by omega
      have hpk := hidOf (par_lt (show 0 < k by omega))
      have hk0 : 0 < k := by omega
      have hkb : k ≤ 4611686018427387904 := by have := HN.out; omega
      go_wp2_with fail
      refine (above_any k _ hkb hk0).mono ?_
      rintro e wr ⟨rfl, rfl⟩
      have hL := isLess_any kd hb a c ps k (par k) wr hn0 hkb (by have := hpk.out; omega) (by have := hpk.out; omega) hF T1 H1.out
      obtain ⟨b, hb2⟩ : ∃ b, b = ltAt spLess ps k (par k) := ⟨_, rfl⟩
      rw [← hb2] at hL
      have HB := hidOf hb2
      clear hb2
      go_wp2_with fail
      refine hL.mono ?_
      rintro e w2 ⟨rfl, hb2⟩
      have B2 := hb1.trans (hb2.mono hb1.size)
      clear hL c0 c1
      cases b
      · go_wp2
        go_roundw
        case rel => exact ⟨k + 1, by omega, by omega, by go_num, B2, hidOf fun m h1 h2 => by
          by_cases e : m = k
          · subst e; exact HB.out.symm
          · exact HK.out m h1 (by omega)⟩
        case measure => simp [intOf]; omega
      · go_wp2
        go_ret
        exact ⟨ret_bool (heapB_no hk0 HB.out.symm).symm, B2⟩
    · have hB : ¬ (k : Int) < (n : Int) := by omega
      go_wp2
      go_ret
      exact ⟨ret_bool (heapB_yes fun m h1 h2 => HK.out m h1 (by have := HN.out; omega)).symm, hb1⟩

theorem hv_new (w : World) (a : Option Addr) (n c : Nat) : ∃ W, W = w.alloc (.cells #[.slice a n c, .func (.func 44) #[] #[]] 124) ∧ Hv hk0 W w.heap.size a n c ∧ Below w.heap.size w W ∧ W.heap.size = w.heap.size + 1 := by
  exact ⟨_, rfl, ⟨heap_alloc_new w _⟩, (Below.refl _ _).alloc (Nat.le_refl _) _, by simp⟩

set_option maxHeartbeats 1600000 in
theorem iHp_any (a : Option Addr) (c : Nat) (ps : List Sp) (w : World) (hn0 : ps.length ≤ 1048577) (hF : Few ps) (hT : StsAt w a ps) :
    Calls Try.prog 48 #[.slice a ps.length c] w fun e w' => e = .returned (.bool (heapB spLess ps)) ∧ Below w.heap.size w w' := by
  go_enter Try.func48, Try.ntmps48
  go_upto_region 2 with fail
  obtain ⟨W, hW, H, B, S⟩ := hv_new w a ps.length c
  rw [← hW]
  have T := hT.below B (Nat.le_refl _)
  clear hW S
  go_wp2_with fail
  refine (isRight_any hk0 w.heap.size a c ps _ hn0 hF T H).mono ?_
  rintro e w1 ⟨rfl, hb1⟩
  go_wp2
  go_ret
  exact ⟨rfl, B.trans (hb1.mono B.size)⟩

set_option maxHeartbeats 4000000 in
theorem sHp_any (a : Option Addr) (c : Nat) (ps : List Sp) (w : World) (hn0 : ps.length ≤ 1048577) (hF : Few ps) (hT : StsAt w a ps) :
    Calls Try.prog 52 #[.slice a ps.length c] w fun e w' => e = .returned (.bool (heapB spLess ps)) ∧ Below w.heap.size w w' := by
  obtain ⟨h, hK⟩ := hT
  unfold RowsAt at h
  obtain ⟨n, hn⟩ : ∃ n, n = ps.length := ⟨_, rfl⟩
  rw [← hn] at h hn0 ⊢
  have HN := hidOf hn
  clear hn
  go_enter Try.func52, Try.ntmps52
  go_wp2
  go_loopw [3] (fun i wr => ∃ k : Nat, 1 ≤ k ∧ (k ≤ n ∨ k = 1) ∧ i = .int .i64 k ∧ Below w.heap.size w wr ∧ Hid (∀ m, 0 < m → m < k → ltAt spLess ps m (par m) = false)) (fun i _ => n - (intOf i).toNat)
  case atStart => exact ⟨1, Nat.le_refl _, .inr rfl, rfl, Below.refl _ _, hidOf fun m h1 h2 => by omega⟩
  case round =>
    obtain ⟨k, hk1, hk, rfl, hb, HK⟩ := hrel
    by_cases hlt : k < n
    · have hB : (k : Int) < (n : Int) := by omega
      have hA : (0 : Int) ≤ (k : Int) := by omega
      have hk0 : 0 < k := by omega
      obtain ⟨j, hj⟩ : ∃ j, j = par k := ⟨_, rfl⟩
      have hjk : j < k := by rw [hj]; exact par_lt hk0
      have e1 : ((k : Int) + 1).tdiv 2 = ((k : Int) + 1) / 2 := Int.tdiv_eq_ediv_of_nonneg (by omega)
      have e2 : ((k : Int) + 1) / 2 - 1 = (j : Int) := by rw [hj, par_int k hk0]
      have w1 : IntKind.i64.wrap ((k : Int) + 1) = (k : Int) + 1 := IntWalk.i64_in _ ⟨by omega, by omega⟩
      have w2 : IntKind.i64.wrap (((k : Int) + 1) / 2) = ((k : Int) + 1) / 2 := IntWalk.i64_in _ ⟨by omega, by omega⟩
      have w3 : IntKind.i64.wrap (((k : Int) + 1) / 2 - 1) = (j : Int) := by rw [e2]; exact IntWalk.i64_in _ ⟨by omega, by omega⟩
      have hC : (0 : Int) ≤ (j : Int) := by omega
      have hD : (j : Int) < (n : Int) := by omega
      obtain ⟨p, ep⟩ : ∃ p, ps[k]? = some p := ⟨_, List.getElem?_eq_getElem (by rw [← HN.out]; exact hlt)⟩
      obtain ⟨q, eq⟩ : ∃ q, ps[j]? = some q := ⟨_, List.getElem?_eq_getElem (by rw [← HN.out]; omega)⟩
      obtain ⟨b1, o1, rfl, hb1, hc1⟩ := h (by omega)
      have hb2 := Nat.lt_of_lt_of_le hb1 hb.size
      obtain ⟨p0, p1⟩ := sp2 (w := wr) (b := b1) (o := o1 + k * 2) (p := p) (fun m hm => by rw [hb.cell hb1]; exact hc1 k p ep m hm)
      obtain ⟨q0, q1⟩ := sp2 (w := wr) (b := b1) (o := o1 + j * 2) (p := q) (fun m hm => by rw [hb.cell hb1]; exact hc1 j q eq m hm)
      have HE := hidOf (ltAt_of (lt := spLess) ep eq)
      rw [hj] at HE
      have Fp := hF p (List.mem_of_getElem? ep)
      have Fq := hF q (List.mem_of_getElem? eq)
      have Kp := hK p (List.mem_of_getElem? ep)
      have Kq := hK q (List.mem_of_getElem? eq)
      have hS := fun W kp kq => sSL_any p q W Fp Fq kp kq
      obtain ⟨b, hbb⟩ : ∃ b, b = spLess p q := ⟨_, rfl⟩
      rw [← hbb] at hS HE
      clear ep eq hc1 h hK hj hbb e2
      go_wp2
      go_region_held3 (fun W => (W.cell? ⟨b1, o1 + k * 2, none⟩ = some (.slice p.a p.st.vals.length p.c) ∧ W.cell? ⟨b1, o1 + k * 2 + 1, none⟩ = some (.int .i64 p.st.sum)) ∧ W.cell? ⟨b1, o1 + j * 2, none⟩ = some (.slice q.a q.st.vals.length q.c) ∧ W.cell? ⟨b1, o1 + j * 2 + 1, none⟩ = some (.int .i64 q.st.sum)) (first | trivial | go_keep)
        ((go_at_call 51; refine (hS _ (Kp.below hb.drew (Nat.le_refl _)) (Kq.below hb.drew (Nat.le_refl _))).mono ?_; rintro e w1 ⟨rfl, hb1⟩; have E1 := (Below.refl wr.heap.size wr).drew.trans hb1; have hc1 := (bcell E1).1))
      have B2 := hb.trans (E1.mono hb.size)
      clear p0 p1 q0 q1
      cases b
      · go_wp2
        go_roundw
        case rel => exact ⟨k + 1, by omega, by omega, by go_num, B2, hidOf fun m h1 h2 => by
          by_cases e : m = k
          · subst e; exact HE.out
          · exact HK.out m h1 (by omega)⟩
        case measure => simp [intOf]; omega
      · go_wp2
        go_ret
        exact ⟨ret_bool (heapB_no hk0 HE.out).symm, B2⟩
    · have hB : ¬ (k : Int) < (n : Int) := by omega
      go_wp2
      go_ret
      exact ⟨ret_bool (heapB_yes fun m h1 h2 => HK.out m h1 (by have := HN.out; omega)).symm, hb⟩
end Go.Proofs.Ytokfemlcamnaaaa
