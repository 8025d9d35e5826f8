/- How the program's own heap changes two of its items, and how one goes up. -/
import Derived.Test.YtokfemlcamnaaaaHpI
import Derived.BigRegion
import Derived.Deep.CutBlock
namespace Go.Proofs.Ytokfemlcamnaaaa
open Go.RowKit

theorem Hv.grown {kd : HK} {w w' : World} {b : Nat} {a : Option Addr} {n c g : Nat} (h : Hv kd w b a n c) (hg : w.grownBy w' (some g)) (hne : b ≠ g) : Hv kd w' b a n c :=
  ⟨(hg.block b h.lt (fun e => hne (by injection e))).trans h.row⟩
theorem Hv.grownO {kd : HK} {w w' : World} {b : Nat} {a : Option Addr} {n c : Nat} {row : Option Nat} (h : Hv kd w b a n c) (hg : w.grownBy w' row) (hne : row = none ∨ row ≠ some b) : Hv kd w' b a n c :=
  ⟨(hg.block b h.lt (fun e => by rcases hne with h1 | h1 <;> simp_all)).trans h.row⟩
/-- What lies in a list's place k, to be read and written. -/
theorem Own.at {w : World} {B g c : Nat} {ps : List Sp} (h : Own w B (some ⟨g, 0, none⟩) c ps) {k : Nat} {p : Sp} (hp : ps[k]? = some p) :
    w.cell? ⟨g, k * 2, none⟩ = some (.slice p.a p.st.vals.length p.c) ∧ w.cell? ⟨g, k * 2 + 1, none⟩ = some (.int .i64 p.st.sum) ∧ w.frozen? ⟨g, k * 2, none⟩ = false ∧ w.frozen? ⟨g, k * 2 + 1, none⟩ = false := by
  have hk := (List.getElem?_eq_some_iff.1 hp).1
  refine ⟨?_, ?_, h.row.frozenAt _, h.row.frozenAt _⟩
  · rw [h.row.cellAt (k * 2) (by omega)]
    exact rowVals_at spCells_len ps k p hp 0 (by omega)
  · rw [h.row.cellAt (k * 2 + 1) (by omega)]
    exact rowVals_at spCells_len ps k p hp 1 (by omega)

set_option maxHeartbeats 4000000 in
theorem change_any (kd : HK) (hb B g c : Nat) (ps : List Sp) (i j : Nat) (w : World) (hi : i < ps.length) (hj : j < ps.length) (hij : i ≠ j) (hO : Own w B (some ⟨g, 0, none⟩) c ps) (H : Hv kd w hb (some ⟨g, 0, none⟩) ps.length c) :
    Calls Try.prog 176 #[.pointer (some ⟨hb, kd.o, none⟩), .int .i64 i, .int .i64 j] w fun e w' => e = .returned (.tuple #[]) ∧ Own w' B (some ⟨g, 0, none⟩) c (swp ps i j) ∧ w.grownBy w' (some g) := by
  obtain ⟨p, ep⟩ : ∃ p, ps[i]? = some p := ⟨_, List.getElem?_eq_getElem hi⟩
  obtain ⟨q, eq⟩ : ∃ q, ps[j]? = some q := ⟨_, List.getElem?_eq_getElem hj⟩
  obtain ⟨p0, p1, p2, p3⟩ := hO.at ep
  obtain ⟨q0, q1, q2, q3⟩ := hO.at eq
  have O1 : Own w.drew B (some ⟨g, 0, none⟩) c ps := hO.below (below_drewN w 1)
  have HS := hidOf (O1.swap ep eq hij)
  have HG := hidOf (show w.grownBy w.drew (some g) from grownBy_of_below (below_drewN w 1) _)
  have hne := H.ne hO
  obtain ⟨hl, c0, c1, -⟩ := H.all
  clear H
  obtain ⟨n, hn⟩ : ∃ n, n = ps.length := ⟨_, rfl⟩
  rw [← hn] at c0 hi hj
  have hA : (0 : Int) ≤ (i : Int) := by omega
  have hB : (i : Int) < (n : Int) := by omega
  have hC : (0 : Int) ≤ (j : Int) := by omega
  have hD : (j : Int) < (n : Int) := by omega
  clear hn ep eq hO O1
  go_enter Try.func176, Try.ntmps176
  go_wp2
  go_region
  all_goals go_wp2
  all_goals go_end0
  all_goals exact ⟨rfl, HS.out.1, grownBy_trans HG.out HS.out.2⟩

set_option maxHeartbeats 4000000 in
theorem goUp_any (kd : HK) (hb B g c : Nat) (ps : List Sp) (i : Nat) (w : World) (hn0 : ps.length ≤ 1048577) (hi : i < ps.length) (hF : Few ps) (hO : Own w B (some ⟨g, 0, none⟩) c ps) (H : Hv kd w hb (some ⟨g, 0, none⟩) ps.length c) :
    Calls Try.prog 155 #[.pointer (some ⟨hb, kd.o, none⟩), .int .i64 i] w fun e w' => e = .returned (.tuple #[]) ∧ Own w' B (some ⟨g, 0, none⟩) c (up spLess ps i) ∧ w.grownBy w' (some g) := by
  have hne := H.ne hO
  go_enter Try.func155, Try.ntmps155
  go_wp2
  go_loopw [1] (fun v wr => ∃ (k : Nat) (qs : List Sp), v = .int .i64 k ∧ k < ps.length ∧ Hid (qs.length = ps.length) ∧ Hid (Few qs) ∧ Hid (up spLess qs k = up spLess ps i) ∧ Hid (Own wr B (some ⟨g, 0, none⟩) c qs) ∧ Hid (w.grownBy wr (some g))) (fun v _ => (intOf v).toNat)
  case atStart => exact ⟨i, ps, rfl, hi, hidOf rfl, hidOf hF, hidOf rfl, hidOf hO, hidOf (World.grownBy.refl _ _)⟩
  case round =>
    obtain ⟨k, qs, rfl, hk, HL, HF, HU, HO, HG⟩ := hrel
    have H1 := hidOf (H.grown HG.out hne)
    have hL := HL.out
    by_cases h0 : 0 < k
    · have hg : (k : Int) > 0 := by omega
      have hpk := par_lt h0
      have hkb : k ≤ 4611686018427387904 := by omega
      have HI := hidOf (isLess_any kd hb (some ⟨g, 0, none⟩) c qs k (par k) wr (by omega) hkb (by omega) (by omega) HF.out HO.out.sts (by rw [hL]; exact H1.out))
      obtain ⟨b, hb2⟩ : ∃ b, b = ltAt spLess qs k (par k) := ⟨_, rfl⟩
      rw [← hb2] at HI
      have HB := hidOf hb2
      obtain ⟨n, hn⟩ : ∃ n, n = ps.length := ⟨_, rfl⟩
      rw [← hn] at hk hL hn0
      have HN := hidOf hn
      clear hb2 hn hL
      go_wp2_with fail
      refine (above_any k _ hkb h0).mono ?_
      rintro e wr ⟨rfl, rfl⟩
      go_wp2_with fail
      refine HI.out.mono ?_
      rintro e w2 ⟨rfl, hb2⟩
      cases b
      · go_wp2
        go_end0
        rw [← HU.out, up_no (by rw [← HB.out]; simp)]
        exact ⟨rfl, HO.out.below hb2, grownBy_trans HG.out (grownBy_of_below hb2 _)⟩
      · have HC := hidOf (change_any kd hb B g c qs k (par k) w2 (by have := HL.out; have := HN.out; omega) (by have := HL.out; have := HN.out; omega) (by omega) (HO.out.below hb2) (by have := H1.out.kept hb2; rw [HL.out]; exact this))
        have HG2 := hidOf (grownBy_trans HG.out (grownBy_of_below hb2 (some g)))
        clear hb2
        go_wp2_with fail
        refine (above_any k _ hkb h0).mono ?_
        rintro e w2 ⟨rfl, rfl⟩
        go_wp2_with fail
        refine HC.out.mono ?_
        rintro e w3 ⟨rfl, o3, g3⟩
        go_wp2_with fail
        refine (above_any k _ hkb h0).mono ?_
        rintro e w3 ⟨rfl, rfl⟩
        go_wp2
        go_roundw
        case rel => exact ⟨par k, swp qs k (par k), rfl, by have := HN.out; omega, hidOf (by rw [swp_len]; exact HL.out), hidOf (HF.out.swp _ _), hidOf (by rw [← HU.out, up_yes h0 HB.out.symm]), hidOf o3, hidOf (grownBy_trans HG2.out g3)⟩
        case measure => simp [intOf]; omega
    · have hg : ¬ (k : Int) > 0 := by omega
      go_wp2
      go_end0
      rw [← HU.out, up_no (by simp [h0])]
      exact ⟨rfl, HO.out, HG.out⟩
end Go.Proofs.Ytokfemlcamnaaaa
