/- What the laws' helper markPiece does: it writes into the piece's own four lists alone. -/
import Derived.Test.YtokfemlcamnaaaaKas
import Derived.Test.YtokfemlcamnaaaaKat
import Derived.Test.YtokfemlcamnaaaaBestS
import Derived.Test.YtokfemlcamnaaaaKaq
import Derived.Deep.RegionHeld3
import Derived.Test.YtokfemlcamnaaaaProg
import Derived.Test.YtokfemlcamnaaaaRowLib
import Derived.Deep.Slices
import Derived.ProofKit
import Derived.Test.YtokfemlcamnaaaaPcLib
namespace Go.Proofs.Ytokfemlcamnaaaa
open Go.RowKit

set_option maxHeartbeats 4000000 in
theorem markRus_any (b g n c : Nat) (k : Int) (zs : List Value) (w : World) (hn : n ≤ 1048576) (hk0 : 0 ≤ k) (hk : k ≤ 16777216) (hown : w.ownsRow b 98 2 (.slice (some ⟨g, 0, none⟩) n c) n zs) :
    Calls Try.prog 129 #[.slice (some ⟨g, 0, none⟩) n c, .int .i64 k] w fun e w' => e = .returned (.int .i64 (k + 2 * n)) ∧ w.grownBy w' (some g) := by
  go_enter Try.func129, Try.ntmps129
  go_wp2
  go_loopw [1, 5] (fun q i wr => ∃ (j : Nat) (zs : List Value), j ≤ n ∧ i = .int .i64 j ∧ q = .int .i64 (k + 2 * j) ∧ wr.ownsRow b 98 2 (.slice (some ⟨g, 0, none⟩) n c) n zs ∧ w.grownBy wr (some g)) (fun _ i _ => n - (intOf i).toNat)
  case atStart => exact ⟨0, _, Nat.zero_le _, rfl, by go_num, hown, World.grownBy.refl _ _⟩
  case round =>
    obtain ⟨j, zs, hj, rfl, rfl, ho, hg⟩ := hrel
    by_cases hlt : j < n
    · have hA : (0 : Int) ≤ (j : Int) := by omega
      have hB : (j : Int) < (n : Int) := by omega
      obtain ⟨p, hp⟩ : ∃ p, p = k + 2 * (j : Int) := ⟨_, rfl⟩
      rw [← hp]
      have hp0 : 0 ≤ p ∧ p ≤ 33554432 := by omega
      have HP := hidOf hp
      clear hp
      have hlz : zs.length = n * 2 := ho.1
      have s0 := ho.stored (j * 2) (.int .i64 (p))
      have s1 := s0.1.stored (j * 2 + 1) (.int .i64 (p + 1))
      have HS := hidOf (And.intro s1.1 (grownBy_trans hg (grownBy_trans s0.2 s1.2)))
      obtain ⟨u0, d0⟩ : ∃ u, wr.cell? ⟨g, j * 2, none⟩ = some u := ⟨_, (ho.cellAt (j * 2) (by omega)).trans (List.getElem?_eq_getElem (by omega))⟩
      obtain ⟨u1, d1⟩ : ∃ u, wr.cell? ⟨g, j * 2 + 1, none⟩ = some u := ⟨_, (ho.cellAt (j * 2 + 1) (by omega)).trans (List.getElem?_eq_getElem (by omega))⟩
      have f0 := ho.frozenAt (j * 2)
      have f1 := ho.frozenAt (j * 2 + 1)
      clear s0 s1 hlz ho
      go_wp2
      refine ⟨⟨j + 1, _, by omega, by go_num, ?_, HS.out.1, HS.out.2⟩, ?_⟩
      · congr 1
        have := HP.out
        omega
      · simp only [intOf]
        omega
    · have hjn : j = n := by omega
      subst hjn
      go_wp2
      go_ret
      exact ⟨rfl, hg⟩

set_option maxHeartbeats 4000000 in
theorem markSns_any (b g n c : Nat) (k : Int) (zs : List Value) (w : World) (hn : n ≤ 1048576) (hk0 : 0 ≤ k) (hk : k ≤ 16777216) (hown : w.ownsRow b 115 3 (.slice (some ⟨g, 0, none⟩) n c) n zs) :
    Calls Try.prog 131 #[.slice (some ⟨g, 0, none⟩) n c, .int .i64 k] w fun e w' => e = .returned (.int .i64 (k + 3 * n)) ∧ w.grownBy w' (some g) := by
  go_enter Try.func131, Try.ntmps131
  go_wp2
  go_loopw [1, 5] (fun q i wr => ∃ (j : Nat) (zs : List Value), j ≤ n ∧ i = .int .i64 j ∧ q = .int .i64 (k + 3 * j) ∧ wr.ownsRow b 115 3 (.slice (some ⟨g, 0, none⟩) n c) n zs ∧ w.grownBy wr (some g)) (fun _ i _ => n - (intOf i).toNat)
  case atStart => exact ⟨0, _, Nat.zero_le _, rfl, by go_num, hown, World.grownBy.refl _ _⟩
  case round =>
    obtain ⟨j, zs, hj, rfl, rfl, ho, hg⟩ := hrel
    by_cases hlt : j < n
    · have hA : (0 : Int) ≤ (j : Int) := by omega
      have hB : (j : Int) < (n : Int) := by omega
      obtain ⟨p, hp⟩ : ∃ p, p = k + 3 * (j : Int) := ⟨_, rfl⟩
      rw [← hp]
      have hp0 : 0 ≤ p ∧ p ≤ 33554432 := by omega
      have HP := hidOf hp
      clear hp
      have hlz : zs.length = n * 3 := ho.1
      have s0 := ho.stored (j * 3) (.int .i64 (p))
      have s1 := s0.1.stored (j * 3 + 1) (.int .i64 (p + 1))
      have s2 := s1.1.stored (j * 3 + 2) (.int .i64 (p + 1 + 1))
      have HS := hidOf (And.intro s2.1 (grownBy_trans hg (grownBy_trans (grownBy_trans s0.2 s1.2) s2.2)))
      obtain ⟨u0, d0⟩ : ∃ u, wr.cell? ⟨g, j * 3, none⟩ = some u := ⟨_, (ho.cellAt (j * 3) (by omega)).trans (List.getElem?_eq_getElem (by omega))⟩
      obtain ⟨u1, d1⟩ : ∃ u, wr.cell? ⟨g, j * 3 + 1, none⟩ = some u := ⟨_, (ho.cellAt (j * 3 + 1) (by omega)).trans (List.getElem?_eq_getElem (by omega))⟩
      obtain ⟨u2, d2⟩ : ∃ u, wr.cell? ⟨g, j * 3 + 2, none⟩ = some u := ⟨_, (ho.cellAt (j * 3 + 2) (by omega)).trans (List.getElem?_eq_getElem (by omega))⟩
      have f0 := ho.frozenAt (j * 3)
      have f1 := ho.frozenAt (j * 3 + 1)
      have f2 := ho.frozenAt (j * 3 + 2)
      clear s0 s1 s2 hlz ho
      go_wp2
      refine ⟨⟨j + 1, _, by omega, by go_num, ?_, HS.out.1, HS.out.2⟩, ?_⟩
      · congr 1
        have := HP.out
        omega
      · simp only [intOf]
        omega
    · have hjn : j = n := by omega
      subst hjn
      go_wp2
      go_ret
      exact ⟨rfl, hg⟩

set_option maxHeartbeats 4000000 in
theorem markTis_any (b g n c : Nat) (k : Int) (zs : List Value) (w : World) (hn : n ≤ 1048576) (hk0 : 0 ≤ k) (hk : k ≤ 16777216) (hown : w.ownsRow b 108 2 (.slice (some ⟨g, 0, none⟩) n c) n zs) :
    Calls Try.prog 132 #[.slice (some ⟨g, 0, none⟩) n c, .int .i64 k] w fun e w' => e = .returned (.int .i64 (k + 2 * n)) ∧ w.grownBy w' (some g) := by
  go_enter Try.func132, Try.ntmps132
  go_wp2
  go_loopw [1, 5] (fun q i wr => ∃ (j : Nat) (zs : List Value), j ≤ n ∧ i = .int .i64 j ∧ q = .int .i64 (k + 2 * j) ∧ wr.ownsRow b 108 2 (.slice (some ⟨g, 0, none⟩) n c) n zs ∧ w.grownBy wr (some g)) (fun _ i _ => n - (intOf i).toNat)
  case atStart => exact ⟨0, _, Nat.zero_le _, rfl, by go_num, hown, World.grownBy.refl _ _⟩
  case round =>
    obtain ⟨j, zs, hj, rfl, rfl, ho, hg⟩ := hrel
    by_cases hlt : j < n
    · have hA : (0 : Int) ≤ (j : Int) := by omega
      have hB : (j : Int) < (n : Int) := by omega
      obtain ⟨p, hp⟩ : ∃ p, p = k + 2 * (j : Int) := ⟨_, rfl⟩
      rw [← hp]
      have hp0 : 0 ≤ p ∧ p ≤ 33554432 := by omega
      have HP := hidOf hp
      clear hp
      have hlz : zs.length = n * 2 := ho.1
      have s0 := ho.stored (j * 2) (.int .i64 (p))
      have s1 := s0.1.stored (j * 2 + 1) (.int .i64 (p + 1))
      have HS := hidOf (And.intro s1.1 (grownBy_trans hg (grownBy_trans s0.2 s1.2)))
      obtain ⟨u0, d0⟩ : ∃ u, wr.cell? ⟨g, j * 2, none⟩ = some u := ⟨_, (ho.cellAt (j * 2) (by omega)).trans (List.getElem?_eq_getElem (by omega))⟩
      obtain ⟨u1, d1⟩ : ∃ u, wr.cell? ⟨g, j * 2 + 1, none⟩ = some u := ⟨_, (ho.cellAt (j * 2 + 1) (by omega)).trans (List.getElem?_eq_getElem (by omega))⟩
      have f0 := ho.frozenAt (j * 2)
      have f1 := ho.frozenAt (j * 2 + 1)
      clear s0 s1 hlz ho
      go_wp2
      refine ⟨⟨j + 1, _, by omega, by go_num, ?_, HS.out.1, HS.out.2⟩, ?_⟩
      · congr 1
        have := HP.out
        omega
      · simp only [intOf]
        omega
    · have hjn : j = n := by omega
      subst hjn
      go_wp2
      go_ret
      exact ⟨rfl, hg⟩

set_option maxHeartbeats 4000000 in
theorem markChs_any (b g n c k : Nat) (zs : List Value) (w : World) (hn : n ≤ 1048576) (hk0 : 0 < k) (hk : k ≤ 16777216) (hown : w.ownsRow b 104 5 (.slice (some ⟨g, 0, none⟩) n c) n zs) :
    Calls Try.prog 130 #[.slice (some ⟨g, 0, none⟩) n c, .int .i64 k] w fun e w' => e = .returned (.int .i64 ((k : Int) + 5 * n)) ∧ w.grownBy w' (some g) := by
  go_enter Try.func130, Try.ntmps130
  go_wp2
  go_loopw [1, 5] (fun q i wr => ∃ (j : Nat) (zs : List Value), j ≤ n ∧ i = .int .i64 j ∧ q = .int .i64 ((k : Int) + 5 * j) ∧ wr.ownsRow b 104 5 (.slice (some ⟨g, 0, none⟩) n c) n zs ∧ w.grownBy wr (some g)) (fun _ i _ => n - (intOf i).toNat)
  case atStart => exact ⟨0, _, Nat.zero_le _, rfl, by go_num, hown, World.grownBy.refl _ _⟩
  case round =>
    obtain ⟨j, zs, hj, rfl, rfl, ho, hg⟩ := hrel
    by_cases hlt : j < n
    · have hA : (0 : Int) ≤ (j : Int) := by omega
      have hB : (j : Int) < (n : Int) := by omega
      obtain ⟨p, hp⟩ : ∃ p, p = k + 5 * j := ⟨_, rfl⟩
      rw [show ((k : Int) + 5 * (j : Int)) = (p : Int) by omega]
      have hp0 : 0 < p ∧ p ≤ 33554432 := by omega
      have HP := hidOf hp
      clear hp
      go_wp2_with fail
      refine (markText_any p _ (by omega) (by omega)).mono ?_
      rintro e w2 ⟨rfl, hbm⟩
      have ho2 := owns_below ho hbm
      have hlz : zs.length = n * 5 := ho2.1
      obtain ⟨m, hm⟩ : ∃ m, m = mk p := ⟨_, rfl⟩
      rw [← hm]
      have s0 := ho2.stored (j * 5) (.string m)
      have s1 := s0.1.stored (j * 5 + 1) (.int .i64 ((p : Int) + 1))
      have s2 := s1.1.stored (j * 5 + 2) (.int .i64 ((p : Int) + 1 + 1))
      have s3 := s2.1.stored (j * 5 + 3) (.bool (((p : Int) + 1 + 1 + 1) % 3 == 0))
      have s4 := s3.1.stored (j * 5 + 4) (.int .i64 ((p : Int) + 1 + 1 + 1 + 1))
      have HS := hidOf (And.intro s4.1 (grownBy_trans (grownBy_trans hg (grownBy_of_below hbm _)) (grownBy_trans (grownBy_trans (grownBy_trans (grownBy_trans s0.2 s1.2) s2.2) s3.2) s4.2)))
      obtain ⟨u0, d0⟩ : ∃ u, w2.cell? ⟨g, j * 5, none⟩ = some u := ⟨_, (ho2.cellAt (j * 5) (by omega)).trans (List.getElem?_eq_getElem (by omega))⟩
      obtain ⟨u1, d1⟩ : ∃ u, w2.cell? ⟨g, j * 5 + 1, none⟩ = some u := ⟨_, (ho2.cellAt (j * 5 + 1) (by omega)).trans (List.getElem?_eq_getElem (by omega))⟩
      obtain ⟨u2, d2⟩ : ∃ u, w2.cell? ⟨g, j * 5 + 2, none⟩ = some u := ⟨_, (ho2.cellAt (j * 5 + 2) (by omega)).trans (List.getElem?_eq_getElem (by omega))⟩
      obtain ⟨u3, d3⟩ : ∃ u, w2.cell? ⟨g, j * 5 + 3, none⟩ = some u := ⟨_, (ho2.cellAt (j * 5 + 3) (by omega)).trans (List.getElem?_eq_getElem (by omega))⟩
      obtain ⟨u4, d4⟩ : ∃ u, w2.cell? ⟨g, j * 5 + 4, none⟩ = some u := ⟨_, (ho2.cellAt (j * 5 + 4) (by omega)).trans (List.getElem?_eq_getElem (by omega))⟩
      have f0 := ho2.frozenAt (j * 5)
      have f1 := ho2.frozenAt (j * 5 + 1)
      have f2 := ho2.frozenAt (j * 5 + 2)
      have f3 := ho2.frozenAt (j * 5 + 3)
      have f4 := ho2.frozenAt (j * 5 + 4)
      clear s0 s1 s2 s3 s4 hlz ho2 hm ho hbm hg
      go_wp2
      refine ⟨⟨j + 1, _, by omega, by go_num, ?_, HS.out.1, HS.out.2⟩, ?_⟩
      · congr 1
        have := HP.out
        omega
      · simp only [intOf]
        omega
    · have hjn : j = n := by omega
      subst hjn
      go_wp2
      go_ret
      exact ⟨rfl, hg⟩

theorem gcell {w w' : World} {g : Nat} (hg : w.grownBy w' (some g)) (b o : Nat) (hb : b < w.heap.size) (hne : b ≠ g) : w'.cell? ⟨b, o, none⟩ = w.cell? ⟨b, o, none⟩ := World.cell?_of_block (hg.block b hb (fun e => hne (Option.some.inj e)))
theorem owns_far {w w' : World} {g g' base e size n c : Nat} {xs : List Value} (h : w.ownsRow base e size (.slice (some ⟨g', 0, none⟩) n c) n xs) (hg : w.grownBy w' (some g)) (hne : g' ≠ g) : w'.ownsRow base e size (.slice (some ⟨g', 0, none⟩) n c) n xs :=
  World.ownsRow.kept h hg (.inr (fun e => hne (Option.some.inj e)))
/-- Nothing but four rows has turned. -/
structure Turned4 (g1 g2 g3 g4 : Nat) (w w' : World) : Prop where
  os : w'.os = w.os
  tape : w'.tape = w.tape
  output : w'.output = w.output
  size : w.heap.size ≤ w'.heap.size
  block : ∀ k, k < w.heap.size → k ≠ g1 → k ≠ g2 → k ≠ g3 → k ≠ g4 → w'.heap[k]? = w.heap[k]?
theorem Turned4.below {g1 g2 g3 g4 B : Nat} {a w w' : World} (h : Turned4 g1 g2 g3 g4 w w') (hb : Below B a w) (hs : B ≤ w.heap.size) (l1 : B ≤ g1) (l2 : B ≤ g2) (l3 : B ≤ g3) (l4 : B ≤ g4) : Below B a w' :=
  ⟨h.os.trans hb.os, h.tape.trans hb.tape, h.output.trans hb.output, Nat.le_trans hb.size h.size, fun k hk => (h.block k (by omega) (by omega) (by omega) (by omega) (by omega)).trans (hb.block k hk)⟩
theorem own_turned {g1 g2 g3 g4 : Nat} {w w' : World} {base e size n : Nat} {v : Value} {xs : List Value} (h : Turned4 g1 g2 g3 g4 w w') (ho : w.ownsRow base e size v n xs) (n1 : v.ownBlock ≠ some g1) (n2 : v.ownBlock ≠ some g2) (n3 : v.ownBlock ≠ some g3) (n4 : v.ownBlock ≠ some g4) : w'.ownsRow base e size v n xs := by
  refine ⟨ho.1, ?_⟩
  rcases ho.2 with hz | ⟨g, cap, cur, rfl, h2, h3, h4⟩
  · exact .inl hz
  · refine .inr ⟨g, cap, cur, rfl, h2, ?_, h4⟩
    rw [h.block g (Array.getElem?_eq_some_iff.1 h3).1 (fun e => n1 (by rw [e]; rfl)) (fun e => n2 (by rw [e]; rfl)) (fun e => n3 (by rw [e]; rfl)) (fun e => n4 (by rw [e]; rfl))]
    exact h3

set_option maxHeartbeats 4000000 in
theorem markPc_le (base : Nat) (p : Pc) (g1 g2 g3 g4 : Nat) (w : World) (hF : PcFew p) (h : PcOwn base w p g1 g2 g3 g4) :
    Calls Try.prog 62 #[pcV p (plOf p g1 g2 g3 g4), .int .i64 1] w fun e w' => ∃ r : Int, 0 ≤ r ∧ r ≤ 16777216 ∧ e = .returned (.int .i64 r) ∧ Turned4 g1 g2 g3 g4 w w' := by
  have l1 := (h.rules.lt g1 rfl).2
  have l2 := (h.chunks.lt g2 rfl).2
  have l3 := (h.spans.lt g3 rfl).2
  have l4 := (h.ties.lt g4 rfl).2
  have b2 := h.b2
  have b3 := h.b3
  have b4 := h.b4
  have f1 := hF.rules
  have f2 := hF.chunks
  have f3 := hF.spans
  have f4 := hF.ties
  have HB : ∀ o1 : Obj, Below w.heap.size w (w.alloc o1) := fun o1 => (Below.refl _ _).alloc (Nat.le_refl _) _
  show Calls _ _ #[.agg #[.int .i64 p.indent, .slice (some ⟨g1, 0, none⟩) p.rules.length p.rules.length, .slice (some ⟨g2, 0, none⟩) p.chunks.length p.chunks.length, .slice (some ⟨g3, 0, none⟩) p.spans.length p.spans.length, .slice (some ⟨g4, 0, none⟩) p.ties.length p.ties.length], _] _ _
  have HO := hidOf h
  clear h
  go_enter Try.func62, Try.ntmps62
  go_wp2_with fail
  refine (markRus_any base g1 _ _ 1 _ _ f1 (by omega) (by omega) (owns_below HO.out.rules (HB _))).mono ?_
  rintro e w1 ⟨rfl, hg1⟩
  have z1 : w.heap.size < w1.heap.size := by have := hg1.size; simp at this; omega
  have k1 := fun o => gcell hg1 w.heap.size o (by simp) (by omega)
  have o2 := owns_far (owns_below HO.out.chunks (HB _)) hg1 (by omega)
  have o3 := owns_far (owns_below HO.out.spans (HB _)) hg1 (by omega)
  have o4 := owns_far (owns_below HO.out.ties (HB _)) hg1 (by omega)
  have HG1 := hidOf hg1
  clear hg1
  go_wp2_with fail
  rw [show (1 : Int) + 2 * (p.rules.length : Int) = ((1 + 2 * p.rules.length : Nat) : Int) by omega]
  refine (markChs_any base g2 _ _ _ _ _ f2 (by omega) (by omega) o2).mono ?_
  rw [show ((1 + 2 * p.rules.length : Nat) : Int) = (1 : Int) + 2 * (p.rules.length : Int) by omega]
  rintro e w2 ⟨rfl, hg2⟩
  have z2 : w.heap.size < w2.heap.size := by have := hg2.size; omega
  have k2 := fun o => gcell hg2 w.heap.size o (by omega) (by omega)
  have o3 := owns_far o3 hg2 (by omega)
  have o4 := owns_far o4 hg2 (by omega)
  have HG2 := hidOf hg2
  clear hg2 o2
  go_wp2_with fail
  refine (markSns_any base g3 _ _ _ _ _ f3 (by omega) (by omega) o3).mono ?_
  rintro e w3 ⟨rfl, hg3⟩
  have z3 : w.heap.size < w3.heap.size := by have := hg3.size; omega
  have k3 := fun o => gcell hg3 w.heap.size o (by omega) (by omega)
  have o4 := owns_far o4 hg3 (by omega)
  have HG3 := hidOf hg3
  clear hg3 o3
  go_wp2_with fail
  refine (markTis_any base g4 _ _ _ _ _ f4 (by omega) (by omega) o4).mono ?_
  rintro e w4 ⟨rfl, hg4⟩
  have HG4 := hidOf hg4
  clear hg4 o4
  go_wp2
  go_ret
  have t1 := (HB (.cells #[.int .i64 p.indent, .slice (some ⟨g1, 0, none⟩) p.rules.length p.rules.length, .slice (some ⟨g2, 0, none⟩) p.chunks.length p.chunks.length, .slice (some ⟨g3, 0, none⟩) p.spans.length p.spans.length, .slice (some ⟨g4, 0, none⟩) p.ties.length p.ties.length] 29))
  have t2 := HG1.out
  have t3 := HG2.out
  have t4 := HG3.out
  have t5 := HG4.out
  have q1 := t1.size
  have q2 := t2.size
  have q3 := t3.size
  have q4 := t4.size
  have q5 := t5.size
  refine ⟨_, by omega, by omega, rfl, t5.os.trans (t4.os.trans (t3.os.trans (t2.os.trans t1.os))), t5.tape.trans (t4.tape.trans (t3.tape.trans (t2.tape.trans t1.tape))), t5.output.trans (t4.output.trans (t3.output.trans (t2.output.trans t1.output))), by omega, fun k hk n1 n2 n3 n4 => ?_⟩
  rw [t5.block k (by omega) (fun e => n4 (Option.some.inj e)), t4.block k (by omega) (fun e => n3 (Option.some.inj e)), t3.block k (by omega) (fun e => n2 (Option.some.inj e)), t2.block k (by omega) (fun e => n1 (Option.some.inj e)), t1.block k hk]
theorem markPc_any (base : Nat) (p : Pc) (g1 g2 g3 g4 : Nat) (w : World) (hF : PcFew p) (h : PcOwn base w p g1 g2 g3 g4) :
    Calls Try.prog 62 #[pcV p (plOf p g1 g2 g3 g4), .int .i64 1] w fun e w' => ∃ r : Int, 0 ≤ r ∧ e = .returned (.int .i64 r) ∧ Turned4 g1 g2 g3 g4 w w' :=
  (markPc_le base p g1 g2 g3 g4 w hF h).mono fun _ _ ⟨r, h0, _, e, t⟩ => ⟨r, h0, e, t⟩
end Go.Proofs.Ytokfemlcamnaaaa
/- The law on BestOf: two answers alike, the arguments as they were, and what is answered owns its memory. -/
namespace Go.Proofs.Ytokfemlcamnaaaa
open Go.RowKit

/-- A cost in a variable of its own. -/
abbrev CoBox (w : World) (b : Nat) (o s : Int) : Prop := w.ownsRow b coT 1 (.slice (some ⟨b, 0, none⟩) 2 2) 2 [.int .i64 o, .int .i64 s]
theorem coBox_new (w : World) (o s : Int) : CoBox (w.alloc (.cells #[.int .i64 o, .int .i64 s] coT)) w.heap.size o s :=
  ⟨rfl, .inr ⟨w.heap.size, 2, _, rfl, Nat.le_refl _, heap_alloc_new w _, Nat.le_refl _, by unfold maxLen; omega, rfl, rfl⟩⟩
theorem coBox_0 {w : World} {b : Nat} {o s : Int} (h : CoBox w b o s) : w.cell? ⟨b, 0, none⟩ = some (.int .i64 o) := h.cellAt 0 (by omega)
theorem coBox_1 {w : World} {b : Nat} {o s : Int} (h : CoBox w b o s) : w.cell? ⟨b, 1, none⟩ = some (.int .i64 s) := h.cellAt 1 (by omega)

set_option maxHeartbeats 8000000 in
theorem lawBestOf (p : Pc) (l : Pl) (wd : Int) (w : World) (hok : PcOk p) (hp : PcIn w p l) :
    Calls Try.prog 8 #[pcV p l, .int .i64 wd] w fun e w' => e = .returned (.bool true) ∧ Below w.heap.size w w' := by
  show Calls _ _ #[.agg #[.int .i64 p.indent, .slice l.a1 p.rules.length l.c1, .slice l.a2 p.chunks.length l.c2, .slice l.a3 p.spans.length l.c3, .slice l.a4 p.ties.length l.c4], _] _ _
  go_enter Try.func8, Try.ntmps8
  go_wp2_with fail
  obtain ⟨W0, hW0, X0, B0, S0⟩ := boxed w p l 78
  rw [← hW0]
  have I0 := hp.below B0 (Nat.le_refl _)
  have hX : w.heap.size < W0.heap.size := by omega
  clear hW0 S0 hp
  refine (szPc_any p l _ hok I0).mono ?_
  rintro e w1 ⟨r, rfl, hr, A1⟩
  rcases hr with rfl | ⟨hr0, hF⟩
  · go_wp2
    go_ret
    exact ⟨rfl, B0.trans (A1.mono B0.size)⟩
  obtain ⟨-, c0, c1, c2, c3, c4⟩ := X0.below A1 hX
  go_wp2_with fail
  refine (toPc_any p l _ hF (I0.below A1 (Nat.le_refl _))).mono ?_
  rintro e w2 ⟨g1, g2, g3, g4, rfl, O2, hb2⟩
  have A2 := A1.trans (hb2.mono A1.size)
  clear c0 c1 c2 c3 c4
  obtain ⟨ks, o, s, b, hk8, qS, qI, -⟩ := best_key p wd hF
  have hkl : ks.length ≤ 1048576 := by omega
  have hbb : (b != b) = false := by cases b <;> rfl
  clear hb2 hk8
  go_wp2_with fail
  refine (qS _ _ O2.is).mono ?_
  rintro e w3a ⟨hb3, a0, d0, rfl, ho0⟩
  have A3a := A2.trans (hb3.mono A2.size)
  clear O2 hb3
  go_upto_region 6 with fail
  obtain ⟨b1, hb1⟩ : ∃ b1, b1 = w3a.heap.size := ⟨_, rfl⟩
  obtain ⟨w3, hw3⟩ : ∃ w3, w3 = w3a.alloc (.cells #[.int .i64 o, .int .i64 s] coT) := ⟨_, rfl⟩
  have Z1 := coBox_new w3a o s
  have ho0 := ho0.alloc (.cells #[.int .i64 o, .int .i64 s] coT)
  have A3 : Below W0.heap.size W0 w3 := by rw [hw3]; exact A3a.alloc A3a.size _
  have hw3s : w3a.heap.size < w3.heap.size := by rw [hw3]; simp
  rw [← hw3, ← hb1] at Z1
  rw [← hw3] at ho0
  rw [← hw3, ← hb1]
  have L0 := hidOf (fun q h => (ho0.lt q h).2)
  have Lz1 : b1 < w3.heap.size := by omega
  clear hw3 hb1 hw3s A3a
  obtain ⟨-, c0, c1, c2, c3, c4⟩ := X0.below A3 hX
  go_wp2_with fail
  refine (toPc_any p l _ hF (I0.below A3 (Nat.le_refl _))).mono ?_
  rintro e w4 ⟨k1, k2, k3, k4, rfl, O4, hb4⟩
  have A4 := A3.trans (hb4.mono A3.size)
  have ho0 := owns_below ho0 hb4
  have Z1 := owns_below Z1 hb4
  clear hb4 c0 c1 c2 c3 c4
  go_wp2_with fail
  obtain ⟨W4, hW4, X4, hb5, S4⟩ := boxed w4 p (plOf p k1 k2 k3 k4) 29
  rw [← hW4]
  have A5 := A4.trans (hb5.mono A4.size)
  have O5 := O4.below hb5
  have ho0 := owns_below ho0 hb5
  have Z1 := owns_below Z1 hb5
  have hX4 : w4.heap.size < W4.heap.size := by omega
  clear hW4
  refine (qI _ _ (Nat.le_refl _) O5.is).mono ?_
  rintro e w6a ⟨hb6, a1, d1, rfl, ho1⟩
  have A6a := A5.trans (hb6.mono A5.size)
  have O6a := O5.below hb6
  have ho0 := owns_below ho0 hb6
  have Z1 := owns_below Z1 hb6
  have E6a := hb6
  clear hb6 O5 hb5
  go_upto_region 8 with fail
  obtain ⟨b2, hb2⟩ : ∃ b2, b2 = w6a.heap.size := ⟨_, rfl⟩
  obtain ⟨w6, hw6⟩ : ∃ w6, w6 = w6a.alloc (.cells #[.int .i64 o, .int .i64 s] coT) := ⟨_, rfl⟩
  have hb7 : Below w6a.heap.size w6a w6 := by rw [hw6]; exact (Below.refl _ _).alloc (Nat.le_refl _) _
  have Z2 := coBox_new w6a o s
  rw [← hw6, ← hb2] at Z2
  rw [← hw6, ← hb2]
  have A6 := A6a.trans (hb7.mono A6a.size)
  have E6 := E6a.trans (hb7.mono E6a.size)
  have O6 := O6a.below hb7
  have ho0 := owns_below ho0 hb7
  have ho1 := owns_below ho1 hb7
  have Z1 := owns_below Z1 hb7
  have L1 := hidOf (fun q h => (ho1.lt q h).1)
  have Lz2 : W4.heap.size ≤ b2 := by have := E6a.size; omega
  have L1b : Hid (∀ q, (Value.slice a1 ks.length d1).ownBlock = some q → q ≠ b2) := hidOf (fun q h e => by
    obtain ⟨cur, h1⟩ := row_type Z2
    obtain ⟨cur', h2⟩ : ∃ cur, w6.heap[q]? = some (.cells cur 3 (0, 0)) := by
      rcases ho1.2 with ⟨h3, -⟩ | ⟨g', cap, cur, h3, -, h4, -⟩
      · rw [h3] at h; cases h
      · rw [h3] at h; cases h; exact ⟨cur, h4⟩
    rw [e, h1] at h2
    cases h2)
  clear hw6 hb2 hb7 A6a E6a O6a
  go_wp2_with fail
  refine (eqInts_same a1 a0 d1 d0 ks _ (by omega) (.of_own ho1) (.of_own ho0)).mono ?_
  rintro e w7a ⟨rfl, hb7⟩
  have A7a := A6.trans (hb7.mono A6.size)
  have E7a := E6.trans (hb7.mono E6.size)
  have O7a := O6.below hb7
  have ho0 := owns_below ho0 hb7
  have ho1 := owns_below ho1 hb7
  have Z1 := owns_below Z1 hb7
  have Z2 := owns_below Z2 hb7
  have z0 := coBox_0 Z1
  have z1 := coBox_1 Z1
  have z2 := coBox_0 Z2
  have z3 := coBox_1 Z2
  clear hb7 O6 E6
  go_wp2_with fail
  refine (eqCo_same o s _).mono ?_
  rintro e w7 ⟨rfl, hb7⟩
  have A7 := A7a.trans (hb7.mono A7a.size)
  have E7 := E7a.trans (hb7.mono E7a.size)
  have O7 := O7a.below hb7
  have ho0 := owns_below ho0 hb7
  have ho1 := owns_below ho1 hb7
  have Z1 := owns_below Z1 hb7
  have Z2 := owns_below Z2 hb7
  clear hb7 O7a E7a A7a z0 z1 z2 z3
  obtain ⟨-, c0, c1, c2, c3, c4⟩ := X0.below A7 hX
  obtain ⟨-, b0, b1', b2', b3, b4⟩ := X4.below E7 hX4
  have hz0 : w.heap.size < w7.heap.size := by have := A7.size; omega
  have hz4 : w4.heap.size < w7.heap.size := by have := E7.size; omega
  have Dr := (Below.refl w7.heap.size w7).drew
  have IA := (I0.below A7 (Nat.le_refl _)).below Dr (Nat.le_refl _)
  have IX := O7.is.below Dr (Nat.le_refl _)
  go_wp2
  go_region_held3 (fun W => (W.cell? ⟨w4.heap.size, 0, none⟩ = some (.int .i64 p.indent) ∧ W.cell? ⟨w4.heap.size, 1, none⟩ = some (.slice (some ⟨k1, 0, none⟩) p.rules.length p.rules.length) ∧ W.cell? ⟨w4.heap.size, 2, none⟩ = some (.slice (some ⟨k2, 0, none⟩) p.chunks.length p.chunks.length) ∧ W.cell? ⟨w4.heap.size, 3, none⟩ = some (.slice (some ⟨k3, 0, none⟩) p.spans.length p.spans.length) ∧ W.cell? ⟨w4.heap.size, 4, none⟩ = some (.slice (some ⟨k4, 0, none⟩) p.ties.length p.ties.length)) ∧ W.cell? ⟨w.heap.size, 0, none⟩ = some (.int .i64 p.indent) ∧ W.cell? ⟨w.heap.size, 1, none⟩ = some (.slice l.a1 p.rules.length l.c1) ∧ W.cell? ⟨w.heap.size, 2, none⟩ = some (.slice l.a2 p.chunks.length l.c2) ∧ W.cell? ⟨w.heap.size, 3, none⟩ = some (.slice l.a3 p.spans.length l.c3) ∧ W.cell? ⟨w.heap.size, 4, none⟩ = some (.slice l.a4 p.ties.length l.c4)) (first | trivial | go_keep)
    ((first
    | (go_at_call 57; refine (toPc_any p l _ hF IA).mono ?_; rintro e w8 ⟨m1, m2, m3, m4, rfl, O8, hb8⟩; have hc8 := bcelld hb8; have hz8 : w.heap.size < w8.heap.size := Nat.lt_of_lt_of_le hz0 hb8.size; have hy8 : w4.heap.size < w8.heap.size := Nat.lt_of_lt_of_le hz4 hb8.size)
    | (go_at_call 59; refine (eqPc_same p _ _ _ hF (IX.below hb8 (Nat.le_refl _)) O8.is).mono ?_; rintro e w9 ⟨rfl, hb9⟩; have hc9 := (bcell hb9).1)))
  have A8 := A7.drew.trans (hb8.mono A7.size)
  have A9 := A8.trans (hb9.mono A8.size)
  have E8 := E7.drew.trans (hb8.mono E7.size)
  have E9 := E8.trans (hb9.mono E8.size)
  have O9 := ((O7.below Dr).below hb8).below hb9
  have ho0 := owns_below (owns_below (owns_below ho0 Dr) hb8) hb9
  have ho1 := owns_below (owns_below (owns_below ho1 Dr) hb8) hb9
  have Z1 := owns_below (owns_below (owns_below Z1 Dr) hb8) hb9
  have Z2 := owns_below (owns_below (owns_below Z2 Dr) hb8) hb9
  clear c0 c1 c2 c3 c4 b0 b1' b2' b3 b4 hc8 hc9 hz0 hz4 hz8 hy8 IA IX hb8 hb9 O8 A8 E8 Dr E7 O7
  obtain ⟨-, b0, b1', b2', b3, b4⟩ := X4.below E9 hX4
  have j1 := O9.b1
  have j2 := O9.b2
  have j3 := O9.b3
  have j4 := O9.b4
  have j5 := (O4.ties.lt k4 rfl).2
  have j6 := A3.size
  go_wp2_with fail
  refine (markPc_any _ p k1 k2 k3 k4 _ hF O9).mono ?_
  rintro e w10 ⟨r10, hr10, rfl, T10⟩
  have A10 := T10.below A9 A9.size (by omega) (by omega) (by omega) (by omega)
  have ho0 := own_turned T10 ho0 (fun e => by have := L0.out _ e; omega) (fun e => by have := L0.out _ e; omega) (fun e => by have := L0.out _ e; omega) (fun e => by have := L0.out _ e; omega)
  have ho1 := own_turned T10 ho1 (fun e => by have := L1.out _ e; omega) (fun e => by have := L1.out _ e; omega) (fun e => by have := L1.out _ e; omega) (fun e => by have := L1.out _ e; omega)
  have Z1 := own_turned T10 Z1 (fun e => by have h : b1 = _ := Option.some.inj e; omega) (fun e => by have h : b1 = _ := Option.some.inj e; omega) (fun e => by have h : b1 = _ := Option.some.inj e; omega) (fun e => by have h : b1 = _ := Option.some.inj e; omega)
  have Z2 := own_turned T10 Z2 (fun e => by have h : b2 = _ := Option.some.inj e; omega) (fun e => by have h : b2 = _ := Option.some.inj e; omega) (fun e => by have h : b2 = _ := Option.some.inj e; omega) (fun e => by have h : b2 = _ := Option.some.inj e; omega)
  clear b0 b1' b2' b3 b4 T10 O9 O4 X4 E9 A9 A7
  go_wp2_with fail
  refine (eqInts_same a1 a0 d1 d0 ks _ (by omega) (.of_own ho1) (.of_own ho0)).mono ?_
  rintro e w11a ⟨rfl, hb11⟩
  have A11a := A10.trans (hb11.mono A10.size)
  have ho0 := owns_below ho0 hb11
  have ho1 := owns_below ho1 hb11
  have Z1 := owns_below Z1 hb11
  have Z2 := owns_below Z2 hb11
  have z0 := coBox_0 Z1
  have z1 := coBox_1 Z1
  have z2 := coBox_0 Z2
  have z3 := coBox_1 Z2
  clear hb11 A10
  go_wp2_with fail
  refine (eqCo_same o s _).mono ?_
  rintro e w11 ⟨rfl, hb11⟩
  have A11 := A11a.trans (hb11.mono A11a.size)
  have ho0 := owns_below ho0 hb11
  have ho1 := owns_below ho1 hb11
  have Z1 := owns_below Z1 hb11
  have n01 : (Value.slice a0 ks.length d0).ownBlock = none ∨ (Value.slice a0 ks.length d0).ownBlock ≠ (Value.slice a1 ks.length d1).ownBlock := by
    cases hv : (Value.slice a0 ks.length d0).ownBlock with
    | none => exact .inl rfl
    | some q =>
      right
      intro he
      have h1 := L0.out q hv
      have h2 := L1.out q he.symm
      have := A4.size
      omega
  have n02 : (Value.slice (some ⟨b1, 0, none⟩) 2 2).ownBlock = none ∨ (Value.slice (some ⟨b1, 0, none⟩) 2 2).ownBlock ≠ (Value.slice a1 ks.length d1).ownBlock := by
    right
    intro he
    have h2 := L1.out b1 he.symm
    have := A4.size
    omega
  clear hb11 A11a z0 z1 z2 z3 Z2
  go_wp2_with fail
  refine (markInts_any a1 _ ks.length d1 1 _ _ hkl (by omega) ho1).mono ?_
  rintro e w12 ⟨rfl, ho1m, hg12⟩
  have A12 : Below W0.heap.size W0 w12 := A11.grown hg12 A11.size (fun k hk => by have := L1.out k hk; have := A4.size; omega)
  have ho0 := World.ownsRow.kept ho0 hg12 n01
  have Z1 := World.ownsRow.kept Z1 hg12 n02
  clear hg12 ho1 A11 n01 n02
  go_wp2_with fail
  refine (heldInts_any a1 _ ks.length d1 1 _ hkl (by omega) ho1m).mono ?_
  rintro e w13 ⟨rfl, hb13⟩
  have A13 := A12.trans (hb13.mono A12.size)
  have ho0 := owns_below ho0 hb13
  have Z1 := owns_below Z1 hb13
  have ho1 := owns_below ho1m hb13
  have hq : ((1 : Int) + (ks.length : Int) != 1 + (ks.length : Int)) = false := by simp
  clear hb13 ho1m A12
  obtain ⟨-, c0, c1, c2, c3, c4⟩ := X0.below A13 hX
  go_wp2_with fail
  refine (toPc_any p l _ hF (I0.below A13 (Nat.le_refl _))).mono ?_
  rintro e w14 ⟨y1, y2, y3, y4, rfl, O14, hb14⟩
  have A14 := A13.trans (hb14.mono A13.size)
  have ho0 := owns_below ho0 hb14
  have ho1 := owns_below ho1 hb14
  have Z1 := owns_below Z1 hb14
  clear hb14 c0 c1 c2 c3 c4
  go_wp2_with fail
  refine (qI _ _ (Nat.le_refl _) O14.is).mono ?_
  rintro e w15a ⟨hb15, a2, d2, rfl, ho2⟩
  have A15a := A14.trans (hb15.mono A14.size)
  have ho0 := owns_below ho0 hb15
  have ho1 := owns_below ho1 hb15
  have Z1 := owns_below Z1 hb15
  clear hb15 O14
  go_upto_region 25 with fail
  obtain ⟨b3, hb3⟩ : ∃ b3, b3 = w15a.heap.size := ⟨_, rfl⟩
  obtain ⟨w15, hw15⟩ : ∃ w15, w15 = w15a.alloc (.cells #[.int .i64 o, .int .i64 s] coT) := ⟨_, rfl⟩
  have hb15 : Below w15a.heap.size w15a w15 := by rw [hw15]; exact (Below.refl _ _).alloc (Nat.le_refl _) _
  have Z3 := coBox_new w15a o s
  rw [← hw15, ← hb3] at Z3
  rw [← hw15, ← hb3]
  have A15 := A15a.trans (hb15.mono A15a.size)
  have ho0 := owns_below ho0 hb15
  have ho1 := owns_below ho1 hb15
  have ho2 := owns_below ho2 hb15
  have Z1 := owns_below Z1 hb15
  clear hw15 hb3 hb15 A15a
  go_wp2_with fail
  refine (eqInts_same a2 a0 d2 d0 ks _ (by omega) (.of_own ho2) (.of_own ho0)).mono ?_
  rintro e w16a ⟨rfl, hb16⟩
  have A16a := A15.trans (hb16.mono A15.size)
  have ho1 := owns_below ho1 hb16
  have Z1 := owns_below Z1 hb16
  have Z3 := owns_below Z3 hb16
  have z0 := coBox_0 Z1
  have z1 := coBox_1 Z1
  have z2 := coBox_0 Z3
  have z3 := coBox_1 Z3
  clear hb16 ho2 ho0
  go_wp2_with fail
  refine (eqCo_same o s _).mono ?_
  rintro e w16 ⟨rfl, hb16⟩
  have A16 := A16a.trans (hb16.mono A16a.size)
  have ho1 := owns_below ho1 hb16
  clear hb16 z0 z1 z2 z3 Z1 Z3
  go_wp2_with fail
  refine (heldInts_any a1 _ ks.length d1 1 _ hkl (by omega) ho1).mono ?_
  rintro e w17 ⟨rfl, hb17⟩
  go_wp2
  go_ret
  have A17 := A16.trans (hb17.mono A16.size)
  exact ⟨rfl, B0.trans (A17.mono B0.size)⟩
end Go.Proofs.Ytokfemlcamnaaaa
/- A list of flat structs that came in: what its cells hold, said once for all of them. -/
namespace Go.Proofs.Ytokfemlcamnaaaa
open Go.RowKit Go.Deep

theorem plain_addr {w : World} {a : Addr} {v : Value} (h : w.cell? a = some v) : ∃ b o, a = ⟨b, o, none⟩ ∧ b < w.heap.size := by
  obtain ⟨b, off, sp⟩ := a
  have hsp : sp = none := by
    cases sp with
    | none => rfl
    | some y =>
      rw [World.cell?] at h
      split at h <;> simp at h
  subst hsp
  refine ⟨b, off, rfl, ?_⟩
  rcases Nat.lt_or_ge b w.heap.size with h' | h'
  · exact h'
  · rw [World.cell?] at h
    simp [Array.getElem?_eq_none h'] at h
theorem add_plain (b o j : Nat) : (⟨b, o, none⟩ : Addr).add j = ⟨b, o + j, none⟩ := by unfold Addr.add; split <;> simp_all

theorem open_rows {α : Type} [Inhabited α] {s : Nat} {cells : α → List Value} {Q : α → Prop} (hs : ∀ x, (cells x).length = s) (hs0 : 0 < s) {H : Type} {enc : TypeId × Value → H} {w : World} {base : Nat} {spare : Nat → Bool} {held : Bool} {fuel : Nat} {cs : List Value} {x : DataW H × List MemPlace} {t e : TypeId}
    (ht : Try.prog.underlying t = some (.slice e)) (ce : Try.prog.cellsOf e = s)
    (one : ∀ (n : Nat) (cs' : List Value) (y : DataW H × List MemPlace), cs'.length = s → DataW.trod enc Try.prog w base spare held n e cs' = some y → ∃ q : α, Q q ∧ ∀ j, j < s → cs'[j]? = (cells q)[j]?)
    (h : DataW.trod enc Try.prog w base spare held fuel t cs = some x) :
    ∃ (a : Option Addr) (len cap : Nat) (xs : List α), cs = [.slice a len cap] ∧ len ≤ maxLen ∧ xs.length = len ∧ (∀ y ∈ xs, Q y) ∧ RowsAt s cells w a xs := by
  rcases open_slice ht h with h0 | ⟨a, len, cap, m, n, D, Pl, rfl, hb, hl, hm, hmm, rfl, hx⟩
  · exact ⟨none, 0, 0, [], h0.1, Nat.zero_le _, rfl, (fun y hy => by cases hy), rowsAt_nil⟩
  have hlm : len ≤ m := by rw [hmm]; split <;> omega
  have each : ∀ i, i < len → ∃ q : α, Q q ∧ ∀ j, j < s → w.cell? ((a.add (i * s)).add j) = (cells q)[j]? := by
    intro i hi
    obtain ⟨cs', h1, h2⟩ := hx i (by omega)
    rw [ce] at h1
    obtain ⟨_, hlen, hcell⟩ := World.cells?_some h1
    obtain ⟨q, hq, hc⟩ := one _ cs' _ hlen h2
    exact ⟨q, hq, fun j hj => by rw [hcell j hj]; exact hc j hj⟩
  obtain ⟨q, hq⟩ := choose_lt each
  refine ⟨some a, len, cap, (List.range len).map q, rfl, Nat.le_trans hl hm, by simp, ?_, fun hn => ?_⟩
  · intro y hy
    obtain ⟨i, hi, rfl⟩ := List.mem_map.1 hy
    exact (hq i (List.mem_range.1 hi)).1
  · have hn' : 0 < len := by simpa using hn
    have hc0 := (hq 0 hn').2 0 hs0
    rw [add_add] at hc0
    have e0 : a.add (0 * s + 0) = a := by simp [Addr.add]
    rw [e0] at hc0
    have h00 : 0 < (cells (q 0)).length := by rw [hs]; exact hs0
    rw [List.getElem?_eq_getElem h00] at hc0
    obtain ⟨b, o, rfl, hlt⟩ := plain_addr hc0
    refine ⟨b, o, rfl, hlt, fun k y hy j hj => ?_⟩
    have hk : k < len := by have := (List.getElem?_eq_some_iff.1 hy).1; simpa using this
    have hyk : q k = y := by simpa [List.getElem?_map, List.getElem?_range hk] using hy
    have hc := (hq k hk).2 j hj
    rw [hyk, add_add, add_plain, ← Nat.add_assoc] at hc
    exact hc
end Go.Proofs.Ytokfemlcamnaaaa
/- A piece of the laws' own that came in: what it holds. -/
namespace Go.Proofs.Ytokfemlcamnaaaa
open Go.RowKit Go.Deep

theorem ci : Try.prog.cellsOf 3 = 1 := by kernel_rfl
theorem cb : Try.prog.cellsOf 4 = 1 := by kernel_rfl
theorem cst : Try.prog.cellsOf 9 = 1 := by kernel_rfl
theorem csp : Try.prog.cellsOf 172 = 4 := by kernel_rfl
theorem c42 : Try.prog.cellsOf 73 = 1 := by kernel_rfl
theorem c43 : Try.prog.cellsOf 74 = 1 := by kernel_rfl
theorem c44 : Try.prog.cellsOf 75 = 1 := by kernel_rfl
theorem c45 : Try.prog.cellsOf 76 = 1 := by kernel_rfl

section
variable {H : Type} {enc : TypeId × Value → H} {w : World} {base : Nat} {spare : Nat → Bool} {held : Bool} {fuel : Nat} {cs : List Value} {x : DataW H × List MemPlace}

set_option maxRecDepth 100000 in
theorem open_rule (hl : cs.length = 2) (h : DataW.trod enc Try.prog w base spare held fuel 176 cs = some x) : ∃ q : Ru, True ∧ ∀ j, j < 2 → cs[j]? = (ruCells q)[j]? := by
  obtain ⟨xs, k, hk, hxy, _, hxl, hf⟩ := DataW.trod_struct Try.underlying176 h
  match xs, hxl, cs, hl with
  | [y0, y1], _, [v0, v1], _ =>
    have g0 := hf 0 _ rfl
    have g1 := hf 1 _ rfl
    simp [ci] at g0 g1
    obtain ⟨z0, e0, _⟩ := DataW.trod_int Try.underlying3 g0
    obtain ⟨z1, e1, _⟩ := DataW.trod_int Try.underlying3 g1
    refine ⟨⟨z0, z1⟩, trivial, fun j hj => ?_⟩
    match j, hj with
    | 0, _ => simpa [ruCells] using e0
    | 1, _ => simpa [ruCells] using e1

set_option maxRecDepth 100000 in
theorem open_tie (hl : cs.length = 2) (h : DataW.trod enc Try.prog w base spare held fuel 181 cs = some x) : ∃ q : Ti, True ∧ ∀ j, j < 2 → cs[j]? = (tiCells q)[j]? := by
  obtain ⟨xs, k, hk, hxy, _, hxl, hf⟩ := DataW.trod_struct Try.underlying181 h
  match xs, hxl, cs, hl with
  | [y0, y1], _, [v0, v1], _ =>
    have g0 := hf 0 _ rfl
    have g1 := hf 1 _ rfl
    simp [ci] at g0 g1
    obtain ⟨z0, e0, _⟩ := DataW.trod_int Try.underlying3 g0
    obtain ⟨z1, e1, _⟩ := DataW.trod_int Try.underlying3 g1
    refine ⟨⟨z0, z1⟩, trivial, fun j hj => ?_⟩
    match j, hj with
    | 0, _ => simpa [tiCells] using e0
    | 1, _ => simpa [tiCells] using e1

set_option maxRecDepth 100000 in
theorem open_span (hl : cs.length = 3) (h : DataW.trod enc Try.prog w base spare held fuel 179 cs = some x) : ∃ q : Sn, True ∧ ∀ j, j < 3 → cs[j]? = (snCells q)[j]? := by
  obtain ⟨xs, k, hk, hxy, _, hxl, hf⟩ := DataW.trod_struct Try.underlying179 h
  match xs, hxl, cs, hl with
  | [y0, y1, y2], _, [v0, v1, v2], _ =>
    have g0 := hf 0 _ rfl
    have g1 := hf 1 _ rfl
    have g2 := hf 2 _ rfl
    simp [ci] at g0 g1 g2
    obtain ⟨z0, e0, _⟩ := DataW.trod_int Try.underlying3 g0
    obtain ⟨z1, e1, _⟩ := DataW.trod_int Try.underlying3 g1
    obtain ⟨z2, e2, _⟩ := DataW.trod_int Try.underlying3 g2
    refine ⟨⟨z0, z1, z2⟩, trivial, fun j hj => ?_⟩
    match j, hj with
    | 0, _ => simpa [snCells] using e0
    | 1, _ => simpa [snCells] using e1
    | 2, _ => simpa [snCells] using e2

set_option maxRecDepth 100000 in
theorem open_chunk (hl : cs.length = 5) (h : DataW.trod enc Try.prog w base spare held fuel 174 cs = some x) : ∃ q : Ch, q.text.size ≤ maxLen ∧ ∀ j, j < 5 → cs[j]? = (chCells q)[j]? := by
  obtain ⟨xs, k, hk, hxy, _, hxl, hf⟩ := DataW.trod_struct Try.underlying174 h
  match xs, hxl, cs, hl with
  | [y0, y1], _, [v0, v1, v2, v3, v4], _ =>
    have g0 := hf 0 _ rfl
    have g1 := hf 1 _ rfl
    simp [cst, csp] at g0 g1
    obtain ⟨z0, e0, _, hsz⟩ := DataW.trod_string Try.underlying9 g0
    obtain ⟨zs, k2, hk2, hxy2, _, hzl, hf2⟩ := DataW.trod_struct Try.underlying172 g1
    match zs, hzl with
    | [u0, u1, u2, u3], _ =>
      have f0 := hf2 0 _ rfl
      have f1 := hf2 1 _ rfl
      have f2 := hf2 2 _ rfl
      have f3 := hf2 3 _ rfl
      simp [ci, cb] at f0 f1 f2 f3
      obtain ⟨z1, e1, _⟩ := DataW.trod_int Try.underlying3 f0
      obtain ⟨z2, e2, _⟩ := DataW.trod_int Try.underlying3 f1
      obtain ⟨z3, e3, _⟩ := DataW.trod_bool Try.underlying4 f2
      obtain ⟨z4, e4, _⟩ := DataW.trod_int Try.underlying3 f3
      refine ⟨⟨z0, z1, z2, z3, z4⟩, hsz, fun j hj => ?_⟩
      match j, hj with
      | 0, _ => simpa [chCells] using e0
      | 1, _ => simpa [chCells] using e1
      | 2, _ => simpa [chCells] using e2
      | 3, _ => simpa [chCells] using e3
      | 4, _ => simpa [chCells] using e4

set_option maxRecDepth 100000 in
theorem open_piece (hl : cs.length = 5) (h : DataW.trod enc Try.prog w base spare held fuel 78 cs = some x) : ∃ (p : Pc) (l : Pl), PcOk p ∧ PcIn w p l ∧ Value.agg cs.toArray = pcV p l := by
  obtain ⟨xs, k, hk, hxy, _, hxl, hf⟩ := DataW.trod_struct Try.underlying78 h
  match xs, hxl, cs, hl with
  | [y0, y1, y2, y3, y4], _, [v0, v1, v2, v3, v4], _ =>
    have g0 := hf 0 _ rfl
    have g1 := hf 1 _ rfl
    have g2 := hf 2 _ rfl
    have g3 := hf 3 _ rfl
    have g4 := hf 4 _ rfl
    simp [ci, c42, c43, c44, c45] at g0 g1 g2 g3 g4
    haveI : Inhabited Ru := ⟨⟨0, 0⟩⟩
    haveI : Inhabited Ti := ⟨⟨0, 0⟩⟩
    haveI : Inhabited Sn := ⟨⟨0, 0, 0⟩⟩
    haveI : Inhabited Ch := ⟨⟨ByteArray.empty, 0, 0, false, 0⟩⟩
    obtain ⟨z0, e0, _⟩ := DataW.trod_int Try.underlying3 g0
    obtain ⟨a1, n1, c1, x1, e1, l1, m1, -, r1⟩ := open_rows (Q := fun _ => True) ruCells_len (by omega) Try.underlying73 (by kernel_rfl) (fun n cs' y hl h => open_rule hl h) g1
    obtain ⟨a2, n2, c2, x2, e2, l2, m2, q2, r2⟩ := open_rows (Q := fun q : Ch => q.text.size ≤ maxLen) chCells_len (by omega) Try.underlying74 (by kernel_rfl) (fun n cs' y hl h => open_chunk hl h) g2
    obtain ⟨a3, n3, c3, x3, e3, l3, m3, -, r3⟩ := open_rows (Q := fun _ => True) snCells_len (by omega) Try.underlying75 (by kernel_rfl) (fun n cs' y hl h => open_span hl h) g3
    obtain ⟨a4, n4, c4, x4, e4, l4, m4, -, r4⟩ := open_rows (Q := fun _ => True) tiCells_len (by omega) Try.underlying76 (by kernel_rfl) (fun n cs' y hl h => open_tie hl h) g4
    subst m1 m2 m3 m4
    simp at e0 e1 e2 e3 e4
    subst e0 e1 e2 e3 e4
    unfold maxLen at *
    exact ⟨⟨z0, x1, x2, x3, x4⟩, ⟨a1, c1, a2, c2, a3, c3, a4, c4⟩, ⟨by show x1.length ≤ _; omega, by show x2.length ≤ _; omega, fun y hy => by have := q2 y hy; omega, by show x3.length ≤ _; omega, by show x4.length ≤ _; omega⟩, ⟨r1, r2, r3, r4⟩, rfl⟩
end
end Go.Proofs.Ytokfemlcamnaaaa
