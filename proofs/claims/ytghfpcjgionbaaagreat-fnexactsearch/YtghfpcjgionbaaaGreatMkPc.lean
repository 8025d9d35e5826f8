/- What the laws' helper markPiece does: it writes into the piece's own four lists alone. -/
import Derived.Test.YtghfpcjgionbaaaGreatKau
import Derived.Test.YtghfpcjgionbaaaGreatTopPc
namespace Go.Proofs.YtghfpcjgionbaaaGreat
open Go.RowKit

set_option maxHeartbeats 4000000 in
theorem markRus_any (b g n c : Nat) (k : Int) (zs : List Value) (w : World) (hn : n ≤ 1048576) (hk0 : 0 ≤ k) (hk : k ≤ 16777216) (hown : w.ownsRow b 68 2 (.slice (some ⟨g, 0, none⟩) n c) n zs) :
    Calls Tryz.prog 45 #[.slice (some ⟨g, 0, none⟩) n c, .int .i64 k] w fun e w' => e = .returned (.int .i64 (k + 2 * n)) ∧ w.grownBy w' (some g) := by
  go_enter Tryz.func45, Tryz.ntmps45
  go_wp2
  go_loopw [1, 5] (fun q i wr => ∃ (j : Nat) (zs : List Value), j ≤ n ∧ i = .int .i64 j ∧ q = .int .i64 (k + 2 * j) ∧ wr.ownsRow b 68 2 (.slice (some ⟨g, 0, none⟩) n c) n zs ∧ w.grownBy wr (some g)) (fun _ i _ => n - (intOf i).toNat)
  case atStart => exact ⟨0, _, Nat.zero_le _, rfl, by go_num, hown, World.grownBy.refl _ _⟩
  case round =>
    obtain ⟨j, zs, hj, rfl, rfl, ho, hg⟩ := hrel
    by_cases hlt : j < n
    · have hA : (0 : Int) ≤ (j : Int) := by omega
      have hB : (j : Int) < (n : Int) := by omega
      obtain ⟨p, hp⟩ : ∃ p, p = k + 2 * (j : Int) := ⟨_, rfl⟩
      rw [← hp]
      have hp0 : 0 ≤ p ∧ p ≤ 33554432 := by omega
      have HP := hidOf hp
      clear hp
      have hlz : zs.length = n * 2 := ho.1
      have s0 := ho.stored (j * 2) (.int .i64 (p))
      have s1 := s0.1.stored (j * 2 + 1) (.int .i64 (p + 1))
      have HS := hidOf (And.intro s1.1 (grownBy_trans hg (grownBy_trans s0.2 s1.2)))
      obtain ⟨u0, d0⟩ : ∃ u, wr.cell? ⟨g, j * 2, none⟩ = some u := ⟨_, (ho.cellAt (j * 2) (by omega)).trans (List.getElem?_eq_getElem (by omega))⟩
      obtain ⟨u1, d1⟩ : ∃ u, wr.cell? ⟨g, j * 2 + 1, none⟩ = some u := ⟨_, (ho.cellAt (j * 2 + 1) (by omega)).trans (List.getElem?_eq_getElem (by omega))⟩
      have f0 := ho.frozenAt (j * 2)
      have f1 := ho.frozenAt (j * 2 + 1)
      clear s0 s1 hlz ho
      go_wp2
      refine ⟨⟨j + 1, _, by omega, by go_num, ?_, HS.out.1, HS.out.2⟩, ?_⟩
      · congr 1
        have := HP.out
        omega
      · simp only [intOf]
        omega
    · have hjn : j = n := by omega
      subst hjn
      go_wp2
      go_ret
      exact ⟨rfl, hg⟩

set_option maxHeartbeats 4000000 in
theorem markSns_any (b g n c : Nat) (k : Int) (zs : List Value) (w : World) (hn : n ≤ 1048576) (hk0 : 0 ≤ k) (hk : k ≤ 16777216) (hown : w.ownsRow b 107 3 (.slice (some ⟨g, 0, none⟩) n c) n zs) :
    Calls Tryz.prog 47 #[.slice (some ⟨g, 0, none⟩) n c, .int .i64 k] w fun e w' => e = .returned (.int .i64 (k + 3 * n)) ∧ w.grownBy w' (some g) := by
  go_enter Tryz.func47, Tryz.ntmps47
  go_wp2
  go_loopw [1, 5] (fun q i wr => ∃ (j : Nat) (zs : List Value), j ≤ n ∧ i = .int .i64 j ∧ q = .int .i64 (k + 3 * j) ∧ wr.ownsRow b 107 3 (.slice (some ⟨g, 0, none⟩) n c) n zs ∧ w.grownBy wr (some g)) (fun _ i _ => n - (intOf i).toNat)
  case atStart => exact ⟨0, _, Nat.zero_le _, rfl, by go_num, hown, World.grownBy.refl _ _⟩
  case round =>
    obtain ⟨j, zs, hj, rfl, rfl, ho, hg⟩ := hrel
    by_cases hlt : j < n
    · have hA : (0 : Int) ≤ (j : Int) := by omega
      have hB : (j : Int) < (n : Int) := by omega
      obtain ⟨p, hp⟩ : ∃ p, p = k + 3 * (j : Int) := ⟨_, rfl⟩
      rw [← hp]
      have hp0 : 0 ≤ p ∧ p ≤ 33554432 := by omega
      have HP := hidOf hp
      clear hp
      have hlz : zs.length = n * 3 := ho.1
      have s0 := ho.stored (j * 3) (.int .i64 (p))
      have s1 := s0.1.stored (j * 3 + 1) (.int .i64 (p + 1))
      have s2 := s1.1.stored (j * 3 + 2) (.int .i64 (p + 1 + 1))
      have HS := hidOf (And.intro s2.1 (grownBy_trans hg (grownBy_trans (grownBy_trans s0.2 s1.2) s2.2)))
      obtain ⟨u0, d0⟩ : ∃ u, wr.cell? ⟨g, j * 3, none⟩ = some u := ⟨_, (ho.cellAt (j * 3) (by omega)).trans (List.getElem?_eq_getElem (by omega))⟩
      obtain ⟨u1, d1⟩ : ∃ u, wr.cell? ⟨g, j * 3 + 1, none⟩ = some u := ⟨_, (ho.cellAt (j * 3 + 1) (by omega)).trans (List.getElem?_eq_getElem (by omega))⟩
      obtain ⟨u2, d2⟩ : ∃ u, wr.cell? ⟨g, j * 3 + 2, none⟩ = some u := ⟨_, (ho.cellAt (j * 3 + 2) (by omega)).trans (List.getElem?_eq_getElem (by omega))⟩
      have f0 := ho.frozenAt (j * 3)
      have f1 := ho.frozenAt (j * 3 + 1)
      have f2 := ho.frozenAt (j * 3 + 2)
      clear s0 s1 s2 hlz ho
      go_wp2
      refine ⟨⟨j + 1, _, by omega, by go_num, ?_, HS.out.1, HS.out.2⟩, ?_⟩
      · congr 1
        have := HP.out
        omega
      · simp only [intOf]
        omega
    · have hjn : j = n := by omega
      subst hjn
      go_wp2
      go_ret
      exact ⟨rfl, hg⟩

set_option maxHeartbeats 4000000 in
theorem markTis_any (b g n c : Nat) (k : Int) (zs : List Value) (w : World) (hn : n ≤ 1048576) (hk0 : 0 ≤ k) (hk : k ≤ 16777216) (hown : w.ownsRow b 109 2 (.slice (some ⟨g, 0, none⟩) n c) n zs) :
    Calls Tryz.prog 48 #[.slice (some ⟨g, 0, none⟩) n c, .int .i64 k] w fun e w' => e = .returned (.int .i64 (k + 2 * n)) ∧ w.grownBy w' (some g) := by
  go_enter Tryz.func48, Tryz.ntmps48
  go_wp2
  go_loopw [1, 5] (fun q i wr => ∃ (j : Nat) (zs : List Value), j ≤ n ∧ i = .int .i64 j ∧ q = .int .i64 (k + 2 * j) ∧ wr.ownsRow b 109 2 (.slice (some ⟨g, 0, none⟩) n c) n zs ∧ w.grownBy wr (some g)) (fun _ i _ => n - (intOf i).toNat)
  case atStart => exact ⟨0, _, Nat.zero_le _, rfl, by go_num, hown, World.grownBy.refl _ _⟩
  case round =>
    obtain ⟨j, zs, hj, rfl, rfl, ho, hg⟩ := hrel
    by_cases hlt : j < n
    · have hA : (0 : Int) ≤ (j : Int) := by omega
      have hB : (j : Int) < (n : Int) := by omega
      obtain ⟨p, hp⟩ : ∃ p, p = k + 2 * (j : Int) := ⟨_, rfl⟩
      rw [← hp]
      have hp0 : 0 ≤ p ∧ p ≤ 33554432 := by omega
      have HP := hidOf hp
      clear hp
      have hlz : zs.length = n * 2 := ho.1
      have s0 := ho.stored (j * 2) (.int .i64 (p))
      have s1 := s0.1.stored (j * 2 + 1) (.int .i64 (p + 1))
      have HS := hidOf (And.intro s1.1 (grownBy_trans hg (grownBy_trans s0.2 s1.2)))
      obtain ⟨u0, d0⟩ : ∃ u, wr.cell? ⟨g, j * 2, none⟩ = some u := ⟨_, (ho.cellAt (j * 2) (by omega)).trans (List.getElem?_eq_getElem (by omega))⟩
      obtain ⟨u1, d1⟩ : ∃ u, wr.cell? ⟨g, j * 2 + 1, none⟩ = some u := ⟨_, (ho.cellAt (j * 2 + 1) (by omega)).trans (List.getElem?_eq_getElem (by omega))⟩
      have f0 := ho.frozenAt (j * 2)
      have f1 := ho.frozenAt (j * 2 + 1)
      clear s0 s1 hlz ho
      go_wp2
      refine ⟨⟨j + 1, _, by omega, by go_num, ?_, HS.out.1, HS.out.2⟩, ?_⟩
      · congr 1
        have := HP.out
        omega
      · simp only [intOf]
        omega
    · have hjn : j = n := by omega
      subst hjn
      go_wp2
      go_ret
      exact ⟨rfl, hg⟩

set_option maxHeartbeats 4000000 in
theorem markChs_any (b g n c k : Nat) (zs : List Value) (w : World) (hn : n ≤ 1048576) (hk0 : 0 < k) (hk : k ≤ 16777216) (hown : w.ownsRow b 104 5 (.slice (some ⟨g, 0, none⟩) n c) n zs) :
    Calls Tryz.prog 46 #[.slice (some ⟨g, 0, none⟩) n c, .int .i64 k] w fun e w' => e = .returned (.int .i64 ((k : Int) + 5 * n)) ∧ w.grownBy w' (some g) := by
  go_enter Tryz.func46, Tryz.ntmps46
  go_wp2
  go_loopw [1, 5] (fun q i wr => ∃ (j : Nat) (zs : List Value), j ≤ n ∧ i = .int .i64 j ∧ q = .int .i64 ((k : Int) + 5 * j) ∧ wr.ownsRow b 104 5 (.slice (some ⟨g, 0, none⟩) n c) n zs ∧ w.grownBy wr (some g)) (fun _ i _ => n - (intOf i).toNat)
  case atStart => exact ⟨0, _, Nat.zero_le _, rfl, by go_num, hown, World.grownBy.refl _ _⟩
  case round =>
    obtain ⟨j, zs, hj, rfl, rfl, ho, hg⟩ := hrel
    by_cases hlt : j < n
    · have hA : (0 : Int) ≤ (j : Int) := by omega
      have hB : (j : Int) < (n : Int) := by omega
      obtain ⟨p, hp⟩ : ∃ p, p = k + 5 * j := ⟨_, rfl⟩
      rw [show ((k : Int) + 5 * (j : Int)) = (p : Int) by omega]
      have hp0 : 0 < p ∧ p ≤ 33554432 := by omega
      have HP := hidOf hp
      clear hp
      go_wp2_with fail
      refine (markText_any p _ (by omega) (by omega)).mono ?_
      rintro e w2 ⟨rfl, hbm⟩
      have ho2 := owns_below ho hbm
      have hlz : zs.length = n * 5 := ho2.1
      obtain ⟨m, hm⟩ : ∃ m, m = mk p := ⟨_, rfl⟩
      rw [← hm]
      have s0 := ho2.stored (j * 5) (.string m)
      have s1 := s0.1.stored (j * 5 + 1) (.int .i64 ((p : Int) + 1))
      have s2 := s1.1.stored (j * 5 + 2) (.int .i64 ((p : Int) + 1 + 1))
      have s3 := s2.1.stored (j * 5 + 3) (.bool (((p : Int) + 1 + 1 + 1) % 3 == 0))
      have s4 := s3.1.stored (j * 5 + 4) (.int .i64 ((p : Int) + 1 + 1 + 1 + 1))
      have HS := hidOf (And.intro s4.1 (grownBy_trans (grownBy_trans hg (grownBy_of_below hbm _)) (grownBy_trans (grownBy_trans (grownBy_trans (grownBy_trans s0.2 s1.2) s2.2) s3.2) s4.2)))
      obtain ⟨u0, d0⟩ : ∃ u, w2.cell? ⟨g, j * 5, none⟩ = some u := ⟨_, (ho2.cellAt (j * 5) (by omega)).trans (List.getElem?_eq_getElem (by omega))⟩
      obtain ⟨u1, d1⟩ : ∃ u, w2.cell? ⟨g, j * 5 + 1, none⟩ = some u := ⟨_, (ho2.cellAt (j * 5 + 1) (by omega)).trans (List.getElem?_eq_getElem (by omega))⟩
      obtain ⟨u2, d2⟩ : ∃ u, w2.cell? ⟨g, j * 5 + 2, none⟩ = some u := ⟨_, (ho2.cellAt (j * 5 + 2) (by omega)).trans (List.getElem?_eq_getElem (by omega))⟩
      obtain ⟨u3, d3⟩ : ∃ u, w2.cell? ⟨g, j * 5 + 3, none⟩ = some u := ⟨_, (ho2.cellAt (j * 5 + 3) (by omega)).trans (List.getElem?_eq_getElem (by omega))⟩
      obtain ⟨u4, d4⟩ : ∃ u, w2.cell? ⟨g, j * 5 + 4, none⟩ = some u := ⟨_, (ho2.cellAt (j * 5 + 4) (by omega)).trans (List.getElem?_eq_getElem (by omega))⟩
      have f0 := ho2.frozenAt (j * 5)
      have f1 := ho2.frozenAt (j * 5 + 1)
      have f2 := ho2.frozenAt (j * 5 + 2)
      have f3 := ho2.frozenAt (j * 5 + 3)
      have f4 := ho2.frozenAt (j * 5 + 4)
      clear s0 s1 s2 s3 s4 hlz ho2 hm ho hbm hg
      go_wp2
      refine ⟨⟨j + 1, _, by omega, by go_num, ?_, HS.out.1, HS.out.2⟩, ?_⟩
      · congr 1
        have := HP.out
        omega
      · simp only [intOf]
        omega
    · have hjn : j = n := by omega
      subst hjn
      go_wp2
      go_ret
      exact ⟨rfl, hg⟩

theorem gcell {w w' : World} {g : Nat} (hg : w.grownBy w' (some g)) (b o : Nat) (hb : b < w.heap.size) (hne : b ≠ g) : w'.cell? ⟨b, o, none⟩ = w.cell? ⟨b, o, none⟩ := World.cell?_of_block (hg.block b hb (fun e => hne (Option.some.inj e)))
theorem owns_far {w w' : World} {g g' base e size n c : Nat} {xs : List Value} (h : w.ownsRow base e size (.slice (some ⟨g', 0, none⟩) n c) n xs) (hg : w.grownBy w' (some g)) (hne : g' ≠ g) : w'.ownsRow base e size (.slice (some ⟨g', 0, none⟩) n c) n xs :=
  World.ownsRow.kept h hg (.inr (fun e => hne (Option.some.inj e)))
/-- Nothing but four rows has turned. -/
structure Turned4 (g1 g2 g3 g4 : Nat) (w w' : World) : Prop where
  os : w'.os = w.os
  tape : w'.tape = w.tape
  output : w'.output = w.output
  size : w.heap.size ≤ w'.heap.size
  block : ∀ k, k < w.heap.size → k ≠ g1 → k ≠ g2 → k ≠ g3 → k ≠ g4 → w'.heap[k]? = w.heap[k]?
theorem Turned4.below {g1 g2 g3 g4 B : Nat} {a w w' : World} (h : Turned4 g1 g2 g3 g4 w w') (hb : Below B a w) (hs : B ≤ w.heap.size) (l1 : B ≤ g1) (l2 : B ≤ g2) (l3 : B ≤ g3) (l4 : B ≤ g4) : Below B a w' :=
  ⟨h.os.trans hb.os, h.tape.trans hb.tape, h.output.trans hb.output, Nat.le_trans hb.size h.size, fun k hk => (h.block k (by omega) (by omega) (by omega) (by omega) (by omega)).trans (hb.block k hk)⟩
theorem own_turned {g1 g2 g3 g4 : Nat} {w w' : World} {base e size n : Nat} {v : Value} {xs : List Value} (h : Turned4 g1 g2 g3 g4 w w') (ho : w.ownsRow base e size v n xs) (n1 : v.ownBlock ≠ some g1) (n2 : v.ownBlock ≠ some g2) (n3 : v.ownBlock ≠ some g3) (n4 : v.ownBlock ≠ some g4) : w'.ownsRow base e size v n xs := by
  refine ⟨ho.1, ?_⟩
  rcases ho.2 with hz | ⟨g, cap, cur, rfl, h2, h3, h4⟩
  · exact .inl hz
  · refine .inr ⟨g, cap, cur, rfl, h2, ?_, h4⟩
    rw [h.block g (Array.getElem?_eq_some_iff.1 h3).1 (fun e => n1 (by rw [e]; rfl)) (fun e => n2 (by rw [e]; rfl)) (fun e => n3 (by rw [e]; rfl)) (fun e => n4 (by rw [e]; rfl))]
    exact h3

set_option maxHeartbeats 4000000 in
theorem markPc_le (base : Nat) (p : Pc) (g1 g2 g3 g4 : Nat) (w : World) (hF : PcFew p) (h : PcOwn base w p g1 g2 g3 g4) :
    Calls Tryz.prog 12 #[pcV p (plOf p g1 g2 g3 g4), .int .i64 1] w fun e w' => ∃ r : Int, 0 ≤ r ∧ r ≤ 16777216 ∧ e = .returned (.int .i64 r) ∧ Turned4 g1 g2 g3 g4 w w' := by
  have l1 := (h.rules.lt g1 rfl).2
  have l2 := (h.chunks.lt g2 rfl).2
  have l3 := (h.spans.lt g3 rfl).2
  have l4 := (h.ties.lt g4 rfl).2
  have b2 := h.b2
  have b3 := h.b3
  have b4 := h.b4
  have f1 := hF.rules
  have f2 := hF.chunks
  have f3 := hF.spans
  have f4 := hF.ties
  have HB : ∀ o1 : Obj, Below w.heap.size w (w.alloc o1) := fun o1 => (Below.refl _ _).alloc (Nat.le_refl _) _
  show Calls _ _ #[.agg #[.int .i64 p.indent, .slice (some ⟨g1, 0, none⟩) p.rules.length p.rules.length, .slice (some ⟨g2, 0, none⟩) p.chunks.length p.chunks.length, .slice (some ⟨g3, 0, none⟩) p.spans.length p.spans.length, .slice (some ⟨g4, 0, none⟩) p.ties.length p.ties.length], _] _ _
  have HO := hidOf h
  clear h
  go_enter Tryz.func12, Tryz.ntmps12
  go_wp2_with fail
  refine (markRus_any base g1 _ _ 1 _ _ f1 (by omega) (by omega) (owns_below HO.out.rules (HB _))).mono ?_
  rintro e w1 ⟨rfl, hg1⟩
  have z1 : w.heap.size < w1.heap.size := by have := hg1.size; simp at this; omega
  have k1 := fun o => gcell hg1 w.heap.size o (by simp) (by omega)
  have o2 := owns_far (owns_below HO.out.chunks (HB _)) hg1 (by omega)
  have o3 := owns_far (owns_below HO.out.spans (HB _)) hg1 (by omega)
  have o4 := owns_far (owns_below HO.out.ties (HB _)) hg1 (by omega)
  have HG1 := hidOf hg1
  clear hg1
  go_wp2_with fail
  rw [show (1 : Int) + 2 * (p.rules.length : Int) = ((1 + 2 * p.rules.length : Nat) : Int) by omega]
  refine (markChs_any base g2 _ _ _ _ _ f2 (by omega) (by omega) o2).mono ?_
  rw [show ((1 + 2 * p.rules.length : Nat) : Int) = (1 : Int) + 2 * (p.rules.length : Int) by omega]
  rintro e w2 ⟨rfl, hg2⟩
  have z2 : w.heap.size < w2.heap.size := by have := hg2.size; omega
  have k2 := fun o => gcell hg2 w.heap.size o (by omega) (by omega)
  have o3 := owns_far o3 hg2 (by omega)
  have o4 := owns_far o4 hg2 (by omega)
  have HG2 := hidOf hg2
  clear hg2 o2
  go_wp2_with fail
  refine (markSns_any base g3 _ _ _ _ _ f3 (by omega) (by omega) o3).mono ?_
  rintro e w3 ⟨rfl, hg3⟩
  have z3 : w.heap.size < w3.heap.size := by have := hg3.size; omega
  have k3 := fun o => gcell hg3 w.heap.size o (by omega) (by omega)
  have o4 := owns_far o4 hg3 (by omega)
  have HG3 := hidOf hg3
  clear hg3 o3
  go_wp2_with fail
  refine (markTis_any base g4 _ _ _ _ _ f4 (by omega) (by omega) o4).mono ?_
  rintro e w4 ⟨rfl, hg4⟩
  have HG4 := hidOf hg4
  clear hg4 o4
  go_wp2
  go_ret
  have t1 := (HB (.cells #[.int .i64 p.indent, .slice (some ⟨g1, 0, none⟩) p.rules.length p.rules.length, .slice (some ⟨g2, 0, none⟩) p.chunks.length p.chunks.length, .slice (some ⟨g3, 0, none⟩) p.spans.length p.spans.length, .slice (some ⟨g4, 0, none⟩) p.ties.length p.ties.length] 37))
  have t2 := HG1.out
  have t3 := HG2.out
  have t4 := HG3.out
  have t5 := HG4.out
  have q1 := t1.size
  have q2 := t2.size
  have q3 := t3.size
  have q4 := t4.size
  have q5 := t5.size
  refine ⟨_, by omega, by omega, rfl, t5.os.trans (t4.os.trans (t3.os.trans (t2.os.trans t1.os))), t5.tape.trans (t4.tape.trans (t3.tape.trans (t2.tape.trans t1.tape))), t5.output.trans (t4.output.trans (t3.output.trans (t2.output.trans t1.output))), by omega, fun k hk n1 n2 n3 n4 => ?_⟩
  rw [t5.block k (by omega) (fun e => n4 (Option.some.inj e)), t4.block k (by omega) (fun e => n3 (Option.some.inj e)), t3.block k (by omega) (fun e => n2 (Option.some.inj e)), t2.block k (by omega) (fun e => n1 (Option.some.inj e)), t1.block k hk]
theorem markPc_any (base : Nat) (p : Pc) (g1 g2 g3 g4 : Nat) (w : World) (hF : PcFew p) (h : PcOwn base w p g1 g2 g3 g4) :
    Calls Tryz.prog 12 #[pcV p (plOf p g1 g2 g3 g4), .int .i64 1] w fun e w' => ∃ r : Int, 0 ≤ r ∧ e = .returned (.int .i64 r) ∧ Turned4 g1 g2 g3 g4 w w' :=
  (markPc_le base p g1 g2 g3 g4 w hF h).mono fun _ _ ⟨r, h0, _, e, t⟩ => ⟨r, h0, e, t⟩
end Go.Proofs.YtghfpcjgionbaaaGreat
