/- What the laws' helpers on a piece that came in do: szPiece tells whether it is too great, toPiece copies it, eqPiece tells of two that they are the same. -/
import Derived.Test.YtghfpcjgionbaaaGreatToPc
import Derived.Test.YtghfpcjgionbaaaGreatKav
namespace Go.Proofs.YtghfpcjgionbaaaGreat
open Go.RowKit

set_option maxHeartbeats 1600000 in
theorem szPc_any (p : Pc) (l : Pl) (w : World) (hok : PcOk p) (hp : PcIn w p l) :
    Calls Tryz.prog 6 #[pcV p l, .int .i64 1048576] w fun e w' => ∃ r : Int, e = .returned (.int .i64 r) ∧ ((r = -1) ∨ (0 ≤ r ∧ PcFew p)) ∧ Below w.heap.size w w' := by
  have HB : ∀ o1 : Obj, Below w.heap.size w (w.alloc o1) := fun o1 => (Below.refl _ _).alloc (Nat.le_refl _) _
  show Calls _ _ #[.agg #[.int .i64 p.indent, .slice l.a1 p.rules.length l.c1, .slice l.a2 p.chunks.length l.c2, .slice l.a3 p.spans.length l.c3, .slice l.a4 p.ties.length l.c4], _] _ _
  go_enter Tryz.func6, Tryz.ntmps6
  go_wp2_with fail
  refine (szRus_any l.a1 p.rules.length l.c1 1048576 _ hok.rules (by omega) (by omega)).mono ?_
  rintro e w1 ⟨r1, rfl, hr1, hb1⟩
  have B1 := (HB _).trans (hb1.mono (HB _).size)
  have hz1 : w.heap.size < w1.heap.size := by have := hb1.size; simp at this; omega
  obtain ⟨hc1, -⟩ := bcell hb1
  clear hb1
  rcases hr1 with rfl | ⟨h10, h11, h12⟩
  · go_wp2
    go_ret
    exact ⟨-1, rfl, .inl rfl, B1⟩
  go_wp2_with fail
  refine (szChs_any l.a2 l.c2 p.chunks r1 _ hok.chunks hok.texts h10 (by omega) (hp.chunks.below B1 (Nat.le_refl _))).mono ?_
  rintro e w2 ⟨r2, rfl, hr2, hb2⟩
  have B2 := B1.trans (hb2.mono B1.size)
  have hz2 : w.heap.size < w2.heap.size := by have := hb2.size; omega
  obtain ⟨hc2, -⟩ := bcell hb2
  clear hb2
  rcases hr2 with rfl | ⟨h20, h21, h22, h23⟩
  · go_wp2
    go_ret
    exact ⟨-1, rfl, .inl rfl, B2⟩
  go_wp2_with fail
  refine (szSns_any l.a3 p.spans.length l.c3 r2 _ hok.spans h20 (by omega)).mono ?_
  rintro e w3 ⟨r3, rfl, hr3, hb3⟩
  have B3 := B2.trans (hb3.mono B2.size)
  have hz3 : w.heap.size < w3.heap.size := by have := hb3.size; omega
  obtain ⟨hc3, -⟩ := bcell hb3
  clear hb3
  rcases hr3 with rfl | ⟨h30, h31, h32⟩
  · go_wp2
    go_ret
    exact ⟨-1, rfl, .inl rfl, B3⟩
  go_wp2_with fail
  refine (szTis_any l.a4 p.ties.length l.c4 r3 _ hok.ties h30 (by omega)).mono ?_
  rintro e w4 ⟨r4, rfl, hr4, hb4⟩
  have B4 := B3.trans (hb4.mono B3.size)
  clear hb4
  rcases hr4 with rfl | ⟨h40, h41, h42⟩
  · go_wp2
    go_ret
    exact ⟨-1, rfl, .inl rfl, B4⟩
  · go_wp2
    go_ret
    exact ⟨r4, rfl, .inr ⟨h40, h12, h22, h23, h32, h42⟩, B4⟩

/-- The places of a piece whose lists were made one behind the other. -/
abbrev plOf (p : Pc) (g1 g2 g3 g4 : Nat) : Pl := ⟨some ⟨g1, 0, none⟩, p.rules.length, some ⟨g2, 0, none⟩, p.chunks.length, some ⟨g3, 0, none⟩, p.spans.length, some ⟨g4, 0, none⟩, p.ties.length⟩
/-- The piece owns its lists, and no two of them share memory. -/
structure PcOwn (base : Nat) (w : World) (p : Pc) (g1 g2 g3 g4 : Nat) : Prop where
  b1 : base ≤ g1
  b2 : g1 < g2
  b3 : g2 < g3
  b4 : g3 < g4
  rules : w.ownsRow base 68 2 (.slice (some ⟨g1, 0, none⟩) p.rules.length p.rules.length) p.rules.length (rowVals ruCells p.rules)
  chunks : w.ownsRow base 104 5 (.slice (some ⟨g2, 0, none⟩) p.chunks.length p.chunks.length) p.chunks.length (rowVals chCells p.chunks)
  spans : w.ownsRow base 107 3 (.slice (some ⟨g3, 0, none⟩) p.spans.length p.spans.length) p.spans.length (rowVals snCells p.spans)
  ties : w.ownsRow base 109 2 (.slice (some ⟨g4, 0, none⟩) p.ties.length p.ties.length) p.ties.length (rowVals tiCells p.ties)
theorem PcOwn.is {base : Nat} {w : World} {p : Pc} {g1 g2 g3 g4 : Nat} (h : PcOwn base w p g1 g2 g3 g4) : PcIn w p (plOf p g1 g2 g3 g4) :=
  ⟨.of_own ruCells_len h.rules rfl, .of_own chCells_len h.chunks rfl, .of_own snCells_len h.spans rfl, .of_own tiCells_len h.ties rfl⟩
theorem PcOwn.below {base : Nat} {w w' : World} {p : Pc} {g1 g2 g3 g4 : Nat} (h : PcOwn base w p g1 g2 g3 g4) (hb : Below w.heap.size w w') : PcOwn base w' p g1 g2 g3 g4 :=
  ⟨h.b1, h.b2, h.b3, h.b4, owns_below h.rules hb, owns_below h.chunks hb, owns_below h.spans hb, owns_below h.ties hb⟩
theorem own_set {w : World} {base e size n c g : Nat} {xs : List Value} (h : w.ownsRow base e size (.slice (some ⟨g, 0, none⟩) n c) n xs) (p : Addr) (u : Value) (hne : g ≠ p.block) : (w.setCell p u).ownsRow base e size (.slice (some ⟨g, 0, none⟩) n c) n xs := by
  refine ⟨h.1, ?_⟩
  rcases h.2 with ⟨e, _⟩ | ⟨g', cap, cur, e, h2, h3, h4⟩
  · cases e
  · have eg : g = g' := by injection e with e1; injection e1 with e2; injection e2
    refine .inr ⟨g', cap, cur, e, h2, ?_, h4⟩
    rw [Below.heap_setCell w p u g' (eg ▸ hne)]
    exact h3

set_option maxHeartbeats 8000000 in
theorem toPc_any (p : Pc) (l : Pl) (w : World) (hF : PcFew p) (hp : PcIn w p l) :
    Calls Tryz.prog 8 #[pcV p l] w fun e w' => ∃ g1 g2 g3 g4, e = .returned (pcV p (plOf p g1 g2 g3 g4)) ∧ PcOwn w.heap.size w' p g1 g2 g3 g4 ∧ Below w.heap.size w w' := by
  have HB : ∀ o1 o2 o3 : Obj, Below w.heap.size w (((w.alloc o1).alloc o2).alloc o3) := fun o1 o2 o3 => (((Below.refl _ _).alloc (Nat.le_refl _) _).alloc (by simp) _).alloc (by simp; omega) _
  show Calls _ _ #[.agg #[.int .i64 p.indent, .slice l.a1 p.rules.length l.c1, .slice l.a2 p.chunks.length l.c2, .slice l.a3 p.spans.length l.c3, .slice l.a4 p.ties.length l.c4]] _ _
  go_enter Tryz.func8, Tryz.ntmps8
  go_wp2_with fail
  refine (toRus_any l.a1 l.c1 p.rules _ hF.rules (hp.rules.below (HB _ _ _) (Nat.le_refl _))).mono ?_
  rintro e w1 ⟨rfl, ho1, hb1⟩
  have E3 : ∀ o1 o2 o3 : Obj, (((w.alloc o1).alloc o2).alloc o3).heap.size = w.heap.size + 1 + 1 + 1 := by intros; simp
  have E4 : ∀ (u : World) (q : Addr) (v : Value), (u.setCell q v).heap.size = u.heap.size := by intros; simp
  rw [E3] at ho1
  have B1 := (HB _ _ _).trans (hb1.mono (HB _ _ _).size)
  have hz1 : w.heap.size + 3 < w1.heap.size := by have := (ho1.lt _ rfl).2; omega
  have z10 : w.heap.size < w1.heap.size := by omega
  have z11 : w.heap.size + 1 < w1.heap.size := by omega
  have z12 : w.heap.size + 1 + 1 < w1.heap.size := by omega
  obtain ⟨hc1, hf1⟩ := bcell hb1
  have E4 := hidOf E4
  clear hb1 HB E3
  have q1 : w.heap.size ≤ w.heap.size + 1 := by omega
  have q2 : w.heap.size ≤ w.heap.size + 1 + 1 := by omega
  have C1 : ∀ o v, Below w.heap.size w (w1.setCell ⟨w.heap.size + 1 + 1, o, none⟩ v) := fun o v => B1.setCell q2 v
  have HO1 := hidOf ho1
  clear ho1
  go_wp2_with fail
  refine (toChs_any l.a2 l.c2 p.chunks _ hF.chunks (hp.chunks.below (C1 _ _) (Nat.le_refl _))).mono ?_
  rintro e w2 ⟨rfl, ho2, hb2⟩
  have B2 := (C1 _ _).trans (hb2.mono (C1 _ _).size)
  have hz2 : w1.heap.size < w2.heap.size := by have := (ho2.lt _ rfl).2; simpa using this
  have z20 : w.heap.size < w2.heap.size := by omega
  have z21 : w.heap.size + 1 < w2.heap.size := by omega
  have z22 : w.heap.size + 1 + 1 < w2.heap.size := by omega
  obtain ⟨hc2, hf2⟩ := bcell hb2
  have C2 : ∀ o v, Below w.heap.size w (w2.setCell ⟨w.heap.size + 1 + 1, o, none⟩ v) := fun o v => B2.setCell q2 v
  have HO2 := hidOf (And.intro hb2 ho2)
  clear hb2 ho2
  go_wp2_with fail
  refine (toSns_any l.a3 l.c3 p.spans _ hF.spans (hp.spans.below (C2 _ _) (Nat.le_refl _))).mono ?_
  rintro e w3 ⟨rfl, ho3, hb3⟩
  have B3 := (C2 _ _).trans (hb3.mono (C2 _ _).size)
  have hz3 : w2.heap.size < w3.heap.size := by have := (ho3.lt _ rfl).2; simpa using this
  have z30 : w.heap.size < w3.heap.size := by omega
  have z31 : w.heap.size + 1 < w3.heap.size := by omega
  have z32 : w.heap.size + 1 + 1 < w3.heap.size := by omega
  obtain ⟨hc3, hf3⟩ := bcell hb3
  have C3 : ∀ o v, Below w.heap.size w (w3.setCell ⟨w.heap.size + 1 + 1, o, none⟩ v) := fun o v => B3.setCell q2 v
  have HO3 := hidOf (And.intro hb3 ho3)
  clear hb3 ho3
  go_wp2_with fail
  refine (toTis_any l.a4 l.c4 p.ties _ hF.ties (hp.ties.below (C3 _ _) (Nat.le_refl _))).mono ?_
  rintro e w4 ⟨rfl, ho4, hb4⟩
  have B4 := (C3 _ _).trans (hb4.mono (C3 _ _).size)
  have hz4 : w3.heap.size < w4.heap.size := by have := (ho4.lt _ rfl).2; simpa using this
  have z40 : w.heap.size < w4.heap.size := by omega
  have z41 : w.heap.size + 1 < w4.heap.size := by omega
  have z42 : w.heap.size + 1 + 1 < w4.heap.size := by omega
  obtain ⟨hc4, hf4⟩ := bcell hb4
  have C4 : ∀ o v, Below w.heap.size w (w4.setCell ⟨w.heap.size + 1 + 1, o, none⟩ v) := fun o v => B4.setCell q2 v
  have HO4 := hidOf (And.intro hb4 ho4)
  clear hb4 ho4
  go_wp2
  refine bodyPost_ret (v := pcV p (plOf p (w.heap.size + 1 + 1 + 1) w1.heap.size w2.heap.size w3.heap.size)) (by simp [results, Tryz.results8, go_sem, hc4, hc3, hc2, hc1, z11, z21, z31]) rfl ⟨_, _, _, _, rfl, ?_, ?_⟩
  · obtain ⟨b2, o2⟩ := HO2.out
    obtain ⟨b3, o3⟩ := HO3.out
    obtain ⟨b4, o4⟩ := HO4.out
    rw [E4.out] at o2 o3 o4
    have o1 := owns_below (own_set (ownsRow_base (base' := w.heap.size) HO1.out (by omega)) _ _ (by show _ ≠ w.heap.size + 1 + 1; omega)) b2
    have o1 := owns_below (own_set o1 _ _ (by show _ ≠ w.heap.size + 1 + 1; omega)) b3
    have o1 := owns_below (own_set o1 _ _ (by show _ ≠ w.heap.size + 1 + 1; omega)) b4
    have o2 := owns_below (own_set (ownsRow_base (base' := w.heap.size) o2 (by omega)) _ _ (by show _ ≠ w.heap.size + 1 + 1; omega)) b3
    have o2 := owns_below (own_set o2 _ _ (by show _ ≠ w.heap.size + 1 + 1; omega)) b4
    have o3 := owns_below (own_set (ownsRow_base (base' := w.heap.size) o3 (by omega)) _ _ (by show _ ≠ w.heap.size + 1 + 1; omega)) b4
    have o4 := ownsRow_base (base' := w.heap.size) o4 (by omega)
    have six : ∀ {e size n c g : Nat} {xs : List Value} (v0 v1 v2 v3 v4 v5 : Value), w4.ownsRow w.heap.size e size (.slice (some ⟨g, 0, none⟩) n c) n xs → w.heap.size + 1 + 1 < g → ((((((w4.setCell ⟨w.heap.size + 1 + 1, 4, none⟩ v0).setCell ⟨w.heap.size + 1, 0, none⟩ v1).setCell ⟨w.heap.size + 1, 1, none⟩ v2).setCell ⟨w.heap.size + 1, 2, none⟩ v3).setCell ⟨w.heap.size + 1, 3, none⟩ v4).setCell ⟨w.heap.size + 1, 4, none⟩ v5).ownsRow w.heap.size e size (.slice (some ⟨g, 0, none⟩) n c) n xs := by
      intro e size n c g xs v0 v1 v2 v3 v4 v5 h hg
      have n1 : g ≠ w.heap.size + 1 := by omega
      have n2 : g ≠ w.heap.size + 1 + 1 := by omega
      exact own_set (own_set (own_set (own_set (own_set (own_set h _ _ n2) _ _ n1) _ _ n1) _ _ n1) _ _ n1) _ _ n1
    exact ⟨by omega, by omega, by omega, by omega, six _ _ _ _ _ _ o1 (by omega), six _ _ _ _ _ _ o2 (by omega), six _ _ _ _ _ _ o3 (by omega), six _ _ _ _ _ _ o4 (by omega)⟩
  · exact (((((C4 _ _).setCell q1 _).setCell q1 _).setCell q1 _).setCell q1 _).setCell q1 _

set_option maxHeartbeats 4000000 in
theorem eqPc_same (p : Pc) (l m : Pl) (w : World) (hF : PcFew p) (h1 : PcIn w p l) (h2 : PcIn w p m) :
    Calls Tryz.prog 11 #[pcV p l, pcV p m] w fun e w' => e = .returned (.bool true) ∧ Below w.heap.size w w' := by
  have HB : ∀ o1 o2 : Obj, Below w.heap.size w ((w.alloc o1).alloc o2) := fun o1 o2 => ((Below.refl _ _).alloc (Nat.le_refl _) _).alloc (by simp) _
  have h0 : (p.indent != p.indent) = false := by simp
  show Calls _ _ #[.agg #[.int .i64 p.indent, .slice l.a1 p.rules.length l.c1, .slice l.a2 p.chunks.length l.c2, .slice l.a3 p.spans.length l.c3, .slice l.a4 p.ties.length l.c4], .agg #[.int .i64 p.indent, .slice m.a1 p.rules.length m.c1, .slice m.a2 p.chunks.length m.c2, .slice m.a3 p.spans.length m.c3, .slice m.a4 p.ties.length m.c4]] _ _
  go_enter Tryz.func11, Tryz.ntmps11
  go_wp2_with fail
  refine (eqRus_same l.a1 m.a1 l.c1 m.c1 p.rules _ hF.rules (h1.rules.below (HB _ _) (Nat.le_refl _)) (h2.rules.below (HB _ _) (Nat.le_refl _))).mono ?_
  rintro e w1 ⟨rfl, hb1⟩
  have B1 := (HB _ _).trans (hb1.mono (HB _ _).size)
  have hz1 : w.heap.size + 1 < w1.heap.size := by have := hb1.size; simp at this; omega
  have z10 : w.heap.size < w1.heap.size := by omega
  obtain ⟨hc1, -⟩ := bcell hb1
  clear hb1 HB
  go_wp2_with fail
  refine (eqChs_same l.a2 m.a2 l.c2 m.c2 p.chunks _ hF.chunks (h1.chunks.below B1 (Nat.le_refl _)) (h2.chunks.below B1 (Nat.le_refl _))).mono ?_
  rintro e w2 ⟨rfl, hb2⟩
  have B2 := B1.trans (hb2.mono B1.size)
  have hz2 : w.heap.size + 1 < w2.heap.size := by have := hb2.size; omega
  have z20 : w.heap.size < w2.heap.size := by omega
  obtain ⟨hc2, -⟩ := bcell hb2
  clear hb2
  go_wp2_with fail
  refine (eqSns_same l.a3 m.a3 l.c3 m.c3 p.spans _ hF.spans (h1.spans.below B2 (Nat.le_refl _)) (h2.spans.below B2 (Nat.le_refl _))).mono ?_
  rintro e w3 ⟨rfl, hb3⟩
  have B3 := B2.trans (hb3.mono B2.size)
  have hz3 : w.heap.size + 1 < w3.heap.size := by have := hb3.size; omega
  have z30 : w.heap.size < w3.heap.size := by omega
  obtain ⟨hc3, -⟩ := bcell hb3
  clear hb3
  go_wp2_with fail
  refine (eqTis_same l.a4 m.a4 l.c4 m.c4 p.ties _ hF.ties (h1.ties.below B3 (Nat.le_refl _)) (h2.ties.below B3 (Nat.le_refl _))).mono ?_
  rintro e w4 ⟨rfl, hb4⟩
  have B4 := B3.trans (hb4.mono B3.size)
  clear hb4
  go_wp2
  go_ret
  exact ⟨rfl, B4⟩
end Go.Proofs.YtghfpcjgionbaaaGreat
