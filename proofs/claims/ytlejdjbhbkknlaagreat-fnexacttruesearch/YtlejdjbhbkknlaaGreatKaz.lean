/- What the laws' helpers on a piece that came in do: szPiece tells whether it is too great, toPiece copies it, eqPiece tells of two that they are the same. -/
import Derived.Test.YtlejdjbhbkknlaaGreatToPc
import Derived.Test.YtlejdjbhbkknlaaGreatToCh
import Derived.Test.YtlejdjbhbkknlaaGreatKay
import Derived.Test.YtlejdjbhbkknlaaGreatKau
import Derived.Test.YtlejdjbhbkknlaaGreatBestS
import Derived.Test.YtlejdjbhbkknlaaGreatKax
import Derived.Test.YtlejdjbhbkknlaaGreatKaw
import Derived.Laws.EntriesVeiled
import Derived.Test.YtlejdjbhbkknlaaGreatProg
import Derived.Test.YtlejdjbhbkknlaaGreatBoxPc
import Derived.Test.YtlejdjbhbkknlaaGreatKal
namespace Go.Proofs.YtlejdjbhbkknlaaGreat
open Go.RowKit

set_option maxHeartbeats 1600000 in
theorem szPc_any (p : Pc) (l : Pl) (w : World) (hok : PcOk p) (hp : PcIn w p l) :
    Calls Tryz.prog 4 #[pcV p l, .int .i64 1048576] w fun e w' => ∃ r : Int, e = .returned (.int .i64 r) ∧ ((r = -1) ∨ (0 ≤ r ∧ PcFew p)) ∧ Below w.heap.size w w' := by
  have HB : ∀ o1 : Obj, Below w.heap.size w (w.alloc o1) := fun o1 => (Below.refl _ _).alloc (Nat.le_refl _) _
  show Calls _ _ #[.agg #[.int .i64 p.indent, .slice l.a1 p.rules.length l.c1, .slice l.a2 p.chunks.length l.c2, .slice l.a3 p.spans.length l.c3, .slice l.a4 p.ties.length l.c4], _] _ _
  go_enter Tryz.func4, Tryz.ntmps4
  go_wp2_with fail
  refine (szRus_any l.a1 p.rules.length l.c1 1048576 _ hok.rules (by omega) (by omega)).mono ?_
  rintro e w1 ⟨r1, rfl, hr1, hb1⟩
  have B1 := (HB _).trans (hb1.mono (HB _).size)
  have hz1 : w.heap.size < w1.heap.size := by have := hb1.size; simp at this; omega
  obtain ⟨hc1, -⟩ := bcell hb1
  clear hb1
  rcases hr1 with rfl | ⟨h10, h11, h12⟩
  · go_wp2
    go_ret
    exact ⟨-1, rfl, .inl rfl, B1⟩
  go_wp2_with fail
  refine (szChs_any l.a2 l.c2 p.chunks r1 _ hok.chunks hok.texts h10 (by omega) (hp.chunks.below B1 (Nat.le_refl _))).mono ?_
  rintro e w2 ⟨r2, rfl, hr2, hb2⟩
  have B2 := B1.trans (hb2.mono B1.size)
  have hz2 : w.heap.size < w2.heap.size := by have := hb2.size; omega
  obtain ⟨hc2, -⟩ := bcell hb2
  clear hb2
  rcases hr2 with rfl | ⟨h20, h21, h22, h23⟩
  · go_wp2
    go_ret
    exact ⟨-1, rfl, .inl rfl, B2⟩
  go_wp2_with fail
  refine (szSns_any l.a3 p.spans.length l.c3 r2 _ hok.spans h20 (by omega)).mono ?_
  rintro e w3 ⟨r3, rfl, hr3, hb3⟩
  have B3 := B2.trans (hb3.mono B2.size)
  have hz3 : w.heap.size < w3.heap.size := by have := hb3.size; omega
  obtain ⟨hc3, -⟩ := bcell hb3
  clear hb3
  rcases hr3 with rfl | ⟨h30, h31, h32⟩
  · go_wp2
    go_ret
    exact ⟨-1, rfl, .inl rfl, B3⟩
  go_wp2_with fail
  refine (szTis_any l.a4 p.ties.length l.c4 r3 _ hok.ties h30 (by omega)).mono ?_
  rintro e w4 ⟨r4, rfl, hr4, hb4⟩
  have B4 := B3.trans (hb4.mono B3.size)
  clear hb4
  rcases hr4 with rfl | ⟨h40, h41, h42⟩
  · go_wp2
    go_ret
    exact ⟨-1, rfl, .inl rfl, B4⟩
  · go_wp2
    go_ret
    exact ⟨r4, rfl, .inr ⟨h40, h12, h22, h23, h32, h42⟩, B4⟩

/-- The places of a piece whose lists were made one behind the other. -/
abbrev plOf (p : Pc) (g1 g2 g3 g4 : Nat) : Pl := ⟨some ⟨g1, 0, none⟩, p.rules.length, some ⟨g2, 0, none⟩, p.chunks.length, some ⟨g3, 0, none⟩, p.spans.length, some ⟨g4, 0, none⟩, p.ties.length⟩
/-- The piece owns its lists, and no two of them share memory. -/
structure PcOwn (base : Nat) (w : World) (p : Pc) (g1 g2 g3 g4 : Nat) : Prop where
  b1 : base ≤ g1
  b2 : g1 < g2
  b3 : g2 < g3
  b4 : g3 < g4
  rules : w.ownsRow base 80 2 (.slice (some ⟨g1, 0, none⟩) p.rules.length p.rules.length) p.rules.length (rowVals ruCells p.rules)
  chunks : w.ownsRow base 90 5 (.slice (some ⟨g2, 0, none⟩) p.chunks.length p.chunks.length) p.chunks.length (rowVals chCells p.chunks)
  spans : w.ownsRow base 93 3 (.slice (some ⟨g3, 0, none⟩) p.spans.length p.spans.length) p.spans.length (rowVals snCells p.spans)
  ties : w.ownsRow base 84 2 (.slice (some ⟨g4, 0, none⟩) p.ties.length p.ties.length) p.ties.length (rowVals tiCells p.ties)
theorem PcOwn.is {base : Nat} {w : World} {p : Pc} {g1 g2 g3 g4 : Nat} (h : PcOwn base w p g1 g2 g3 g4) : PcIn w p (plOf p g1 g2 g3 g4) :=
  ⟨.of_own ruCells_len h.rules rfl, .of_own chCells_len h.chunks rfl, .of_own snCells_len h.spans rfl, .of_own tiCells_len h.ties rfl⟩
theorem PcOwn.below {base : Nat} {w w' : World} {p : Pc} {g1 g2 g3 g4 : Nat} (h : PcOwn base w p g1 g2 g3 g4) (hb : Below w.heap.size w w') : PcOwn base w' p g1 g2 g3 g4 :=
  ⟨h.b1, h.b2, h.b3, h.b4, owns_below h.rules hb, owns_below h.chunks hb, owns_below h.spans hb, owns_below h.ties hb⟩
theorem own_set {w : World} {base e size n c g : Nat} {xs : List Value} (h : w.ownsRow base e size (.slice (some ⟨g, 0, none⟩) n c) n xs) (p : Addr) (u : Value) (hne : g ≠ p.block) : (w.setCell p u).ownsRow base e size (.slice (some ⟨g, 0, none⟩) n c) n xs := by
  refine ⟨h.1, ?_⟩
  rcases h.2 with ⟨e, _⟩ | ⟨g', cap, cur, e, h2, h3, h4⟩
  · cases e
  · have eg : g = g' := by injection e with e1; injection e1 with e2; injection e2
    refine .inr ⟨g', cap, cur, e, h2, ?_, h4⟩
    rw [Below.heap_setCell w p u g' (eg ▸ hne)]
    exact h3

set_option maxHeartbeats 8000000 in
theorem toPc_any (p : Pc) (l : Pl) (w : World) (hF : PcFew p) (hp : PcIn w p l) :
    Calls Tryz.prog 6 #[pcV p l] w fun e w' => ∃ g1 g2 g3 g4, e = .returned (pcV p (plOf p g1 g2 g3 g4)) ∧ PcOwn w.heap.size w' p g1 g2 g3 g4 ∧ Below w.heap.size w w' := by
  have HB : ∀ o1 o2 o3 : Obj, Below w.heap.size w (((w.alloc o1).alloc o2).alloc o3) := fun o1 o2 o3 => (((Below.refl _ _).alloc (Nat.le_refl _) _).alloc (by simp) _).alloc (by simp; omega) _
  show Calls _ _ #[.agg #[.int .i64 p.indent, .slice l.a1 p.rules.length l.c1, .slice l.a2 p.chunks.length l.c2, .slice l.a3 p.spans.length l.c3, .slice l.a4 p.ties.length l.c4]] _ _
  go_enter Tryz.func6, Tryz.ntmps6
  go_wp2_with fail
  refine (toRus_any l.a1 l.c1 p.rules _ hF.rules (hp.rules.below (HB _ _ _) (Nat.le_refl _))).mono ?_
  rintro e w1 ⟨rfl, ho1, hb1⟩
  have E3 : ∀ o1 o2 o3 : Obj, (((w.alloc o1).alloc o2).alloc o3).heap.size = w.heap.size + 1 + 1 + 1 := by intros; simp
  have E4 : ∀ (u : World) (q : Addr) (v : Value), (u.setCell q v).heap.size = u.heap.size := by intros; simp
  rw [E3] at ho1
  have B1 := (HB _ _ _).trans (hb1.mono (HB _ _ _).size)
  have hz1 : w.heap.size + 3 < w1.heap.size := by have := (ho1.lt _ rfl).2; omega
  have z10 : w.heap.size < w1.heap.size := by omega
  have z11 : w.heap.size + 1 < w1.heap.size := by omega
  have z12 : w.heap.size + 1 + 1 < w1.heap.size := by omega
  obtain ⟨hc1, hf1⟩ := bcell hb1
  have E4 := hidOf E4
  clear hb1 HB E3
  have q1 : w.heap.size ≤ w.heap.size + 1 := by omega
  have q2 : w.heap.size ≤ w.heap.size + 1 + 1 := by omega
  have C1 : ∀ o v, Below w.heap.size w (w1.setCell ⟨w.heap.size + 1 + 1, o, none⟩ v) := fun o v => B1.setCell q2 v
  have HO1 := hidOf ho1
  clear ho1
  go_wp2_with fail
  refine (toChs_any l.a2 l.c2 p.chunks _ hF.chunks (hp.chunks.below (C1 _ _) (Nat.le_refl _))).mono ?_
  rintro e w2 ⟨rfl, ho2, hb2⟩
  have B2 := (C1 _ _).trans (hb2.mono (C1 _ _).size)
  have hz2 : w1.heap.size < w2.heap.size := by have := (ho2.lt _ rfl).2; simpa using this
  have z20 : w.heap.size < w2.heap.size := by omega
  have z21 : w.heap.size + 1 < w2.heap.size := by omega
  have z22 : w.heap.size + 1 + 1 < w2.heap.size := by omega
  obtain ⟨hc2, hf2⟩ := bcell hb2
  have C2 : ∀ o v, Below w.heap.size w (w2.setCell ⟨w.heap.size + 1 + 1, o, none⟩ v) := fun o v => B2.setCell q2 v
  have HO2 := hidOf (And.intro hb2 ho2)
  clear hb2 ho2
  go_wp2_with fail
  refine (toSns_any l.a3 l.c3 p.spans _ hF.spans (hp.spans.below (C2 _ _) (Nat.le_refl _))).mono ?_
  rintro e w3 ⟨rfl, ho3, hb3⟩
  have B3 := (C2 _ _).trans (hb3.mono (C2 _ _).size)
  have hz3 : w2.heap.size < w3.heap.size := by have := (ho3.lt _ rfl).2; simpa using this
  have z30 : w.heap.size < w3.heap.size := by omega
  have z31 : w.heap.size + 1 < w3.heap.size := by omega
  have z32 : w.heap.size + 1 + 1 < w3.heap.size := by omega
  obtain ⟨hc3, hf3⟩ := bcell hb3
  have C3 : ∀ o v, Below w.heap.size w (w3.setCell ⟨w.heap.size + 1 + 1, o, none⟩ v) := fun o v => B3.setCell q2 v
  have HO3 := hidOf (And.intro hb3 ho3)
  clear hb3 ho3
  go_wp2_with fail
  refine (toTis_any l.a4 l.c4 p.ties _ hF.ties (hp.ties.below (C3 _ _) (Nat.le_refl _))).mono ?_
  rintro e w4 ⟨rfl, ho4, hb4⟩
  have B4 := (C3 _ _).trans (hb4.mono (C3 _ _).size)
  have hz4 : w3.heap.size < w4.heap.size := by have := (ho4.lt _ rfl).2; simpa using this
  have z40 : w.heap.size < w4.heap.size := by omega
  have z41 : w.heap.size + 1 < w4.heap.size := by omega
  have z42 : w.heap.size + 1 + 1 < w4.heap.size := by omega
  obtain ⟨hc4, hf4⟩ := bcell hb4
  have C4 : ∀ o v, Below w.heap.size w (w4.setCell ⟨w.heap.size + 1 + 1, o, none⟩ v) := fun o v => B4.setCell q2 v
  have HO4 := hidOf (And.intro hb4 ho4)
  clear hb4 ho4
  go_wp2
  refine bodyPost_ret (v := pcV p (plOf p (w.heap.size + 1 + 1 + 1) w1.heap.size w2.heap.size w3.heap.size)) (by simp [results, Tryz.results6, go_sem, hc4, hc3, hc2, hc1, z11, z21, z31]) rfl ⟨_, _, _, _, rfl, ?_, ?_⟩
  · obtain ⟨b2, o2⟩ := HO2.out
    obtain ⟨b3, o3⟩ := HO3.out
    obtain ⟨b4, o4⟩ := HO4.out
    rw [E4.out] at o2 o3 o4
    have o1 := owns_below (own_set (ownsRow_base (base' := w.heap.size) HO1.out (by omega)) _ _ (by show _ ≠ w.heap.size + 1 + 1; omega)) b2
    have o1 := owns_below (own_set o1 _ _ (by show _ ≠ w.heap.size + 1 + 1; omega)) b3
    have o1 := owns_below (own_set o1 _ _ (by show _ ≠ w.heap.size + 1 + 1; omega)) b4
    have o2 := owns_below (own_set (ownsRow_base (base' := w.heap.size) o2 (by omega)) _ _ (by show _ ≠ w.heap.size + 1 + 1; omega)) b3
    have o2 := owns_below (own_set o2 _ _ (by show _ ≠ w.heap.size + 1 + 1; omega)) b4
    have o3 := owns_below (own_set (ownsRow_base (base' := w.heap.size) o3 (by omega)) _ _ (by show _ ≠ w.heap.size + 1 + 1; omega)) b4
    have o4 := ownsRow_base (base' := w.heap.size) o4 (by omega)
    have six : ∀ {e size n c g : Nat} {xs : List Value} (v0 v1 v2 v3 v4 v5 : Value), w4.ownsRow w.heap.size e size (.slice (some ⟨g, 0, none⟩) n c) n xs → w.heap.size + 1 + 1 < g → ((((((w4.setCell ⟨w.heap.size + 1 + 1, 4, none⟩ v0).setCell ⟨w.heap.size + 1, 0, none⟩ v1).setCell ⟨w.heap.size + 1, 1, none⟩ v2).setCell ⟨w.heap.size + 1, 2, none⟩ v3).setCell ⟨w.heap.size + 1, 3, none⟩ v4).setCell ⟨w.heap.size + 1, 4, none⟩ v5).ownsRow w.heap.size e size (.slice (some ⟨g, 0, none⟩) n c) n xs := by
      intro e size n c g xs v0 v1 v2 v3 v4 v5 h hg
      have n1 : g ≠ w.heap.size + 1 := by omega
      have n2 : g ≠ w.heap.size + 1 + 1 := by omega
      exact own_set (own_set (own_set (own_set (own_set (own_set h _ _ n2) _ _ n1) _ _ n1) _ _ n1) _ _ n1) _ _ n1
    exact ⟨by omega, by omega, by omega, by omega, six _ _ _ _ _ _ o1 (by omega), six _ _ _ _ _ _ o2 (by omega), six _ _ _ _ _ _ o3 (by omega), six _ _ _ _ _ _ o4 (by omega)⟩
  · exact (((((C4 _ _).setCell q1 _).setCell q1 _).setCell q1 _).setCell q1 _).setCell q1 _

set_option maxHeartbeats 4000000 in
theorem eqPc_same (p : Pc) (l m : Pl) (w : World) (hF : PcFew p) (h1 : PcIn w p l) (h2 : PcIn w p m) :
    Calls Tryz.prog 8 #[pcV p l, pcV p m] w fun e w' => e = .returned (.bool true) ∧ Below w.heap.size w w' := by
  have HB : ∀ o1 o2 : Obj, Below w.heap.size w ((w.alloc o1).alloc o2) := fun o1 o2 => ((Below.refl _ _).alloc (Nat.le_refl _) _).alloc (by simp) _
  have h0 : (p.indent != p.indent) = false := by simp
  show Calls _ _ #[.agg #[.int .i64 p.indent, .slice l.a1 p.rules.length l.c1, .slice l.a2 p.chunks.length l.c2, .slice l.a3 p.spans.length l.c3, .slice l.a4 p.ties.length l.c4], .agg #[.int .i64 p.indent, .slice m.a1 p.rules.length m.c1, .slice m.a2 p.chunks.length m.c2, .slice m.a3 p.spans.length m.c3, .slice m.a4 p.ties.length m.c4]] _ _
  go_enter Tryz.func8, Tryz.ntmps8
  go_wp2_with fail
  refine (eqRus_same l.a1 m.a1 l.c1 m.c1 p.rules _ hF.rules (h1.rules.below (HB _ _) (Nat.le_refl _)) (h2.rules.below (HB _ _) (Nat.le_refl _))).mono ?_
  rintro e w1 ⟨rfl, hb1⟩
  have B1 := (HB _ _).trans (hb1.mono (HB _ _).size)
  have hz1 : w.heap.size + 1 < w1.heap.size := by have := hb1.size; simp at this; omega
  have z10 : w.heap.size < w1.heap.size := by omega
  obtain ⟨hc1, -⟩ := bcell hb1
  clear hb1 HB
  go_wp2_with fail
  refine (eqChs_same l.a2 m.a2 l.c2 m.c2 p.chunks _ hF.chunks (h1.chunks.below B1 (Nat.le_refl _)) (h2.chunks.below B1 (Nat.le_refl _))).mono ?_
  rintro e w2 ⟨rfl, hb2⟩
  have B2 := B1.trans (hb2.mono B1.size)
  have hz2 : w.heap.size + 1 < w2.heap.size := by have := hb2.size; omega
  have z20 : w.heap.size < w2.heap.size := by omega
  obtain ⟨hc2, -⟩ := bcell hb2
  clear hb2
  go_wp2_with fail
  refine (eqSns_same l.a3 m.a3 l.c3 m.c3 p.spans _ hF.spans (h1.spans.below B2 (Nat.le_refl _)) (h2.spans.below B2 (Nat.le_refl _))).mono ?_
  rintro e w3 ⟨rfl, hb3⟩
  have B3 := B2.trans (hb3.mono B2.size)
  have hz3 : w.heap.size + 1 < w3.heap.size := by have := hb3.size; omega
  have z30 : w.heap.size < w3.heap.size := by omega
  obtain ⟨hc3, -⟩ := bcell hb3
  clear hb3
  go_wp2_with fail
  refine (eqTis_same l.a4 m.a4 l.c4 m.c4 p.ties _ hF.ties (h1.ties.below B3 (Nat.le_refl _)) (h2.ties.below B3 (Nat.le_refl _))).mono ?_
  rintro e w4 ⟨rfl, hb4⟩
  have B4 := B3.trans (hb4.mono B3.size)
  clear hb4
  go_wp2
  go_ret
  exact ⟨rfl, B4⟩
end Go.Proofs.YtlejdjbhbkknlaaGreat
/- What impl.TrueSearch answers: true, whatever comes. -/
namespace Go.Proofs.YtlejdjbhbkknlaaGreat
open Go.RowKit

/-- What is known of what both searches tell. -/
structure TsOk (p : Pc) (wd : Int) (ks us : List Int) (o sm s : Int) (b : Bool) : Prop where
  few : ks.length ≤ 8
  fewU : us.length ≤ 8
  no : ¬ Right p → ks = [] ∧ s = 0 ∧ b = false
  yes : Right p → b = true ∧ TiesHold p ks ∧ lessV p wd (allV p) ks = false ∧ (s = 1 → ks = us) ∧ o = costOver p us wd ∧ sm = costSum p us
theorem ts_key (p : Pc) (wd bud : Int) (hbd : -9223372036854775808 ≤ bud ∧ bud ≤ 9223372036854775807) (hF : PcFew p) : ∃ (ks us : List Int) (o sm s : Int) (b : Bool), TsOk p wd ks us o sm s b ∧
    (∀ (l : Pl) (w : World), PcIn w p l → Calls Tryz.prog 13 #[pcV p l, .int .i64 wd, .int .i64 bud] w fun e w' => SeAns (ks, s) w e w') ∧
    (∀ (l : Pl) (w : World), p.chunks.length ≤ l.c2 → PcIn w p l → Calls Tryz.prog 24 #[pcV p l, .int .i64 wd, .int .i64 bud] w fun e w' => SeAns (ks, s) w e w') ∧
    (∀ (l : Pl) (W : World), PcIn W p l → Calls Tryz.prog 14 #[pcV p l, .int .i64 wd] W fun e w' => BoAns us o sm b W e w') ∧
    (∀ (l : Pl) (W : World), p.chunks.length ≤ l.c2 → PcIn W p l → Calls Tryz.prog 25 #[pcV p l, .int .i64 wd] W fun e w' => BoAns us o sm b W e w') := by
  by_cases h1 : Right p
  · obtain ⟨us, o, sm, b, hu, qS, qI, hB⟩ := best_key p wd hF
    obtain ⟨hb, hBest, ho, hsm⟩ := hB h1
    have hs := srchOf_some (wd := wd) (budget := bud) h1 (allR_ties h1)
    have hsb := srchOf_best (wd := wd) (budget := bud) h1 (allR_ties h1)
    refine ⟨(srchOf p wd bud (allV p)).1, us, o, sm, (srchOf p wd bud (allV p)).2, b, ⟨?_, hu, fun h => absurd h1 h, fun _ => ⟨hb, hs.1, hs.2.1, fun e => best_one (hsb e) hBest, ho, hsm⟩⟩, fun l w hp => sSearch_yes p l wd bud w hbd hF hp h1, fun l w hc hp => iSearch_yes p l wd bud w hbd hF hc hp h1, qS, qI⟩
    rw [hs.1.vals.len]
    exact h1.rules.1
  · exact ⟨[], [], 0, 0, 0, false, ⟨by simp, by simp, fun _ => ⟨rfl, rfl, rfl⟩, fun h => absurd h h1⟩, fun l w hp => sSearch_no p l wd bud w hF hp h1, fun l w _ hp => iSearch_no p l wd bud w hF hp h1, fun l W hP => sBest_no p l wd W hF hP h1, fun l W _ hP => iBest_no p l wd W hF hP h1⟩

/-- What is held against the truths of a search. -/
abbrev shV (p : Pc) (l : Pl) (wd : Int) (ab : Option Addr) (us : List Int) (cb : Nat) (af : Option Addr) (ks : List Int) (cf : Nat) (s : Int) : Value := .agg #[.int .i64 p.indent, .slice l.a1 p.rules.length l.c1, .slice l.a2 p.chunks.length l.c2, .slice l.a3 p.spans.length l.c3, .slice l.a4 p.ties.length l.c4, .int .i64 wd, .slice ab us.length cb, .slice af ks.length cf, .int .i64 s]
abbrev tSh : Nat := 61
/-- All that it names lies in memory. -/
structure ShIn (w : World) (p : Pc) (l : Pl) (ab af : Option Addr) (us ks : List Int) : Prop where
  P : PcIn w p l
  U : KidsAt w ab us
  K : KidsAt w af ks
theorem ShIn.below {w w' : World} {p : Pc} {l : Pl} {ab af : Option Addr} {us ks : List Int} {B : Nat} (h : ShIn w p l ab af us ks) (hb : Below B w w') (hB : w.heap.size ≤ B) : ShIn w' p l ab af us ks := ⟨h.P.below hb hB, h.U.below hb hB, h.K.below hb hB⟩
/-- In a variable of its own. -/
structure ShBox (w : World) (b : Nat) (p : Pc) (l : Pl) (wd : Int) (ab : Option Addr) (us : List Int) (cb : Nat) (af : Option Addr) (ks : List Int) (cf : Nat) (s : Int) : Prop where
  lt : b < w.heap.size
  c0 : w.cell? ⟨b, 0, none⟩ = some (.int .i64 p.indent)
  c1 : w.cell? ⟨b, 1, none⟩ = some (.slice l.a1 p.rules.length l.c1)
  c2 : w.cell? ⟨b, 2, none⟩ = some (.slice l.a2 p.chunks.length l.c2)
  c3 : w.cell? ⟨b, 3, none⟩ = some (.slice l.a3 p.spans.length l.c3)
  c4 : w.cell? ⟨b, 4, none⟩ = some (.slice l.a4 p.ties.length l.c4)
  c5 : w.cell? ⟨b, 5, none⟩ = some (.int .i64 wd)
  c6 : w.cell? ⟨b, 6, none⟩ = some (.slice ab us.length cb)
  c7 : w.cell? ⟨b, 7, none⟩ = some (.slice af ks.length cf)
  c8 : w.cell? ⟨b, 8, none⟩ = some (.int .i64 s)
theorem ShBox.below {w w' : World} {b B : Nat} {p : Pc} {l : Pl} {wd : Int} {ab : Option Addr} {us : List Int} {cb : Nat} {af : Option Addr} {ks : List Int} {cf : Nat} {s : Int} (h : ShBox w b p l wd ab us cb af ks cf s) (hb : Below B w w') (hB : b < B) : ShBox w' b p l wd ab us cb af ks cf s :=
  ⟨Nat.lt_of_lt_of_le h.lt hb.size, (hb.cell hB).trans h.c0, (hb.cell hB).trans h.c1, (hb.cell hB).trans h.c2, (hb.cell hB).trans h.c3, (hb.cell hB).trans h.c4, (hb.cell hB).trans h.c5, (hb.cell hB).trans h.c6, (hb.cell hB).trans h.c7, (hb.cell hB).trans h.c8⟩
theorem shBoxed (w : World) (p : Pc) (l : Pl) (wd : Int) (ab : Option Addr) (us : List Int) (cb : Nat) (af : Option Addr) (ks : List Int) (cf : Nat) (s : Int) : ∃ W, W = w.alloc (.cells #[.int .i64 p.indent, .slice l.a1 p.rules.length l.c1, .slice l.a2 p.chunks.length l.c2, .slice l.a3 p.spans.length l.c3, .slice l.a4 p.ties.length l.c4, .int .i64 wd, .slice ab us.length cb, .slice af ks.length cf, .int .i64 s] tSh) ∧ ShBox W w.heap.size p l wd ab us cb af ks cf s ∧ Below w.heap.size w W ∧ W.heap.size = w.heap.size + 1 := by
  refine ⟨_, rfl, ⟨by simp, ?_, ?_, ?_, ?_, ?_, ?_, ?_, ?_, ?_⟩, (Below.refl _ _).alloc (Nat.le_refl _) _, by simp⟩
  all_goals simp
section
variable (p : Pc) (l : Pl) (wd : Int) (ab af : Option Addr) (us ks : List Int) (cb cf : Nat) (o sm s : Int) (b : Bool)

set_option maxHeartbeats 8000000 in
set_option maxRecDepth 20000 in
theorem iBestTold (w : World) (hT : TsOk p wd ks us o sm s b) (hR : Right p) (h : ShIn w p l ab af us ks) :
    Calls Tryz.prog 55 #[shV p l wd ab us cb af ks cf s] w fun e w' => e = .returned (.bool true) ∧ Below w.heap.size w w' := by
  have hk := hT.few
  have hu := hT.fewU
  obtain ⟨W0, hW0, X0, B0, S0⟩ := shBoxed w p l wd ab us cb af ks cf s
  have I0 := h.below B0 (Nat.le_refl _)
  obtain ⟨hlt, c0, c1, c2, c3, c4, c5, c6, c7, c8⟩ := X0
  by_cases h1 : s = 1
  · have he := (hT.yes hR).2.2.2.1 h1
    have q := eqSl_any af ab cf cb ks us W0 (by omega) (by omega) I0.K I0.U
    rw [show (ks == us) = true by rw [beq_iff_eq]; exact he] at q
    have hs1 : (s != 1) = false := by simp [h1]
    have HS := hidOf S0
    clear he S0 I0 h hT h1
    go_enter Tryz.func55, Tryz.ntmps55
    go_wp2_with (first | (rw [← hW0]; go_at_call 87; refine q.mono ?_; rintro e w1 ⟨rfl, hb1⟩) | (go_at_call 87; refine q.mono ?_; rintro e w1 ⟨rfl, hb1⟩))
    go_ret
    exact ⟨rfl, B0.trans (hb1.mono B0.size)⟩
  · have hs1 : (s != 1) = true := by simp [h1]
    clear S0 I0 h hT
    go_enter Tryz.func55, Tryz.ntmps55
    go_wp2_with fail
    go_ret
    exact ⟨rfl, by rw [← hW0]; exact B0⟩

set_option maxHeartbeats 8000000 in
set_option maxRecDepth 20000 in
theorem iHoldsTies (w : World) (hF : PcFew p) (hT : TsOk p wd ks us o sm s b) (hR : Right p) (h : ShIn w p l ab af us ks) :
    Calls Tryz.prog 56 #[shV p l wd ab us cb af ks cf s] w fun e w' => e = .returned (.bool true) ∧ Below w.heap.size w w' := by
  have hk := hT.few
  obtain ⟨W0, hW0, X0, B0, S0⟩ := shBoxed w p l wd ab us cb af ks cf s
  have I0 := h.below B0 (Nat.le_refl _)
  obtain ⟨hlt, c0, c1, c2, c3, c4, c5, c6, c7, c8⟩ := X0
  have q := iTie_any p l af cf ks W0 hF (by omega) (noLeast_right hR.rules) I0.P I0.K
  have hq := (hT.yes hR).2.1
  clear S0 I0 h hT
  go_enter Tryz.func56, Tryz.ntmps56
  go_wp2_with (first | (rw [← hW0]; go_at_call 52; refine q.mono ?_; rintro e w1 hq1; obtain ⟨rfl, hb1⟩ := hq1.yes hq) | (go_at_call 52; refine q.mono ?_; rintro e w1 hq1; obtain ⟨rfl, hb1⟩ := hq1.yes hq))
  go_ret
  exact ⟨rfl, B0.trans (hb1.mono B0.size)⟩
end
end Go.Proofs.YtlejdjbhbkknlaaGreat
/- Pieces and costs in variables of a law, and small facts beside them. -/
namespace Go.Proofs.YtlejdjbhbkknlaaGreat
open Go.RowKit

/-- A cost in a variable. -/
structure Cb (w : World) (b : Nat) (o s : Int) : Prop where
  lt : b < w.heap.size
  c0 : w.cell? ⟨b, 0, none⟩ = some (.int .i64 o)
  c1 : w.cell? ⟨b, 1, none⟩ = some (.int .i64 s)
theorem Cb.below {w w' : World} {b : Nat} {o s : Int} (h : Cb w b o s) (hb : Below w.heap.size w w') : Cb w' b o s :=
  ⟨Nat.lt_of_lt_of_le h.lt hb.size, by rw [hb.cell h.lt]; exact h.c0, by rw [hb.cell h.lt]; exact h.c1⟩
theorem cb_new (w : World) (o s : Int) (t : Nat) : ∃ W, W = w.alloc (.cells #[.int .i64 o, .int .i64 s] t) ∧ Cb W w.heap.size o s ∧ Below w.heap.size w W ∧ W.heap.size = w.heap.size + 1 := by
  refine ⟨_, rfl, ⟨by simp, ?_, ?_⟩, (Below.refl _ _).alloc (Nat.le_refl _) _, by simp⟩
  all_goals simp
/-- A piece in a variable. -/
structure Pb (w : World) (b : Nat) (p : Pc) (l : Pl) : Prop where
  box : BoxAt w b p l
  inn : PcIn w p l
theorem Pb.below {w w' : World} {b : Nat} {p : Pc} {l : Pl} (h : Pb w b p l) (hb : Below w.heap.size w w') : Pb w' b p l := ⟨h.box.below hb h.box.lt, h.inn.below hb (Nat.le_refl _)⟩
theorem capOf {w : World} {b e s n c : Nat} {a : Option Addr} {xs : List Value} (h : w.ownsRow b e s (.slice a n c) n xs) : n ≤ c := by
  rcases h.2 with ⟨e, h0⟩ | ⟨g, cap, cur, e, -, -, hc, -⟩
  · omega
  · cases e
    exact hc
theorem coEql (o s : Int) (w : World) : (binOp .eql 47 (.agg #[.int .i64 o, .int .i64 s]) (.agg #[.int .i64 o, .int .i64 s])).run Tryz.prog w = .ok (.bool true) w := by
  have u3 := Tryz.underlying3
  have a3 := Tryz.isAgg3
  have z3 := Tryz.sizeOf3
  have hS : Tryz.prog.underlying 47 = some (.struct (Tryz.prog.fieldsOf 47)) := by kernel_rfl
  have hp : Tryz.prog.stoodInHeld 47 = false := by kernel_rfl
  rw [run_eql_struct, show (10000 : Nat) = 9999 + 1 from rfl, run_equalIn_agg w 9999 47 _ _ hS hp]
  simp only [Program.fieldsOf, Tryz.underlying47]
  go_simp
end Go.Proofs.YtlejdjbhbkknlaaGreat
