/- Cells of elder blocks. -/
import Derived.Test.YtokfemlcamnaaaaGreatLib
import Derived.Test.YtokfemlcamnaaaaGreatStRow
import Derived.Test.YtokfemlcamnaaaaGreatKab
import Derived.Deep.RegionHeld3
namespace Go.Proofs.YtokfemlcamnaaaaGreat
open Go.RowKit

theorem bcell {W w1 : World} (hb : Below W.heap.size W w1) : (∀ b o, b < W.heap.size → w1.cell? ⟨b, o, none⟩ = W.cell? ⟨b, o, none⟩) ∧ (∀ b o, b < W.heap.size → w1.frozen? ⟨b, o, none⟩ = W.frozen? ⟨b, o, none⟩) :=
  ⟨fun b o h => hb.cell (p := ⟨b, o, none⟩) h, fun b o h => hb.frozen (p := ⟨b, o, none⟩) h⟩
theorem bcelld {W w1 : World} (hb : Below W.drew.heap.size W.drew w1) : ∀ b o, b < W.heap.size → w1.cell? ⟨b, o, none⟩ = W.cell? ⟨b, o, none⟩ :=
  fun b o h => hb.cell (p := ⟨b, o, none⟩) h
end Go.Proofs.YtokfemlcamnaaaaGreat
/- States in variables. -/
namespace Go.Proofs.YtokfemlcamnaaaaGreat
open Go.RowKit

/-- A state in a variable. -/
structure Bx (w : World) (b : Nat) (p : Sp) : Prop where
  lt : b < w.heap.size
  c0 : w.cell? ⟨b, 0, none⟩ = some (.slice p.a p.st.vals.length p.c)
  c1 : w.cell? ⟨b, 1, none⟩ = some (.int .i64 p.st.sum)
theorem Bx.below {w w' : World} {b : Nat} {p : Sp} {B : Nat} (h : Bx w b p) (hb : Below B w w') (hB : b < B) : Bx w' b p :=
  ⟨Nat.lt_of_lt_of_le h.lt hb.size, by rw [hb.cell hB]; exact h.c0, by rw [hb.cell hB]; exact h.c1⟩
theorem Bx.kept {w w' : World} {b : Nat} {p : Sp} (h : Bx w b p) (hb : Below w.heap.size w w') : Bx w' b p := h.below hb h.lt
theorem Bx.grown {w w' : World} {b : Nat} {p : Sp} {g : Option Nat} (h : Bx w b p) (hg : w.grownBy w' g) (hne : some b ≠ g) : Bx w' b p :=
  ⟨Nat.lt_of_lt_of_le h.lt hg.size, by rw [World.cell?_of_block (hg.block b h.lt hne)]; exact h.c0, by rw [World.cell?_of_block (hg.block b h.lt hne)]; exact h.c1⟩
theorem bx_new (w : World) (p : Sp) (t : Nat) : ∃ W, W = w.alloc (.cells #[.slice p.a p.st.vals.length p.c, .int .i64 p.st.sum] t) ∧ Bx W w.heap.size p ∧ Below w.heap.size w W ∧ W.heap.size = w.heap.size + 1 := by
  refine ⟨_, rfl, ⟨by simp, ?_, ?_⟩, (Below.refl _ _).alloc (Nat.le_refl _) _, by simp⟩
  all_goals simp
theorem bx_new2 (w : World) (p q : Sp) (t : Nat) : ∃ W, W = (w.alloc (.cells #[.slice p.a p.st.vals.length p.c, .int .i64 p.st.sum] t)).alloc (.cells #[.slice q.a q.st.vals.length q.c, .int .i64 q.st.sum] t) ∧ Bx W w.heap.size p ∧ Bx W (w.heap.size + 1) q ∧ Below w.heap.size w W ∧ W.heap.size = w.heap.size + 2 := by
  obtain ⟨W1, h1, b1, e1, s1⟩ := bx_new w p t
  obtain ⟨W2, h2, b2, e2, s2⟩ := bx_new W1 q t
  refine ⟨W2, by rw [h2, h1], b1.kept e2, ?_, e1.trans (e2.mono e1.size), by omega⟩
  rw [s1] at b2
  exact b2
end Go.Proofs.YtokfemlcamnaaaaGreat
/- What the heap's own look at two of its items answers; impl.HeapOk. -/
namespace Go.Proofs.YtokfemlcamnaaaaGreat
open Go.RowKit

/-- Where a heap lies: its place in a struct, the struct's type, what else lies there. -/
structure HK where
  o : Nat
  T : Nat
  K : Value → Array Value
  at0 : ∀ s, (K s)[o]? = some s
  at1 : ∀ s, (K s)[o + 1]? = some (.func (.func 60) #[] #[])
  put : ∀ s s', (K s).setIfInBounds o s' = K s'
  ns : 54 ≠ T
  ni : 3 ≠ T
/-- A heap in a variable of its own. -/
def hk0 : HK := ⟨0, 73, fun s => #[s, .func (.func 60) #[] #[]], fun _ => rfl, fun _ => rfl, fun _ _ => rfl, by decide, by decide⟩
/-- A heap in a variable: its items, and what tells the less of two. -/
structure Hv (kd : HK) (w : World) (b : Nat) (a : Option Addr) (n c : Nat) : Prop where
  row : w.heap[b]? = some (.cells (kd.K (.slice a n c)) kd.T (0, 0))
section
variable {kd : HK}
theorem Hv.lt {w : World} {b : Nat} {a : Option Addr} {n c : Nat} (h : Hv kd w b a n c) : b < w.heap.size := (Array.getElem?_eq_some_iff.1 h.row).1
theorem Hv.all {w : World} {b : Nat} {a : Option Addr} {n c : Nat} (h : Hv kd w b a n c) : b < w.heap.size ∧ w.cell? ⟨b, kd.o, none⟩ = some (.slice a n c) ∧ w.cell? ⟨b, kd.o + 1, none⟩ = some (.func (.func 60) #[] #[]) ∧ w.frozen? ⟨b, kd.o, none⟩ = false :=
  ⟨h.lt, (cell_of_row w b _ _ _ _ h.row).trans (kd.at0 _), (cell_of_row w b _ _ _ _ h.row).trans (kd.at1 _), frozen_of_row w b _ _ _ h.row⟩
theorem Hv.kept {w w' : World} {b : Nat} {a : Option Addr} {n c : Nat} (h : Hv kd w b a n c) (hb : Below w.heap.size w w') : Hv kd w' b a n c := ⟨(hb.block b h.lt).trans h.row⟩
theorem Hv.all0 {w : World} {b : Nat} {a : Option Addr} {n c : Nat} (h : Hv hk0 w b a n c) : b < w.heap.size ∧ w.cell? ⟨b, 0, none⟩ = some (.slice a n c) ∧ w.cell? ⟨b, 1, none⟩ = some (.func (.func 60) #[] #[]) ∧ w.frozen? ⟨b, 0, none⟩ = false := h.all
/-- What lies in blocks of other types lies apart. -/
theorem Hv.far {w : World} {b : Nat} {a : Option Addr} {n c : Nat} (h : Hv kd w b a n c) {B e s m : Nat} {v : Value} {xs : List Value} (ho : w.ownsRow B e s v m xs) (hne : e ≠ kd.T) : v.ownBlock = none ∨ v.ownBlock ≠ some b := by
  rcases ho.2 with ⟨rfl, _⟩ | ⟨g, cap, cur, rfl, _, hg, _⟩
  · exact .inl rfl
  · right
    intro e
    have e' : g = b := by injection e
    subst e'
    have h1 := h.row
    rw [hg] at h1
    injection h1 with h1
    injection h1 with _ h1 _
    exact hne h1
theorem Hv.ne {w : World} {b : Nat} {a : Option Addr} {n c : Nat} (h : Hv kd w b a n c) {B g d : Nat} {ps : List Sp} (ho : Own w B (some ⟨g, 0, none⟩) d ps) : b ≠ g := by
  rcases h.far ho.row kd.ns with h1 | h1
  · cases h1
  · intro e
    subst e
    exact h1 rfl
/-- The heap has other items. -/
theorem Hv.set {w : World} {b : Nat} {a : Option Addr} {n c : Nat} (h : Hv kd w b a n c) (a' : Option Addr) (n' c' : Nat) : Hv kd (w.setCell ⟨b, kd.o, none⟩ (.slice a' n' c')) b a' n' c' := ⟨by
  rw [heap_setCell_same w b kd.o _ _ _ h.row, kd.put]⟩
end

set_option maxHeartbeats 1600000 in
theorem above_any (i : Nat) (w : World) (hi : i ≤ 4611686018427387904) (h0 : 0 < i) :
    Calls Tryz.prog 93 #[.int .i64 i] w fun e w' => e = .returned (.int .i64 (par i)) ∧ w' = w := by
  have e1 : ((i : Int) + 1).tdiv 2 = ((i : Int) + 1) / 2 := Int.tdiv_eq_ediv_of_nonneg (by omega)
  have hp := hidOf (par_int i h0)
  go_enter Tryz.func93, Tryz.ntmps93
  go_wp2
  go_ret
  exact ⟨ret_int hp.out.symm, rfl⟩

set_option maxHeartbeats 4000000 in
theorem isLess_any (kd : HK) (hb : Nat) (a : Option Addr) (c : Nat) (ps : List Sp) (i j : Nat) (w : World) (hn0 : ps.length ≤ 1048577) (hi0 : i ≤ 4611686018427387904) (hj0 : j ≤ 4611686018427387904) (hj : i < ps.length → j < ps.length) (hF : Few ps) (hT : StsAt w a ps) (H : Hv kd w hb a ps.length c) :
    Calls Tryz.prog 92 #[.pointer (some ⟨hb, kd.o, none⟩), .int .i64 i, .int .i64 j] w fun e w' => e = .returned (.bool (ltAt spLess ps i j)) ∧ Below w.heap.size w w' := by
  obtain ⟨hl, c0, c1, -⟩ := H.all
  clear H
  obtain ⟨h, hK⟩ := hT
  unfold RowsAt at h
  obtain ⟨n, hn⟩ : ∃ n, n = ps.length := ⟨_, rfl⟩
  rw [← hn] at h hn0 hj c0
  have HN := hidOf hn
  clear hn
  by_cases hlt : i < n
  · obtain ⟨b1, o1, rfl, hb1, hc1⟩ := h (by omega)
    have hjn := hj hlt
    obtain ⟨p, ep⟩ : ∃ p, ps[i]? = some p := ⟨_, List.getElem?_eq_getElem (by rw [← HN.out]; exact hlt)⟩
    obtain ⟨q, eq⟩ : ∃ q, ps[j]? = some q := ⟨_, List.getElem?_eq_getElem (by rw [← HN.out]; exact hjn)⟩
    obtain ⟨p0, p1⟩ := sp2 (hc1 i p ep)
    obtain ⟨q0, q1⟩ := sp2 (hc1 j q eq)
    have HE := hidOf (ltAt_of (lt := spLess) ep eq)
    have Fp := hF p (List.mem_of_getElem? ep)
    have Fq := hF q (List.mem_of_getElem? eq)
    have Kp := hK p (List.mem_of_getElem? ep)
    have Kq := hK q (List.mem_of_getElem? eq)
    clear ep eq hc1 h hK hj
    have hg : decide ((i : Int) < (n : Int)) = true := by simp; omega
    have hA : (0 : Int) ≤ (i : Int) := by omega
    have hB : (i : Int) < (n : Int) := by omega
    have hC : (0 : Int) ≤ (j : Int) := by omega
    have hD : (j : Int) < (n : Int) := by omega
    go_enter Tryz.func92, Tryz.ntmps92
    go_wp2
    go_region_held3 (fun W => (W.cell? ⟨hb, kd.o, none⟩ = some (.slice (some ⟨b1, o1, none⟩) n c) ∧ W.cell? ⟨hb, kd.o + 1, none⟩ = some (.func (.func 60) #[] #[])) ∧ (W.cell? ⟨b1, o1 + i * 2, none⟩ = some (.slice p.a p.st.vals.length p.c) ∧ W.cell? ⟨b1, o1 + i * 2 + 1, none⟩ = some (.int .i64 p.st.sum)) ∧ W.cell? ⟨b1, o1 + j * 2, none⟩ = some (.slice q.a q.st.vals.length q.c) ∧ W.cell? ⟨b1, o1 + j * 2 + 1, none⟩ = some (.int .i64 q.st.sum)) (first | trivial | go_keep)
      ((go_at_call 60; refine (iSL_any p q _ Fp Fq (Kp.below (Below.refl w.heap.size w).drew (Nat.le_refl _)) (Kq.below (Below.refl w.heap.size w).drew (Nat.le_refl _))).mono ?_; rintro e w1 ⟨rfl, hb1⟩; have E1 := (Below.refl w.heap.size w).drew.trans hb1; have hc1 := (bcell E1).1))
    go_wp2
    go_ret
    exact ⟨ret_bool HE.out.symm, E1⟩
  · clear h hK
    have hg : decide ((i : Int) < (n : Int)) = false := by simp; omega
    go_enter Tryz.func92, Tryz.ntmps92
    go_wp2
    go_quiet (fail)
    go_wp2
    go_ret
    exact ⟨ret_bool (ltAt_out (by rw [← HN.out]; omega)).symm, below_drewN _ _⟩
end Go.Proofs.YtokfemlcamnaaaaGreat
