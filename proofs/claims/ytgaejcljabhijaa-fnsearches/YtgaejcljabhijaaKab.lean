/- Lists of states that are made: one more state in a row of their own, and what a call that makes states or lists of them tells. -/
import Derived.Test.YtgaejcljabhijaaKaa
import Derived.Test.YtgaejcljabhijaaBCell
import Derived.Deep.RegionHeld3
import Derived.BigRegion
import Derived.Deep.CutBlock
import Derived.Test.YtgaejcljabhijaaLib
namespace Go.Proofs.Ytgaejcljabhijaa
open Go.RowKit

/-- A state, its Vals in memory of their own. -/
def SvAns (x : St) (w : World) (e : Ending) (w' : World) : Prop :=
  ∃ a c, e = .returned (.agg #[.slice a x.vals.length c, .int .i64 x.sum]) ∧ w'.ownsRow w.heap.size 3 1 (.slice a x.vals.length c) x.vals.length (intVals x.vals) ∧ Below w.heap.size w w'
/-- A list of states, in memory of its own. -/
def StsAns (xs : List St) (w : World) (e : Ending) (w' : World) : Prop :=
  ∃ a c ps, e = .returned (.slice a ps.length c) ∧ ps.map Sp.st = xs ∧ Own w' w.heap.size a c ps ∧ Below w.heap.size w w'
theorem grown_set (w : World) (p : Addr) (u : Value) : w.grownBy (w.setCell p u) (some p.block) :=
  ⟨rfl, rfl, rfl, by simp, fun k _ hk => heap_setCell_other w p k u (fun e => hk (by simp [e]))⟩
theorem own_put {w : World} {B e s n : Nat} {v : Value} {xs : List Value} (h : w.ownsRow B e s v n xs) (p : Addr) (u : Value) (hne : v.ownBlock = none ∨ v.ownBlock ≠ some p.block) : (w.setCell p u).ownsRow B e s v n xs := h.kept (grown_set w p u) hne
theorem Own.blk_lt {w : World} {B : Nat} {a : Option Addr} {c : Nat} {ps : List Sp} (h : Own w B a c ps) {p : Sp} (hp : p ∈ ps) {g : Nat} (hg : p.blk = some g) : B ≤ g ∧ g < w.heap.size := (h.each p hp).lt g hg
/-- A made row, of which the first states are there. -/
structure Made (w : World) (B g n : Nat) (ps : List Sp) : Prop where
  row : ∃ zs, w.ownsRow B 74 2 (.slice (some ⟨g, 0, none⟩) n n) n zs ∧ zs.take (ps.length * 2) = rowVals spCells ps
  each : ∀ p ∈ ps, w.ownsRow B 3 1 (.slice p.a p.st.vals.length p.c) p.st.vals.length (intVals p.st.vals)
  apart : ∀ (i j : Nat) (p q : Sp), i ≠ j → ps[i]? = some p → ps[j]? = some q → ∀ g, p.blk = some g → q.blk ≠ some g
theorem Made.below {w w' : World} {B g n : Nat} {ps : List Sp} (h : Made w B g n ps) (hb : Below w.heap.size w w') : Made w' B g n ps := by
  obtain ⟨zs, h1, h2⟩ := h.row
  exact ⟨⟨zs, owns_below h1 hb, h2⟩, fun p hp => owns_below (h.each p hp) hb, h.apart⟩
theorem Made.own {w : World} {B g n : Nat} {ps : List Sp} (h : Made w B g n ps) (hn : ps.length = n) : Own w B (some ⟨g, 0, none⟩) n ps := by
  subst hn
  obtain ⟨zs, h1, h2⟩ := h.row
  rw [List.take_of_length_le (by have := h1.1; omega)] at h2
  rw [h2] at h1
  exact ⟨h1, h.each, h.apart⟩
theorem Made.cells {w : World} {B g n : Nat} {ps : List Sp} (h : Made w B g n ps) (k : Nat) (hk : k < n) : (∃ u, w.cell? ⟨g, k * 2, none⟩ = some u) ∧ (∃ u, w.cell? ⟨g, k * 2 + 1, none⟩ = some u) ∧ w.frozen? ⟨g, k * 2, none⟩ = false ∧ w.frozen? ⟨g, k * 2 + 1, none⟩ = false := by
  obtain ⟨zs, h1, _⟩ := h.row
  have hl : zs.length = n * 2 := h1.1
  exact ⟨⟨_, (h1.cellAt (k * 2) (by omega)).trans (List.getElem?_eq_getElem (by omega))⟩, ⟨_, (h1.cellAt (k * 2 + 1) (by omega)).trans (List.getElem?_eq_getElem (by omega))⟩, h1.frozenAt _, h1.frozenAt _⟩
/-- The new one lies apart from all that were there. -/
theorem apart_app {ps : List Sp} {p : Sp} (h : ∀ (i j : Nat) (p q : Sp), i ≠ j → ps[i]? = some p → ps[j]? = some q → ∀ g, p.blk = some g → q.blk ≠ some g) (hn : ∀ q ∈ ps, ∀ g, q.blk = some g → p.blk ≠ some g) :
    ∀ (i j : Nat) (x y : Sp), i ≠ j → (ps ++ [p])[i]? = some x → (ps ++ [p])[j]? = some y → ∀ g, x.blk = some g → y.blk ≠ some g := by
  intro i j x y hij hx hy g hg
  have hi := (List.getElem?_eq_some_iff.1 hx).1
  have hj := (List.getElem?_eq_some_iff.1 hy).1
  simp only [List.length_append, List.length_cons, List.length_nil] at hi hj
  by_cases ei : i = ps.length
  · subst ei
    rw [List.getElem?_append_left (by omega)] at hy
    have : x = p := by simpa using hx.symm
    subst this
    intro hg2
    exact hn y (List.mem_of_getElem? hy) g hg2 hg
  · rw [List.getElem?_append_left (by omega)] at hx
    by_cases ej : j = ps.length
    · subst ej
      have : y = p := by simpa using hy.symm
      subst this
      exact hn x (List.mem_of_getElem? hx) g hg
    · rw [List.getElem?_append_left (by omega)] at hy
      exact h i j x y hij hx hy g hg
theorem Made.step {w w1 : World} {B g n : Nat} {ps : List Sp} (p : Sp) (h : Made w B g n ps) (hb : Below w.heap.size w w1) (hB : B ≤ w.heap.size) (hk : ps.length < n) (ho : w1.ownsRow w.heap.size 3 1 (.slice p.a p.st.vals.length p.c) p.st.vals.length (intVals p.st.vals)) :
    Made ((w1.setCell ⟨g, ps.length * 2, none⟩ (.slice p.a p.st.vals.length p.c)).setCell ⟨g, ps.length * 2 + 1, none⟩ (.int .i64 p.st.sum)) B g n (ps ++ [p]) ∧ w1.grownBy ((w1.setCell ⟨g, ps.length * 2, none⟩ (.slice p.a p.st.vals.length p.c)).setCell ⟨g, ps.length * 2 + 1, none⟩ (.int .i64 p.st.sum)) (some g) := by
  have h1 := h.below hb
  obtain ⟨zs, r1, r2⟩ := h1.row
  have hl : zs.length = n * 2 := r1.1
  have s0 := r1.stored (ps.length * 2) (.slice p.a p.st.vals.length p.c)
  have s1 := s0.1.stored (ps.length * 2 + 1) (.int .i64 p.st.sum)
  have hg := grownBy_trans s0.2 s1.2
  have hx : (ps ++ [p])[ps.length]? = some p := by simp
  have hz := layAt_take spCells_len (xs := ps ++ [p]) (k := ps.length) (zs := zs) (by omega) hx (by rw [r2]; simp)
  refine ⟨⟨⟨_, s1.1, ?_⟩, ?_, ?_⟩, hg⟩
  · rw [List.take_of_length_le (show (ps ++ [p]).length ≤ ps.length + 1 by simp)] at hz
    rw [List.length_append]
    exact hz
  · intro q hq
    rcases List.mem_append.1 hq with hq | hq
    · exact (h1.each q hq).kept hg (types_apart (h1.each q hq) r1 (by decide))
    · have : q = p := by simpa using hq
      subst this
      exact ownsRow_base (ho.kept hg (types_apart ho r1 (by decide))) hB
  · exact apart_app h.apart fun q hq k hk1 hk2 => by
      have := ((h.each q hq).lt k hk1).2
      have := (ho.lt k hk2).1
      omega
/-- One more state behind the list. -/
theorem Own.append {w w3 : World} {B : Nat} {a a' : Option Addr} {c c' : Nat} {ps : List Sp} {x : Sp} (h : Own w B a c ps) (ho : w.ownsRow B 3 1 (.slice x.a x.st.vals.length x.c) x.st.vals.length (intVals x.st.vals)) (hx : ∀ q ∈ ps, ∀ g, q.blk = some g → x.blk ≠ some g)
    (hg : w.grownBy w3 (Value.slice a ps.length c).ownBlock) (hr : w3.ownsRow B 74 2 (.slice a' (ps.length + 1) c') (ps.length + 1) (rowVals spCells ps ++ spCells x)) : Own w3 B a' c' (ps ++ [x]) := by
  refine ⟨?_, ?_, apart_app h.apart hx⟩
  · rw [rowVals_app, rowVals_one, List.length_append]
    exact hr
  · intro q hq
    rcases List.mem_append.1 hq with hq | hq
    · exact (h.each q hq).kept hg (types_apart (h.each q hq) h.row (by decide))
    · have : q = x := by simpa using hq
      subst this
      exact ho.kept hg (types_apart ho h.row (by decide))
theorem few_app {ps : List Sp} {x : Sp} (h : Few ps) (hx : x.st.vals.length ≤ 1048576) : Few (ps ++ [x]) := fun p hp => by
  rcases List.mem_append.1 hp with hp | hp
  · exact h p hp
  · have : p = x := by simpa using hp
    subst this
    exact hx
theorem one_sp (x : Sp) : ∀ u ∈ spCells x, u.oneCell' = true := fun u hu => by
  simp [spCells] at hu
  rcases hu with rfl | rfl <;> rfl
theorem cells_sp_new (w : World) (x : Sp) (t : Nat) : ∀ j u, (spCells x)[j]? = some u → (w.alloc (.cells #[.slice x.a x.st.vals.length x.c, .int .i64 x.st.sum] t)).cell? ((⟨w.heap.size, 0, none⟩ : Addr).add j) = some u := by
  intro j u hu
  have hj : j < 2 := by have := (List.getElem?_eq_some_iff.1 hu).1; simpa [spCells] using this
  match j, hj with
  | 0, _ => simp [spCells] at hu; subst hu; simp [Addr.add]
  | 1, _ => simp [spCells] at hu; subst hu; simp [Addr.add]
theorem few_st {ps : List Sp} {qs : List Sp} (h : qs.map Sp.st = ps.map Sp.st) (hF : Few ps) : Few qs := fun q hq => by
  have h1 : q.st ∈ ps.map Sp.st := by rw [← h]; exact List.mem_map_of_mem hq
  obtain ⟨p, hp, e⟩ := List.mem_map.1 h1
  rw [← e]
  exact hF p hp
theorem len_st {ps qs : List Sp} {n : Nat} (h : qs.map Sp.st = ps.map Sp.st) (hn : ps.length ≤ n) : qs.length ≤ n := by
  have := congrArg List.length h
  simp at this
  omega
end Go.Proofs.Ytgaejcljabhijaa
/- States in variables. -/
namespace Go.Proofs.Ytgaejcljabhijaa
open Go.RowKit

/-- A state in a variable. -/
structure Bx (w : World) (b : Nat) (p : Sp) : Prop where
  lt : b < w.heap.size
  c0 : w.cell? ⟨b, 0, none⟩ = some (.slice p.a p.st.vals.length p.c)
  c1 : w.cell? ⟨b, 1, none⟩ = some (.int .i64 p.st.sum)
theorem Bx.below {w w' : World} {b : Nat} {p : Sp} {B : Nat} (h : Bx w b p) (hb : Below B w w') (hB : b < B) : Bx w' b p :=
  ⟨Nat.lt_of_lt_of_le h.lt hb.size, by rw [hb.cell hB]; exact h.c0, by rw [hb.cell hB]; exact h.c1⟩
theorem Bx.kept {w w' : World} {b : Nat} {p : Sp} (h : Bx w b p) (hb : Below w.heap.size w w') : Bx w' b p := h.below hb h.lt
theorem Bx.grown {w w' : World} {b : Nat} {p : Sp} {g : Option Nat} (h : Bx w b p) (hg : w.grownBy w' g) (hne : some b ≠ g) : Bx w' b p :=
  ⟨Nat.lt_of_lt_of_le h.lt hg.size, by rw [World.cell?_of_block (hg.block b h.lt hne)]; exact h.c0, by rw [World.cell?_of_block (hg.block b h.lt hne)]; exact h.c1⟩
theorem bx_new (w : World) (p : Sp) (t : Nat) : ∃ W, W = w.alloc (.cells #[.slice p.a p.st.vals.length p.c, .int .i64 p.st.sum] t) ∧ Bx W w.heap.size p ∧ Below w.heap.size w W ∧ W.heap.size = w.heap.size + 1 := by
  refine ⟨_, rfl, ⟨by simp, ?_, ?_⟩, (Below.refl _ _).alloc (Nat.le_refl _) _, by simp⟩
  all_goals simp
theorem bx_new2 (w : World) (p q : Sp) (t : Nat) : ∃ W, W = (w.alloc (.cells #[.slice p.a p.st.vals.length p.c, .int .i64 p.st.sum] t)).alloc (.cells #[.slice q.a q.st.vals.length q.c, .int .i64 q.st.sum] t) ∧ Bx W w.heap.size p ∧ Bx W (w.heap.size + 1) q ∧ Below w.heap.size w W ∧ W.heap.size = w.heap.size + 2 := by
  obtain ⟨W1, h1, b1, e1, s1⟩ := bx_new w p t
  obtain ⟨W2, h2, b2, e2, s2⟩ := bx_new W1 q t
  refine ⟨W2, by rw [h2, h1], b1.kept e2, ?_, e1.trans (e2.mono e1.size), by omega⟩
  rw [s1] at b2
  exact b2
end Go.Proofs.Ytgaejcljabhijaa
/- What the heap's own look at two of its items answers; impl.HeapOk. -/
namespace Go.Proofs.Ytgaejcljabhijaa
open Go.RowKit

/-- Where a heap lies: its place in a struct, the struct's type, what else lies there. -/
structure HK where
  o : Nat
  T : Nat
  K : Value → Array Value
  at0 : ∀ s, (K s)[o]? = some s
  at1 : ∀ s, (K s)[o + 1]? = some (.func (.func 108) #[] #[])
  put : ∀ s s', (K s).setIfInBounds o s' = K s'
  ns : 74 ≠ T
  ni : 3 ≠ T
/-- A heap in a variable of its own. -/
def hk0 : HK := ⟨0, 119, fun s => #[s, .func (.func 108) #[] #[]], fun _ => rfl, fun _ => rfl, fun _ _ => rfl, by decide, by decide⟩
/-- A heap in a variable: its items, and what tells the less of two. -/
structure Hv (kd : HK) (w : World) (b : Nat) (a : Option Addr) (n c : Nat) : Prop where
  row : w.heap[b]? = some (.cells (kd.K (.slice a n c)) kd.T (0, 0))
section
variable {kd : HK}
theorem Hv.lt {w : World} {b : Nat} {a : Option Addr} {n c : Nat} (h : Hv kd w b a n c) : b < w.heap.size := (Array.getElem?_eq_some_iff.1 h.row).1
theorem Hv.all {w : World} {b : Nat} {a : Option Addr} {n c : Nat} (h : Hv kd w b a n c) : b < w.heap.size ∧ w.cell? ⟨b, kd.o, none⟩ = some (.slice a n c) ∧ w.cell? ⟨b, kd.o + 1, none⟩ = some (.func (.func 108) #[] #[]) ∧ w.frozen? ⟨b, kd.o, none⟩ = false :=
  ⟨h.lt, (cell_of_row w b _ _ _ _ h.row).trans (kd.at0 _), (cell_of_row w b _ _ _ _ h.row).trans (kd.at1 _), frozen_of_row w b _ _ _ h.row⟩
theorem Hv.kept {w w' : World} {b : Nat} {a : Option Addr} {n c : Nat} (h : Hv kd w b a n c) (hb : Below w.heap.size w w') : Hv kd w' b a n c := ⟨(hb.block b h.lt).trans h.row⟩
theorem Hv.all0 {w : World} {b : Nat} {a : Option Addr} {n c : Nat} (h : Hv hk0 w b a n c) : b < w.heap.size ∧ w.cell? ⟨b, 0, none⟩ = some (.slice a n c) ∧ w.cell? ⟨b, 1, none⟩ = some (.func (.func 108) #[] #[]) ∧ w.frozen? ⟨b, 0, none⟩ = false := h.all
/-- What lies in blocks of other types lies apart. -/
theorem Hv.far {w : World} {b : Nat} {a : Option Addr} {n c : Nat} (h : Hv kd w b a n c) {B e s m : Nat} {v : Value} {xs : List Value} (ho : w.ownsRow B e s v m xs) (hne : e ≠ kd.T) : v.ownBlock = none ∨ v.ownBlock ≠ some b := by
  rcases ho.2 with ⟨rfl, _⟩ | ⟨g, cap, cur, rfl, _, hg, _⟩
  · exact .inl rfl
  · right
    intro e
    have e' : g = b := by injection e
    subst e'
    have h1 := h.row
    rw [hg] at h1
    injection h1 with h1
    injection h1 with _ h1 _
    exact hne h1
theorem Hv.ne {w : World} {b : Nat} {a : Option Addr} {n c : Nat} (h : Hv kd w b a n c) {B g d : Nat} {ps : List Sp} (ho : Own w B (some ⟨g, 0, none⟩) d ps) : b ≠ g := by
  rcases h.far ho.row kd.ns with h1 | h1
  · cases h1
  · intro e
    subst e
    exact h1 rfl
/-- The heap has other items. -/
theorem Hv.set {w : World} {b : Nat} {a : Option Addr} {n c : Nat} (h : Hv kd w b a n c) (a' : Option Addr) (n' c' : Nat) : Hv kd (w.setCell ⟨b, kd.o, none⟩ (.slice a' n' c')) b a' n' c' := ⟨by
  rw [heap_setCell_same w b kd.o _ _ _ h.row, kd.put]⟩
end

set_option maxHeartbeats 1600000 in
theorem above_any (i : Nat) (w : World) (hi : i ≤ 4611686018427387904) (h0 : 0 < i) :
    Calls Try.prog 133 #[.int .i64 i] w fun e w' => e = .returned (.int .i64 (par i)) ∧ w' = w := by
  have e1 : ((i : Int) + 1).tdiv 2 = ((i : Int) + 1) / 2 := Int.tdiv_eq_ediv_of_nonneg (by omega)
  have hp := hidOf (par_int i h0)
  go_enter Try.func133, Try.ntmps133
  go_wp2
  go_ret
  exact ⟨ret_int hp.out.symm, rfl⟩

set_option maxHeartbeats 4000000 in
theorem isLess_any (kd : HK) (hb : Nat) (a : Option Addr) (c : Nat) (ps : List Sp) (i j : Nat) (w : World) (hn0 : ps.length ≤ 1048577) (hi0 : i ≤ 4611686018427387904) (hj0 : j ≤ 4611686018427387904) (hj : i < ps.length → j < ps.length) (hF : Few ps) (hT : StsAt w a ps) (H : Hv kd w hb a ps.length c) :
    Calls Try.prog 132 #[.pointer (some ⟨hb, kd.o, none⟩), .int .i64 i, .int .i64 j] w fun e w' => e = .returned (.bool (ltAt spLess ps i j)) ∧ Below w.heap.size w w' := by
  obtain ⟨hl, c0, c1, -⟩ := H.all
  clear H
  obtain ⟨h, hK⟩ := hT
  unfold RowsAt at h
  obtain ⟨n, hn⟩ : ∃ n, n = ps.length := ⟨_, rfl⟩
  rw [← hn] at h hn0 hj c0
  have HN := hidOf hn
  clear hn
  by_cases hlt : i < n
  · obtain ⟨b1, o1, rfl, hb1, hc1⟩ := h (by omega)
    have hjn := hj hlt
    obtain ⟨p, ep⟩ : ∃ p, ps[i]? = some p := ⟨_, List.getElem?_eq_getElem (by rw [← HN.out]; exact hlt)⟩
    obtain ⟨q, eq⟩ : ∃ q, ps[j]? = some q := ⟨_, List.getElem?_eq_getElem (by rw [← HN.out]; exact hjn)⟩
    obtain ⟨p0, p1⟩ := sp2 (hc1 i p ep)
    obtain ⟨q0, q1⟩ := sp2 (hc1 j q eq)
    have HE := hidOf (ltAt_of (lt := spLess) ep eq)
    have Fp := hF p (List.mem_of_getElem? ep)
    have Fq := hF q (List.mem_of_getElem? eq)
    have Kp := hK p (List.mem_of_getElem? ep)
    have Kq := hK q (List.mem_of_getElem? eq)
    clear ep eq hc1 h hK hj
    have hg : decide ((i : Int) < (n : Int)) = true := by simp; omega
    have hA : (0 : Int) ≤ (i : Int) := by omega
    have hB : (i : Int) < (n : Int) := by omega
    have hC : (0 : Int) ≤ (j : Int) := by omega
    have hD : (j : Int) < (n : Int) := by omega
    go_enter Try.func132, Try.ntmps132
    go_wp2
    go_region_held3 (fun W => (W.cell? ⟨hb, kd.o, none⟩ = some (.slice (some ⟨b1, o1, none⟩) n c) ∧ W.cell? ⟨hb, kd.o + 1, none⟩ = some (.func (.func 108) #[] #[])) ∧ (W.cell? ⟨b1, o1 + i * 2, none⟩ = some (.slice p.a p.st.vals.length p.c) ∧ W.cell? ⟨b1, o1 + i * 2 + 1, none⟩ = some (.int .i64 p.st.sum)) ∧ W.cell? ⟨b1, o1 + j * 2, none⟩ = some (.slice q.a q.st.vals.length q.c) ∧ W.cell? ⟨b1, o1 + j * 2 + 1, none⟩ = some (.int .i64 q.st.sum)) (first | trivial | go_keep)
      ((go_at_call 108; refine (iSL_any p q _ Fp Fq (Kp.below (Below.refl w.heap.size w).drew (Nat.le_refl _)) (Kq.below (Below.refl w.heap.size w).drew (Nat.le_refl _))).mono ?_; rintro e w1 ⟨rfl, hb1⟩; have E1 := (Below.refl w.heap.size w).drew.trans hb1; have hc1 := (bcell E1).1))
    go_wp2
    go_ret
    exact ⟨ret_bool HE.out.symm, E1⟩
  · clear h hK
    have hg : decide ((i : Int) < (n : Int)) = false := by simp; omega
    go_enter Try.func132, Try.ntmps132
    go_wp2
    go_quiet (fail)
    go_wp2
    go_ret
    exact ⟨ret_bool (ltAt_out (by rw [← HN.out]; omega)).symm, below_drewN _ _⟩
end Go.Proofs.Ytgaejcljabhijaa
/- How the program's own heap changes two of its items, and how one goes up. -/
namespace Go.Proofs.Ytgaejcljabhijaa
open Go.RowKit

theorem Hv.grown {kd : HK} {w w' : World} {b : Nat} {a : Option Addr} {n c g : Nat} (h : Hv kd w b a n c) (hg : w.grownBy w' (some g)) (hne : b ≠ g) : Hv kd w' b a n c :=
  ⟨(hg.block b h.lt (fun e => hne (by injection e))).trans h.row⟩
theorem Hv.grownO {kd : HK} {w w' : World} {b : Nat} {a : Option Addr} {n c : Nat} {row : Option Nat} (h : Hv kd w b a n c) (hg : w.grownBy w' row) (hne : row = none ∨ row ≠ some b) : Hv kd w' b a n c :=
  ⟨(hg.block b h.lt (fun e => by rcases hne with h1 | h1 <;> simp_all)).trans h.row⟩
/-- What lies in a list's place k, to be read and written. -/
theorem Own.at {w : World} {B g c : Nat} {ps : List Sp} (h : Own w B (some ⟨g, 0, none⟩) c ps) {k : Nat} {p : Sp} (hp : ps[k]? = some p) :
    w.cell? ⟨g, k * 2, none⟩ = some (.slice p.a p.st.vals.length p.c) ∧ w.cell? ⟨g, k * 2 + 1, none⟩ = some (.int .i64 p.st.sum) ∧ w.frozen? ⟨g, k * 2, none⟩ = false ∧ w.frozen? ⟨g, k * 2 + 1, none⟩ = false := by
  have hk := (List.getElem?_eq_some_iff.1 hp).1
  refine ⟨?_, ?_, h.row.frozenAt _, h.row.frozenAt _⟩
  · rw [h.row.cellAt (k * 2) (by omega)]
    exact rowVals_at spCells_len ps k p hp 0 (by omega)
  · rw [h.row.cellAt (k * 2 + 1) (by omega)]
    exact rowVals_at spCells_len ps k p hp 1 (by omega)

set_option maxHeartbeats 4000000 in
theorem change_any (kd : HK) (hb B g c : Nat) (ps : List Sp) (i j : Nat) (w : World) (hi : i < ps.length) (hj : j < ps.length) (hij : i ≠ j) (hO : Own w B (some ⟨g, 0, none⟩) c ps) (H : Hv kd w hb (some ⟨g, 0, none⟩) ps.length c) :
    Calls Try.prog 134 #[.pointer (some ⟨hb, kd.o, none⟩), .int .i64 i, .int .i64 j] w fun e w' => e = .returned (.tuple #[]) ∧ Own w' B (some ⟨g, 0, none⟩) c (swp ps i j) ∧ w.grownBy w' (some g) := by
  obtain ⟨p, ep⟩ : ∃ p, ps[i]? = some p := ⟨_, List.getElem?_eq_getElem hi⟩
  obtain ⟨q, eq⟩ : ∃ q, ps[j]? = some q := ⟨_, List.getElem?_eq_getElem hj⟩
  obtain ⟨p0, p1, p2, p3⟩ := hO.at ep
  obtain ⟨q0, q1, q2, q3⟩ := hO.at eq
  have O1 : Own w.drew B (some ⟨g, 0, none⟩) c ps := hO.below (below_drewN w 1)
  have HS := hidOf (O1.swap ep eq hij)
  have HG := hidOf (show w.grownBy w.drew (some g) from grownBy_of_below (below_drewN w 1) _)
  have hne := H.ne hO
  obtain ⟨hl, c0, c1, -⟩ := H.all
  clear H
  obtain ⟨n, hn⟩ : ∃ n, n = ps.length := ⟨_, rfl⟩
  rw [← hn] at c0 hi hj
  have hA : (0 : Int) ≤ (i : Int) := by omega
  have hB : (i : Int) < (n : Int) := by omega
  have hC : (0 : Int) ≤ (j : Int) := by omega
  have hD : (j : Int) < (n : Int) := by omega
  clear hn ep eq hO O1
  go_enter Try.func134, Try.ntmps134
  go_wp2
  go_region
  all_goals go_wp2
  all_goals go_end0
  all_goals exact ⟨rfl, HS.out.1, grownBy_trans HG.out HS.out.2⟩

set_option maxHeartbeats 4000000 in
theorem goUp_any (kd : HK) (hb B g c : Nat) (ps : List Sp) (i : Nat) (w : World) (hn0 : ps.length ≤ 1048577) (hi : i < ps.length) (hF : Few ps) (hO : Own w B (some ⟨g, 0, none⟩) c ps) (H : Hv kd w hb (some ⟨g, 0, none⟩) ps.length c) :
    Calls Try.prog 123 #[.pointer (some ⟨hb, kd.o, none⟩), .int .i64 i] w fun e w' => e = .returned (.tuple #[]) ∧ Own w' B (some ⟨g, 0, none⟩) c (up spLess ps i) ∧ w.grownBy w' (some g) := by
  have hne := H.ne hO
  go_enter Try.func123, Try.ntmps123
  go_wp2
  go_loopw [1] (fun v wr => ∃ (k : Nat) (qs : List Sp), v = .int .i64 k ∧ k < ps.length ∧ Hid (qs.length = ps.length) ∧ Hid (Few qs) ∧ Hid (up spLess qs k = up spLess ps i) ∧ Hid (Own wr B (some ⟨g, 0, none⟩) c qs) ∧ Hid (w.grownBy wr (some g))) (fun v _ => (intOf v).toNat)
  case atStart => exact ⟨i, ps, rfl, hi, hidOf rfl, hidOf hF, hidOf rfl, hidOf hO, hidOf (World.grownBy.refl _ _)⟩
  case round =>
    obtain ⟨k, qs, rfl, hk, HL, HF, HU, HO, HG⟩ := hrel
    have H1 := hidOf (H.grown HG.out hne)
    have hL := HL.out
    by_cases h0 : 0 < k
    · have hg : (k : Int) > 0 := by omega
      have hpk := par_lt h0
      have hkb : k ≤ 4611686018427387904 := by omega
      have HI := hidOf (isLess_any kd hb (some ⟨g, 0, none⟩) c qs k (par k) wr (by omega) hkb (by omega) (by omega) HF.out HO.out.sts (by rw [hL]; exact H1.out))
      obtain ⟨b, hb2⟩ : ∃ b, b = ltAt spLess qs k (par k) := ⟨_, rfl⟩
      rw [← hb2] at HI
      have HB := hidOf hb2
      obtain ⟨n, hn⟩ : ∃ n, n = ps.length := ⟨_, rfl⟩
      rw [← hn] at hk hL hn0
      have HN := hidOf hn
      clear hb2 hn hL
      go_wp2_with fail
      refine (above_any k _ hkb h0).mono ?_
      rintro e wr ⟨rfl, rfl⟩
      go_wp2_with fail
      refine HI.out.mono ?_
      rintro e w2 ⟨rfl, hb2⟩
      cases b
      · go_wp2
        go_end0
        rw [← HU.out, up_no (by rw [← HB.out]; simp)]
        exact ⟨rfl, HO.out.below hb2, grownBy_trans HG.out (grownBy_of_below hb2 _)⟩
      · have HC := hidOf (change_any kd hb B g c qs k (par k) w2 (by have := HL.out; have := HN.out; omega) (by have := HL.out; have := HN.out; omega) (by omega) (HO.out.below hb2) (by have := H1.out.kept hb2; rw [HL.out]; exact this))
        have HG2 := hidOf (grownBy_trans HG.out (grownBy_of_below hb2 (some g)))
        clear hb2
        go_wp2_with fail
        refine (above_any k _ hkb h0).mono ?_
        rintro e w2 ⟨rfl, rfl⟩
        go_wp2_with fail
        refine HC.out.mono ?_
        rintro e w3 ⟨rfl, o3, g3⟩
        go_wp2_with fail
        refine (above_any k _ hkb h0).mono ?_
        rintro e w3 ⟨rfl, rfl⟩
        go_wp2
        go_roundw
        case rel => exact ⟨par k, swp qs k (par k), rfl, by have := HN.out; omega, hidOf (by rw [swp_len]; exact HL.out), hidOf (HF.out.swp _ _), hidOf (by rw [← HU.out, up_yes h0 HB.out.symm]), hidOf o3, hidOf (grownBy_trans HG2.out g3)⟩
        case measure => simp [intOf]; omega
    · have hg : ¬ (k : Int) > 0 := by omega
      go_wp2
      go_end0
      rw [← HU.out, up_no (by simp [h0])]
      exact ⟨rfl, HO.out, HG.out⟩
end Go.Proofs.Ytgaejcljabhijaa
/- Where 'append' on an owned row lays what it tells: in the row's own block, or where nothing lay. -/
namespace Go.Proofs.Ytgaejcljabhijaa
open Go.RowKit

/-- What has turned besides one row is new. -/
theorem grown_at {w w1 w2 : World} {row : Option Nat} {g : Nat} (h1 : w.grownBy w1 row) (h2 : w1.grownBy w2 (some g)) (hg : row = some g ∨ w.heap.size ≤ g) : w.grownBy w2 row :=
  ⟨h2.os.trans h1.os, h2.tape.trans h1.tape, h2.output.trans h1.output, Nat.le_trans h1.size h2.size, fun k hk hr => (h2.block k (Nat.lt_of_lt_of_le hk h1.size) (fun e => by
    rcases hg with hg | hg
    · exact hr (e.trans hg.symm)
    · have := Option.some.inj e
      omega)).trans (h1.block k hk hr)⟩
theorem gr_below {w w' : World} {row : Option Nat} {B : Nat} (h : w.grownBy w' row) (hB : B ≤ w.heap.size) (hr : ∀ k, row = some k → B ≤ k) : Below B w w' :=
  ⟨h.os, h.tape, h.output, h.size, fun k hk => h.block k (by omega) (fun e => by have := hr k e.symm; omega)⟩
section
variable {P : Program}
theorem append_place (w : World) (base : Nat) (t ty e : TypeId) (i : TypeInfo) (z : Value) (size bytes : Nat) (ht : P.underlying t = some (.slice e)) (hi : P.info? e = some i) (hz : i.zero = some z)
    (hsize : i.size = size) (hby : i.bytes = bytes) (hzs : z.cells.size = size) (hsz : 0 < size)
    (v : Value) (n : Nat) (xs : List Value) (hown : w.ownsRow base e size v n xs)
    (a : Addr) (m c : Nat) (news : List Value) (hl : news.length = m * size) (hnews : ∀ j u, news[j]? = some u → w.cell? (a.add j) = some u) (h1 : ∀ u ∈ news, u.oneCell' = true)
    (h63 : n + m ≤ maxLen) (hbytes : (n + m) * bytes ≤ 140737488355328) (v' : Value) (w' : World) (hr0 : (Builtin.append_ #[t, t] ty #[v, .slice (some a) m c]).run P w = .ok v' w') :
    ∀ g, v'.ownBlock = some g → v.ownBlock = some g ∨ w.heap.size ≤ g := by
  intro g' hg'
  rcases hown.2 with ⟨rfl, rfl⟩ | ⟨g, cap, cur, rfl, hbg, hg, hnc, hcm, hcs, htake⟩
  · have hx : xs = [] := List.eq_nil_of_length_eq_zero (by simpa using hown.1)
    subst hx
    obtain ⟨v2, w2, hr2, ho2, -, -⟩ := run_append_own (P := P) w w.heap.size t ty e i z size bytes ht hi hz hsize hby hzs hsz (.slice none 0 0) 0 [] (World.ownsRow_nil _ _ _ _) a m c news hl hnews h1 h63 hbytes (Nat.le_refl _)
    rw [hr0] at hr2
    cases hr2
    exact .inr (ho2.lt g' hg').1
  · subst hsize
    subst hby
    by_cases hroom : n + m ≤ cap
    · have hfit : n * i.size + news.length ≤ cur.size := by rw [hl, hcs, ← Nat.add_mul]; exact Nat.mul_le_mul_right _ hroom
      have hr := run_append_room (P := P) w t ty e i ht hi g n cap cur hg a m c news hl hnews h1 hroom hfit
      rw [hr0] at hr
      cases hr
      exact .inl hg'
    · have holds : ∀ j u, xs[j]? = some u → w.cell? ((⟨g, 0, none⟩ : Addr).add j) = some u := hown.cells (g := g) rfl
      have hsmall : n + m ≤ 9223372036854775807 := by simp only [maxLen] at h63; omega
      have hr := run_append_grow (P := P) w t ty e i z ht hi hz ⟨g, 0, none⟩ n cap xs hown.1 holds a m c news hl hnews (by omega) (by omega) (growslice_fits (by omega) hbytes)
      rw [hr0] at hr
      cases hr
      right
      have : g' = w.heap.size := by injection hg' with h; exact h.symm
      omega
theorem wp_append_own2 {w : World} {o : Oper} {a : Act} {K : Act → World → Prop} {Q : Exit → Act → World → Prop} (s x : Operand) (t : TypeId)
    (ho : o.op = .call { callee := .builtin .append, args := #[s, x], argTypes := #[t, t] })
    (base : Nat) (e : TypeId) (i : TypeInfo) (z : Value) (size bytes : Nat) (ht : P.underlying t = some (.slice e)) (hi : P.info? e = some i) (hz : i.zero = some z)
    (hsize : i.size = size) (hby : i.bytes = bytes) (hzs : z.cells.size = size) (hsz : 0 < size)
    (v : Value) (n : Nat) (xs : List Value) (hs : a.eval s = v) (hown : w.ownsRow base e size v n xs)
    (ad : Addr) (m c : Nat) (news : List Value) (hx : a.eval x = .slice (some ad) m c) (hl : news.length = m * size) (hnews : ∀ j u, news[j]? = some u → w.cell? (ad.add j) = some u) (h1 : ∀ u ∈ news, u.oneCell' = true)
    (h63 : n + m ≤ maxLen) (hbytes : (n + m) * bytes ≤ 140737488355328) (hbase : base ≤ w.heap.size)
    (h : ∀ v' w', w'.ownsRow base e size v' (n + m) (xs ++ news) → w.grownBy w' v.ownBlock → (∀ g, v'.ownBlock = some g → v.ownBlock = some g ∨ w.heap.size ≤ g) → K (a.put o.dst v') w') : o.wp P a w K Q := by
  obtain ⟨v', w', hr, h2, h3, h4⟩ := run_append_own (P := P) w base t o.type e i z size bytes ht hi hz hsize hby hzs hsz v n xs hown ad m c news hl hnews h1 h63 hbytes hbase
  have h5 := append_place w base t o.type e i z size bytes ht hi hz hsize hby hzs hsz v n xs hown ad m c news hl hnews h1 h63 hbytes v' w' hr
  unfold Oper.wp execOp
  simp only [ho, resolve, invoke, builtin, Sem.run_bind, Sem.run_pure, Result.andThen_ok, List.map_toArray, List.map_cons, List.map_nil, hs, hx, hr]
  exact h v' w' h2 h3 h5
theorem wpList_append_own2 {w : World} {ops : Array Oper} {rest : List Oper} {o : Oper} {a : Act} {Q : Exit → Act → World → Prop} (hgd : o.guard = none) (s x : Operand) (t : TypeId)
    (ho : o.op = .call { callee := .builtin .append, args := #[s, x], argTypes := #[t, t] })
    (base : Nat) (e : TypeId) (i : TypeInfo) (z : Value) (size bytes : Nat) (ht : P.underlying t = some (.slice e)) (hi : P.info? e = some i) (hz : i.zero = some z)
    (hsize : i.size = size) (hby : i.bytes = bytes) (hzs : z.cells.size = size) (hsz : 0 < size)
    (v : Value) (n : Nat) (xs : List Value) (hs : a.eval s = v) (hown : w.ownsRow base e size v n xs)
    (ad : Addr) (m c : Nat) (news : List Value) (hx : a.eval x = .slice (some ad) m c) (hl : news.length = m * size) (hnews : ∀ j u, news[j]? = some u → w.cell? (ad.add j) = some u) (h1 : ∀ u ∈ news, u.oneCell' = true)
    (h63 : n + m ≤ maxLen) (hbytes : (n + m) * bytes ≤ 140737488355328) (hbase : base ≤ w.heap.size)
    (h : ∀ v' w', w'.ownsRow base e size v' (n + m) (xs ++ news) → w.grownBy w' v.ownBlock → (∀ g, v'.ownBlock = some g → v.ownBlock = some g ∨ w.heap.size ≤ g) → wpList P ops Q rest (a.put o.dst v') w') : wpList P ops Q (o :: rest) a w :=
  wpList_plain hgd fun _ hK => wp_append_own2 s x t ho base e i z size bytes ht hi hz hsize hby hzs hsz v n xs hs hown ad m c news hx hl hnews h1 h63 hbytes hbase fun v' w' h2 h3 h4 => hK _ _ (h v' w' h2 h3 h4)
/-- The same as one step of a region that draws its order. -/
theorem step_append_own2 {w : World} {ops : Array Oper} {o : Oper} {a : Act} {K : Act → World → Prop} {Q : Exit → Act → World → Prop} {E : Prop} (hgd : o.guard = none) (s x : Operand) (t : TypeId)
    (ho : o.op = .call { callee := .builtin .append, args := #[s, x], argTypes := #[t, t] })
    (base : Nat) (e : TypeId) (i : TypeInfo) (z : Value) (size bytes : Nat) (ht : P.underlying t = some (.slice e)) (hi : P.info? e = some i) (hz : i.zero = some z)
    (hsize : i.size = size) (hby : i.bytes = bytes) (hzs : z.cells.size = size) (hsz : 0 < size)
    (v : Value) (n : Nat) (xs : List Value) (hs : a.eval s = v) (hown : w.ownsRow base e size v n xs)
    (ad : Addr) (m c : Nat) (news : List Value) (hx : a.eval x = .slice (some ad) m c) (hl : news.length = m * size) (hnews : ∀ j u, news[j]? = some u → w.cell? (ad.add j) = some u) (h1 : ∀ u ∈ news, u.oneCell' = true)
    (h63 : n + m ≤ maxLen) (hbytes : (n + m) * bytes ≤ 140737488355328) (hbase : base ≤ w.heap.size)
    (h : ∀ v' w', w'.ownsRow base e size v' (n + m) (xs ++ news) → w.grownBy w' v.ownBlock → (∀ g, v'.ownBlock = some g → v.ownBlock = some g ∨ w.heap.size ≤ g) → K (a.put o.dst v') w') :
    if Region.wanted o (yielded ops a.tmps) = true then Oper.wp P o a w K Q else E := by
  have hw : Region.wanted o (yielded ops a.tmps) = true := by simp [Region.wanted, hgd]
  rw [if_pos hw]
  exact wp_append_own2 s x t ho base e i z size bytes ht hi hz hsize hby hzs hsz v n xs hs hown ad m c news hx hl hnews h1 h63 hbytes hbase h
end
end Go.Proofs.Ytgaejcljabhijaa
