/- What DrawValuesOk and DrawSplitsAt draw; lists of numbers that are the same; what all-split values are. -/
import Derived.Test.YtokfemlcamnaaaaDrPair
import Derived.Test.YtokfemlcamnaaaaRxPair
import Derived.Test.YtokfemlcamnaaaaSameIn
import Derived.Test.YtokfemlcamnaaaaTieS
import Derived.Test.YtokfemlcamnaaaaSplP
import Derived.BigQuiet
import Derived.Deep.QuietTactic
namespace Go.Proofs.Ytokfemlcamnaaaa
open Go.RowKit

set_option maxHeartbeats 1600000 in
set_option maxRecDepth 20000 in
theorem drawVal_any (base : Nat) (w : World) (a : Option Addr) (len cap : Nat) (hc : CodeAt base w a len) (hb : base ≤ w.heap.size) :
    Calls Try.prog 15 #[.slice a len cap] w fun e w' => PvAns w e w' := by
  have HC := hidOf hc
  clear hc
  go_enter Try.func15, Try.ntmps15
  go_wp2_with fail
  refine (pair_any base _ a len cap (code_alloc HC.out hb _) (by simp; omega)).mono ?_
  rintro e w1 ⟨p, l, vs, av, cv, rfl, hF, hvl, ho, hv, hb1⟩
  have X := rx_pair hb1 ho
  have H := hidOf (And.intro hF (And.intro hvl (ownsRow_base (base' := w.heap.size) hv (by simp))))
  clear hF hvl ho hv hb1
  obtain ⟨r0, r1, r2, r3, r4⟩ := X.cells
  have rf0 := X.frozen 0
  have rf1 := X.frozen 1
  have rf2 := X.frozen 2
  have rf3 := X.frozen 3
  have rf4 := X.frozen 4
  go_wp2
  refine bodyPost_ret (v := .tuple #[pcV p l, .slice av vs.length cv]) (by simp [results, Try.results15, go_sem, r0, r1, r2, r3, r4]) rfl (pv_mk H.out.1 H.out.2.1 (X.fin _ _ _ _ _) (X.finVals H.out.2.2 (by decide) _ _ _ _ _))

/-- A piece, values for it, and a place. -/
def PviAns (w : World) (e : Ending) (w' : World) : Prop :=
  ∃ (p : Pc) (l : Pl) (vs : List Int) (av : Option Addr) (cv : Nat) (i : Int), e = .returned (.tuple #[pcV p l, .slice av vs.length cv, .int .i64 i]) ∧ Fit p ∧ vs.length ≤ 10 ∧ Own4 w.heap.size w' p l ∧ w'.ownsRow w.heap.size 3 1 (.slice av vs.length cv) vs.length (intVals vs) ∧ Below w.heap.size w w'
theorem pvi_mk {w w' : World} {p : Pc} {l : Pl} {vs : List Int} {av : Option Addr} {cv : Nat} {i : Int} (h1 : Fit p) (h2 : vs.length ≤ 10) (h3 : Own4 w.heap.size w' p l ∧ Below w.heap.size w w') (h4 : w'.ownsRow w.heap.size 3 1 (.slice av vs.length cv) vs.length (intVals vs)) : PviAns w (.returned (.tuple #[pcV p l, .slice av vs.length cv, .int .i64 i])) w' := ⟨p, l, vs, av, cv, i, rfl, h1, h2, h3.1, h4, h3.2⟩

set_option maxHeartbeats 4000000 in
set_option maxRecDepth 20000 in
theorem drawAt_any (base : Nat) (w : World) (a : Option Addr) (len cap : Nat) (hc : CodeAt base w a len) (hb : base ≤ w.heap.size) :
    Calls Try.prog 16 #[.slice a len cap] w fun e w' => PviAns w e w' := by
  have HC := hidOf hc
  clear hc
  go_enter Try.func16, Try.ntmps16
  go_wp2_with fail
  refine (new_any base _ a len cap (code_alloc HC.out hb _) (by simp; omega)).mono ?_
  rintro e w1 ⟨blk, rfl, hbk, hc1, hb1⟩
  have H1 := hidOf (And.intro hc1 (And.intro hb1 hbk))
  clear hc1 hb1 hbk
  go_wp2_with fail
  refine (below_any base _ blk a len cap 10 H1.out.1 (by omega) (by omega)).mono ?_
  rintro e w2 ⟨y, hy, rfl, hc2, hg2⟩
  have H2 : Hid (Below (w.alloc (.cells noCells 29)).heap.size (w.alloc (.cells noCells 29)) w2) := H1.out.2.1.grown hg2 H1.out.2.1.size (fun k e => by cases e; exact H1.out.2.2)
  clear hc2 hg2 H1
  go_wp2_with fail
  refine (pair_any base w2 a len cap ((code_alloc HC.out hb _).below (H2.out.mono (by simp; omega))) (by have := H2.out.size; simp at this; omega)).mono ?_
  rintro e w3 ⟨p, l, vs, av, cv, rfl, hF, hvl, ho, hv, hb3⟩
  have hsz := H2.out.size
  have X := (rx_pair (H2.out.trans (hb3.mono hsz)) (ho.base hsz)).alloc (.cells (pcCells p l) 29)
  have H := hidOf (And.intro hF (And.intro hvl ((ownsRow_base (base' := w.heap.size) hv (by simp at hsz; omega)).alloc (.cells (pcCells p l) 29))))
  have hRl : w.heap.size < w3.heap.size := by have := hb3.size; simp at hsz; omega
  clear hF hvl ho hv hb3 hsz
  go_upto_region 4 with fail
  obtain ⟨pb, hpb⟩ : ∃ pb, pb = w3.heap.size := ⟨_, rfl⟩
  obtain ⟨R, hRr⟩ : ∃ R, R = w.heap.size := ⟨_, rfl⟩
  obtain ⟨W, hW⟩ : ∃ W, W = w3.alloc (.cells (pcCells p l) 29) := ⟨_, rfl⟩
  have b0 : W.cell? ⟨pb, 0, none⟩ = some (.int .i64 p.indent) := by rw [hW, hpb]; simp
  have b1 : W.cell? ⟨pb, 1, none⟩ = some (.slice l.a1 p.rules.length l.c1) := by rw [hW, hpb]; simp
  have b2 : W.cell? ⟨pb, 2, none⟩ = some (.slice l.a2 p.chunks.length l.c2) := by rw [hW, hpb]; simp
  have b3 : W.cell? ⟨pb, 3, none⟩ = some (.slice l.a3 p.spans.length l.c3) := by rw [hW, hpb]; simp
  have b4 : W.cell? ⟨pb, 4, none⟩ = some (.slice l.a4 p.ties.length l.c4) := by rw [hW, hpb]; simp
  have hne : R ≠ pb := by omega
  have hne2 := hne.symm
  rw [← hW, ← hRr] at X
  rw [← hW] at H
  rw [← hW, ← hpb, ← hRr]
  clear hW hpb hRr
  obtain ⟨r0, r1, r2, r3, r4⟩ := X.cells
  have rf0 := X.frozen 0
  have rf1 := X.frozen 1
  have rf2 := X.frozen 2
  have rf3 := X.frozen 3
  have rf4 := X.frozen 4
  go_wp2
  refine bodyPost_ret (v := .tuple #[pcV p l, .slice av vs.length cv, .int .i64 ((y : Int) - 1)]) (by simp [results, Try.results16, go_sem, r0, r1, r2, r3, r4]) rfl (pvi_mk H.out.1 H.out.2.1 (X.fin _ _ _ _ _) (X.finVals H.out.2.2 (by decide) _ _ _ _ _))

theorem allV_at {p : Pc} (h : Drawn p) {j : Nat} {z : Int} (hz : (allV p)[j]? = some z) : ∃ y, p.rules[j]? = some y ∧ z = y.values - 1 ∧ 1 ≤ z := by
  unfold allV at hz
  rw [List.getElem?_map] at hz
  cases hy : p.rules[j]? with
  | none => rw [hy] at hz; cases hz
  | some y =>
    rw [hy] at hz
    have hv := (h.right.rules.2 j y hy).1
    have e : z = wrap64 (y.values - 1) := by cases hz; rfl
    rw [wrap64_in ⟨by omega, by omega⟩] at e
    exact ⟨y, rfl, e, by omega⟩
theorem allV_ok {p : Pc} (h : Drawn p) : ValOk p (allV p) := by
  refine ⟨allV_len p, fun j z y hz hy => ?_⟩
  obtain ⟨y', hy', e, h1⟩ := allV_at h hz
  rw [hy] at hy'
  cases hy'
  omega
theorem allV_splits {p : Pc} (h : Drawn p) {k : Nat} (hk : k + 1 < p.chunks.length) : SplitAt p (allV p) (k : Int) := by
  refine ⟨h.right, allV_ok h, by omega, by omega, fun x z hx hz => ?_⟩
  rw [Int.toNat_natCast] at hx
  obtain ⟨-, ⟨y, hy, -, hf⟩, -⟩ := (h.right.chunks.texts k x hx).2 hk
  obtain ⟨y', hy', e, h1⟩ := allV_at h hz
  rw [hy] at hy'
  cases hy'
  have hv := (h.right.rules.2 _ _ hy).1
  rw [wrap64_in ⟨by omega, by omega⟩] at hf
  omega
theorem allV_ties {p : Pc} (h : Drawn p) : TiesHold p (allV p) := by
  refine ⟨allV_ok h, fun j x hx => ?_⟩
  obtain ⟨⟨k0, k1⟩, ⟨u0, u1⟩, -⟩ := h.right.ties.all j x hx
  rw [← allV_len] at k1 u1
  obtain ⟨z, hz, e1⟩ := st_of k0 k1
  obtain ⟨z', hz', e2⟩ := st_of u0 u1
  obtain ⟨-, -, -, h1⟩ := allV_at h hz
  obtain ⟨-, -, -, h2⟩ := allV_at h hz'
  unfold TieOk
  rw [e1, e2, if_pos (by omega), if_pos (by omega)]
  rfl
theorem none_ties {p : Pc} (h : Drawn p) : TiesHold p (List.replicate p.rules.length 0) := by
  refine ⟨⟨by simp, fun j z y hz hy => ?_⟩, fun j x hx => ?_⟩
  · have hv := (h.right.rules.2 j y hy).1
    rw [List.getElem?_replicate] at hz
    split at hz
    · cases hz
      omega
    · cases hz
  · obtain ⟨⟨k0, k1⟩, ⟨u0, u1⟩, -⟩ := h.right.ties.all j x hx
    rw [show p.rules.length = (List.replicate p.rules.length (0 : Int)).length by simp] at k1 u1
    have h0 : ∀ {r : Nat} {z : Int}, (List.replicate p.rules.length (0 : Int))[r]? = some z → z = 0 := fun {r z} hz => by
      rw [List.getElem?_replicate] at hz
      split at hz
      · cases hz; rfl
      · cases hz
    obtain ⟨z, hz, e1⟩ := st_of k0 k1
    obtain ⟨z', hz', e2⟩ := st_of u0 u1
    have h1 := h0 hz
    have h2 := h0 hz'
    unfold TieOk
    rw [e1, e2, if_neg (by omega), if_neg (by omega)]
    rfl
theorem prod_ge : ∀ (xs : List Ru) (c : Int), 1 ≤ c → (∀ x ∈ xs, 2 ≤ x.values ∧ x.values ≤ 3) → c ≤ prod c xs
  | [], c, _, _ => Int.le_refl _
  | x :: xs, c, hc, h => by
    have hx := h x (List.mem_cons_self ..)
    have h2 : c * 2 ≤ c * x.values := Int.mul_le_mul_of_nonneg_left hx.1 (by omega)
    have := prod_ge xs (c * x.values) (by omega) (fun y hy => h y (List.mem_cons_of_mem _ hy))
    unfold prod
    rw [if_pos hx]
    omega
theorem cnt_two {p : Pc} (h : Drawn p) : 2 ≤ cntOf p := by
  have hr : ∀ x ∈ p.rules, 2 ≤ x.values ∧ x.values ≤ 3 := fun x hx => by
    obtain ⟨j, hj⟩ := List.mem_iff_getElem?.1 hx
    exact (h.right.rules.2 j x hj).1
  have h1 := h.r1
  unfold cntOf
  cases hrs : p.rules with
  | nil => rw [hrs] at h1; simp at h1
  | cons x xs =>
    rw [hrs] at hr
    have hx := hr x (List.mem_cons_self ..)
    show 2 ≤ prod 1 (x :: xs.take 7)
    have := prod_ge (xs.take 7) (1 * x.values) (by omega) (fun y hy => hr y (List.mem_cons_of_mem _ (List.mem_of_mem_take hy)))
    unfold prod
    rw [if_pos hx]
    omega
end Go.Proofs.Ytokfemlcamnaaaa
