/- What impl.costOfRight answers. -/
import Derived.Test.YtokfemlcamnaaaaGreatKam
import Derived.Test.YtokfemlcamnaaaaGreatKan
import Derived.Test.YtokfemlcamnaaaaGreatSumI
import Derived.Test.YtokfemlcamnaaaaGreatKag
import Derived.Test.YtokfemlcamnaaaaGreatToCh
import Derived.Deep.RegionHeld3
import Derived.Lib.Builder
import Derived.Test.YtokfemlcamnaaaaGreatSrchOk
namespace Go.Proofs.YtokfemlcamnaaaaGreat
open Go.RowKit

theorem infoCoI : (Tryz.prog.info? 51).map (·.size) = some 2 := by kernel_rfl
set_option maxHeartbeats 8000000 in
set_option maxRecDepth 20000 in
theorem iCostR_any (p : Pc) (l : Pl) (a : Option Addr) (c : Nat) (vs : List Int) (wd : Int) (w : World) (hF : PcFew p) (hm0 : vs.length ≤ 1048576) (hcap : p.chunks.length ≤ l.c2) (hp : PcIn w p l) (hv : KidsAt w a vs) (h1 : Right p) (h2 : ValOk p vs) :
    Calls Tryz.prog 61 #[pcV p l, .slice a vs.length c, .int .i64 wd] w fun e w' => e = .returned (coV (costOver p vs wd) (costSum p vs)) ∧ Below w.heap.size w w' := by
  show Calls _ _ #[.agg #[.int .i64 p.indent, .slice l.a1 p.rules.length l.c1, .slice l.a2 p.chunks.length l.c2, .slice l.a3 p.spans.length l.c3, .slice l.a4 p.ties.length l.c4], _, _] _ _
  have hsu := sums_le h1 h2
  unfold costSum
  obtain ⟨vc, hvc⟩ : ∃ vc, vc = vcost p.rules vs := ⟨_, rfl⟩
  obtain ⟨sc, hsc⟩ : ∃ sc, sc = scost p.chunks vs p.spans := ⟨_, rfl⟩
  obtain ⟨ov, hov⟩ : ∃ ov, ov = costOver p vs wd := ⟨_, rfl⟩
  have qO := fun W hP hK => iOver_any p l a c vs wd W hF hm0 hP hK h1 h2
  have qV := fun W hP hK => iVaCost_any p l a c vs W hm0 hP hK h1 h2
  have qS := fun W hP hK => iSpCost_any p l a c vs W hF hm0 hcap hP hK h1 h2
  rw [← hvc, ← hsc] at hsu
  rw [← hvc, ← hsc, ← hov]
  rw [← hov] at qO
  rw [← hvc] at qV
  rw [← hsc] at qS
  clear hvc hsc hov
  obtain ⟨⟨u1, u2⟩, u3, u4⟩ := hsu
  have hws : IntKind.i64.wrap (vc + sc) = vc + sc := IntWalk.i64_in _ ⟨by omega, by omega⟩
  obtain ⟨W0, hW0, X0, B0, S0⟩ := boxed w p l 37
  have hX : w.heap.size < W0.heap.size := by omega
  have I0 := hp.below B0 (Nat.le_refl _)
  have V0 := hv.below B0 (Nat.le_refl _)
  go_enter Tryz.func61, Tryz.ntmps61
  go_wp2
  rw [← hW0]
  obtain ⟨W1, hW1⟩ : ∃ W1, W1 = W0.alloc (.cells #[.int .i64 0, .int .i64 0] 51) := ⟨_, rfl⟩
  rw [← hW1]
  have B1 : Below W0.heap.size W0 W1 := by rw [hW1]; exact (Below.refl _ _).alloc (Nat.le_refl _) _
  have F1 : W1.heap[w.heap.size + 1]? = some (.cells #[.int .i64 0, .int .i64 0] 51 (0, 0)) := by rw [hW1, ← S0]; exact heap_alloc_new W0 _
  have z1 : w.heap.size + 1 < W1.heap.size := by rw [hW1]; simp; omega
  have z0 : w.heap.size < W1.heap.size := by omega
  have I1 := I0.below B1 (Nat.le_refl _)
  have V1 := V0.below B1 (Nat.le_refl _)
  obtain ⟨-, c0, c1, c2, c3, c4⟩ := X0.below B1 hX
  have g0 : W1.cell? ⟨w.heap.size + 1, 0, none⟩ = some (.int .i64 0) := by rw [Lib.cell_of_heap F1]; rfl
  have g1 : W1.cell? ⟨w.heap.size + 1, 1, none⟩ = some (.int .i64 0) := by rw [Lib.cell_of_heap F1]; rfl
  have f0 := Lib.frozen_of_heap F1 0
  have f1 := Lib.frozen_of_heap F1 1
  have hne : w.heap.size ≠ w.heap.size + 1 := by omega
  have ID := I1.below (Below.refl W1.heap.size W1).drew (Nat.le_refl _)
  have VD := V1.below (Below.refl W1.heap.size W1).drew (Nat.le_refl _)
  clear hW0 hW1 hp hv S0
  go_region_held3 (fun W => ((W.cell? ⟨w.heap.size, 0, none⟩ = some (.int .i64 p.indent) ∧ W.cell? ⟨w.heap.size, 1, none⟩ = some (.slice l.a1 p.rules.length l.c1) ∧ W.cell? ⟨w.heap.size, 2, none⟩ = some (.slice l.a2 p.chunks.length l.c2) ∧ W.cell? ⟨w.heap.size, 3, none⟩ = some (.slice l.a3 p.spans.length l.c3) ∧ W.cell? ⟨w.heap.size, 4, none⟩ = some (.slice l.a4 p.ties.length l.c4)))) (first | trivial | go_keep)
    ((first
    | (go_at_call 78; refine (qO _ ID VD).mono ?_; rintro e w1 ⟨rfl, hb1⟩; have A1 := (Below.refl W1.heap.size W1).drew.trans hb1; have hc1 := (bcell A1).1; have hd1 := (bcell A1).2)
    | (go_at_call 79; refine (qV _ (I1.below A1 (Nat.le_refl _)) (V1.below A1 (Nat.le_refl _))).mono ?_; rintro e w2 ⟨rfl, hb2⟩; have A2 := A1.trans (hb2.mono A1.size); have hc2 := (bcell A2).1; have hd2 := (bcell A2).2)
    | (go_at_call 80; refine (qS _ (I1.below A2 (Nat.le_refl _)) (V1.below A2 (Nat.le_refl _))).mono ?_; rintro e w3 ⟨rfl, hb3⟩; have A3 := A2.trans (hb3.mono A2.size); have hc3 := (bcell A3).1; have hd3 := (bcell A3).2)))
  have F3 := (A3.block (w.heap.size + 1) z1).trans F1
  have y0 : w3.cell? ⟨w.heap.size + 1, 0, none⟩ = some (.int .i64 0) := by rw [Lib.cell_of_heap F3]; rfl
  have y1 : w3.cell? ⟨w.heap.size + 1, 1, none⟩ = some (.int .i64 0) := by rw [Lib.cell_of_heap F3]; rfl
  have BW : Below w.heap.size w w3 := B0.trans ((B1.trans (A3.mono B1.size)).mono B0.size)
  clear qO qV qS c0 c1 c2 c3 c4 g0 g1 f0 f1 hc1 hc2 hc3 hd1 hd2 hd3 hb1 hb2 hb3 A1 A2 A3 I0 I1 V0 V1 ID VD F1 X0
  go_wp2
  refine bodyPost_ret (results_one2 rfl _ _ (w.heap.size + 1) (.int .i64 ov) (.int .i64 (vc + sc)) _ rfl ?_ ?_ Tryz.underlying51 rfl infoCoI) rfl ?_
  · go_simp
  · go_simp
  · have q1 : w.heap.size ≤ w.heap.size + 1 := by omega
    exact ⟨rfl, (BW.setCell q1 _).setCell q1 _⟩

/-- What CostOf answers. -/
def CoAns (o s : Int) (w : World) (e : Ending) (w' : World) : Prop := e = .returned (coV o s) ∧ Below w.heap.size w w'

end Go.Proofs.YtokfemlcamnaaaaGreat
/- Plain facts that the two programs of the search share: zeros behind the first values cost nothing, all split is right and its ties hold, how many states there are at most. -/
namespace Go.Proofs.YtokfemlcamnaaaaGreat
open Go.RowKit

/-- What the first values cost is no more than can be. -/
theorem pre_le {p : Pc} (hR : Right p) {u : List Int} (h : PreV p.rules u) : 0 ≤ costSum p u ∧ costSum p u ≤ 504 := by
  have h1 := sums_le hR (pre_full hR h)
  rw [vcost_more, scost_zero] at h1
  unfold costSum
  omega
/-- A tie is broken, told by what its rules' values are. -/
theorem brk_st {u : List Int} (hn : ∀ z ∈ u, 0 ≤ z) (x : Ti) : brk u x = (decide (2 ≤ st u x.kid) && decide (1 ≤ st u x.up) && decide (st u x.up ≤ 1)) := by
  have hg : ∀ k : Nat, 0 ≤ u.getD k 0 := fun k => by
    rw [List.getD_eq_getElem?_getD]
    cases e : u[k]? with
    | none => simp
    | some z => simpa using hn z (List.mem_of_getElem? e)
  have h0 := hg x.up.toNat
  unfold brk st
  rw [Bool.eq_iff_iff]
  simp only [Bool.and_eq_true, decide_eq_true_eq]
  constructor
  · rintro ⟨⟨⟨⟨⟨h1, h2⟩, h3⟩, h4⟩, h5⟩, h6⟩
    rw [if_pos ⟨h1, h2⟩, if_pos h5, if_pos ⟨h3, h4⟩, if_neg (by omega)]
    omega
  · rintro ⟨⟨h1, h2⟩, h3⟩
    split at h1
    · rename_i hk
      split at h1
      · rename_i hk2
        split at h2
        · rename_i hu
          rw [if_pos hu] at h3
          split at h3
          · omega
          · rename_i hu2
            exact ⟨⟨⟨⟨⟨hk.1, hk.2⟩, hu.1⟩, hu.2⟩, hk2⟩, by omega⟩
        · omega
      · omega
    · omega
/-- What is left is no fewer than there are. -/
theorem len_left {p : Pc} (hR : Right p) : ∀ (h : List St), (h.length : Int) ≤ leftOf p h
  | [] => by simp [leftOf, totS]
  | x :: xs => by
    have ih := len_left hR xs
    have := nodes_pos hR x.vals.length
    unfold leftOf at ih ⊢
    rw [totS, List.length_cons]
    omega
theorem left_le {p : Pc} (hR : Right p) : 2 * cntOf p - 1 ≤ 13121 := by
  rw [cnt_tot hR]
  have h1 := (tot_le p.rules (right_vals hR)).2
  have h2 := pw3_mono hR.rules.1
  have h3 : pw3 8 = 6561 := by decide
  omega
/-- Where a search is: no more can be left than could be. -/
theorem room_of {p : Pc} (hR : Right p) {h : List St} (hl : leftOf p h ≤ 2 * cntOf p - 1) : h.length ≤ 13121 := by
  have h1 := len_left hR h
  have h2 := left_le hR
  omega
/-- One step of the search: the heap, and the best one so far. -/
def stepH (p : Pc) (wd : Int) (h : List St) (best : List Int) : List St := if (hd0 h).vals.length = p.rules.length then restL stLess h else pushK p wd best (hd0 h).vals (vOf p (hd0 h).vals.length) 0 (restL stLess h)
def stepB (p : Pc) (wd : Int) (h : List St) (best : List Int) : List Int := if (hd0 h).vals.length = p.rules.length then (if aheadB p wd (hd0 h).vals best = true then (hd0 h).vals else best) else best
theorem srch_one {p : Pc} {wd : Int} {f : Nat} {h : List St} {best : List Int} (hn : h ≠ []) : srch p wd (f + 1) h best = srch p wd f (stepH p wd h best) (stepB p wd h best) := by
  cases h with
  | nil => exact absurd rfl hn
  | cons y ys =>
    rw [srch]
    unfold stepH stepB
    split <;> rfl
theorem hd0_of {h : List St} {x : St} (hx : h[0]? = some x) : hd0 h = x := by unfold hd0; rw [hx]; rfl
theorem SInv.next {p : Pc} {wd : Int} {h : List St} {best : List Int} (hR : Right p) (hi : SInv p wd h best) (hn : h ≠ []) : SInv p wd (stepH p wd h best) (stepB p wd h best) := by
  obtain ⟨x, hx⟩ : ∃ x, h[0]? = some x := by cases h with | nil => exact absurd rfl hn | cons y ys => exact ⟨y, rfl⟩
  unfold stepH stepB
  rw [hd0_of hx]
  split
  · exact hi.full hR hx (by assumption)
  · exact hi.part hR hx (by assumption)
theorem left_next {p : Pc} {wd : Int} {h : List St} {best : List Int} (hR : Right p) (hi : SInv p wd h best) (hn : h ≠ []) : leftOf p (stepH p wd h best) ≤ leftOf p h - 1 := by
  obtain ⟨x, hx⟩ : ∃ x, h[0]? = some x := by cases h with | nil => exact absurd rfl hn | cons y ys => exact ⟨y, rfl⟩
  unfold stepH
  rw [hd0_of hx]
  split
  · exact left_full hR hx
  · rename_i hl
    exact left_part hR hx (by have := (hi.pre x (List.mem_of_getElem? hx)).1; omega)
theorem srch_stop (p : Pc) (wd : Int) (h : List St) (best : List Int) (hn : h ≠ []) : srch p wd 0 h best = (best, 2) := by
  cases h with
  | nil => exact absurd rfl hn
  | cons y ys => rfl
theorem srch_none (p : Pc) (wd : Int) (f : Nat) (best : List Int) : srch p wd f [] best = (best, 1) := by cases f <;> rfl
/-- The next values, one more. -/
theorem pushK_snoc {p : Pc} {wd : Int} {best u : List Int} : ∀ (c k : Nat) (h : List St), pushK p wd best u (c + 1) k h = (if goodB p wd best (u ++ [((k + c : Nat) : Int)]) = true then pushL stLess (pushK p wd best u c k h) ⟨u ++ [((k + c : Nat) : Int)], costSum p (u ++ [((k + c : Nat) : Int)])⟩ else pushK p wd best u c k h)
  | 0, k, h => by simp only [pushK, Nat.add_zero]
  | c + 1, k, h => by
    rw [pushK, pushK_snoc c (k + 1), show k + 1 + c = k + (c + 1) by omega]
    rw [pushK]
theorem pushK_len {p : Pc} {wd : Int} {best u : List Int} : ∀ (c k : Nat) (h : List St), (pushK p wd best u c k h).length ≤ h.length + c
  | 0, _, h => by rw [pushK]; omega
  | c + 1, k, h => by
    rw [pushK]
    refine Nat.le_trans (pushK_len c (k + 1) _) ?_
    split
    · rw [pushL_len]; omega
    · omega
end Go.Proofs.YtokfemlcamnaaaaGreat
/- When a tie is broken by the first values, told case by case. -/
namespace Go.Proofs.YtokfemlcamnaaaaGreat
open Go.RowKit

theorem brk_of {vs : List Int} {x : Ti} {r u : Nat} {z y : Int} (er : x.kid = (r : Int)) (eu : x.up = (u : Int)) (ez : vs[r]? = some z) (ey : vs[u]? = some y) : brk vs x = (decide (0 < z) && decide (y = 0)) := by
  have h1 := (List.getElem?_eq_some_iff.1 ez).1
  have h2 := (List.getElem?_eq_some_iff.1 ey).1
  unfold brk
  rw [er, eu, Int.toNat_natCast, Int.toNat_natCast, List.getD_eq_getElem?_getD, List.getD_eq_getElem?_getD, ez, ey, decide_eq_true (show (0 : Int) ≤ (r : Int) by omega), decide_eq_true (show (r : Int) < (vs.length : Int) by omega), decide_eq_true (show (0 : Int) ≤ (u : Int) by omega), decide_eq_true (show (u : Int) < (vs.length : Int) by omega)]
  rfl
theorem brk_out1 {vs : List Int} {x : Ti} (h : ¬ (0 ≤ x.kid ∧ x.kid ≤ (vs.length : Int) - 1)) : brk vs x = false := by
  unfold brk
  by_cases h0 : 0 ≤ x.kid
  · rw [decide_eq_false (show ¬ x.kid < (vs.length : Int) by omega)]
    simp
  · rw [decide_eq_false h0]
    simp
theorem brk_out2 {vs : List Int} {x : Ti} (h : ¬ (0 ≤ x.up ∧ x.up ≤ (vs.length : Int) - 1)) : brk vs x = false := by
  unfold brk
  by_cases h0 : 0 ≤ x.up
  · rw [decide_eq_false (show ¬ x.up < (vs.length : Int) by omega)]
    simp
  · rw [decide_eq_false h0]
    simp
theorem may_no {p : Pc} {vs : List Int} {k : Nat} {x : Ti} (hx : p.ties[k]? = some x) (h : brk vs x = true) : mayB p vs = false := all_not hx (by rw [h]; rfl)
theorem may_yes {p : Pc} {vs : List Int} (h : ∀ (j : Nat) (x : Ti), p.ties[j]? = some x → brk vs x = false) : mayB p vs = true := all_yes fun j x hx => by rw [h j x hx]; rfl
end Go.Proofs.YtokfemlcamnaaaaGreat
