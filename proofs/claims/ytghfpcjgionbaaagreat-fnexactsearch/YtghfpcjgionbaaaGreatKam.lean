/- Plain facts that the two programs of the search share: zeros behind the first values cost nothing, all split is right and its ties hold, how many states there are at most. -/
import Derived.Test.YtghfpcjgionbaaaGreatSrchOk
import Derived.Test.YtghfpcjgionbaaaGreatKak
import Derived.Test.YtghfpcjgionbaaaGreatKal
import Derived.Test.YtghfpcjgionbaaaGreatProg
import Derived.Test.YtghfpcjgionbaaaGreatKaa
import Derived.Test.YtghfpcjgionbaaaGreatKai
import Derived.Test.YtghfpcjgionbaaaGreatRightLib
import Derived.BigQuiet
import Derived.Deep.QuietTactic
import Derived.Deep.RegionWith
import Derived.Test.YtghfpcjgionbaaaGreatBoxPc
namespace Go.Proofs.YtghfpcjgionbaaaGreat
open Go.RowKit

/-- What the first values cost is no more than can be. -/
theorem pre_le {p : Pc} (hR : Right p) {u : List Int} (h : PreV p.rules u) : 0 ≤ costSum p u ∧ costSum p u ≤ 504 := by
  have h1 := sums_le hR (pre_full hR h)
  rw [vcost_more, scost_zero] at h1
  unfold costSum
  omega
/-- A tie is broken, told by what its rules' values are. -/
theorem brk_st {u : List Int} (hn : ∀ z ∈ u, 0 ≤ z) (x : Ti) : brk u x = (decide (2 ≤ st u x.kid) && decide (1 ≤ st u x.up) && decide (st u x.up ≤ 1)) := by
  have hg : ∀ k : Nat, 0 ≤ u.getD k 0 := fun k => by
    rw [List.getD_eq_getElem?_getD]
    cases e : u[k]? with
    | none => simp
    | some z => simpa using hn z (List.mem_of_getElem? e)
  have h0 := hg x.up.toNat
  unfold brk st
  rw [Bool.eq_iff_iff]
  simp only [Bool.and_eq_true, decide_eq_true_eq]
  constructor
  · rintro ⟨⟨⟨⟨⟨h1, h2⟩, h3⟩, h4⟩, h5⟩, h6⟩
    rw [if_pos ⟨h1, h2⟩, if_pos h5, if_pos ⟨h3, h4⟩, if_neg (by omega)]
    omega
  · rintro ⟨⟨h1, h2⟩, h3⟩
    split at h1
    · rename_i hk
      split at h1
      · rename_i hk2
        split at h2
        · rename_i hu
          rw [if_pos hu] at h3
          split at h3
          · omega
          · rename_i hu2
            exact ⟨⟨⟨⟨⟨hk.1, hk.2⟩, hu.1⟩, hu.2⟩, hk2⟩, by omega⟩
        · omega
      · omega
    · omega
/-- What is left is no fewer than there are. -/
theorem len_left {p : Pc} (hR : Right p) : ∀ (h : List St), (h.length : Int) ≤ leftOf p h
  | [] => by simp [leftOf, totS]
  | x :: xs => by
    have ih := len_left hR xs
    have := nodes_pos hR x.vals.length
    unfold leftOf at ih ⊢
    rw [totS, List.length_cons]
    omega
theorem left_le {p : Pc} (hR : Right p) : 2 * cntOf p - 1 ≤ 13121 := by
  rw [cnt_tot hR]
  have h1 := (tot_le p.rules (right_vals hR)).2
  have h2 := pw3_mono hR.rules.1
  have h3 : pw3 8 = 6561 := by decide
  omega
/-- Where a search is: no more can be left than could be. -/
theorem room_of {p : Pc} (hR : Right p) {h : List St} (hl : leftOf p h ≤ 2 * cntOf p - 1) : h.length ≤ 13121 := by
  have h1 := len_left hR h
  have h2 := left_le hR
  omega
/-- One step of the search: the heap, and the best one so far. -/
def stepH (p : Pc) (wd : Int) (h : List St) (best : List Int) : List St := if (hd0 h).vals.length = p.rules.length then restL stLess h else pushK p wd best (hd0 h).vals (vOf p (hd0 h).vals.length) 0 (restL stLess h)
def stepB (p : Pc) (wd : Int) (h : List St) (best : List Int) : List Int := if (hd0 h).vals.length = p.rules.length then (if aheadB p wd (hd0 h).vals best = true then (hd0 h).vals else best) else best
theorem srch_one {p : Pc} {wd : Int} {f : Nat} {h : List St} {best : List Int} (hn : h ≠ []) : srch p wd (f + 1) h best = srch p wd f (stepH p wd h best) (stepB p wd h best) := by
  cases h with
  | nil => exact absurd rfl hn
  | cons y ys =>
    rw [srch]
    unfold stepH stepB
    split <;> rfl
theorem hd0_of {h : List St} {x : St} (hx : h[0]? = some x) : hd0 h = x := by unfold hd0; rw [hx]; rfl
theorem SInv.next {p : Pc} {wd : Int} {h : List St} {best : List Int} (hR : Right p) (hi : SInv p wd h best) (hn : h ≠ []) : SInv p wd (stepH p wd h best) (stepB p wd h best) := by
  obtain ⟨x, hx⟩ : ∃ x, h[0]? = some x := by cases h with | nil => exact absurd rfl hn | cons y ys => exact ⟨y, rfl⟩
  unfold stepH stepB
  rw [hd0_of hx]
  split
  · exact hi.full hR hx (by assumption)
  · exact hi.part hR hx (by assumption)
theorem left_next {p : Pc} {wd : Int} {h : List St} {best : List Int} (hR : Right p) (hi : SInv p wd h best) (hn : h ≠ []) : leftOf p (stepH p wd h best) ≤ leftOf p h - 1 := by
  obtain ⟨x, hx⟩ : ∃ x, h[0]? = some x := by cases h with | nil => exact absurd rfl hn | cons y ys => exact ⟨y, rfl⟩
  unfold stepH
  rw [hd0_of hx]
  split
  · exact left_full hR hx
  · rename_i hl
    exact left_part hR hx (by have := (hi.pre x (List.mem_of_getElem? hx)).1; omega)
theorem srch_stop (p : Pc) (wd : Int) (h : List St) (best : List Int) (hn : h ≠ []) : srch p wd 0 h best = (best, 2) := by
  cases h with
  | nil => exact absurd rfl hn
  | cons y ys => rfl
theorem srch_none (p : Pc) (wd : Int) (f : Nat) (best : List Int) : srch p wd f [] best = (best, 1) := by cases f <;> rfl
/-- The next values, one more. -/
theorem pushK_snoc {p : Pc} {wd : Int} {best u : List Int} : ∀ (c k : Nat) (h : List St), pushK p wd best u (c + 1) k h = (if goodB p wd best (u ++ [((k + c : Nat) : Int)]) = true then pushL stLess (pushK p wd best u c k h) ⟨u ++ [((k + c : Nat) : Int)], costSum p (u ++ [((k + c : Nat) : Int)])⟩ else pushK p wd best u c k h)
  | 0, k, h => by simp only [pushK, Nat.add_zero]
  | c + 1, k, h => by
    rw [pushK, pushK_snoc c (k + 1), show k + 1 + c = k + (c + 1) by omega]
    rw [pushK]
theorem pushK_len {p : Pc} {wd : Int} {best u : List Int} : ∀ (c k : Nat) (h : List St), (pushK p wd best u c k h).length ≤ h.length + c
  | 0, _, h => by rw [pushK]; omega
  | c + 1, k, h => by
    rw [pushK]
    refine Nat.le_trans (pushK_len c (k + 1) _) ?_
    split
    · rw [pushL_len]; omega
    · omega
end Go.Proofs.YtghfpcjgionbaaaGreat
/- When a tie is broken by the first values, told case by case. -/
namespace Go.Proofs.YtghfpcjgionbaaaGreat
open Go.RowKit

theorem brk_of {vs : List Int} {x : Ti} {r u : Nat} {z y : Int} (er : x.kid = (r : Int)) (eu : x.up = (u : Int)) (ez : vs[r]? = some z) (ey : vs[u]? = some y) : brk vs x = (decide (0 < z) && decide (y = 0)) := by
  have h1 := (List.getElem?_eq_some_iff.1 ez).1
  have h2 := (List.getElem?_eq_some_iff.1 ey).1
  unfold brk
  rw [er, eu, Int.toNat_natCast, Int.toNat_natCast, List.getD_eq_getElem?_getD, List.getD_eq_getElem?_getD, ez, ey, decide_eq_true (show (0 : Int) ≤ (r : Int) by omega), decide_eq_true (show (r : Int) < (vs.length : Int) by omega), decide_eq_true (show (0 : Int) ≤ (u : Int) by omega), decide_eq_true (show (u : Int) < (vs.length : Int) by omega)]
  rfl
theorem brk_out1 {vs : List Int} {x : Ti} (h : ¬ (0 ≤ x.kid ∧ x.kid ≤ (vs.length : Int) - 1)) : brk vs x = false := by
  unfold brk
  by_cases h0 : 0 ≤ x.kid
  · rw [decide_eq_false (show ¬ x.kid < (vs.length : Int) by omega)]
    simp
  · rw [decide_eq_false h0]
    simp
theorem brk_out2 {vs : List Int} {x : Ti} (h : ¬ (0 ≤ x.up ∧ x.up ≤ (vs.length : Int) - 1)) : brk vs x = false := by
  unfold brk
  by_cases h0 : 0 ≤ x.up
  · rw [decide_eq_false (show ¬ x.up < (vs.length : Int) by omega)]
    simp
  · rw [decide_eq_false h0]
    simp
theorem may_no {p : Pc} {vs : List Int} {k : Nat} {x : Ti} (hx : p.ties[k]? = some x) (h : brk vs x = true) : mayB p vs = false := all_not hx (by rw [h]; rfl)
theorem may_yes {p : Pc} {vs : List Int} (h : ∀ (j : Nat) (x : Ti), p.ties[j]? = some x → brk vs x = false) : mayB p vs = true := all_yes fun j x hx => by rw [h j x hx]; rfl
end Go.Proofs.YtghfpcjgionbaaaGreat
/- What the bits of a tie are, and when they tell that it is broken. -/
namespace Go.Proofs.YtghfpcjgionbaaaGreat
open Go.RowKit

def kB : Nat → Int
  | 0 => 0
  | 1 => 1
  | _ => 5
def uB : Nat → Int
  | 0 => 0
  | 1 => 2
  | _ => 10
set_option maxHeartbeats 1600000 in
theorem rbK_any (a : Option Addr) (c : Nat) (vs : List Int) (r : Int) (w : World) (hv : KidsAt w a vs) :
    Calls Tryz.prog 141 #[.slice a vs.length c, .int .i64 r, .int .u8 1, .int .u8 4] w fun e w' => e = .returned (.int .u8 (kB (st vs r))) ∧ w' = w := by
  unfold KidsAt at hv
  by_cases h0 : r < 0
  · have e : st vs r = 0 := by unfold st; rw [if_neg (by omega)]
    rw [e]
    clear e hv
    go_enter Tryz.func141, Tryz.ntmps141
    go_wp2
    go_ret
    exact ⟨rfl, rfl⟩
  · by_cases h1 : r ≥ (vs.length : Int)
    · have e : st vs r = 0 := by unfold st; rw [if_neg (by omega)]
      rw [e]
      clear e hv
      go_enter Tryz.func141, Tryz.ntmps141
      go_wp2
      go_ret
      exact ⟨rfl, rfl⟩
    · obtain ⟨k, rfl⟩ := Int.eq_ofNat_of_zero_le (show 0 ≤ r by omega)
      obtain ⟨z, ez⟩ : ∃ z, vs[k]? = some z := ⟨_, List.getElem?_eq_getElem (by omega)⟩
      obtain ⟨b1, o1, rfl, hb1, hc1⟩ := hv (by omega)
      have p0 := hc1 k z ez
      have hA : (0 : Int) ≤ (k : Int) := by omega
      have hB : (k : Int) < (vs.length : Int) := by omega
      have hg : vs.getD (k : Int).toNat 0 = z := by rw [Int.toNat_natCast, List.getD_eq_getElem?_getD, ez]; rfl
      by_cases hz : 0 < z
      · have e : st vs (k : Int) = 2 := by unfold st; rw [if_pos ⟨hA, hB⟩, hg, if_pos hz]
        rw [e]
        clear e hc1 hv ez hg
        go_enter Tryz.func141, Tryz.ntmps141
        go_wp2
        go_ret
        exact ⟨rfl, rfl⟩
      · have e : st vs (k : Int) = 1 := by unfold st; rw [if_pos ⟨hA, hB⟩, hg, if_neg hz]
        rw [e]
        clear e hc1 hv ez hg
        go_enter Tryz.func141, Tryz.ntmps141
        go_wp2
        go_ret
        exact ⟨rfl, rfl⟩

set_option maxHeartbeats 1600000 in
theorem rbU_any (a : Option Addr) (c : Nat) (vs : List Int) (r : Int) (w : World) (hv : KidsAt w a vs) :
    Calls Tryz.prog 141 #[.slice a vs.length c, .int .i64 r, .int .u8 2, .int .u8 8] w fun e w' => e = .returned (.int .u8 (uB (st vs r))) ∧ w' = w := by
  unfold KidsAt at hv
  by_cases h0 : r < 0
  · have e : st vs r = 0 := by unfold st; rw [if_neg (by omega)]
    rw [e]
    clear e hv
    go_enter Tryz.func141, Tryz.ntmps141
    go_wp2
    go_ret
    exact ⟨rfl, rfl⟩
  · by_cases h1 : r ≥ (vs.length : Int)
    · have e : st vs r = 0 := by unfold st; rw [if_neg (by omega)]
      rw [e]
      clear e hv
      go_enter Tryz.func141, Tryz.ntmps141
      go_wp2
      go_ret
      exact ⟨rfl, rfl⟩
    · obtain ⟨k, rfl⟩ := Int.eq_ofNat_of_zero_le (show 0 ≤ r by omega)
      obtain ⟨z, ez⟩ : ∃ z, vs[k]? = some z := ⟨_, List.getElem?_eq_getElem (by omega)⟩
      obtain ⟨b1, o1, rfl, hb1, hc1⟩ := hv (by omega)
      have p0 := hc1 k z ez
      have hA : (0 : Int) ≤ (k : Int) := by omega
      have hB : (k : Int) < (vs.length : Int) := by omega
      have hg : vs.getD (k : Int).toNat 0 = z := by rw [Int.toNat_natCast, List.getD_eq_getElem?_getD, ez]; rfl
      by_cases hz : 0 < z
      · have e : st vs (k : Int) = 2 := by unfold st; rw [if_pos ⟨hA, hB⟩, hg, if_pos hz]
        rw [e]
        clear e hc1 hv ez hg
        go_enter Tryz.func141, Tryz.ntmps141
        go_wp2
        go_ret
        exact ⟨rfl, rfl⟩
      · have e : st vs (k : Int) = 1 := by unfold st; rw [if_pos ⟨hA, hB⟩, hg, if_neg hz]
        rw [e]
        clear e hc1 hv ez hg
        go_enter Tryz.func141, Tryz.ntmps141
        go_wp2
        go_ret
        exact ⟨rfl, rfl⟩

/-- The two together. -/
def bothB (s t : Nat) : Int := kB s + uB t
set_option maxHeartbeats 1600000 in
theorem tbits_any (x : Ti) (a : Option Addr) (c : Nat) (vs : List Int) (w : World) (hv : KidsAt w a vs) :
    Calls Tryz.prog 122 #[.agg #[.int .i64 x.kid, .int .i64 x.up], .slice a vs.length c] w fun e w' => e = .returned (.int .u8 (bothB (st vs x.kid) (st vs x.up))) ∧ Below w.heap.size w w' := by
  have HB : ∀ o1 : Obj, Below w.heap.size w (w.alloc o1) := fun o1 => (Below.refl _ _).alloc (Nat.le_refl _) _
  have q0 := fun W h => rbK_any a c vs x.kid W h
  have q1 := fun W h => rbU_any a c vs x.up W h
  have hW : ∀ (ob : Obj) (n : Nat), KidsAt ((w.alloc ob).drewN n) a vs := fun ob n => hv.below (bel_drewN (HB ob) n) (Nat.le_refl _)
  have HV := hidOf hW
  clear hW hv
  rcases st_cases vs x.kid with e1 | e1 | e1
  all_goals rcases st_cases vs x.up with e2 | e2 | e2
  all_goals rw [e1] at q0 ⊢
  all_goals rw [e2] at q1 ⊢
  all_goals clear e1 e2
  all_goals simp only [kB, uB] at q0 q1
  all_goals go_enter Tryz.func122, Tryz.ntmps122
  all_goals go_wp2
  all_goals go_quiet ((first | (go_at_call_of 141 (x.kid); exact Calls.quiet_of_same (q0 _ (HV.out _ _))) | (go_at_call_of 141 (x.up); exact Calls.quiet_of_same (q1 _ (HV.out _ _)))))
  all_goals go_wp2
  all_goals go_ret
  all_goals exact ⟨rfl, bel_drewN (HB _) _⟩

/-- Both rules are there, the one's value above 0, the other's not. -/
def brkB (s t : Nat) : Bool := decide (2 ≤ s) && decide (1 ≤ t) && decide (t ≤ 1)
set_option maxHeartbeats 1600000 in
theorem broken_any (s t : Nat) (hs : s ≤ 2) (ht : t ≤ 2) (w : World) :
    Calls Tryz.prog 143 #[.int .u8 (bothB s t)] w fun e w' => e = .returned (.bool (brkB s t)) ∧ w' = w := by
  have b0_3 : bits .and .u8 0 3 = 0 := by decide
  have b0_7 : bits .and .u8 0 7 = 0 := by decide
  have b0_8 : bits .and .u8 0 8 = 0 := by decide
  have b2_3 : bits .and .u8 2 3 = 2 := by decide
  have b2_7 : bits .and .u8 2 7 = 2 := by decide
  have b2_8 : bits .and .u8 2 8 = 0 := by decide
  have b10_3 : bits .and .u8 10 3 = 2 := by decide
  have b10_7 : bits .and .u8 10 7 = 2 := by decide
  have b10_8 : bits .and .u8 10 8 = 8 := by decide
  have b1_3 : bits .and .u8 1 3 = 1 := by decide
  have b1_7 : bits .and .u8 1 7 = 1 := by decide
  have b1_8 : bits .and .u8 1 8 = 0 := by decide
  have b3_3 : bits .and .u8 3 3 = 3 := by decide
  have b3_7 : bits .and .u8 3 7 = 3 := by decide
  have b3_8 : bits .and .u8 3 8 = 0 := by decide
  have b11_3 : bits .and .u8 11 3 = 3 := by decide
  have b11_7 : bits .and .u8 11 7 = 3 := by decide
  have b11_8 : bits .and .u8 11 8 = 8 := by decide
  have b5_3 : bits .and .u8 5 3 = 1 := by decide
  have b5_7 : bits .and .u8 5 7 = 5 := by decide
  have b5_8 : bits .and .u8 5 8 = 0 := by decide
  have b7_3 : bits .and .u8 7 3 = 3 := by decide
  have b7_7 : bits .and .u8 7 7 = 7 := by decide
  have b7_8 : bits .and .u8 7 8 = 0 := by decide
  have b15_3 : bits .and .u8 15 3 = 3 := by decide
  have b15_7 : bits .and .u8 15 7 = 7 := by decide
  have b15_8 : bits .and .u8 15 8 = 8 := by decide
  rcases (show s = 0 ∨ s = 1 ∨ s = 2 by omega) with rfl | rfl | rfl
  all_goals rcases (show t = 0 ∨ t = 1 ∨ t = 2 by omega) with rfl | rfl | rfl
  all_goals simp only [bothB, kB, uB]
  all_goals go_enter Tryz.func143, Tryz.ntmps143
  all_goals go_wp2
  all_goals go_ret
  all_goals exact ⟨rfl, rfl⟩
end Go.Proofs.YtghfpcjgionbaaaGreat
/- What impl.TiesMay answers, where no value is below 0. -/
namespace Go.Proofs.YtghfpcjgionbaaaGreat
open Go.RowKit

set_option maxHeartbeats 8000000 in
theorem iMay_any (p : Pc) (l : Pl) (a : Option Addr) (c : Nat) (vs : List Int) (w : World) (hF : PcFew p) (hp : PcIn w p l) (hv : KidsAt w a vs) (hnn : ∀ z ∈ vs, 0 ≤ z) :
    Calls Tryz.prog 133 #[pcV p l, .slice a vs.length c] w fun e w' => e = .returned (.bool (mayB p vs)) ∧ Below w.heap.size w w' := by
  show Calls _ _ #[.agg #[.int .i64 p.indent, .slice l.a1 p.rules.length l.c1, .slice l.a2 p.chunks.length l.c2, .slice l.a3 p.spans.length l.c3, .slice l.a4 p.ties.length l.c4], _] _ _
  obtain ⟨W0, hW0, X0, B0, S0⟩ := boxed w p l 37
  have T1 := hp.ties.below B0 (Nat.le_refl _)
  have V1 := hv.below B0 (Nat.le_refl _)
  have hft := hF.ties
  have x4 := X0.c4
  obtain ⟨n, hn⟩ : ∃ n, n = p.ties.length := ⟨_, rfl⟩
  have HN := hidOf hn
  have HNN := hidOf hnn
  unfold RowsAt at T1
  rw [← hn] at T1 hft x4 hW0 ⊢
  clear hn hp hv X0 hnn
  go_enter Tryz.func133, Tryz.ntmps133
  go_wp2
  rw [← hW0]
  clear hW0 S0 x4
  go_loopw [10] (fun i wr => ∃ k : Nat, k ≤ n ∧ i = .int .i64 k ∧ Hid (∀ (j : Nat) (x : Ti), j < k → p.ties[j]? = some x → brk vs x = false) ∧ Below W0.heap.size W0 wr) (fun i _ => n - (intOf i).toNat)
  case atStart => exact ⟨0, Nat.zero_le _, rfl, hidOf fun j x h => by omega, Below.refl _ _⟩
  case round =>
    obtain ⟨k, hk, rfl, HA, hb⟩ := hrel
    have BW := B0.trans (hb.mono B0.size)
    by_cases hlt : k < n
    · obtain ⟨x, ex⟩ : ∃ x, p.ties[k]? = some x := ⟨_, List.getElem?_eq_getElem (by rw [← HN.out]; exact hlt)⟩
      obtain ⟨b1, o1, ea, hb1, hc1⟩ := T1 (by omega)
      obtain ⟨p0, p1⟩ := tiC (w := wr) (fun j hj => by rw [hb.cell hb1]; exact hc1 k x ex j hj)
      rw [ea]
      have EX := hidOf ex
      have HB : ∀ o1 : Obj, Below W0.heap.size W0 (wr.alloc o1) := fun o1 => hb.alloc hb.size _
      have HBW : ∀ o1 : Obj, Below w.heap.size w (wr.alloc o1) := fun o1 => BW.alloc BW.size _
      clear ex hc1 T1 ea
      have hA : (0 : Int) ≤ (k : Int) := by omega
      have hB : (k : Int) < (n : Int) := by omega
      have s1 : st vs x.kid ≤ 2 := by rcases st_cases vs x.kid with h | h | h <;> omega
      have s2 : st vs x.up ≤ 2 := by rcases st_cases vs x.up with h | h | h <;> omega
      have HE := hidOf (show brk vs x = brkB (st vs x.kid) (st vs x.up) from brk_st HNN.out x)
      go_wp2_with fail
      refine (tbits_any x a c vs _ (V1.below (HB _) (Nat.le_refl _))).mono ?_
      rintro e w2 ⟨rfl, hb2⟩
      have BB := (HB _).trans (hb2.mono (HB _).size)
      have BBW := (HBW _).trans (hb2.mono (HBW _).size)
      clear hb2
      go_wp2_with fail
      refine (broken_any _ _ s1 s2 _).mono ?_
      rintro e w2 ⟨rfl, rfl⟩
      cases hh : brkB (st vs x.kid) (st vs x.up)
      · go_wp2
        go_roundw
        case rel => exact ⟨k + 1, by omega, by go_num, hidOf (upto_step HA.out EX.out (HE.out.trans hh)), BB⟩
        case measure => simp [intOf]; omega
      · go_wp2
        go_ret
        exact ⟨ret_bool (may_no EX.out (HE.out.trans hh)).symm, BBW⟩
    · go_wp2
      go_ret
      exact ⟨ret_bool (may_yes (upto_all (by have := HN.out; omega) HA.out)).symm, BW⟩
end Go.Proofs.YtghfpcjgionbaaaGreat
