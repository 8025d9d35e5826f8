/- What impl.TiesHold answers, where no rule has the least number that there is. -/
import Derived.Test.YtndnngfljoamdaaKc
import Derived.Test.YtndnngfljoamdaaPcLib
import Derived.Test.YtndnngfljoamdaaToInt
import Derived.Lib.AppendIntMem
import Derived.WalkKit
import Derived.Laws.OwnMore
import Derived.Test.YtndnngfljoamdaaKh
import Derived.BigQuiet
import Derived.Deep.QuietTactic
import Derived.Deep.RegionHeld3
namespace Go.Proofs.Ytndnngfljoamdaa
open Go.RowKit

/-- What a list of values makes of a rule: 0 it is not there, 1 its value is 0, 2 it is above 0. -/
def st (vs : List Int) (r : Int) : Nat := if 0 ≤ r ∧ r < (vs.length : Int) then (if 0 < vs.getD r.toNat 0 then 2 else 1) else 0
def kB : Nat → Int
  | 0 => 0
  | 1 => 1
  | _ => 5
def uB : Nat → Int
  | 0 => 0
  | 1 => 2
  | _ => 10
theorem st_cases (vs : List Int) (r : Int) : st vs r = 0 ∨ st vs r = 1 ∨ st vs r = 2 := by
  unfold st
  split
  · split <;> simp
  · simp

set_option maxHeartbeats 1600000 in
theorem rbK_any (a : Option Addr) (c : Nat) (vs : List Int) (r : Int) (w : World) (hv : KidsAt w a vs) :
    Calls Try.prog 106 #[.slice a vs.length c, .int .i64 r, .int .u8 1, .int .u8 4] w fun e w' => e = .returned (.int .u8 (kB (st vs r))) ∧ w' = w := by
  unfold KidsAt at hv
  by_cases h0 : r < 0
  · have e : st vs r = 0 := by unfold st; rw [if_neg (by omega)]
    rw [e]
    clear e hv
    go_enter Try.func106, Try.ntmps106
    go_wp2
    go_ret
    exact ⟨rfl, rfl⟩
  · by_cases h1 : r ≥ (vs.length : Int)
    · have e : st vs r = 0 := by unfold st; rw [if_neg (by omega)]
      rw [e]
      clear e hv
      go_enter Try.func106, Try.ntmps106
      go_wp2
      go_ret
      exact ⟨rfl, rfl⟩
    · obtain ⟨k, rfl⟩ := Int.eq_ofNat_of_zero_le (show 0 ≤ r by omega)
      obtain ⟨z, ez⟩ : ∃ z, vs[k]? = some z := ⟨_, List.getElem?_eq_getElem (by omega)⟩
      obtain ⟨b1, o1, rfl, hb1, hc1⟩ := hv (by omega)
      have p0 := hc1 k z ez
      have hA : (0 : Int) ≤ (k : Int) := by omega
      have hB : (k : Int) < (vs.length : Int) := by omega
      have hg : vs.getD (k : Int).toNat 0 = z := by rw [Int.toNat_natCast, List.getD_eq_getElem?_getD, ez]; rfl
      by_cases hz : 0 < z
      · have e : st vs (k : Int) = 2 := by unfold st; rw [if_pos ⟨hA, hB⟩, hg, if_pos hz]
        rw [e]
        clear e hc1 hv ez hg
        go_enter Try.func106, Try.ntmps106
        go_wp2
        go_ret
        exact ⟨rfl, rfl⟩
      · have e : st vs (k : Int) = 1 := by unfold st; rw [if_pos ⟨hA, hB⟩, hg, if_neg hz]
        rw [e]
        clear e hc1 hv ez hg
        go_enter Try.func106, Try.ntmps106
        go_wp2
        go_ret
        exact ⟨rfl, rfl⟩

set_option maxHeartbeats 1600000 in
theorem rbU_any (a : Option Addr) (c : Nat) (vs : List Int) (r : Int) (w : World) (hv : KidsAt w a vs) :
    Calls Try.prog 106 #[.slice a vs.length c, .int .i64 r, .int .u8 2, .int .u8 8] w fun e w' => e = .returned (.int .u8 (uB (st vs r))) ∧ w' = w := by
  unfold KidsAt at hv
  by_cases h0 : r < 0
  · have e : st vs r = 0 := by unfold st; rw [if_neg (by omega)]
    rw [e]
    clear e hv
    go_enter Try.func106, Try.ntmps106
    go_wp2
    go_ret
    exact ⟨rfl, rfl⟩
  · by_cases h1 : r ≥ (vs.length : Int)
    · have e : st vs r = 0 := by unfold st; rw [if_neg (by omega)]
      rw [e]
      clear e hv
      go_enter Try.func106, Try.ntmps106
      go_wp2
      go_ret
      exact ⟨rfl, rfl⟩
    · obtain ⟨k, rfl⟩ := Int.eq_ofNat_of_zero_le (show 0 ≤ r by omega)
      obtain ⟨z, ez⟩ : ∃ z, vs[k]? = some z := ⟨_, List.getElem?_eq_getElem (by omega)⟩
      obtain ⟨b1, o1, rfl, hb1, hc1⟩ := hv (by omega)
      have p0 := hc1 k z ez
      have hA : (0 : Int) ≤ (k : Int) := by omega
      have hB : (k : Int) < (vs.length : Int) := by omega
      have hg : vs.getD (k : Int).toNat 0 = z := by rw [Int.toNat_natCast, List.getD_eq_getElem?_getD, ez]; rfl
      by_cases hz : 0 < z
      · have e : st vs (k : Int) = 2 := by unfold st; rw [if_pos ⟨hA, hB⟩, hg, if_pos hz]
        rw [e]
        clear e hc1 hv ez hg
        go_enter Try.func106, Try.ntmps106
        go_wp2
        go_ret
        exact ⟨rfl, rfl⟩
      · have e : st vs (k : Int) = 1 := by unfold st; rw [if_pos ⟨hA, hB⟩, hg, if_neg hz]
        rw [e]
        clear e hc1 hv ez hg
        go_enter Try.func106, Try.ntmps106
        go_wp2
        go_ret
        exact ⟨rfl, rfl⟩

/-- The two together. -/
def bothB (s t : Nat) : Int := kB s + uB t
/-- A tie whose rules are so holds. -/
def holdB (s t : Nat) : Bool := decide (1 ≤ s) && decide (1 ≤ t) && (decide (s ≤ 1) || decide (2 ≤ t))

set_option maxHeartbeats 1600000 in
theorem tbits_any (x : Ti) (a : Option Addr) (c : Nat) (vs : List Int) (w : World) (hv : KidsAt w a vs) :
    Calls Try.prog 68 #[.agg #[.int .i64 x.kid, .int .i64 x.up], .slice a vs.length c] w fun e w' => e = .returned (.int .u8 (bothB (st vs x.kid) (st vs x.up))) ∧ Below w.heap.size w w' := by
  have HB : ∀ o1 : Obj, Below w.heap.size w (w.alloc o1) := fun o1 => (Below.refl _ _).alloc (Nat.le_refl _) _
  have q0 := fun W h => rbK_any a c vs x.kid W h
  have q1 := fun W h => rbU_any a c vs x.up W h
  have hW : ∀ (ob : Obj) (n : Nat), KidsAt ((w.alloc ob).drewN n) a vs := fun ob n => hv.below (bel_drewN (HB ob) n) (Nat.le_refl _)
  have HV := hidOf hW
  clear hW hv
  rcases st_cases vs x.kid with e1 | e1 | e1
  all_goals rcases st_cases vs x.up with e2 | e2 | e2
  all_goals rw [e1] at q0 ⊢
  all_goals rw [e2] at q1 ⊢
  all_goals clear e1 e2
  all_goals simp only [kB, uB] at q0 q1
  all_goals go_enter Try.func68, Try.ntmps68
  all_goals go_wp2
  all_goals go_quiet ((first | (go_at_call_of 106 (x.kid); exact Calls.quiet_of_same (q0 _ (HV.out _ _))) | (go_at_call_of 106 (x.up); exact Calls.quiet_of_same (q1 _ (HV.out _ _)))))
  all_goals go_wp2
  all_goals go_ret
  all_goals exact ⟨rfl, bel_drewN (HB _) _⟩

set_option maxHeartbeats 1600000 in
theorem holds_any (s t : Nat) (hs : s ≤ 2) (ht : t ≤ 2) (w : World) :
    Calls Try.prog 69 #[.int .u8 (bothB s t)] w fun e w' => e = .returned (.bool (holdB s t)) ∧ w' = w := by
  have b0_3 : bits .and .u8 0 3 = 0 := by decide
  have b0_4 : bits .and .u8 0 4 = 0 := by decide
  have b0_8 : bits .and .u8 0 8 = 0 := by decide
  have b2_3 : bits .and .u8 2 3 = 2 := by decide
  have b2_4 : bits .and .u8 2 4 = 0 := by decide
  have b2_8 : bits .and .u8 2 8 = 0 := by decide
  have b10_3 : bits .and .u8 10 3 = 2 := by decide
  have b10_4 : bits .and .u8 10 4 = 0 := by decide
  have b10_8 : bits .and .u8 10 8 = 8 := by decide
  have b1_3 : bits .and .u8 1 3 = 1 := by decide
  have b1_4 : bits .and .u8 1 4 = 0 := by decide
  have b1_8 : bits .and .u8 1 8 = 0 := by decide
  have b3_3 : bits .and .u8 3 3 = 3 := by decide
  have b3_4 : bits .and .u8 3 4 = 0 := by decide
  have b3_8 : bits .and .u8 3 8 = 0 := by decide
  have b11_3 : bits .and .u8 11 3 = 3 := by decide
  have b11_4 : bits .and .u8 11 4 = 0 := by decide
  have b11_8 : bits .and .u8 11 8 = 8 := by decide
  have b5_3 : bits .and .u8 5 3 = 1 := by decide
  have b5_4 : bits .and .u8 5 4 = 4 := by decide
  have b5_8 : bits .and .u8 5 8 = 0 := by decide
  have b7_3 : bits .and .u8 7 3 = 3 := by decide
  have b7_4 : bits .and .u8 7 4 = 4 := by decide
  have b7_8 : bits .and .u8 7 8 = 0 := by decide
  have b15_3 : bits .and .u8 15 3 = 3 := by decide
  have b15_4 : bits .and .u8 15 4 = 4 := by decide
  have b15_8 : bits .and .u8 15 8 = 8 := by decide
  rcases (show s = 0 ∨ s = 1 ∨ s = 2 by omega) with rfl | rfl | rfl
  all_goals rcases (show t = 0 ∨ t = 1 ∨ t = 2 by omega) with rfl | rfl | rfl
  all_goals simp only [bothB, kB, uB]
  all_goals go_enter Try.func69, Try.ntmps69
  all_goals go_wp2
  all_goals go_ret
  all_goals exact ⟨rfl, rfl⟩

/-- A tie holds. -/
def TieOk (vs : List Int) (x : Ti) : Prop := holdB (st vs x.kid) (st vs x.up) = true
structure TiesHold (p : Pc) (vs : List Int) : Prop where
  vals : ValOk p vs
  ties : ∀ (j : Nat) (x : Ti), p.ties[j]? = some x → TieOk vs x

set_option maxHeartbeats 8000000 in
theorem iTie_any (p : Pc) (l : Pl) (a : Option Addr) (c : Nat) (vs : List Int) (w : World) (hF : PcFew p) (hm0 : vs.length ≤ 1048576) (hR : NoLeast p.rules) (hp : PcIn w p l) (hv : KidsAt w a vs) :
    Calls Try.prog 19 #[pcV p l, .slice a vs.length c] w fun e w' => Tells (TiesHold p vs) w e w' := by
  show Calls _ _ #[.agg #[.int .i64 p.indent, .slice l.a1 p.rules.length l.c1, .slice l.a2 p.chunks.length l.c2, .slice l.a3 p.spans.length l.c3, .slice l.a4 p.ties.length l.c4], _] _ _
  go_enter Try.func19, Try.ntmps19
  go_wp2_with fail
  obtain ⟨W0, hW0, X0, B0, S0⟩ := boxed w p l 29
  rw [← hW0]
  have I0 := hp.below B0 (Nat.le_refl _)
  have V0 := hv.below B0 (Nat.le_refl _)
  have hX : w.heap.size < W0.heap.size := by omega
  clear hW0 S0 hp hv
  obtain ⟨-, c0, c1, c2, c3, c4⟩ := X0
  refine (iVal_any p l a c vs _ hF.rules hm0 hR I0.rules V0).mono ?_
  rintro e w1 hq
  by_cases h2 : ValOk p vs
  · obtain ⟨rfl, A1⟩ := hq.yes h2
    have k1 := fun o => A1.cell (p := ⟨w.heap.size, o, none⟩) hX
    clear hq
    have T1 := I0.ties.below A1 (Nat.le_refl _)
    have V1 := V0.below A1 (Nat.le_refl _)
    have hft := hF.ties
    have HV2 := hidOf h2
    obtain ⟨n, hn⟩ : ∃ n, n = p.ties.length := ⟨_, rfl⟩
    have HN := hidOf hn
    unfold RowsAt at T1
    rw [← hn] at T1 c4 hft ⊢
    clear hn h2 I0 V0
    go_wp2
    go_loopw [14] (fun i wr => ∃ k : Nat, k ≤ n ∧ i = .int .i64 k ∧ Hid (∀ (j : Nat) (x : Ti), j < k → p.ties[j]? = some x → TieOk vs x) ∧ Below w1.heap.size w1 wr) (fun i _ => n - (intOf i).toNat)
    case atStart => exact ⟨0, Nat.zero_le _, rfl, hidOf fun j x h => by omega, Below.refl _ _⟩
    case round =>
      obtain ⟨k, hk, rfl, HA, hb⟩ := hrel
      have BW := B0.trans ((A1.trans (hb.mono A1.size)).mono B0.size)
      by_cases hlt : k < n
      · obtain ⟨x, ex⟩ : ∃ x, p.ties[k]? = some x := ⟨_, List.getElem?_eq_getElem (by rw [← HN.out]; exact hlt)⟩
        obtain ⟨b1, o1, ea, hb1, hc1⟩ := T1 (by omega)
        obtain ⟨p0, p1⟩ := tiC (w := wr) (fun j hj => by rw [hb.cell hb1]; exact hc1 k x ex j hj)
        rw [ea]
        have EX := hidOf ex
        have HB : ∀ o1 : Obj, Below w1.heap.size w1 (wr.alloc o1) := fun o1 => hb.alloc hb.size _
        have HBW : ∀ o1 : Obj, Below w.heap.size w (wr.alloc o1) := fun o1 => BW.alloc BW.size _
        clear ex hc1 T1 ea
        have hA : (0 : Int) ≤ (k : Int) := by omega
        have hB : (k : Int) < (n : Int) := by omega
        have s1 : st vs x.kid ≤ 2 := by rcases st_cases vs x.kid with h | h | h <;> omega
        have s2 : st vs x.up ≤ 2 := by rcases st_cases vs x.up with h | h | h <;> omega
        go_wp2_with fail
        refine (tbits_any x a c vs _ (V1.below (HB _) (Nat.le_refl _))).mono ?_
        rintro e w2 ⟨rfl, hb2⟩
        have BB := (HB _).trans (hb2.mono (HB _).size)
        have BBW := (HBW _).trans (hb2.mono (HBW _).size)
        clear hb2
        go_wp2_with fail
        refine (holds_any _ _ s1 s2 _).mono ?_
        rintro e w2 ⟨rfl, rfl⟩
        cases hh : holdB (st vs x.kid) (st vs x.up)
        · go_wp2
          go_ret
          exact tells_no (fun h => by have := h.ties k x EX.out; unfold TieOk at this; rw [hh] at this; cases this) BBW
        · go_wp2
          go_roundw
          case rel => exact ⟨k + 1, by omega, by go_num, hidOf (upto_step HA.out EX.out hh), BB⟩
          case measure => simp [intOf]; omega
      · go_wp2
        go_ret
        exact tells_yes ⟨HV2.out, upto_all (by have := HN.out; omega) HA.out⟩ BW
  · obtain ⟨rfl, A1⟩ := hq.no h2
    go_wp2
    go_ret
    exact tells_no (fun h => h2 h.vals) (B0.trans (A1.mono B0.size))
end Go.Proofs.Ytndnngfljoamdaa
/- What spec.TiesHold answers, where no rule has the least number that there is. -/
namespace Go.Proofs.Ytndnngfljoamdaa
open Go.RowKit

theorem st_in {vs : List Int} {k : Nat} {z : Int} (hz : vs[k]? = some z) : st vs (k : Int) = if 0 < z then 2 else 1 := by
  have hk := (List.getElem?_eq_some_iff.1 hz).1
  unfold st
  rw [if_pos ⟨by omega, by omega⟩, Int.toNat_natCast, List.getD_eq_getElem?_getD, hz]
  rfl
theorem st_out {vs : List Int} {r : Int} (h : ¬ (0 ≤ r ∧ r ≤ (vs.length : Int) - 1)) : st vs r = 0 := by
  unfold st
  rw [if_neg (by omega)]

set_option maxHeartbeats 8000000 in
theorem sTie_any (p : Pc) (l : Pl) (a : Option Addr) (c : Nat) (vs : List Int) (w : World) (hF : PcFew p) (hm0 : vs.length ≤ 1048576) (hR : NoLeast p.rules) (hp : PcIn w p l) (hv : KidsAt w a vs) :
    Calls Try.prog 21 #[pcV p l, .slice a vs.length c] w fun e w' => Tells (TiesHold p vs) w e w' := by
  show Calls _ _ #[.agg #[.int .i64 p.indent, .slice l.a1 p.rules.length l.c1, .slice l.a2 p.chunks.length l.c2, .slice l.a3 p.spans.length l.c3, .slice l.a4 p.ties.length l.c4], _] _ _
  go_enter Try.func21, Try.ntmps21
  go_wp2_with fail
  obtain ⟨W0, hW0, X0, B0, S0⟩ := boxed w p l 29
  rw [← hW0]
  have I0 := hp.below B0 (Nat.le_refl _)
  have V0 := hv.below B0 (Nat.le_refl _)
  have hX : w.heap.size < W0.heap.size := by omega
  clear hW0 S0 hp hv
  have c4 := X0.c4
  obtain ⟨-, c0, c1, c2, c3, -⟩ := X0
  refine (sVal_any p l a c vs _ hF.rules hm0 hR I0.rules V0).mono ?_
  rintro e w1 hq
  by_cases h2 : ValOk p vs
  · obtain ⟨rfl, A1⟩ := hq.yes h2
    clear hq
    have T1 := I0.ties
    have V1 := V0
    have hft := hF.ties
    have HV2 := hidOf h2
    obtain ⟨n, hn⟩ : ∃ n, n = p.ties.length := ⟨_, rfl⟩
    have HN := hidOf hn
    unfold RowsAt at T1
    unfold KidsAt at V1
    rw [← hn] at T1 c4 hft ⊢
    obtain ⟨m, hm⟩ : ∃ m, m = vs.length := ⟨_, rfl⟩
    have HM := hidOf hm
    rw [← hm] at V1 hm0 ⊢
    clear hn h2 I0 V0 hm c0 c1 c2 c3
    go_wp2
    go_loopw [5] (fun i wr => ∃ k : Nat, k ≤ n ∧ i = .int .i64 k ∧ Hid (∀ (j : Nat) (x : Ti), j < k → p.ties[j]? = some x → TieOk vs x) ∧ Below W0.heap.size W0 wr) (fun i _ => n - (intOf i).toNat)
    case atStart => exact ⟨0, Nat.zero_le _, rfl, hidOf fun j x h => by omega, A1⟩
    case round =>
      obtain ⟨k, hk, rfl, HA, hb⟩ := hrel
      have BW := B0.trans (hb.mono B0.size)
      have d4 := (hb.cell (p := ⟨w.heap.size, 4, none⟩) hX).trans c4
      by_cases hlt : k < n
      · obtain ⟨x, ex⟩ : ∃ x, p.ties[k]? = some x := ⟨_, List.getElem?_eq_getElem (by rw [← HN.out]; exact hlt)⟩
        obtain ⟨b1, o1, ea, hb1, hc1⟩ := T1 (by omega)
        obtain ⟨p0, p1⟩ := tiC (w := wr) (fun j hj => by rw [hb.cell hb1]; exact hc1 k x ex j hj)
        rw [ea] at d4 ⊢
        have EX := hidOf ex
        have HB : ∀ o1 : Obj, Below W0.heap.size W0 (wr.alloc o1) := fun o1 => hb.alloc hb.size _
        have HBW : ∀ o1 : Obj, Below w.heap.size w (wr.alloc o1) := fun o1 => BW.alloc BW.size _
        clear ex hc1 T1 ea
        have hA : (0 : Int) ≤ (k : Int) := by omega
        have hB : (k : Int) < (n : Int) := by omega
        have no : ∀ (s t : Nat), st vs x.kid = s → st vs x.up = t → holdB s t = false → ¬ TiesHold p vs := fun s t e1 e2 e3 h => by
          have := h.ties k x EX.out
          unfold TieOk at this
          rw [e1, e2, e3] at this
          cases this
        have NO := hidOf no
        clear no
        have q0 := fun W => sIn_any x.kid 0 ((m : Int) - 1) W
        have q1 := fun W => sIn_any x.up 0 ((m : Int) - 1) W
        by_cases h0 : 0 ≤ x.kid ∧ x.kid ≤ (m : Int) - 1
        · rw [inB_yes h0.1 h0.2] at q0
          obtain ⟨r, er⟩ := Int.eq_ofNat_of_zero_le h0.1
          by_cases h1 : 0 ≤ x.up ∧ x.up ≤ (m : Int) - 1
          · rw [inB_yes h1.1 h1.2] at q1
            obtain ⟨u, eu⟩ := Int.eq_ofNat_of_zero_le h1.1
            obtain ⟨z, ez⟩ : ∃ z, vs[r]? = some z := ⟨_, List.getElem?_eq_getElem (by rw [← HM.out]; omega)⟩
            obtain ⟨y, ey⟩ : ∃ y, vs[u]? = some y := ⟨_, List.getElem?_eq_getElem (by rw [← HM.out]; omega)⟩
            obtain ⟨b2, o2, eb, hb2, hc2⟩ := V1 (by omega)
            have zc := fun ob : Obj => (((HB ob).cell (p := ⟨b2, o2 + r, none⟩) hb2).trans (hc2 r z ez))
            have yc := fun ob : Obj => (((HB ob).cell (p := ⟨b2, o2 + u, none⟩) hb2).trans (hc2 u y ey))
            have hyl : 0 ≤ y := by
              have hu := (List.getElem?_eq_some_iff.1 ey).1
              rw [HV2.out.len] at hu
              exact (HV2.out.all u y _ ey (List.getElem?_eq_getElem hu)).1
            have s1 := hidOf (show st vs x.kid = if 0 < z then 2 else 1 by rw [er]; exact st_in ez)
            have s2 := hidOf (show st vs x.up = if 0 < y then 2 else 1 by rw [eu]; exact st_in ey)
            have hA2 : (0 : Int) ≤ (r : Int) := by omega
            have hB2 : (r : Int) < (m : Int) := by omega
            have hA3 : (0 : Int) ≤ (u : Int) := by omega
            have hB3 : (u : Int) < (m : Int) := by omega
            rw [er] at p0 q0
            rw [eu] at p1 q1
            rw [eb]
            clear er eu ez ey hc2 V1 eb h0 h1
            by_cases hz : 0 < z
            · by_cases hy : y = 0
              · rw [hy] at yc
                have e1 := s1.out
                have e2 := s2.out
                rw [if_pos hz] at e1
                rw [if_neg (by omega)] at e2
                have HNO := hidOf (NO.out _ _ e1 e2 rfl)
                clear e1 e2 s1 s2 hy hyl
                go_wp2_with (first | (go_at_call_of 70 (r); refine (q0 _).mono ?_; rintro e w9 ⟨rfl, rfl⟩) | (go_at_call_of 70 (u); refine (q1 _).mono ?_; rintro e w9 ⟨rfl, rfl⟩))
                go_ret
                exact tells_no HNO.out (HBW _)
              · have e1 := s1.out
                have e2 := s2.out
                rw [if_pos hz] at e1
                rw [if_pos (by omega)] at e2
                have HOK := hidOf (show TieOk vs x by unfold TieOk; rw [e1, e2]; rfl)
                have hy2 : (y == 0) = false := by simpa using hy
                clear e1 e2 s1 s2 hyl
                go_wp2_with (first | (go_at_call_of 70 (r); refine (q0 _).mono ?_; rintro e w9 ⟨rfl, rfl⟩) | (go_at_call_of 70 (u); refine (q1 _).mono ?_; rintro e w9 ⟨rfl, rfl⟩))
                go_roundw
                case rel => exact ⟨k + 1, by omega, by go_num, hidOf (upto_step HA.out EX.out HOK.out), HB _⟩
                case measure => simp [intOf]; omega
            · have e1 := s1.out
              rw [if_neg hz] at e1
              have HOK := hidOf (show TieOk vs x by unfold TieOk; rw [e1, s2.out]; split <;> rfl)
              clear e1 s1 s2 hyl
              go_wp2_with (first | (go_at_call_of 70 (r); refine (q0 _).mono ?_; rintro e w9 ⟨rfl, rfl⟩) | (go_at_call_of 70 (u); refine (q1 _).mono ?_; rintro e w9 ⟨rfl, rfl⟩))
              go_roundw
              case rel => exact ⟨k + 1, by omega, by go_num, hidOf (upto_step HA.out EX.out HOK.out), HB _⟩
              case measure => simp [intOf]; omega
          · rw [inB_no h1] at q1
            have e2 : st vs x.up = 0 := st_out (by rw [← HM.out]; exact h1)
            have HNO := hidOf (NO.out _ _ rfl e2 (by rcases st_cases vs x.kid with h | h | h <;> rw [h] <;> rfl))
            rw [er] at p0 q0
            clear er h0 h1 e2
            go_wp2_with (first | (go_at_call_of 70 (r); refine (q0 _).mono ?_; rintro e w9 ⟨rfl, rfl⟩) | (go_at_call_of 70 (x.up); refine (q1 _).mono ?_; rintro e w9 ⟨rfl, rfl⟩))
            go_ret
            exact tells_no HNO.out (HBW _)
        · rw [inB_no h0] at q0
          have e1 : st vs x.kid = 0 := st_out (by rw [← HM.out]; exact h0)
          have HNO := hidOf (NO.out _ _ e1 rfl (by rcases st_cases vs x.up with h | h | h <;> rw [h] <;> rfl))
          clear h0 e1
          go_wp2_with (go_at_call_of 70 (x.kid); refine (q0 _).mono ?_; rintro e w9 ⟨rfl, rfl⟩)
          go_ret
          exact tells_no HNO.out (HBW _)
      · go_wp2
        go_ret
        exact tells_yes ⟨HV2.out, upto_all (by have := HN.out; omega) HA.out⟩ BW
  · obtain ⟨rfl, A1⟩ := hq.no h2
    go_wp2
    go_ret
    exact tells_no (fun h => h2 h.vals) (B0.trans (A1.mono B0.size))
end Go.Proofs.Ytndnngfljoamdaa
/- What impl.AllSplit and spec.AllSplit answer. -/
namespace Go.Proofs.Ytndnngfljoamdaa
open Go.RowKit

def lessOne (x : Ru) : Int := wrap64 (x.values - 1)
/-- Each rule's greatest value. -/
def allV (p : Pc) : List Int := p.rules.map lessOne
theorem allV_len (p : Pc) : (allV p).length = p.rules.length := by simp [allV]

set_option maxHeartbeats 4000000 in
set_option maxRecDepth 20000 in
theorem iSpl_any (p : Pc) (l : Pl) (w : World) (hn0 : p.rules.length ≤ 1048576) (h : RowsAt 2 ruCells w l.a1 p.rules) :
    Calls Try.prog 12 #[pcV p l] w fun e w' => IntsAns (allV p) 3 w e w' := by
  show Calls _ _ #[.agg #[.int .i64 p.indent, .slice l.a1 p.rules.length l.c1, .slice l.a2 p.chunks.length l.c2, .slice l.a3 p.spans.length l.c3, .slice l.a4 p.ties.length l.c4]] _ _
  obtain ⟨i0, hi, hz0, hz1, hz2⟩ := info_parts infoIntT
  unfold RowsAt at h
  unfold allV
  obtain ⟨xs, hxs⟩ : ∃ xs, xs = p.rules := ⟨_, rfl⟩
  rw [← hxs] at h hn0 ⊢
  obtain ⟨n, hn⟩ : ∃ n, n = xs.length := ⟨_, rfl⟩
  rw [← hn] at h hn0 ⊢
  have HN := hidOf hn
  clear hn hxs
  have HB : ∀ o1 : Obj, Below w.heap.size w (w.alloc o1) := fun o1 => (Below.refl _ _).alloc (Nat.le_refl _) _
  go_enter Try.func12, Try.ntmps12
  go_wp2
  go_loopw [3, 10] (fun v i wr => ∃ (k : Nat) (os : List Int), k ≤ n ∧ i = .int .i64 k ∧ Hid (os.length = k) ∧ Hid (os = (xs.take k).map lessOne) ∧ wr.ownsRow (w.heap.size + 1) 3 1 v k (intVals os) ∧ wr.cell? ⟨w.heap.size, 1, none⟩ = some (.slice l.a1 n l.c1) ∧ w.heap.size < wr.heap.size ∧ Below w.heap.size w wr)
    (fun _ i _ => n - (intOf i).toNat)
  case atStart => exact ⟨0, [], by omega, rfl, hidOf rfl, hidOf rfl, own_none1 w _ _ _, by simp, by simp; omega, ((Below.refl _ w).alloc (Nat.le_refl _) _).alloc (by simp) _⟩
  case round =>
    obtain ⟨k, os, hk, rfl, HOL, HI, hown, hbox, hz, hb⟩ := hrel
    obtain ⟨ao, cv, rfl⟩ := owns_slice hown
    have hsz := hb.size
    clear HB
    by_cases hlt : k < n
    · obtain ⟨x, ex⟩ : ∃ x, xs[k]? = some x := ⟨_, List.getElem?_eq_getElem (by rw [← HN.out]; exact hlt)⟩
      obtain ⟨b1, o1, e1, hb1, hc1⟩ := h (by omega)
      obtain ⟨p0, p1⟩ := ruC (w := wr) (fun j hj => by rw [hb.cell hb1]; exact hc1 k x ex j hj)
      rw [e1] at hbox ⊢
      have HX := hidOf (show os ++ [lessOne x] = (xs.take (k + 1)).map lessOne by rw [List.take_add_one, ex, List.map_append, ← HI.out]; rfl)
      clear ex hc1 h e1
      have hA : (0 : Int) ≤ (k : Int) := by omega
      have hB : (k : Int) < (n : Int) := by omega
      have HY := hidOf (show lessOne x = wrap64 (x.values - 1) from rfl)
      have ho2 := hown.alloc (.cells #[.int .i64 x.values, .int .i64 x.cost] 83)
      have hB2 : Below w.heap.size w (wr.alloc (.cells #[.int .i64 x.values, .int .i64 x.cost] 83)) := hb.alloc hb.size _
      have hs2 := hB2.size
      have hlt2 : w.heap.size < (wr.alloc (.cells #[.int .i64 x.values, .int .i64 x.cost] 83)).heap.size := by simp; omega
      have hbox2 : (wr.alloc (.cells #[.int .i64 x.values, .int .i64 x.cost] 83)).cell? ⟨w.heap.size, 1, none⟩ = some (.slice (some ⟨b1, o1, none⟩) n l.c1) := by rw [World.cell?_of_block (Below.heap_alloc wr _ _ hz)]; exact hbox
      go_wp2_with (at_builtin; refine wpList_append_own _ rfl _ _ 31 rfl (w.heap.size + 1) 3 i0 (.int .i64 0) 1 8 Try.underlying31 hi hz0 hz1 hz2 rfl (by decide) _ _ _ rfl (ho2.alloc _) ⟨wr.heap.size + 1, 0, none⟩ 1 1 [.int .i64 (wrap64 (x.values - 1))] rfl rfl (cell_one_new1 _ _ _ _) (fun x hx => by simp at hx; subst hx; rfl) (by unfold maxLen; omega) (by omega) (by simp; omega) ?_; intro v' w3 hown' hgrow3 hnil3)
      go_roundw
      case rel => exact ⟨k + 1, os ++ [lessOne x], by omega, by go_num, hidOf (by have := HOL.out; simp; omega), HX, by rw [HY.out]; simpa [intVals] using hown', by rw [World.cell?_of_block (hgrow3.block w.heap.size (by simp; omega) (fun e => by have := (ho2.lt _ e.symm).1; omega)), World.cell?_of_block (Below.heap_alloc _ _ _ hlt2)]; exact hbox2, by have := hgrow3.size; simp at this; omega, (hB2.alloc (by omega) _).grown hgrow3 (by simp; omega) (fun q hq => by have := (ho2.lt q hq).1; omega)⟩
      case measure => simp [intOf]; omega
    · go_wp2
      go_ret
      have h3 := HN.out
      have h4 := HI.out
      have h5 : k = n := by omega
      rw [List.take_of_length_le (by omega)] at h4
      rw [h4, h5, h3] at hown
      rw [h5, h3]
      exact ints_mk hb (ownsRow_base (base' := w.heap.size) (by rw [List.length_map]; exact hown) (by omega))

set_option maxHeartbeats 4000000 in
set_option maxRecDepth 20000 in
theorem sSpl_any (p : Pc) (l : Pl) (w : World) (hn0 : p.rules.length ≤ 1048576) (h : RowsAt 2 ruCells w l.a1 p.rules) :
    Calls Try.prog 27 #[pcV p l] w fun e w' => IntsAns (allV p) 3 w e w' := by
  show Calls _ _ #[.agg #[.int .i64 p.indent, .slice l.a1 p.rules.length l.c1, .slice l.a2 p.chunks.length l.c2, .slice l.a3 p.spans.length l.c3, .slice l.a4 p.ties.length l.c4]] _ _
  obtain ⟨i0, hi, hz0, hz1, hz2⟩ := info_parts infoIntT
  unfold RowsAt at h
  unfold allV
  obtain ⟨xs, hxs⟩ : ∃ xs, xs = p.rules := ⟨_, rfl⟩
  rw [← hxs] at h hn0 ⊢
  obtain ⟨n, hn⟩ : ∃ n, n = xs.length := ⟨_, rfl⟩
  rw [← hn] at h hn0 ⊢
  have HN := hidOf hn
  clear hn hxs
  have HB : ∀ o1 : Obj, Below w.heap.size w (w.alloc o1) := fun o1 => (Below.refl _ _).alloc (Nat.le_refl _) _
  go_enter Try.func27, Try.ntmps27
  go_wp2
  go_loopw [3, 4] (fun v i wr => ∃ (k : Nat) (os : List Int), k ≤ n ∧ i = .int .i64 k ∧ Hid (os.length = k) ∧ Hid (os = (xs.take k).map lessOne) ∧ wr.ownsRow (w.heap.size + 1) 3 1 v k (intVals os) ∧ wr.cell? ⟨w.heap.size, 1, none⟩ = some (.slice l.a1 n l.c1) ∧ w.heap.size < wr.heap.size ∧ Below w.heap.size w wr)
    (fun _ i _ => n - (intOf i).toNat)
  case atStart => exact ⟨0, [], by omega, rfl, hidOf rfl, hidOf rfl, own_none1 w _ _ _, by simp, by simp; omega, ((Below.refl _ w).alloc (Nat.le_refl _) _).alloc (by simp) _⟩
  case round =>
    obtain ⟨k, os, hk, rfl, HOL, HI, hown, hbox, hz, hb⟩ := hrel
    obtain ⟨ao, cv, rfl⟩ := owns_slice hown
    have hsz := hb.size
    clear HB
    by_cases hlt : k < n
    · obtain ⟨x, ex⟩ : ∃ x, xs[k]? = some x := ⟨_, List.getElem?_eq_getElem (by rw [← HN.out]; exact hlt)⟩
      obtain ⟨b1, o1, e1, hb1, hc1⟩ := h (by omega)
      obtain ⟨p0, p1⟩ := ruC (w := wr) (fun j hj => by rw [hb.cell hb1]; exact hc1 k x ex j hj)
      rw [e1] at hbox ⊢
      have HX := hidOf (show os ++ [lessOne x] = (xs.take (k + 1)).map lessOne by rw [List.take_add_one, ex, List.map_append, ← HI.out]; rfl)
      clear ex hc1 h e1
      have hA : (0 : Int) ≤ (k : Int) := by omega
      have hB : (k : Int) < (n : Int) := by omega
      have HY := hidOf (show lessOne x = wrap64 (x.values - 1) from rfl)
      have ho2 := hown
      have hB2 : Below w.heap.size w wr := hb
      have hs2 := hB2.size
      have hlt2 : w.heap.size < wr.heap.size := by omega
      have hbox2 : wr.cell? ⟨w.heap.size, 1, none⟩ = some (.slice (some ⟨b1, o1, none⟩) n l.c1) := by exact hbox
      go_wp2_with (at_builtin; refine wpList_append_own _ rfl _ _ 31 rfl (w.heap.size + 1) 3 i0 (.int .i64 0) 1 8 Try.underlying31 hi hz0 hz1 hz2 rfl (by decide) _ _ _ rfl (ho2.alloc _) ⟨wr.heap.size, 0, none⟩ 1 1 [.int .i64 (wrap64 (x.values - 1))] rfl rfl (cell_one_new _ _ _) (fun x hx => by simp at hx; subst hx; rfl) (by unfold maxLen; omega) (by omega) (by simp; omega) ?_; intro v' w3 hown' hgrow3 hnil3)
      go_roundw
      case rel => exact ⟨k + 1, os ++ [lessOne x], by omega, by go_num, hidOf (by have := HOL.out; simp; omega), HX, by rw [HY.out]; simpa [intVals] using hown', by rw [World.cell?_of_block (hgrow3.block w.heap.size (by simp; omega) (fun e => by have := (ho2.lt _ e.symm).1; omega)), World.cell?_of_block (Below.heap_alloc _ _ _ hlt2)]; exact hbox2, by have := hgrow3.size; simp at this; omega, (hB2.alloc (by omega) _).grown hgrow3 (by simp; omega) (fun q hq => by have := (ho2.lt q hq).1; omega)⟩
      case measure => simp [intOf]; omega
    · go_wp2
      go_ret
      have h3 := HN.out
      have h4 := HI.out
      have h5 : k = n := by omega
      rw [List.take_of_length_le (by omega)] at h4
      rw [h4, h5, h3] at hown
      rw [h5, h3]
      exact ints_mk hb (ownsRow_base (base' := w.heap.size) (by rw [List.length_map]; exact hown) (by omega))
end Go.Proofs.Ytndnngfljoamdaa
/- What DrawValuesOk and DrawSplitsAt draw; lists of numbers that are the same; what all-split values are. -/
namespace Go.Proofs.Ytndnngfljoamdaa
open Go.RowKit

theorem rx_pair {w w2 : World} {p : Pc} {l : Pl} (hb : Below (w.alloc (.cells noCells 29)).heap.size (w.alloc (.cells noCells 29)) w2) (ho : Own4 (w.alloc (.cells noCells 29)).heap.size w2 p l) : RX w w.heap.size w2 p l := by
  obtain ⟨h1, h2, h3⟩ := res_new hb
  exact ⟨h2, h1, Nat.le_refl _, ho.base (by simp)⟩

set_option maxHeartbeats 1600000 in
set_option maxRecDepth 20000 in
theorem drawVal_any (base : Nat) (w : World) (a : Option Addr) (len cap : Nat) (hc : CodeAt base w a len) (hb : base ≤ w.heap.size) :
    Calls Try.prog 14 #[.slice a len cap] w fun e w' => PvAns w e w' := by
  have HC := hidOf hc
  clear hc
  go_enter Try.func14, Try.ntmps14
  go_wp2_with fail
  refine (pair_any base _ a len cap (code_alloc HC.out hb _) (by simp; omega)).mono ?_
  rintro e w1 ⟨p, l, vs, av, cv, rfl, hF, hvl, ho, hv, hb1⟩
  have X := rx_pair hb1 ho
  have H := hidOf (And.intro hF (And.intro hvl (ownsRow_base (base' := w.heap.size) hv (by simp))))
  clear hF hvl ho hv hb1
  obtain ⟨r0, r1, r2, r3, r4⟩ := X.cells
  have rf0 := X.frozen 0
  have rf1 := X.frozen 1
  have rf2 := X.frozen 2
  have rf3 := X.frozen 3
  have rf4 := X.frozen 4
  go_wp2
  refine bodyPost_ret (v := .tuple #[pcV p l, .slice av vs.length cv]) (by simp [results, Try.results14, go_sem, r0, r1, r2, r3, r4]) rfl (pv_mk H.out.1 H.out.2.1 (X.fin _ _ _ _ _) (X.finVals H.out.2.2 (by decide) _ _ _ _ _))

/-- A piece, values for it, and a place. -/
def PviAns (w : World) (e : Ending) (w' : World) : Prop :=
  ∃ (p : Pc) (l : Pl) (vs : List Int) (av : Option Addr) (cv : Nat) (i : Int), e = .returned (.tuple #[pcV p l, .slice av vs.length cv, .int .i64 i]) ∧ Fit p ∧ vs.length ≤ 10 ∧ Own4 w.heap.size w' p l ∧ w'.ownsRow w.heap.size 3 1 (.slice av vs.length cv) vs.length (intVals vs) ∧ Below w.heap.size w w'
theorem pvi_mk {w w' : World} {p : Pc} {l : Pl} {vs : List Int} {av : Option Addr} {cv : Nat} {i : Int} (h1 : Fit p) (h2 : vs.length ≤ 10) (h3 : Own4 w.heap.size w' p l ∧ Below w.heap.size w w') (h4 : w'.ownsRow w.heap.size 3 1 (.slice av vs.length cv) vs.length (intVals vs)) : PviAns w (.returned (.tuple #[pcV p l, .slice av vs.length cv, .int .i64 i])) w' := ⟨p, l, vs, av, cv, i, rfl, h1, h2, h3.1, h4, h3.2⟩

set_option maxHeartbeats 4000000 in
set_option maxRecDepth 20000 in
theorem drawAt_any (base : Nat) (w : World) (a : Option Addr) (len cap : Nat) (hc : CodeAt base w a len) (hb : base ≤ w.heap.size) :
    Calls Try.prog 15 #[.slice a len cap] w fun e w' => PviAns w e w' := by
  have HC := hidOf hc
  clear hc
  go_enter Try.func15, Try.ntmps15
  go_wp2_with fail
  refine (new_any base _ a len cap (code_alloc HC.out hb _) (by simp; omega)).mono ?_
  rintro e w1 ⟨blk, rfl, hbk, hc1, hb1⟩
  have H1 := hidOf (And.intro hc1 (And.intro hb1 hbk))
  clear hc1 hb1 hbk
  go_wp2_with fail
  refine (below_any base _ blk a len cap 10 H1.out.1 (by omega) (by omega)).mono ?_
  rintro e w2 ⟨y, hy, rfl, hc2, hg2⟩
  have H2 : Hid (Below (w.alloc (.cells noCells 29)).heap.size (w.alloc (.cells noCells 29)) w2) := H1.out.2.1.grown hg2 H1.out.2.1.size (fun k e => by cases e; exact H1.out.2.2)
  clear hc2 hg2 H1
  go_wp2_with fail
  refine (pair_any base w2 a len cap ((code_alloc HC.out hb _).below (H2.out.mono (by simp; omega))) (by have := H2.out.size; simp at this; omega)).mono ?_
  rintro e w3 ⟨p, l, vs, av, cv, rfl, hF, hvl, ho, hv, hb3⟩
  have hsz := H2.out.size
  have X := (rx_pair (H2.out.trans (hb3.mono hsz)) (ho.base hsz)).alloc (.cells (pcCells p l) 29)
  have H := hidOf (And.intro hF (And.intro hvl ((ownsRow_base (base' := w.heap.size) hv (by simp at hsz; omega)).alloc (.cells (pcCells p l) 29))))
  have hRl : w.heap.size < w3.heap.size := by have := hb3.size; simp at hsz; omega
  clear hF hvl ho hv hb3 hsz
  go_upto_region 4 with fail
  obtain ⟨pb, hpb⟩ : ∃ pb, pb = w3.heap.size := ⟨_, rfl⟩
  obtain ⟨R, hRr⟩ : ∃ R, R = w.heap.size := ⟨_, rfl⟩
  obtain ⟨W, hW⟩ : ∃ W, W = w3.alloc (.cells (pcCells p l) 29) := ⟨_, rfl⟩
  have b0 : W.cell? ⟨pb, 0, none⟩ = some (.int .i64 p.indent) := by rw [hW, hpb]; simp
  have b1 : W.cell? ⟨pb, 1, none⟩ = some (.slice l.a1 p.rules.length l.c1) := by rw [hW, hpb]; simp
  have b2 : W.cell? ⟨pb, 2, none⟩ = some (.slice l.a2 p.chunks.length l.c2) := by rw [hW, hpb]; simp
  have b3 : W.cell? ⟨pb, 3, none⟩ = some (.slice l.a3 p.spans.length l.c3) := by rw [hW, hpb]; simp
  have b4 : W.cell? ⟨pb, 4, none⟩ = some (.slice l.a4 p.ties.length l.c4) := by rw [hW, hpb]; simp
  have hne : R ≠ pb := by omega
  have hne2 := hne.symm
  rw [← hW, ← hRr] at X
  rw [← hW] at H
  rw [← hW, ← hpb, ← hRr]
  clear hW hpb hRr
  obtain ⟨r0, r1, r2, r3, r4⟩ := X.cells
  have rf0 := X.frozen 0
  have rf1 := X.frozen 1
  have rf2 := X.frozen 2
  have rf3 := X.frozen 3
  have rf4 := X.frozen 4
  go_wp2
  refine bodyPost_ret (v := .tuple #[pcV p l, .slice av vs.length cv, .int .i64 ((y : Int) - 1)]) (by simp [results, Try.results15, go_sem, r0, r1, r2, r3, r4]) rfl (pvi_mk H.out.1 H.out.2.1 (X.fin _ _ _ _ _) (X.finVals H.out.2.2 (by decide) _ _ _ _ _))

set_option maxHeartbeats 1600000 in
theorem sameInts_any (a1 a2 : Option Addr) (c1 c2 : Nat) (ks : List Int) (w : World) (hx0 : ks.length ≤ 4611686018427387904) (h1 : KidsAt w a1 ks) (h2 : KidsAt w a2 ks) :
    Calls Try.prog 26 #[.slice a1 ks.length c1, .slice a2 ks.length c2] w fun e w' => e = .returned (.bool true) ∧ Below w.heap.size w w' := by
  have hx := hx0
  clear hx0
  unfold KidsAt at h1 h2
  obtain ⟨n, hn⟩ : ∃ n, n = ks.length := ⟨_, rfl⟩
  rw [← hn] at h1 h2 hx
  rw [← hn]
  have HN := hidOf hn
  clear hn
  have hne : ((n : Int) != (n : Int)) = false := by simp
  go_enter Try.func26, Try.ntmps26
  go_wp2
  go_loopw [5] (fun i wr => ∃ k q : Nat, k ≤ n ∧ i = .int .i64 k ∧ wr = w.drewN q) (fun i _ => n - (intOf i).toNat)
  case atStart => exact ⟨0, 0, Nat.zero_le _, rfl, rfl⟩
  case round =>
    obtain ⟨k, q, hk, rfl, rfl⟩ := hrel
    by_cases hlt : k < n
    · obtain ⟨x, ex⟩ : ∃ x, ks[k]? = some x := ⟨_, List.getElem?_eq_getElem (by rw [← HN.out]; exact hlt)⟩
      obtain ⟨b1, o1, rfl, hb1, hc1⟩ := h1 (by omega)
      obtain ⟨b2, o2, rfl, hb2, hc2⟩ := h2 (by omega)
      have p0 := hc1 k x ex
      have q0 := hc2 k x ex
      clear ex hc1 hc2 h1 h2
      have hm1 : (x != x) = false := by simp
      have hA : (0 : Int) ≤ (k : Int) := by omega
      have hB : (k : Int) < (n : Int) := by omega
      go_wp2
      go_quiet (fail)
      go_wp2
      go_roundw
      case rel => exact ⟨k + 1, q + nq, by omega, by go_num, rfl⟩
      case measure => simp [intOf]; omega
    · go_wp2
      go_ret
      exact ⟨rfl, below_drewN _ _⟩

theorem allV_at {p : Pc} (h : Drawn p) {j : Nat} {z : Int} (hz : (allV p)[j]? = some z) : ∃ y, p.rules[j]? = some y ∧ z = y.values - 1 ∧ 1 ≤ z := by
  unfold allV at hz
  rw [List.getElem?_map] at hz
  cases hy : p.rules[j]? with
  | none => rw [hy] at hz; cases hz
  | some y =>
    rw [hy] at hz
    have hv := (h.right.rules.2 j y hy).1
    have e : z = wrap64 (y.values - 1) := by cases hz; rfl
    rw [wrap64_in ⟨by omega, by omega⟩] at e
    exact ⟨y, rfl, e, by omega⟩
theorem allV_ok {p : Pc} (h : Drawn p) : ValOk p (allV p) := by
  refine ⟨allV_len p, fun j z y hz hy => ?_⟩
  obtain ⟨y', hy', e, h1⟩ := allV_at h hz
  rw [hy] at hy'
  cases hy'
  omega
theorem allV_splits {p : Pc} (h : Drawn p) {k : Nat} (hk : k + 1 < p.chunks.length) : SplitAt p (allV p) (k : Int) := by
  refine ⟨h.right, allV_ok h, by omega, by omega, fun x z hx hz => ?_⟩
  rw [Int.toNat_natCast] at hx
  obtain ⟨-, ⟨y, hy, -, hf⟩, -⟩ := (h.right.chunks.texts k x hx).2 hk
  obtain ⟨y', hy', e, h1⟩ := allV_at h hz
  rw [hy] at hy'
  cases hy'
  have hv := (h.right.rules.2 _ _ hy).1
  rw [wrap64_in ⟨by omega, by omega⟩] at hf
  omega
theorem st_of {vs : List Int} {r : Int} (h0 : 0 ≤ r) (h1 : r ≤ (vs.length : Int) - 1) : ∃ z, vs[r.toNat]? = some z ∧ st vs r = if 0 < z then 2 else 1 := by
  obtain ⟨k, rfl⟩ := Int.eq_ofNat_of_zero_le h0
  have hk : k < vs.length := by omega
  exact ⟨vs[k], by simp [hk], st_in (List.getElem?_eq_getElem hk)⟩
theorem allV_ties {p : Pc} (h : Drawn p) : TiesHold p (allV p) := by
  refine ⟨allV_ok h, fun j x hx => ?_⟩
  obtain ⟨⟨k0, k1⟩, ⟨u0, u1⟩, -⟩ := h.right.ties.all j x hx
  rw [← allV_len] at k1 u1
  obtain ⟨z, hz, e1⟩ := st_of k0 k1
  obtain ⟨z', hz', e2⟩ := st_of u0 u1
  obtain ⟨-, -, -, h1⟩ := allV_at h hz
  obtain ⟨-, -, -, h2⟩ := allV_at h hz'
  unfold TieOk
  rw [e1, e2, if_pos (by omega), if_pos (by omega)]
  rfl
theorem none_ties {p : Pc} (h : Drawn p) : TiesHold p (List.replicate p.rules.length 0) := by
  refine ⟨⟨by simp, fun j z y hz hy => ?_⟩, fun j x hx => ?_⟩
  · have hv := (h.right.rules.2 j y hy).1
    rw [List.getElem?_replicate] at hz
    split at hz
    · cases hz
      omega
    · cases hz
  · obtain ⟨⟨k0, k1⟩, ⟨u0, u1⟩, -⟩ := h.right.ties.all j x hx
    rw [show p.rules.length = (List.replicate p.rules.length (0 : Int)).length by simp] at k1 u1
    have h0 : ∀ {r : Nat} {z : Int}, (List.replicate p.rules.length (0 : Int))[r]? = some z → z = 0 := fun {r z} hz => by
      rw [List.getElem?_replicate] at hz
      split at hz
      · cases hz; rfl
      · cases hz
    obtain ⟨z, hz, e1⟩ := st_of k0 k1
    obtain ⟨z', hz', e2⟩ := st_of u0 u1
    have h1 := h0 hz
    have h2 := h0 hz'
    unfold TieOk
    rw [e1, e2, if_neg (by omega), if_neg (by omega)]
    rfl
theorem prod_ge : ∀ (xs : List Ru) (c : Int), 1 ≤ c → (∀ x ∈ xs, 2 ≤ x.values ∧ x.values ≤ 3) → c ≤ prod c xs
  | [], c, _, _ => Int.le_refl _
  | x :: xs, c, hc, h => by
    have hx := h x (List.mem_cons_self ..)
    have h2 : c * 2 ≤ c * x.values := Int.mul_le_mul_of_nonneg_left hx.1 (by omega)
    have := prod_ge xs (c * x.values) (by omega) (fun y hy => h y (List.mem_cons_of_mem _ hy))
    unfold prod
    rw [if_pos hx]
    omega
theorem cnt_two {p : Pc} (h : Drawn p) : 2 ≤ cntOf p := by
  have hr : ∀ x ∈ p.rules, 2 ≤ x.values ∧ x.values ≤ 3 := fun x hx => by
    obtain ⟨j, hj⟩ := List.mem_iff_getElem?.1 hx
    exact (h.right.rules.2 j x hj).1
  have h1 := h.r1
  unfold cntOf
  cases hrs : p.rules with
  | nil => rw [hrs] at h1; simp at h1
  | cons x xs =>
    rw [hrs] at hr
    have hx := hr x (List.mem_cons_self ..)
    show 2 ≤ prod 1 (x :: xs.take 7)
    have := prod_ge (xs.take 7) (1 * x.values) (by omega) (fun y hy => hr y (List.mem_cons_of_mem _ (List.mem_of_mem_take hy)))
    unfold prod
    rw [if_pos hx]
    omega
end Go.Proofs.Ytndnngfljoamdaa
/- What the drawing functions of chapter 9 draw. -/
namespace Go.Proofs.Ytndnngfljoamdaa
open Go.RowKit

set_option maxHeartbeats 1600000 in
set_option maxRecDepth 20000 in
theorem drawRen_any (base : Nat) (w : World) (a : Option Addr) (len cap : Nat) (hc : CodeAt base w a len) (hb : base ≤ w.heap.size) :
    Calls Try.prog 32 #[.slice a len cap] w fun e w' => PvAns w e w' := by
  have HC := hidOf hc
  clear hc
  go_enter Try.func32, Try.ntmps32
  go_wp2_with fail
  refine (pair_any base _ a len cap (code_alloc HC.out hb _) (by simp; omega)).mono ?_
  rintro e w1 ⟨p, l, vs, av, cv, rfl, hF, hvl, ho, hv, hb1⟩
  have X := rx_pair hb1 ho
  have H := hidOf (And.intro hF (And.intro hvl (ownsRow_base (base' := w.heap.size) hv (by simp))))
  clear hF hvl ho hv hb1
  obtain ⟨r0, r1, r2, r3, r4⟩ := X.cells
  have rf0 := X.frozen 0
  have rf1 := X.frozen 1
  have rf2 := X.frozen 2
  have rf3 := X.frozen 3
  have rf4 := X.frozen 4
  go_wp2
  refine bodyPost_ret (v := .tuple #[pcV p l, .slice av vs.length cv]) (by simp [results, Try.results32, go_sem, r0, r1, r2, r3, r4]) rfl (pv_mk H.out.1 H.out.2.1 (X.fin _ _ _ _ _) (X.finVals H.out.2.2 (by decide) _ _ _ _ _))

set_option maxHeartbeats 4000000 in
set_option maxRecDepth 20000 in
theorem drawCo_any (base : Nat) (w : World) (a : Option Addr) (len cap : Nat) (hc : CodeAt base w a len) (hb : base ≤ w.heap.size) :
    Calls Try.prog 33 #[.slice a len cap] w fun e w' => PviAns w e w' := by
  have HC := hidOf hc
  clear hc
  go_enter Try.func33, Try.ntmps33
  go_wp2_with fail
  refine (new_any base _ a len cap (code_alloc HC.out hb _) (by simp; omega)).mono ?_
  rintro e w1 ⟨blk, rfl, hbk, hc1, hb1⟩
  have H1 := hidOf (And.intro hc1 (And.intro hb1 hbk))
  clear hc1 hb1 hbk
  go_wp2_with fail
  refine (pickInt_in base _ blk a len cap w1.heap.size 6 6 [10, 20, 40, 0, -1, 9223372036854775807] (H1.out.1.kept (World.grownBy_alloc w1 _ none) (fun k e => by cases e)) (by omega) (by omega) rfl (by have := H1.out.1.lt; omega) (by simp) (fun j _ => intCells_at w1 _ _ [10, 20, 40, 0, -1, 9223372036854775807] rfl j)).mono ?_
  rintro e w2 ⟨y, hy, rfl, hc2, hg2⟩
  have H2 : Hid (Below (w.alloc (.cells noCells 29)).heap.size (w.alloc (.cells noCells 29)) w2) := (H1.out.2.1.alloc H1.out.2.1.size _).grown hg2 (by have := H1.out.2.1.size; simp at this; simp; omega) (fun k e => by cases e; exact H1.out.2.2)
  clear hc2 hg2 H1 hy
  go_wp2_with fail
  refine (pair_any base w2 a len cap ((code_alloc HC.out hb _).below (H2.out.mono (by simp; omega))) (by have := H2.out.size; simp at this; omega)).mono ?_
  rintro e w3 ⟨p, l, vs, av, cv, rfl, hF, hvl, ho, hv, hb3⟩
  have hsz := H2.out.size
  have X := (rx_pair (H2.out.trans (hb3.mono hsz)) (ho.base hsz)).alloc (.cells (pcCells p l) 29)
  have H := hidOf (And.intro hF (And.intro hvl ((ownsRow_base (base' := w.heap.size) hv (by simp at hsz; omega)).alloc (.cells (pcCells p l) 29))))
  have hRl : w.heap.size < w3.heap.size := by have := hb3.size; simp at hsz; omega
  clear hF hvl ho hv hb3 hsz
  go_upto_region 4 with fail
  obtain ⟨pb, hpb⟩ : ∃ pb, pb = w3.heap.size := ⟨_, rfl⟩
  obtain ⟨R, hRr⟩ : ∃ R, R = w.heap.size := ⟨_, rfl⟩
  obtain ⟨W, hW⟩ : ∃ W, W = w3.alloc (.cells (pcCells p l) 29) := ⟨_, rfl⟩
  have b0 : W.cell? ⟨pb, 0, none⟩ = some (.int .i64 p.indent) := by rw [hW, hpb]; simp
  have b1 : W.cell? ⟨pb, 1, none⟩ = some (.slice l.a1 p.rules.length l.c1) := by rw [hW, hpb]; simp
  have b2 : W.cell? ⟨pb, 2, none⟩ = some (.slice l.a2 p.chunks.length l.c2) := by rw [hW, hpb]; simp
  have b3 : W.cell? ⟨pb, 3, none⟩ = some (.slice l.a3 p.spans.length l.c3) := by rw [hW, hpb]; simp
  have b4 : W.cell? ⟨pb, 4, none⟩ = some (.slice l.a4 p.ties.length l.c4) := by rw [hW, hpb]; simp
  have hne : R ≠ pb := by omega
  have hne2 := hne.symm
  rw [← hW, ← hRr] at X
  rw [← hW] at H
  rw [← hW, ← hpb, ← hRr]
  clear hW hpb hRr
  obtain ⟨r0, r1, r2, r3, r4⟩ := X.cells
  have rf0 := X.frozen 0
  have rf1 := X.frozen 1
  have rf2 := X.frozen 2
  have rf3 := X.frozen 3
  have rf4 := X.frozen 4
  go_wp2
  refine bodyPost_ret (v := .tuple #[pcV p l, .slice av vs.length cv, .int .i64 y]) (by simp [results, Try.results33, go_sem, r0, r1, r2, r3, r4]) rfl (pvi_mk H.out.1 H.out.2.1 (X.fin _ _ _ _ _) (X.finVals H.out.2.2 (by decide) _ _ _ _ _))

set_option maxHeartbeats 1600000 in
set_option maxRecDepth 20000 in
theorem drawWid_any (base : Nat) (w : World) (a : Option Addr) (len cap : Nat) (hc : CodeAt base w a len) (hb : base ≤ w.heap.size) :
    Calls Try.prog 30 #[.slice a len cap] w fun e w' => ∃ y : Int, 10 ≤ y ∧ y ≤ 80 ∧ e = .returned (.int .i64 y) ∧ Below w.heap.size w w' := by
  have HC := hidOf hc
  clear hc
  go_enter Try.func30, Try.ntmps30
  go_wp2_with fail
  refine (new_any base _ a len cap HC.out hb).mono ?_
  rintro e w1 ⟨blk, rfl, hbk, hc1, hb1⟩
  have H1 := hidOf (And.intro hc1 (And.intro hb1 hbk))
  clear hc1 hb1 hbk
  go_wp2_with fail
  refine (pickInt_in base _ blk a len cap w1.heap.size 6 6 [10, 20, 30, 40, 60, 80] (H1.out.1.kept (World.grownBy_alloc w1 _ none) (fun k e => by cases e)) (by omega) (by omega) rfl (by have := H1.out.1.lt; omega) (by simp) (fun j _ => intCells_at w1 _ _ [10, 20, 30, 40, 60, 80] rfl j)).mono ?_
  rintro e w2 ⟨y, hy, rfl, hc2, hg2⟩
  have H2 : Hid (Below w.heap.size w w2) := (H1.out.2.1.alloc H1.out.2.1.size _).grown hg2 (by have := H1.out.2.1.size; simp; omega) (fun k e => by cases e; exact H1.out.2.2)
  have hy2 : 10 ≤ y ∧ y ≤ 80 := by
    simp only [List.mem_cons, List.not_mem_nil, or_false] at hy
    omega
  clear hc2 hg2 hy
  go_wp2
  go_ret
  exact ⟨y, hy2.1, hy2.2, rfl, H2.out⟩

/-- A right piece and right values for it. -/
def PrAns (w : World) (e : Ending) (w' : World) : Prop :=
  ∃ (p : Pc) (l : Pl) (vs : List Int) (av : Option Addr) (cv : Nat), e = .returned (.tuple #[pcV p l, .slice av vs.length cv]) ∧ Drawn p ∧ ValOk p vs ∧ Own4 w.heap.size w' p l ∧ w'.ownsRow w.heap.size 3 1 (.slice av vs.length cv) vs.length (intVals vs) ∧ Below w.heap.size w w'

set_option maxHeartbeats 8000000 in
set_option maxRecDepth 20000 in
theorem drawValues_any (base : Nat) (w : World) (a : Option Addr) (len cap : Nat) (hc : CodeAt base w a len) (hb : base ≤ w.heap.size) :
    Calls Try.prog 28 #[.slice a len cap] w fun e w' => PrAns w e w' := by
  obtain ⟨i0, hi, hz0, hz1, hz2⟩ := info_parts infoIntT
  have HC := hidOf hc
  clear hc
  go_enter Try.func28, Try.ntmps28
  go_wp2_with fail
  refine (new_any base _ a len cap (code_alloc HC.out hb _) (by simp; omega)).mono ?_
  rintro e w1 ⟨blk, rfl, hbk, hc1, hb1⟩
  have H1 := hidOf (And.intro hc1 (And.intro hb1 hbk))
  clear hc1 hb1 hbk
  go_wp2_with fail
  refine (piece_any base w1 blk a len cap H1.out.1).mono ?_
  rintro e w2 ⟨p, l, rfl, hD, ho, hc2, hg2⟩
  have X := hidOf (rx_of H1.out.2.1 H1.out.2.2 hg2 ho)
  have HD := hidOf hD
  have hn1 : 1 ≤ p.rules.length := hD.r1
  have hn9 : p.rules.length ≤ 5 := hD.r5
  have V0 := vs_start hc2 ho H1.out.1.lt
  have Hlo : Hid (w.heap.size < blk) := by have h := H1.out.2.2; rw [size_alloc1] at h; exact (by omega : w.heap.size < blk)
  have hsz1 : Hid (w.heap.size ≤ w1.heap.size) := by have h := H1.out.2.1.size; rw [size_alloc1] at h; exact (by omega : w.heap.size ≤ w1.heap.size)
  clear hD ho hg2 hc2 H1
  go_wp2
  go_loopw [6, 7] (fun v i wr => ∃ (k : Nat) (vs : List Int), k ≤ p.rules.length ∧ i = .int .i64 k ∧ Hid (vs.length = k) ∧ Hid (∀ (j : Nat) (z : Int) (y : Ru), vs[j]? = some z → p.rules[j]? = some y → 0 ≤ z ∧ z ≤ y.values - 1) ∧ VS base w1.heap.size w2 blk a len cap wr p l v vs)
    (fun _ i _ => p.rules.length - (intOf i).toNat)
  case atStart => exact ⟨0, [], by omega, rfl, hidOf rfl, hidOf (fun j z y h => by simp at h), V0⟩
  case round =>
    clear V0
    obtain ⟨k, vs, hk, rfl, HL, HV, V⟩ := hrel
    obtain ⟨ao, cv, rfl⟩ := owns_slice V.vals
    have c0 := cell_of_row wr _ 0 _ _ _ V.box
    have c1 := V.cells
    have c2 := cell_of_row wr _ 2 _ _ _ V.box
    have c3 := cell_of_row wr _ 3 _ _ _ V.box
    have c4 := cell_of_row wr _ 4 _ _ _ V.box
    by_cases hlt : k < p.rules.length
    · obtain ⟨x, ex⟩ : ∃ x, p.rules[k]? = some x := ⟨_, List.getElem?_eq_getElem hlt⟩
      obtain ⟨b1, o1, e1, hb1, hc1⟩ := V.own.is.rules (by omega)
      obtain ⟨p0, p1⟩ := ruC (w := wr) (fun j hj => hc1 k x ex j hj)
      obtain ⟨⟨hx1, hx2⟩, -⟩ := HD.out.right.rules.2 k x ex
      rw [e1] at c1
      have EX := hidOf ex
      clear ex hc1 e1 c0 c2 c3 c4
      have hA : (0 : Int) ≤ (k : Int) := by omega
      have hB2 : (k : Int) < (p.rules.length : Int) := by omega
      have hkl : vs.length ≤ 9 := by have := HL.out; omega
      go_wp2_with fail
      refine (below_any base _ blk a len cap _ V.cur (by omega) (by omega)).mono ?_
      rintro e w3 ⟨y, hy, rfl, hc1, hg1⟩
      have V1 := V.draw hc1 hg1
      clear hc1 hg1 p0 p1 c1 V
      have hs1 := V1.lt
      go_wp2_with (at_builtin; refine wpList_append_own _ rfl _ _ 31 rfl (w2.heap.size + 1) 3 i0 (.int .i64 0) 1 8 Try.underlying31 hi hz0 hz1 hz2 rfl (by decide) _ _ _ rfl (V1.alloc _).vals ⟨w3.heap.size, 0, none⟩ 1 1 [.int .i64 (y : Int)] rfl rfl (cell_one_new w3 _ _) (fun x hx => by simp at hx; subst hx; rfl) (by unfold maxLen; omega) (by omega) (by simp; omega) ?_; intro v' w4 hown' hgrow4 hnil4)
      go_roundw
      case rel => exact ⟨k + 1, vs ++ [(y : Int)], by omega, by go_num, hidOf (by have := HL.out; simp; omega), hidOf (fun j z y' hz hy' => by
        by_cases e : j < vs.length
        · rw [List.getElem?_append_left e] at hz
          exact HV.out j z y' hz hy'
        · have hjl := (List.getElem?_eq_some_iff.1 hz).1
          rw [List.length_append, List.length_singleton] at hjl
          have hjk : j = vs.length := by omega
          subst hjk
          rw [List.getElem?_append_right (Nat.le_refl _), Nat.sub_self] at hz
          have e1 := EX.out
          rw [← HL.out, hy'] at e1
          cases e1
          cases hz
          omega), (V1.alloc _).app hown' hgrow4⟩
      case measure => simp [intOf]; omega
    · have hM : ¬ (k : Int) < (p.rules.length : Int) := by omega
      have hkn : vs.length = p.rules.length := by have := HL.out; omega
      have XX : RX w w.heap.size wr p l := ⟨X.out.bel.grown V.grow X.out.bel.size (fun q e => by cases e; have := Hlo.out; omega), (V.grow.block _ X.out.lt (fun e => by have := Option.some.inj e; have := Hlo.out; omega)).trans X.out.res, X.out.new, V.own.base hsz1.out⟩
      obtain ⟨r0, r1, r2, r3, r4⟩ := XX.cells
      have rf0 := XX.frozen 0
      have rf1 := XX.frozen 1
      have rf2 := XX.frozen 2
      have rf3 := XX.frozen 3
      have rf4 := XX.frozen 4
      have hap : w.heap.size ≠ w2.heap.size := by have := X.out.lt; omega
      have hap2 := hap.symm
      have HV2 := hidOf (And.intro (ValOk.mk hkn HV.out) (ownsRow_base (base' := w.heap.size) V.vals (by have := X.out.lt; omega)))
      clear hkn V HV HL
      go_wp2
      refine bodyPost_ret (v := .tuple #[pcV p l, .slice ao vs.length cv]) (by simp [results, Try.results28, go_sem, r0, r1, r2, r3, r4]) rfl ?_
      obtain ⟨q1, q2⟩ := XX.fin (.int .i64 p.indent) (.slice l.a1 p.rules.length l.c1) (.slice l.a2 p.chunks.length l.c2) (.slice l.a3 p.spans.length l.c3) (.slice l.a4 p.ties.length l.c4)
      exact ⟨p, l, vs, ao, cv, rfl, HD.out, HV2.out.1, q1, XX.finVals HV2.out.2 (by decide) _ _ _ _ _, q2⟩
end Go.Proofs.Ytndnngfljoamdaa
/- What DrawCostLess draws. -/
namespace Go.Proofs.Ytndnngfljoamdaa
open Go.RowKit

/-- Two costs that will be told, and a third one in a variable; a draw by the cursor leaves them. -/
structure CX (base : Nat) (w0 : World) (R1 R2 pb blk : Nat) (o s : Int) (a : Option Addr) (len cap : Nat) (w : World) : Prop where
  bel : Below w0.heap.size w0 w
  cur : Cur base w blk a len cap
  r1 : w.heap[R1]? = some (.cells #[.int .i64 0, .int .i64 0] 50 (0, 0))
  r2 : w.heap[R2]? = some (.cells #[.int .i64 0, .int .i64 0] 50 (0, 0))
  box : w.heap[pb]? = some (.cells #[.int .i64 o, .int .i64 s] 50 (0, 0))
  n1 : R1 ≠ blk
  n2 : R2 ≠ blk
  n3 : pb ≠ blk
  low : w0.heap.size ≤ blk
section
variable {base : Nat} {w0 : World} {R1 R2 pb blk : Nat} {o s : Int} {a : Option Addr} {len cap : Nat} {w w' : World}
theorem CX.draw (h : CX base w0 R1 R2 pb blk o s a len cap w) (hc : Cur base w' blk a len cap) (hg : w.grownBy w' (some blk)) : CX base w0 R1 R2 pb blk o s a len cap w' :=
  ⟨h.bel.grown hg h.bel.size (fun k e => by cases e; exact h.low), hc, (hg.block R1 (Array.getElem?_eq_some_iff.1 h.r1).1 (fun e => h.n1 (Option.some.inj e))).trans h.r1, (hg.block R2 (Array.getElem?_eq_some_iff.1 h.r2).1 (fun e => h.n2 (Option.some.inj e))).trans h.r2, (hg.block pb (Array.getElem?_eq_some_iff.1 h.box).1 (fun e => h.n3 (Option.some.inj e))).trans h.box, h.n1, h.n2, h.n3, h.low⟩
theorem CX.drew (h : CX base w0 R1 R2 pb blk o s a len cap w) : CX base w0 R1 R2 pb blk o s a len cap w.drew := by
  have g : w.grownBy w.drew none := grownBy_of_below (Below.refl w.heap.size w).drew none
  exact ⟨h.bel.trans (Below.refl _ w).drew, h.cur.kept g (fun k e => by cases e), h.r1, h.r2, h.box, h.n1, h.n2, h.n3, h.low⟩
theorem CX.cells (h : CX base w0 R1 R2 pb blk o s a len cap w) : (w.cell? ⟨pb, 0, none⟩ = some (.int .i64 o) ∧ w.cell? ⟨pb, 1, none⟩ = some (.int .i64 s)) ∧ (w.cell? ⟨R1, 0, none⟩ = some (.int .i64 0) ∧ w.cell? ⟨R1, 1, none⟩ = some (.int .i64 0)) ∧ w.cell? ⟨R2, 0, none⟩ = some (.int .i64 0) ∧ w.cell? ⟨R2, 1, none⟩ = some (.int .i64 0) :=
  ⟨⟨cell_of_row w _ 0 _ _ _ h.box, cell_of_row w _ 1 _ _ _ h.box⟩, ⟨cell_of_row w _ 0 _ _ _ h.r1, cell_of_row w _ 1 _ _ _ h.r1⟩, cell_of_row w _ 0 _ _ _ h.r2, cell_of_row w _ 1 _ _ _ h.r2⟩
end
/-- Two costs. -/
def ClAns (w : World) (e : Ending) (w' : World) : Prop := ∃ o1 s1 o2 s2 : Int, e = .returned (.tuple #[.agg #[.int .i64 o1, .int .i64 s1], .agg #[.int .i64 o2, .int .i64 s2]]) ∧ Below w.heap.size w w'

set_option maxHeartbeats 4000000 in
set_option maxRecDepth 20000 in
theorem drawLess_any (base : Nat) (w : World) (a : Option Addr) (len cap : Nat) (hc : CodeAt base w a len) (hb : base ≤ w.heap.size) :
    Calls Try.prog 34 #[.slice a len cap] w fun e w' => ClAns w e w' := by
  have HC := hidOf hc
  clear hc
  go_enter Try.func34, Try.ntmps34
  go_wp2_with fail
  obtain ⟨W0, hW0⟩ : ∃ W0, W0 = (w.alloc (.cells #[.int .i64 0, .int .i64 0] 50)).alloc (.cells #[.int .i64 0, .int .i64 0] 50) := ⟨_, rfl⟩
  rw [← hW0]
  have B0 : Hid (Below w.heap.size w W0) := by rw [hW0]; exact ((Below.refl _ _).alloc (Nat.le_refl _) _).alloc (by simp) _
  have F1 : Hid (W0.heap[w.heap.size]? = some (.cells #[.int .i64 0, .int .i64 0] 50 (0, 0))) := by rw [hW0]; exact (Below.heap_alloc _ _ _ (by simp)).trans (heap_alloc_new w _)
  have F2 : Hid (W0.heap[w.heap.size + 1]? = some (.cells #[.int .i64 0, .int .i64 0] 50 (0, 0))) := by rw [hW0, ← size_alloc1 w (.cells #[.int .i64 0, .int .i64 0] 50)]; exact heap_alloc_new _ _
  have hz : Hid (W0.heap.size = w.heap.size + 2) := hidOf (show W0.heap.size = w.heap.size + 2 by rw [hW0]; simp)
  clear hW0
  refine (new_any base W0 a len cap (HC.out.below (B0.out.mono hb)) (by have := hz.out; omega)).mono ?_
  rintro e w1 ⟨blk, rfl, hbk, hc1, hb1⟩
  have H1 := hidOf (And.intro hc1 (And.intro hb1 hbk))
  clear hc1 hb1 hbk
  go_wp2_with fail
  refine (below_any base _ blk a len cap 3 H1.out.1 (by omega) (by omega)).mono ?_
  rintro e w2 ⟨y1, hy1, rfl, hc2, hg2⟩
  have H2 := hidOf (And.intro hc2 (H1.out.2.1.grown hg2 H1.out.2.1.size (fun k e => by cases e; exact H1.out.2.2)))
  clear hc2 hg2
  go_wp2_with fail
  refine (below_any base _ blk a len cap 3 H2.out.1 (by omega) (by omega)).mono ?_
  rintro e w3 ⟨y2, hy2, rfl, hc3, hg3⟩
  have H3 := hidOf (And.intro hc3 (H2.out.2.grown hg3 H2.out.2.size (fun k e => by cases e; exact H1.out.2.2)))
  have hblk := hidOf H1.out.2.2
  clear hc3 hg3 H1 H2
  have C : CX base w w.heap.size (w.heap.size + 1) w3.heap.size blk (y1 : Int) (y2 : Int) a len cap (w3.alloc (.cells #[.int .i64 (y1 : Int), .int .i64 (y2 : Int)] 50)) := by
    have h1 := hz.out
    have h2 := hblk.out
    have h3 := H3.out.2.size
    have h4 := H3.out.1.lt
    refine ⟨?_, H3.out.1.kept (World.grownBy_alloc w3 _ none) (fun k e => by cases e), ?_, ?_, heap_alloc_new w3 _, by omega, by omega, by omega, by omega⟩
    · have hq := B0.out.trans (H3.out.2.mono B0.out.size)
      exact hq.alloc hq.size _
    · exact (Below.heap_alloc _ _ _ (by omega)).trans ((H3.out.2.block _ (by omega)).trans F1.out)
    · exact (Below.heap_alloc _ _ _ (by omega)).trans ((H3.out.2.block _ (by omega)).trans F2.out)
  go_upto_region 3 with fail
  obtain ⟨pb, hpb⟩ : ∃ pb, pb = w3.heap.size := ⟨_, rfl⟩
  obtain ⟨W, hW⟩ : ∃ W, W = w3.alloc (.cells #[.int .i64 (y1 : Int), .int .i64 (y2 : Int)] 50) := ⟨_, rfl⟩
  rw [← hW, ← hpb] at C
  rw [← hW, ← hpb]
  have hp1 : w.heap.size ≠ pb := by have := hz.out; have := H3.out.2.size; omega
  have hp2 : w.heap.size + 1 ≠ pb := by have := hz.out; have := H3.out.2.size; omega
  have hp3 := hp1.symm
  have hp4 := hp2.symm
  have hp5 : w.heap.size ≠ w.heap.size + 1 := by omega
  clear hW hpb H3 B0 F1 F2 hz hblk hy1 hy2
  obtain ⟨⟨b0, b1⟩, ⟨d0, d1⟩, e0, e1⟩ := C.cells
  have Cd := C.drew
  go_region_law (first
    | (refine step_call (by rfl) 62 _ (by go_simp; try rfl) ((below_any base _ blk a len cap 3 C1.cur (by omega) (by omega)).mono ?_); rintro e u2 ⟨y4, hy4, rfl, hc4, hg4⟩; have C2 := C1.draw hc4 hg4; obtain ⟨⟨m0, m1⟩, ⟨m2, m3⟩, m4, m5⟩ := C2.cells; have f0 := frozen_of_row u2 _ 0 _ _ C2.r1; have f1 := frozen_of_row u2 _ 1 _ _ C2.r1; have f2 := frozen_of_row u2 _ 0 _ _ C2.r2; have f3 := frozen_of_row u2 _ 1 _ _ C2.r2; refine ⟨_, rfl, ?_⟩)
    | (refine step_call (by rfl) 62 _ (by go_simp; try rfl) ((below_any base _ blk a len cap 3 Cd.cur (by omega) (by omega)).mono ?_); rintro e u1 ⟨y3, hy3, rfl, hc3, hg3⟩; have C1 := Cd.draw hc3 hg3; obtain ⟨⟨n0, n1⟩, ⟨n2, n3⟩, n4, n5⟩ := C1.cells; refine ⟨_, rfl, ?_⟩))
  all_goals go_wp2
  all_goals refine bodyPost_ret (v := .tuple #[.agg #[.int .i64 (y1 : Int), .int .i64 (y2 : Int)], .agg #[.int .i64 (y3 : Int), .int .i64 (y4 : Int)]]) (by simp [results, Try.results34, go_sem, m2, m3, m4, m5]) rfl ⟨_, _, _, _, rfl, ?_⟩
  all_goals
    have q1 : w.heap.size ≤ w.heap.size + 1 := by omega
    exact (((C2.bel.setCell (Nat.le_refl _) _).setCell (Nat.le_refl _) _).setCell q1 _).setCell q1 _

end Go.Proofs.Ytndnngfljoamdaa
/- What DrawCompare draws. -/
namespace Go.Proofs.Ytndnngfljoamdaa
open Go.RowKit

/-- Numbers that are being drawn, in memory of their own. -/
structure IS (base : Nat) (w0 : World) (blk : Nat) (a : Option Addr) (len cap : Nat) (w : World) (v : Value) (us : List Int) : Prop where
  cur : Cur base w blk a len cap
  grow : w0.grownBy w (some blk)
  old : blk < w0.heap.size
  vals : w.ownsRow w0.heap.size 3 1 v us.length (intVals us)
section
variable {base : Nat} {w0 : World} {blk : Nat} {a : Option Addr} {len cap : Nat} {w w' : World} {v v' : Value} {us : List Int}
theorem IS.draw (h : IS base w0 blk a len cap w v us) (hc : Cur base w' blk a len cap) (hg : w.grownBy w' (some blk)) : IS base w0 blk a len cap w' v us :=
  ⟨hc, grown_row h.grow hg (fun k e => .inr e), h.old, kept_ob h.vals hg (fun k e e' => by cases e; have := (h.vals.lt _ e').1; have := h.old; omega)⟩
theorem IS.alloc (h : IS base w0 blk a len cap w v us) (o : Obj) : IS base w0 blk a len cap (w.alloc o) v us :=
  ⟨h.cur.kept (World.grownBy_alloc w o none) (fun k e => by cases e), grown_row h.grow (World.grownBy_alloc w o none) (fun k e => by cases e), h.old, kept_ob h.vals (World.grownBy_alloc w o none) (fun k e => by cases e)⟩
theorem IS.app (h : IS base w0 blk a len cap w v us) {x : Int} (hown : w'.ownsRow w0.heap.size 3 1 v' (us.length + 1) (intVals us ++ [.int .i64 x])) (hg : w.grownBy w' v.ownBlock) : IS base w0 blk a len cap w' v' (us ++ [x]) := by
  have hk : ∀ k, v.ownBlock = some k → w0.heap.size ≤ k := fun k e => (h.vals.lt k e).1
  have hco := h.cur.own
  have hol := h.old
  exact ⟨h.cur.kept hg (fun k e => by have := hk k e; exact ⟨by omega, by omega⟩), grown_row h.grow hg (fun k e => .inl (hk k e)), h.old, by simpa [intVals] using hown⟩
end
theorem is_start {base : Nat} {w : World} {blk : Nat} {a : Option Addr} {len cap : Nat} (hc : Cur base w blk a len cap) : IS base w blk a len cap (w.alloc (.cells #[] 3)) (.slice (some ⟨w.heap.size, 0, none⟩) 0 0) [] :=
  ⟨hc.kept (World.grownBy_alloc w _ none) (fun k e => by cases e), grown_row (World.grownBy.refl w (some blk)) (World.grownBy_alloc w _ none) (fun k e => by cases e), hc.lt, World.ownsRow_made w #[] 0 (Nat.le_refl _) (by decide) rfl⟩
/-- Two lists of numbers. -/
def CmAns (w : World) (e : Ending) (w' : World) : Prop := ∃ (us bs : List Int) (a1 a2 : Option Addr) (c1 c2 : Nat), e = .returned (.tuple #[.slice a1 us.length c1, .slice a2 bs.length c2]) ∧ us.length ≤ 5 ∧ bs.length ≤ 5 ∧ KidsAt w' a1 us ∧ KidsAt w' a2 bs ∧ Below w.heap.size w w'
theorem own_some {w : World} {b e s n c : Nat} {ao : Option Addr} {xs : List Value} (h : w.ownsRow b e s (.slice ao n c) n xs) (hne : Value.slice ao n c ≠ .slice none 0 0) : ∃ g, ao = some ⟨g, 0, none⟩ := by
  rcases h.2 with ⟨e, _⟩ | ⟨g, cap, cur, e, _⟩
  · exact absurd e hne
  · injection e with e1
    exact ⟨g, e1⟩

set_option maxHeartbeats 8000000 in
set_option maxRecDepth 20000 in
theorem drawCmp_any (base : Nat) (w : World) (a : Option Addr) (len cap : Nat) (hc : CodeAt base w a len) (hb : base ≤ w.heap.size) :
    Calls Try.prog 35 #[.slice a len cap] w fun e w' => CmAns w e w' := by
  obtain ⟨i0, hi, hz0, hz1, hz2⟩ := info_parts infoIntT
  have HC := hidOf hc
  clear hc
  go_enter Try.func35, Try.ntmps35
  go_wp2_with fail
  refine (new_any base w a len cap HC.out hb).mono ?_
  rintro e w1 ⟨blk, rfl, hbk, hc1, hb1⟩
  have V0 := is_start hc1
  have H1 := hidOf (And.intro hb1 hbk)
  clear hc1 hb1 hbk
  go_wp2
  go_loopw [5, 6] (fun v i wr => ∃ (k : Nat) (us : List Int), k ≤ 4 ∧ i = .int .i64 k ∧ Hid (us.length = k) ∧ Hid (v ≠ .slice none 0 0) ∧ IS base w1 blk a len cap wr v us) (fun _ i _ => 4 - (intOf i).toNat)
  case atStart => exact ⟨0, [], by omega, rfl, hidOf rfl, hidOf (by simp), V0⟩
  case round =>
    clear V0
    obtain ⟨k, us, hk, rfl, HL, HNe, V⟩ := hrel
    obtain ⟨ao, cv, rfl⟩ := owns_slice V.vals
    go_wp2_with fail
    refine (below_any base _ blk a len cap 4 V.cur (by omega) (by omega)).mono ?_
    rintro e w2 ⟨y, hy, rfl, hc2, hg2⟩
    have V2 := V.draw hc2 hg2
    clear hc2 hg2 V
    by_cases hlt : (k : Int) < (y : Int)
    · have hkl : us.length ≤ 4 := by have := HL.out; omega
      go_wp2_with fail
      refine (below_any base _ blk a len cap 3 V2.cur (by omega) (by omega)).mono ?_
      rintro e w3 ⟨z, hz, rfl, hc3, hg3⟩
      have V3 := V2.draw hc3 hg3
      clear hc3 hg3 V2
      have hs3 := V3.grow.size
      go_wp2_with (at_builtin; refine wpList_append_own _ rfl _ _ 31 rfl w1.heap.size 3 i0 (.int .i64 0) 1 8 Try.underlying31 hi hz0 hz1 hz2 rfl (by decide) _ _ _ rfl (V3.alloc _).vals ⟨w3.heap.size, 0, none⟩ 1 1 [.int .i64 (z : Int)] rfl rfl (cell_one_new w3 _ _) (fun x hx => by simp at hx; subst hx; rfl) (by unfold maxLen; omega) (by omega) (by simp; omega) ?_; intro v' w4 hown' hgrow4 hnil4)
      go_roundw
      case rel => exact ⟨k + 1, us ++ [(z : Int)], by omega, by go_num, hidOf (by have := HL.out; simp; omega), hidOf (fun e => HNe.out (hnil4.1 e).1), (V3.alloc _).app hown' hgrow4⟩
      case measure => simp [intOf]; omega
    · have hul : us.length ≤ 4 := by have := HL.out; omega
      have hdk : decide (k < y) = false := by simp; omega
      have hdk2 : decide ((k : Int) < (y : Int)) = false := by simp; omega
      obtain ⟨g, hg⟩ := own_some V2.vals HNe.out
      subst hg
      have U := hidOf V2.vals
      have D0 := is_start V2.cur
      have G2 := hidOf V2.grow
      have OL := hidOf V2.old
      clear V2 HL HNe hy
      go_wp2
      go_loopw [7, 8] (fun v i wr => ∃ (k : Nat) (bs : List Int), k ≤ 4 ∧ i = .int .i64 k ∧ Hid (bs.length = k) ∧ IS base w2 blk a len cap wr v bs) (fun _ i _ => 4 - (intOf i).toNat)
      case atStart => exact ⟨0, [], by omega, rfl, hidOf rfl, D0⟩
      case round =>
        clear D0
        obtain ⟨k2, bs, hk2, rfl, HL, V⟩ := hrel
        obtain ⟨a2, cv2, rfl⟩ := owns_slice V.vals
        go_wp2_with fail
        refine (below_any base _ blk a len cap 4 V.cur (by omega) (by omega)).mono ?_
        rintro e w3 ⟨y2, hy2, rfl, hc3, hg3⟩
        have V3 := V.draw hc3 hg3
        clear hc3 hg3 V
        by_cases hlt2 : (k2 : Int) < (y2 : Int)
        · have hkl : bs.length ≤ 4 := by have := HL.out; omega
          go_wp2_with fail
          refine (below_any base _ blk a len cap 3 V3.cur (by omega) (by omega)).mono ?_
          rintro e w4 ⟨z, hz, rfl, hc4, hg4⟩
          have V4 := V3.draw hc4 hg4
          clear hc4 hg4 V3
          have hs4 := V4.grow.size
          go_wp2_with (at_builtin; refine wpList_append_own _ rfl _ _ 31 rfl w2.heap.size 3 i0 (.int .i64 0) 1 8 Try.underlying31 hi hz0 hz1 hz2 rfl (by decide) _ _ _ rfl (V4.alloc _).vals ⟨w4.heap.size, 0, none⟩ 1 1 [.int .i64 (z : Int)] rfl rfl (cell_one_new w4 _ _) (fun x hx => by simp at hx; subst hx; rfl) (by unfold maxLen; omega) (by omega) (by simp; omega) ?_; intro v' w5 hown' hgrow5 hnil5)
          go_roundw
          case rel => exact ⟨k2 + 1, bs ++ [(z : Int)], by omega, by go_num, hidOf (by have := HL.out; simp; omega), (V4.alloc _).app hown' hgrow5⟩
          case measure => simp [intOf]; omega
        · have hbl : bs.length ≤ 4 := by have := HL.out; omega
          clear HL
          go_wp2_with fail
          refine (once_any base _ blk a len cap 4 V3.cur (by omega) (by omega)).mono ?_
          rintro e w5 ⟨b, rfl, hc5, hg5⟩
          have V5 := V3.draw hc5 hg5
          clear hc5 hg5 V3
          have U5 : w5.ownsRow w1.heap.size 3 1 (.slice (some ⟨g, 0, none⟩) us.length cv) us.length (intVals us) := kept_ob U.out V5.grow (fun q e e' => by cases e; have := (U.out.lt _ e').1; have := OL.out; omega)
          have BW : Hid (Below w.heap.size w w5) := ((H1.out.1.grown G2.out H1.out.1.size (fun q e => by cases e; exact H1.out.2)).grown V5.grow (by have := G2.out.size; have := H1.out.1.size; omega) (fun q e => by cases e; exact H1.out.2))
          have hz5 : w2.heap.size ≤ w5.heap.size := V5.grow.size
          cases b with
          | true =>
            have hown0 := World.ownsRow_made (e := 3) (size := 1) (base := w5.heap.size) w5 #[] 0 (Nat.le_refl _) (by decide) rfl
            have hsrc : ∀ j u, (intVals us)[j]? = some u → (w5.alloc (.cells #[] 3)).cell? ((⟨g, 0, none⟩ : Addr).add j) = some u := fun j u hj => by
              have hjl := (List.getElem?_eq_some_iff.1 hj).1
              rw [intVals_len] at hjl
              have hgl := (U5.lt g rfl).2
              have h := U5.cellAt j (by omega)
              rw [hj] at h
              rw [show ((⟨g, 0, none⟩ : Addr).add j) = ⟨g, j, none⟩ by unfold Addr.add; split <;> simp_all]
              rw [World.cell?_of_block (Below.heap_alloc w5 _ g hgl)]
              exact h
            go_wp2_with (at_builtin; refine wpList_append_own _ rfl _ _ 31 rfl w5.heap.size 3 i0 (.int .i64 0) 1 8 Try.underlying31 hi hz0 hz1 hz2 rfl (by decide) _ _ _ rfl hown0 ⟨g, 0, none⟩ us.length cv (intVals us) rfl (by rw [intVals_len]; omega) hsrc (fun x hx => by unfold intVals at hx; rw [List.mem_map] at hx; obtain ⟨y, -, rfl⟩ := hx; rfl) (by unfold maxLen; omega) (by omega) (by simp) ?_; intro v' w6 hown' hgrow6 hnil6)
            rw [Nat.zero_add, List.nil_append] at hown'
            obtain ⟨a6, c6, rfl⟩ := owns_slice hown'
            have U6 := kept_ob (kept_ob U5 (World.grownBy_alloc w5 (.cells #[] 3) none) (fun q e => by cases e)) hgrow6 (fun q e e' => by
              have h1 : w5.heap.size = q := Option.some.inj e
              have h2 := (U5.lt q e').2
              omega)
            have B6 : Below w.heap.size w w6 := (BW.out.alloc BW.out.size _).grown hgrow6 (by have := BW.out.size; simp; omega) (fun q e => by have h1 : w5.heap.size = q := Option.some.inj e; have := BW.out.size; omega)
            go_wp2
            go_ret2
            exact ⟨us, us, _, a6, _, c6, rfl, by omega, by omega, .of_own U6, .of_own hown', B6⟩
          | false =>
            have K5 := KidsAt.of_own U5
            have K6 := KidsAt.of_own V5.vals
            clear V5 U5
            go_wp2
            go_ret2
            exact ⟨us, bs, _, _, _, _, rfl, by omega, by omega, K5, K6, BW.out⟩
end Go.Proofs.Ytndnngfljoamdaa
