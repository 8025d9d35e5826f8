/- What impl.TiesHold answers, where no rule has the least number that there is. -/
import Derived.Test.YtbjfkfohkpdlfaaValP
namespace Go.Proofs.Ytbjfkfohkpdlfaa
open Go.RowKit

/-- What a list of values makes of a rule: 0 it is not there, 1 its value is 0, 2 it is above 0. -/
def st (vs : List Int) (r : Int) : Nat := if 0 ≤ r ∧ r < (vs.length : Int) then (if 0 < vs.getD r.toNat 0 then 2 else 1) else 0
def kB : Nat → Int
  | 0 => 0
  | 1 => 1
  | _ => 5
def uB : Nat → Int
  | 0 => 0
  | 1 => 2
  | _ => 10
theorem st_cases (vs : List Int) (r : Int) : st vs r = 0 ∨ st vs r = 1 ∨ st vs r = 2 := by
  unfold st
  split
  · split <;> simp
  · simp

set_option maxHeartbeats 1600000 in
theorem rbK_any (a : Option Addr) (c : Nat) (vs : List Int) (r : Int) (w : World) (hv : KidsAt w a vs) :
    Calls Try.prog 100 #[.slice a vs.length c, .int .i64 r, .int .u8 1, .int .u8 4] w fun e w' => e = .returned (.int .u8 (kB (st vs r))) ∧ w' = w := by
  unfold KidsAt at hv
  by_cases h0 : r < 0
  · have e : st vs r = 0 := by unfold st; rw [if_neg (by omega)]
    rw [e]
    clear e hv
    go_enter Try.func100, Try.ntmps100
    go_wp2
    go_ret
    exact ⟨rfl, rfl⟩
  · by_cases h1 : r ≥ (vs.length : Int)
    · have e : st vs r = 0 := by unfold st; rw [if_neg (by omega)]
      rw [e]
      clear e hv
      go_enter Try.func100, Try.ntmps100
      go_wp2
      go_ret
      exact ⟨rfl, rfl⟩
    · obtain ⟨k, rfl⟩ := Int.eq_ofNat_of_zero_le (show 0 ≤ r by omega)
      obtain ⟨z, ez⟩ : ∃ z, vs[k]? = some z := ⟨_, List.getElem?_eq_getElem (by omega)⟩
      obtain ⟨b1, o1, rfl, hb1, hc1⟩ := hv (by omega)
      have p0 := hc1 k z ez
      have hA : (0 : Int) ≤ (k : Int) := by omega
      have hB : (k : Int) < (vs.length : Int) := by omega
      have hg : vs.getD (k : Int).toNat 0 = z := by rw [Int.toNat_natCast, List.getD_eq_getElem?_getD, ez]; rfl
      by_cases hz : 0 < z
      · have e : st vs (k : Int) = 2 := by unfold st; rw [if_pos ⟨hA, hB⟩, hg, if_pos hz]
        rw [e]
        clear e hc1 hv ez hg
        go_enter Try.func100, Try.ntmps100
        go_wp2
        go_ret
        exact ⟨rfl, rfl⟩
      · have e : st vs (k : Int) = 1 := by unfold st; rw [if_pos ⟨hA, hB⟩, hg, if_neg hz]
        rw [e]
        clear e hc1 hv ez hg
        go_enter Try.func100, Try.ntmps100
        go_wp2
        go_ret
        exact ⟨rfl, rfl⟩

set_option maxHeartbeats 1600000 in
theorem rbU_any (a : Option Addr) (c : Nat) (vs : List Int) (r : Int) (w : World) (hv : KidsAt w a vs) :
    Calls Try.prog 100 #[.slice a vs.length c, .int .i64 r, .int .u8 2, .int .u8 8] w fun e w' => e = .returned (.int .u8 (uB (st vs r))) ∧ w' = w := by
  unfold KidsAt at hv
  by_cases h0 : r < 0
  · have e : st vs r = 0 := by unfold st; rw [if_neg (by omega)]
    rw [e]
    clear e hv
    go_enter Try.func100, Try.ntmps100
    go_wp2
    go_ret
    exact ⟨rfl, rfl⟩
  · by_cases h1 : r ≥ (vs.length : Int)
    · have e : st vs r = 0 := by unfold st; rw [if_neg (by omega)]
      rw [e]
      clear e hv
      go_enter Try.func100, Try.ntmps100
      go_wp2
      go_ret
      exact ⟨rfl, rfl⟩
    · obtain ⟨k, rfl⟩ := Int.eq_ofNat_of_zero_le (show 0 ≤ r by omega)
      obtain ⟨z, ez⟩ : ∃ z, vs[k]? = some z := ⟨_, List.getElem?_eq_getElem (by omega)⟩
      obtain ⟨b1, o1, rfl, hb1, hc1⟩ := hv (by omega)
      have p0 := hc1 k z ez
      have hA : (0 : Int) ≤ (k : Int) := by omega
      have hB : (k : Int) < (vs.length : Int) := by omega
      have hg : vs.getD (k : Int).toNat 0 = z := by rw [Int.toNat_natCast, List.getD_eq_getElem?_getD, ez]; rfl
      by_cases hz : 0 < z
      · have e : st vs (k : Int) = 2 := by unfold st; rw [if_pos ⟨hA, hB⟩, hg, if_pos hz]
        rw [e]
        clear e hc1 hv ez hg
        go_enter Try.func100, Try.ntmps100
        go_wp2
        go_ret
        exact ⟨rfl, rfl⟩
      · have e : st vs (k : Int) = 1 := by unfold st; rw [if_pos ⟨hA, hB⟩, hg, if_neg hz]
        rw [e]
        clear e hc1 hv ez hg
        go_enter Try.func100, Try.ntmps100
        go_wp2
        go_ret
        exact ⟨rfl, rfl⟩

/-- The two together. -/
def bothB (s t : Nat) : Int := kB s + uB t
/-- A tie whose rules are so holds. -/
def holdB (s t : Nat) : Bool := decide (1 ≤ s) && decide (1 ≤ t) && (decide (s ≤ 1) || decide (2 ≤ t))

set_option maxHeartbeats 1600000 in
theorem tbits_any (x : Ti) (a : Option Addr) (c : Nat) (vs : List Int) (w : World) (hv : KidsAt w a vs) :
    Calls Try.prog 74 #[.agg #[.int .i64 x.kid, .int .i64 x.up], .slice a vs.length c] w fun e w' => e = .returned (.int .u8 (bothB (st vs x.kid) (st vs x.up))) ∧ Below w.heap.size w w' := by
  have HB : ∀ o1 : Obj, Below w.heap.size w (w.alloc o1) := fun o1 => (Below.refl _ _).alloc (Nat.le_refl _) _
  have q0 := fun W h => rbK_any a c vs x.kid W h
  have q1 := fun W h => rbU_any a c vs x.up W h
  have hW : ∀ (ob : Obj) (n : Nat), KidsAt ((w.alloc ob).drewN n) a vs := fun ob n => hv.below (bel_drewN (HB ob) n) (Nat.le_refl _)
  have HV := hidOf hW
  clear hW hv
  rcases st_cases vs x.kid with e1 | e1 | e1
  all_goals rcases st_cases vs x.up with e2 | e2 | e2
  all_goals rw [e1] at q0 ⊢
  all_goals rw [e2] at q1 ⊢
  all_goals clear e1 e2
  all_goals simp only [kB, uB] at q0 q1
  all_goals go_enter Try.func74, Try.ntmps74
  all_goals go_wp2
  all_goals go_quiet ((first | (go_at_call_of 100 (x.kid); exact Calls.quiet_of_same (q0 _ (HV.out _ _))) | (go_at_call_of 100 (x.up); exact Calls.quiet_of_same (q1 _ (HV.out _ _)))))
  all_goals go_wp2
  all_goals go_ret
  all_goals exact ⟨rfl, bel_drewN (HB _) _⟩

set_option maxHeartbeats 1600000 in
theorem holds_any (s t : Nat) (hs : s ≤ 2) (ht : t ≤ 2) (w : World) :
    Calls Try.prog 75 #[.int .u8 (bothB s t)] w fun e w' => e = .returned (.bool (holdB s t)) ∧ w' = w := by
  have b0_3 : bits .and .u8 0 3 = 0 := by decide
  have b0_4 : bits .and .u8 0 4 = 0 := by decide
  have b0_8 : bits .and .u8 0 8 = 0 := by decide
  have b2_3 : bits .and .u8 2 3 = 2 := by decide
  have b2_4 : bits .and .u8 2 4 = 0 := by decide
  have b2_8 : bits .and .u8 2 8 = 0 := by decide
  have b10_3 : bits .and .u8 10 3 = 2 := by decide
  have b10_4 : bits .and .u8 10 4 = 0 := by decide
  have b10_8 : bits .and .u8 10 8 = 8 := by decide
  have b1_3 : bits .and .u8 1 3 = 1 := by decide
  have b1_4 : bits .and .u8 1 4 = 0 := by decide
  have b1_8 : bits .and .u8 1 8 = 0 := by decide
  have b3_3 : bits .and .u8 3 3 = 3 := by decide
  have b3_4 : bits .and .u8 3 4 = 0 := by decide
  have b3_8 : bits .and .u8 3 8 = 0 := by decide
  have b11_3 : bits .and .u8 11 3 = 3 := by decide
  have b11_4 : bits .and .u8 11 4 = 0 := by decide
  have b11_8 : bits .and .u8 11 8 = 8 := by decide
  have b5_3 : bits .and .u8 5 3 = 1 := by decide
  have b5_4 : bits .and .u8 5 4 = 4 := by decide
  have b5_8 : bits .and .u8 5 8 = 0 := by decide
  have b7_3 : bits .and .u8 7 3 = 3 := by decide
  have b7_4 : bits .and .u8 7 4 = 4 := by decide
  have b7_8 : bits .and .u8 7 8 = 0 := by decide
  have b15_3 : bits .and .u8 15 3 = 3 := by decide
  have b15_4 : bits .and .u8 15 4 = 4 := by decide
  have b15_8 : bits .and .u8 15 8 = 8 := by decide
  rcases (show s = 0 ∨ s = 1 ∨ s = 2 by omega) with rfl | rfl | rfl
  all_goals rcases (show t = 0 ∨ t = 1 ∨ t = 2 by omega) with rfl | rfl | rfl
  all_goals simp only [bothB, kB, uB]
  all_goals go_enter Try.func75, Try.ntmps75
  all_goals go_wp2
  all_goals go_ret
  all_goals exact ⟨rfl, rfl⟩

/-- A tie holds. -/
def TieOk (vs : List Int) (x : Ti) : Prop := holdB (st vs x.kid) (st vs x.up) = true
structure TiesHold (p : Pc) (vs : List Int) : Prop where
  vals : ValOk p vs
  ties : ∀ (j : Nat) (x : Ti), p.ties[j]? = some x → TieOk vs x

set_option maxHeartbeats 8000000 in
theorem iTie_any (p : Pc) (l : Pl) (a : Option Addr) (c : Nat) (vs : List Int) (w : World) (hF : PcFew p) (hm0 : vs.length ≤ 1048576) (hR : NoLeast p.rules) (hp : PcIn w p l) (hv : KidsAt w a vs) :
    Calls Try.prog 36 #[pcV p l, .slice a vs.length c] w fun e w' => Tells (TiesHold p vs) w e w' := by
  show Calls _ _ #[.agg #[.int .i64 p.indent, .slice l.a1 p.rules.length l.c1, .slice l.a2 p.chunks.length l.c2, .slice l.a3 p.spans.length l.c3, .slice l.a4 p.ties.length l.c4], _] _ _
  go_enter Try.func36, Try.ntmps36
  go_wp2_with fail
  obtain ⟨W0, hW0, X0, B0, S0⟩ := boxed w p l 29
  rw [← hW0]
  have I0 := hp.below B0 (Nat.le_refl _)
  have V0 := hv.below B0 (Nat.le_refl _)
  have hX : w.heap.size < W0.heap.size := by omega
  clear hW0 S0 hp hv
  obtain ⟨-, c0, c1, c2, c3, c4⟩ := X0
  refine (iVal_any p l a c vs _ hF.rules hm0 hR I0.rules V0).mono ?_
  rintro e w1 hq
  by_cases h2 : ValOk p vs
  · obtain ⟨rfl, A1⟩ := hq.yes h2
    have k1 := fun o => A1.cell (p := ⟨w.heap.size, o, none⟩) hX
    clear hq
    have T1 := I0.ties.below A1 (Nat.le_refl _)
    have V1 := V0.below A1 (Nat.le_refl _)
    have hft := hF.ties
    have HV2 := hidOf h2
    obtain ⟨n, hn⟩ : ∃ n, n = p.ties.length := ⟨_, rfl⟩
    have HN := hidOf hn
    unfold RowsAt at T1
    rw [← hn] at T1 c4 hft ⊢
    clear hn h2 I0 V0
    go_wp2
    go_loopw [14] (fun i wr => ∃ k : Nat, k ≤ n ∧ i = .int .i64 k ∧ Hid (∀ (j : Nat) (x : Ti), j < k → p.ties[j]? = some x → TieOk vs x) ∧ Below w1.heap.size w1 wr) (fun i _ => n - (intOf i).toNat)
    case atStart => exact ⟨0, Nat.zero_le _, rfl, hidOf fun j x h => by omega, Below.refl _ _⟩
    case round =>
      obtain ⟨k, hk, rfl, HA, hb⟩ := hrel
      have BW := B0.trans ((A1.trans (hb.mono A1.size)).mono B0.size)
      by_cases hlt : k < n
      · obtain ⟨x, ex⟩ : ∃ x, p.ties[k]? = some x := ⟨_, List.getElem?_eq_getElem (by rw [← HN.out]; exact hlt)⟩
        obtain ⟨b1, o1, ea, hb1, hc1⟩ := T1 (by omega)
        obtain ⟨p0, p1⟩ := tiC (w := wr) (fun j hj => by rw [hb.cell hb1]; exact hc1 k x ex j hj)
        rw [ea]
        have EX := hidOf ex
        have HB : ∀ o1 : Obj, Below w1.heap.size w1 (wr.alloc o1) := fun o1 => hb.alloc hb.size _
        have HBW : ∀ o1 : Obj, Below w.heap.size w (wr.alloc o1) := fun o1 => BW.alloc BW.size _
        clear ex hc1 T1 ea
        have hA : (0 : Int) ≤ (k : Int) := by omega
        have hB : (k : Int) < (n : Int) := by omega
        have s1 : st vs x.kid ≤ 2 := by rcases st_cases vs x.kid with h | h | h <;> omega
        have s2 : st vs x.up ≤ 2 := by rcases st_cases vs x.up with h | h | h <;> omega
        go_wp2_with fail
        refine (tbits_any x a c vs _ (V1.below (HB _) (Nat.le_refl _))).mono ?_
        rintro e w2 ⟨rfl, hb2⟩
        have BB := (HB _).trans (hb2.mono (HB _).size)
        have BBW := (HBW _).trans (hb2.mono (HBW _).size)
        clear hb2
        go_wp2_with fail
        refine (holds_any _ _ s1 s2 _).mono ?_
        rintro e w2 ⟨rfl, rfl⟩
        cases hh : holdB (st vs x.kid) (st vs x.up)
        · go_wp2
          go_ret
          exact tells_no (fun h => by have := h.ties k x EX.out; unfold TieOk at this; rw [hh] at this; cases this) BBW
        · go_wp2
          go_roundw
          case rel => exact ⟨k + 1, by omega, by go_num, hidOf (upto_step HA.out EX.out hh), BB⟩
          case measure => simp [intOf]; omega
      · go_wp2
        go_ret
        exact tells_yes ⟨HV2.out, upto_all (by have := HN.out; omega) HA.out⟩ BW
  · obtain ⟨rfl, A1⟩ := hq.no h2
    go_wp2
    go_ret
    exact tells_no (fun h => h2 h.vals) (B0.trans (A1.mono B0.size))
end Go.Proofs.Ytbjfkfohkpdlfaa
