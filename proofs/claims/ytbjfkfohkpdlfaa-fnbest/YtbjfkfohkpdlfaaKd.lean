/- What impl.ValuesOk and spec.ValuesOk answer, where no rule has the least number that there is. -/
import Derived.Test.YtbjfkfohkpdlfaaValLib
import Derived.Test.YtbjfkfohkpdlfaaCntI
import Derived.Test.YtbjfkfohkpdlfaaBoxPc
import Derived.Deep.RegionWith
import Derived.BigQuiet
import Derived.Deep.QuietTactic
namespace Go.Proofs.Ytbjfkfohkpdlfaa
open Go.RowKit

theorem val_no {p : Pc} {vs : List Int} {k : Nat} {z : Int} {y : Ru} (hz : vs[k]? = some z) (hy : p.rules[k]? = some y) (h : ¬ (0 ≤ z ∧ z ≤ y.values - 1)) : ¬ ValOk p vs := fun hv => h (hv.all k z y hz hy)

set_option maxHeartbeats 8000000 in
theorem iVal_any (p : Pc) (l : Pl) (a : Option Addr) (c : Nat) (vs : List Int) (w : World) (hn0 : p.rules.length ≤ 1048576) (hm0 : vs.length ≤ 1048576) (hR : NoLeast p.rules) (hp : RowsAt 2 ruCells w l.a1 p.rules) (hv : KidsAt w a vs) :
    Calls Try.prog 43 #[pcV p l, .slice a vs.length c] w fun e w' => Tells (ValOk p vs) w e w' := by
  show Calls _ _ #[.agg #[.int .i64 p.indent, .slice l.a1 p.rules.length l.c1, .slice l.a2 p.chunks.length l.c2, .slice l.a3 p.spans.length l.c3, .slice l.a4 p.ties.length l.c4], _] _ _
  have HB : ∀ o1 : Obj, Below w.heap.size w (w.alloc o1) := fun o1 => (Below.refl _ _).alloc (Nat.le_refl _) _
  have hm1 := hm0
  clear hm0
  unfold RowsAt at hp
  unfold KidsAt at hv
  by_cases hl : vs.length = p.rules.length
  · obtain ⟨n, hn⟩ : ∃ n, n = p.rules.length := ⟨_, rfl⟩
    rw [hl, ← hn] at hv hm1 ⊢
    rw [← hn] at hp hn0
    have HN := hidOf hn
    have HL := hidOf hl
    have HR := hidOf hR
    clear hn hl hR
    have hne : ((n : Int) != (n : Int)) = false := by simp
    go_enter Try.func43, Try.ntmps43
    go_wp2
    go_loop [15] (fun i => ∃ k : Nat, k ≤ n ∧ i = .int .i64 k ∧ Hid (∀ (j : Nat) (z : Int) (y : Ru), j < k → vs[j]? = some z → p.rules[j]? = some y → 0 ≤ z ∧ z ≤ y.values - 1)) (fun i => n - (intOf i).toNat)
    case atStart => exact ⟨0, Nat.zero_le _, rfl, hidOf fun j z y h => by omega⟩
    case round =>
      obtain ⟨k, hk, rfl, HA⟩ := hrel
      by_cases hlt : k < n
      · obtain ⟨y, ey⟩ : ∃ y, p.rules[k]? = some y := ⟨_, List.getElem?_eq_getElem (by rw [← HN.out]; exact hlt)⟩
        obtain ⟨z, ez⟩ : ∃ z, vs[k]? = some z := ⟨_, List.getElem?_eq_getElem (by rw [HL.out, ← HN.out]; exact hlt)⟩
        obtain ⟨b1, o1, ea, hb1, hc1⟩ := hp (by omega)
        obtain ⟨b2, o2, eb, hb2, hc2⟩ := hv (by omega)
        have p01 := fun ob : Obj => ruC (w := w.alloc ob) (fun j hj => by rw [(HB ob).cell hb1]; exact hc1 k y ey j hj)
        have p0 := fun ob => (p01 ob).1
        have p2 := fun ob : Obj => ((HB ob).cell (p := ⟨b2, o2 + k, none⟩) hb2).trans (hc2 k z ez)
        rw [ea, eb]
        have EY := hidOf ey
        have EZ := hidOf ez
        clear ey ez hc1 hc2 hp hv p01 ea eb
        have hA : (0 : Int) ≤ (k : Int) := by omega
        have hB : (k : Int) < (n : Int) := by omega
        by_cases h1 : z < 0
        · go_wp2
          go_ret
          exact tells_no (val_no EZ.out EY.out (by omega)) (HB _)
        · by_cases h2 : z ≥ y.values
          · go_wp2
            go_ret
            exact tells_no (val_no EZ.out EY.out (by omega)) (HB _)
          · go_wp2
            go_round
            case rel => exact ⟨k + 1, by omega, by go_num, hidOf (fun j z' y' hj hz hy => by
              by_cases e : j = k
              · subst e
                have e1 := EZ.out
                have e2 := EY.out
                rw [hz] at e1
                rw [hy] at e2
                cases e1
                cases e2
                omega
              · exact HA.out j z' y' (by omega) hz hy)⟩
            case measure => simp [intOf]; omega
      · go_wp2
        go_ret
        exact tells_yes ⟨HL.out, fun j z y hz hy => HA.out j z y (by have := (List.getElem?_eq_some_iff.1 hy).1; have := HN.out; omega) hz hy⟩ (HB _)
  · have hne : ((vs.length : Int) != (p.rules.length : Int)) = true := by simp; omega
    have HL := hidOf hl
    clear hl hp hv
    go_enter Try.func43, Try.ntmps43
    go_wp2
    go_ret
    exact tells_no (fun h => HL.out h.len) (HB _)

set_option maxHeartbeats 8000000 in
theorem sVal_any (p : Pc) (l : Pl) (a : Option Addr) (c : Nat) (vs : List Int) (w : World) (hn0 : p.rules.length ≤ 1048576) (hm0 : vs.length ≤ 1048576) (hR : NoLeast p.rules) (hp : RowsAt 2 ruCells w l.a1 p.rules) (hv : KidsAt w a vs) :
    Calls Try.prog 40 #[pcV p l, .slice a vs.length c] w fun e w' => Tells (ValOk p vs) w e w' := by
  show Calls _ _ #[.agg #[.int .i64 p.indent, .slice l.a1 p.rules.length l.c1, .slice l.a2 p.chunks.length l.c2, .slice l.a3 p.spans.length l.c3, .slice l.a4 p.ties.length l.c4], _] _ _
  have hm1 := hm0
  clear hm0
  unfold KidsAt at hv
  by_cases hl : vs.length = p.rules.length
  · obtain ⟨n, hn⟩ : ∃ n, n = p.rules.length := ⟨_, rfl⟩
    rw [hl, ← hn] at hv hm1 ⊢
    rw [← hn] at hn0
    have HN := hidOf hn
    have HL := hidOf hl
    have HR := hidOf hR
    clear hn hl hR
    have hne : ((n : Int) != (n : Int)) = false := by simp
    have X := boxed w p l 29
    rw [← HN.out] at X
    obtain ⟨W0, hW0, X0, B0, S0⟩ := X
    have hX : w.heap.size < W0.heap.size := by omega
    have c1 := X0.c1
    have R0 := hp.below B0 (Nat.le_refl _)
    unfold RowsAt at R0
    rw [← HN.out] at c1 R0
    go_enter Try.func40, Try.ntmps40
    go_wp2
    rw [← hW0]
    clear hW0 S0 hp X0
    go_loopw [5] (fun i wr => ∃ k : Nat, k ≤ n ∧ i = .int .i64 k ∧ Below W0.heap.size W0 wr ∧ Hid (∀ (j : Nat) (z : Int) (y : Ru), j < k → vs[j]? = some z → p.rules[j]? = some y → 0 ≤ z ∧ z ≤ y.values - 1)) (fun i _ => n - (intOf i).toNat)
    case atStart => exact ⟨0, Nat.zero_le _, rfl, Below.refl _ _, hidOf fun j z y h => by omega⟩
    case round =>
      obtain ⟨k, hk, rfl, hb, HA⟩ := hrel
      have BW := B0.trans (hb.mono B0.size)
      have d1 := (hb.cell (p := ⟨w.heap.size, 1, none⟩) hX).trans c1
      by_cases hlt : k < n
      · obtain ⟨y, ey⟩ : ∃ y, p.rules[k]? = some y := ⟨_, List.getElem?_eq_getElem (by rw [← HN.out]; exact hlt)⟩
        obtain ⟨z, ez⟩ : ∃ z, vs[k]? = some z := ⟨_, List.getElem?_eq_getElem (by rw [HL.out, ← HN.out]; exact hlt)⟩
        obtain ⟨b1, o1, ea, hb1, hc1⟩ := R0 (by omega)
        obtain ⟨b2, o2, eb, hb2, hc2⟩ := hv (by omega)
        have hrr := HR.out k y ey
        obtain ⟨p0, p1⟩ := ruC (w := wr) (fun j hj => by rw [hb.cell hb1]; exact hc1 k y ey j hj)
        have p2 := (BW.cell (p := ⟨b2, o2 + k, none⟩) hb2).trans (hc2 k z ez)
        rw [ea] at d1
        rw [ea, eb]
        have EY := hidOf ey
        have EZ := hidOf ez
        clear ey ez hc1 hc2 R0 hv ea eb
        have hA : (0 : Int) ≤ (k : Int) := by omega
        have hB : (k : Int) < (n : Int) := by omega
        have hwv : IntKind.i64.wrap (y.values - 1) = y.values - 1 := IntWalk.i64_in _ ⟨by omega, by omega⟩
        have q0 := fun W => sIn_any z 0 (y.values - 1) W
        by_cases h1 : 0 ≤ z ∧ z ≤ y.values - 1
        · rw [inB_yes h1.1 h1.2] at q0
          have H1 := hidOf h1
          clear h1
          go_wp2
          go_quiet ((go_at_call 42; exact Calls.quiet_of_same (q0 _)))
          go_wp2
          go_roundw
          case rel => exact ⟨k + 1, by omega, by go_num, bel_drewN hb _, hidOf (fun j z' y' hj hz hy => by
            by_cases e : j = k
            · subst e
              have e1 := EZ.out
              have e2 := EY.out
              rw [hz] at e1
              rw [hy] at e2
              cases e1
              cases e2
              exact H1.out
            · exact HA.out j z' y' (by omega) hz hy)⟩
          case measure => simp [intOf]; omega
        · rw [inB_no h1] at q0
          have H1 := hidOf h1
          clear h1
          go_wp2
          go_quiet ((go_at_call 42; exact Calls.quiet_of_same (q0 _)))
          go_wp2
          go_ret
          exact tells_no (val_no EZ.out EY.out H1.out) (bel_drewN BW _)
      · go_wp2
        go_ret
        exact tells_yes ⟨HL.out, fun j z y hz hy => HA.out j z y (by have := (List.getElem?_eq_some_iff.1 hy).1; have := HN.out; omega) hz hy⟩ BW
  · have HB : ∀ o1 : Obj, Below w.heap.size w (w.alloc o1) := fun o1 => (Below.refl _ _).alloc (Nat.le_refl _) _
    have hne : ((vs.length : Int) != (p.rules.length : Int)) = true := by simp; omega
    have HL := hidOf hl
    clear hl hp hv
    go_enter Try.func40, Try.ntmps40
    go_wp2
    go_ret
    exact tells_no (fun h => HL.out h.len) (HB _)
end Go.Proofs.Ytbjfkfohkpdlfaa
/- What impl.TiesHold answers, where no rule has the least number that there is. -/
namespace Go.Proofs.Ytbjfkfohkpdlfaa
open Go.RowKit

/-- What a list of values makes of a rule: 0 it is not there, 1 its value is 0, 2 it is above 0. -/
def st (vs : List Int) (r : Int) : Nat := if 0 ≤ r ∧ r < (vs.length : Int) then (if 0 < vs.getD r.toNat 0 then 2 else 1) else 0
def kB : Nat → Int
  | 0 => 0
  | 1 => 1
  | _ => 5
def uB : Nat → Int
  | 0 => 0
  | 1 => 2
  | _ => 10
theorem st_cases (vs : List Int) (r : Int) : st vs r = 0 ∨ st vs r = 1 ∨ st vs r = 2 := by
  unfold st
  split
  · split <;> simp
  · simp

set_option maxHeartbeats 1600000 in
theorem rbK_any (a : Option Addr) (c : Nat) (vs : List Int) (r : Int) (w : World) (hv : KidsAt w a vs) :
    Calls Try.prog 100 #[.slice a vs.length c, .int .i64 r, .int .u8 1, .int .u8 4] w fun e w' => e = .returned (.int .u8 (kB (st vs r))) ∧ w' = w := by
  unfold KidsAt at hv
  by_cases h0 : r < 0
  · have e : st vs r = 0 := by unfold st; rw [if_neg (by omega)]
    rw [e]
    clear e hv
    go_enter Try.func100, Try.ntmps100
    go_wp2
    go_ret
    exact ⟨rfl, rfl⟩
  · by_cases h1 : r ≥ (vs.length : Int)
    · have e : st vs r = 0 := by unfold st; rw [if_neg (by omega)]
      rw [e]
      clear e hv
      go_enter Try.func100, Try.ntmps100
      go_wp2
      go_ret
      exact ⟨rfl, rfl⟩
    · obtain ⟨k, rfl⟩ := Int.eq_ofNat_of_zero_le (show 0 ≤ r by omega)
      obtain ⟨z, ez⟩ : ∃ z, vs[k]? = some z := ⟨_, List.getElem?_eq_getElem (by omega)⟩
      obtain ⟨b1, o1, rfl, hb1, hc1⟩ := hv (by omega)
      have p0 := hc1 k z ez
      have hA : (0 : Int) ≤ (k : Int) := by omega
      have hB : (k : Int) < (vs.length : Int) := by omega
      have hg : vs.getD (k : Int).toNat 0 = z := by rw [Int.toNat_natCast, List.getD_eq_getElem?_getD, ez]; rfl
      by_cases hz : 0 < z
      · have e : st vs (k : Int) = 2 := by unfold st; rw [if_pos ⟨hA, hB⟩, hg, if_pos hz]
        rw [e]
        clear e hc1 hv ez hg
        go_enter Try.func100, Try.ntmps100
        go_wp2
        go_ret
        exact ⟨rfl, rfl⟩
      · have e : st vs (k : Int) = 1 := by unfold st; rw [if_pos ⟨hA, hB⟩, hg, if_neg hz]
        rw [e]
        clear e hc1 hv ez hg
        go_enter Try.func100, Try.ntmps100
        go_wp2
        go_ret
        exact ⟨rfl, rfl⟩

set_option maxHeartbeats 1600000 in
theorem rbU_any (a : Option Addr) (c : Nat) (vs : List Int) (r : Int) (w : World) (hv : KidsAt w a vs) :
    Calls Try.prog 100 #[.slice a vs.length c, .int .i64 r, .int .u8 2, .int .u8 8] w fun e w' => e = .returned (.int .u8 (uB (st vs r))) ∧ w' = w := by
  unfold KidsAt at hv
  by_cases h0 : r < 0
  · have e : st vs r = 0 := by unfold st; rw [if_neg (by omega)]
    rw [e]
    clear e hv
    go_enter Try.func100, Try.ntmps100
    go_wp2
    go_ret
    exact ⟨rfl, rfl⟩
  · by_cases h1 : r ≥ (vs.length : Int)
    · have e : st vs r = 0 := by unfold st; rw [if_neg (by omega)]
      rw [e]
      clear e hv
      go_enter Try.func100, Try.ntmps100
      go_wp2
      go_ret
      exact ⟨rfl, rfl⟩
    · obtain ⟨k, rfl⟩ := Int.eq_ofNat_of_zero_le (show 0 ≤ r by omega)
      obtain ⟨z, ez⟩ : ∃ z, vs[k]? = some z := ⟨_, List.getElem?_eq_getElem (by omega)⟩
      obtain ⟨b1, o1, rfl, hb1, hc1⟩ := hv (by omega)
      have p0 := hc1 k z ez
      have hA : (0 : Int) ≤ (k : Int) := by omega
      have hB : (k : Int) < (vs.length : Int) := by omega
      have hg : vs.getD (k : Int).toNat 0 = z := by rw [Int.toNat_natCast, List.getD_eq_getElem?_getD, ez]; rfl
      by_cases hz : 0 < z
      · have e : st vs (k : Int) = 2 := by unfold st; rw [if_pos ⟨hA, hB⟩, hg, if_pos hz]
        rw [e]
        clear e hc1 hv ez hg
        go_enter Try.func100, Try.ntmps100
        go_wp2
        go_ret
        exact ⟨rfl, rfl⟩
      · have e : st vs (k : Int) = 1 := by unfold st; rw [if_pos ⟨hA, hB⟩, hg, if_neg hz]
        rw [e]
        clear e hc1 hv ez hg
        go_enter Try.func100, Try.ntmps100
        go_wp2
        go_ret
        exact ⟨rfl, rfl⟩

/-- The two together. -/
def bothB (s t : Nat) : Int := kB s + uB t
/-- A tie whose rules are so holds. -/
def holdB (s t : Nat) : Bool := decide (1 ≤ s) && decide (1 ≤ t) && (decide (s ≤ 1) || decide (2 ≤ t))

set_option maxHeartbeats 1600000 in
theorem tbits_any (x : Ti) (a : Option Addr) (c : Nat) (vs : List Int) (w : World) (hv : KidsAt w a vs) :
    Calls Try.prog 74 #[.agg #[.int .i64 x.kid, .int .i64 x.up], .slice a vs.length c] w fun e w' => e = .returned (.int .u8 (bothB (st vs x.kid) (st vs x.up))) ∧ Below w.heap.size w w' := by
  have HB : ∀ o1 : Obj, Below w.heap.size w (w.alloc o1) := fun o1 => (Below.refl _ _).alloc (Nat.le_refl _) _
  have q0 := fun W h => rbK_any a c vs x.kid W h
  have q1 := fun W h => rbU_any a c vs x.up W h
  have hW : ∀ (ob : Obj) (n : Nat), KidsAt ((w.alloc ob).drewN n) a vs := fun ob n => hv.below (bel_drewN (HB ob) n) (Nat.le_refl _)
  have HV := hidOf hW
  clear hW hv
  rcases st_cases vs x.kid with e1 | e1 | e1
  all_goals rcases st_cases vs x.up with e2 | e2 | e2
  all_goals rw [e1] at q0 ⊢
  all_goals rw [e2] at q1 ⊢
  all_goals clear e1 e2
  all_goals simp only [kB, uB] at q0 q1
  all_goals go_enter Try.func74, Try.ntmps74
  all_goals go_wp2
  all_goals go_quiet ((first | (go_at_call_of 100 (x.kid); exact Calls.quiet_of_same (q0 _ (HV.out _ _))) | (go_at_call_of 100 (x.up); exact Calls.quiet_of_same (q1 _ (HV.out _ _)))))
  all_goals go_wp2
  all_goals go_ret
  all_goals exact ⟨rfl, bel_drewN (HB _) _⟩

set_option maxHeartbeats 1600000 in
theorem holds_any (s t : Nat) (hs : s ≤ 2) (ht : t ≤ 2) (w : World) :
    Calls Try.prog 75 #[.int .u8 (bothB s t)] w fun e w' => e = .returned (.bool (holdB s t)) ∧ w' = w := by
  have b0_3 : bits .and .u8 0 3 = 0 := by decide
  have b0_4 : bits .and .u8 0 4 = 0 := by decide
  have b0_8 : bits .and .u8 0 8 = 0 := by decide
  have b2_3 : bits .and .u8 2 3 = 2 := by decide
  have b2_4 : bits .and .u8 2 4 = 0 := by decide
  have b2_8 : bits .and .u8 2 8 = 0 := by decide
  have b10_3 : bits .and .u8 10 3 = 2 := by decide
  have b10_4 : bits .and .u8 10 4 = 0 := by decide
  have b10_8 : bits .and .u8 10 8 = 8 := by decide
  have b1_3 : bits .and .u8 1 3 = 1 := by decide
  have b1_4 : bits .and .u8 1 4 = 0 := by decide
  have b1_8 : bits .and .u8 1 8 = 0 := by decide
  have b3_3 : bits .and .u8 3 3 = 3 := by decide
  have b3_4 : bits .and .u8 3 4 = 0 := by decide
  have b3_8 : bits .and .u8 3 8 = 0 := by decide
  have b11_3 : bits .and .u8 11 3 = 3 := by decide
  have b11_4 : bits .and .u8 11 4 = 0 := by decide
  have b11_8 : bits .and .u8 11 8 = 8 := by decide
  have b5_3 : bits .and .u8 5 3 = 1 := by decide
  have b5_4 : bits .and .u8 5 4 = 4 := by decide
  have b5_8 : bits .and .u8 5 8 = 0 := by decide
  have b7_3 : bits .and .u8 7 3 = 3 := by decide
  have b7_4 : bits .and .u8 7 4 = 4 := by decide
  have b7_8 : bits .and .u8 7 8 = 0 := by decide
  have b15_3 : bits .and .u8 15 3 = 3 := by decide
  have b15_4 : bits .and .u8 15 4 = 4 := by decide
  have b15_8 : bits .and .u8 15 8 = 8 := by decide
  rcases (show s = 0 ∨ s = 1 ∨ s = 2 by omega) with rfl | rfl | rfl
  all_goals rcases (show t = 0 ∨ t = 1 ∨ t = 2 by omega) with rfl | rfl | rfl
  all_goals simp only [bothB, kB, uB]
  all_goals go_enter Try.func75, Try.ntmps75
  all_goals go_wp2
  all_goals go_ret
  all_goals exact ⟨rfl, rfl⟩

/-- A tie holds. -/
def TieOk (vs : List Int) (x : Ti) : Prop := holdB (st vs x.kid) (st vs x.up) = true
structure TiesHold (p : Pc) (vs : List Int) : Prop where
  vals : ValOk p vs
  ties : ∀ (j : Nat) (x : Ti), p.ties[j]? = some x → TieOk vs x

set_option maxHeartbeats 8000000 in
theorem iTie_any (p : Pc) (l : Pl) (a : Option Addr) (c : Nat) (vs : List Int) (w : World) (hF : PcFew p) (hm0 : vs.length ≤ 1048576) (hR : NoLeast p.rules) (hp : PcIn w p l) (hv : KidsAt w a vs) :
    Calls Try.prog 36 #[pcV p l, .slice a vs.length c] w fun e w' => Tells (TiesHold p vs) w e w' := by
  show Calls _ _ #[.agg #[.int .i64 p.indent, .slice l.a1 p.rules.length l.c1, .slice l.a2 p.chunks.length l.c2, .slice l.a3 p.spans.length l.c3, .slice l.a4 p.ties.length l.c4], _] _ _
  go_enter Try.func36, Try.ntmps36
  go_wp2_with fail
  obtain ⟨W0, hW0, X0, B0, S0⟩ := boxed w p l 29
  rw [← hW0]
  have I0 := hp.below B0 (Nat.le_refl _)
  have V0 := hv.below B0 (Nat.le_refl _)
  have hX : w.heap.size < W0.heap.size := by omega
  clear hW0 S0 hp hv
  obtain ⟨-, c0, c1, c2, c3, c4⟩ := X0
  refine (iVal_any p l a c vs _ hF.rules hm0 hR I0.rules V0).mono ?_
  rintro e w1 hq
  by_cases h2 : ValOk p vs
  · obtain ⟨rfl, A1⟩ := hq.yes h2
    have k1 := fun o => A1.cell (p := ⟨w.heap.size, o, none⟩) hX
    clear hq
    have T1 := I0.ties.below A1 (Nat.le_refl _)
    have V1 := V0.below A1 (Nat.le_refl _)
    have hft := hF.ties
    have HV2 := hidOf h2
    obtain ⟨n, hn⟩ : ∃ n, n = p.ties.length := ⟨_, rfl⟩
    have HN := hidOf hn
    unfold RowsAt at T1
    rw [← hn] at T1 c4 hft ⊢
    clear hn h2 I0 V0
    go_wp2
    go_loopw [14] (fun i wr => ∃ k : Nat, k ≤ n ∧ i = .int .i64 k ∧ Hid (∀ (j : Nat) (x : Ti), j < k → p.ties[j]? = some x → TieOk vs x) ∧ Below w1.heap.size w1 wr) (fun i _ => n - (intOf i).toNat)
    case atStart => exact ⟨0, Nat.zero_le _, rfl, hidOf fun j x h => by omega, Below.refl _ _⟩
    case round =>
      obtain ⟨k, hk, rfl, HA, hb⟩ := hrel
      have BW := B0.trans ((A1.trans (hb.mono A1.size)).mono B0.size)
      by_cases hlt : k < n
      · obtain ⟨x, ex⟩ : ∃ x, p.ties[k]? = some x := ⟨_, List.getElem?_eq_getElem (by rw [← HN.out]; exact hlt)⟩
        obtain ⟨b1, o1, ea, hb1, hc1⟩ := T1 (by omega)
        obtain ⟨p0, p1⟩ := tiC (w := wr) (fun j hj => by rw [hb.cell hb1]; exact hc1 k x ex j hj)
        rw [ea]
        have EX := hidOf ex
        have HB : ∀ o1 : Obj, Below w1.heap.size w1 (wr.alloc o1) := fun o1 => hb.alloc hb.size _
        have HBW : ∀ o1 : Obj, Below w.heap.size w (wr.alloc o1) := fun o1 => BW.alloc BW.size _
        clear ex hc1 T1 ea
        have hA : (0 : Int) ≤ (k : Int) := by omega
        have hB : (k : Int) < (n : Int) := by omega
        have s1 : st vs x.kid ≤ 2 := by rcases st_cases vs x.kid with h | h | h <;> omega
        have s2 : st vs x.up ≤ 2 := by rcases st_cases vs x.up with h | h | h <;> omega
        go_wp2_with fail
        refine (tbits_any x a c vs _ (V1.below (HB _) (Nat.le_refl _))).mono ?_
        rintro e w2 ⟨rfl, hb2⟩
        have BB := (HB _).trans (hb2.mono (HB _).size)
        have BBW := (HBW _).trans (hb2.mono (HBW _).size)
        clear hb2
        go_wp2_with fail
        refine (holds_any _ _ s1 s2 _).mono ?_
        rintro e w2 ⟨rfl, rfl⟩
        cases hh : holdB (st vs x.kid) (st vs x.up)
        · go_wp2
          go_ret
          exact tells_no (fun h => by have := h.ties k x EX.out; unfold TieOk at this; rw [hh] at this; cases this) BBW
        · go_wp2
          go_roundw
          case rel => exact ⟨k + 1, by omega, by go_num, hidOf (upto_step HA.out EX.out hh), BB⟩
          case measure => simp [intOf]; omega
      · go_wp2
        go_ret
        exact tells_yes ⟨HV2.out, upto_all (by have := HN.out; omega) HA.out⟩ BW
  · obtain ⟨rfl, A1⟩ := hq.no h2
    go_wp2
    go_ret
    exact tells_no (fun h => h2 h.vals) (B0.trans (A1.mono B0.size))
end Go.Proofs.Ytbjfkfohkpdlfaa
/- What spec.TiesHold answers, where no rule has the least number that there is. -/
namespace Go.Proofs.Ytbjfkfohkpdlfaa
open Go.RowKit

theorem st_in {vs : List Int} {k : Nat} {z : Int} (hz : vs[k]? = some z) : st vs (k : Int) = if 0 < z then 2 else 1 := by
  have hk := (List.getElem?_eq_some_iff.1 hz).1
  unfold st
  rw [if_pos ⟨by omega, by omega⟩, Int.toNat_natCast, List.getD_eq_getElem?_getD, hz]
  rfl
theorem st_out {vs : List Int} {r : Int} (h : ¬ (0 ≤ r ∧ r ≤ (vs.length : Int) - 1)) : st vs r = 0 := by
  unfold st
  rw [if_neg (by omega)]

set_option maxHeartbeats 8000000 in
theorem sTie_any (p : Pc) (l : Pl) (a : Option Addr) (c : Nat) (vs : List Int) (w : World) (hF : PcFew p) (hm0 : vs.length ≤ 1048576) (hR : NoLeast p.rules) (hp : PcIn w p l) (hv : KidsAt w a vs) :
    Calls Try.prog 11 #[pcV p l, .slice a vs.length c] w fun e w' => Tells (TiesHold p vs) w e w' := by
  show Calls _ _ #[.agg #[.int .i64 p.indent, .slice l.a1 p.rules.length l.c1, .slice l.a2 p.chunks.length l.c2, .slice l.a3 p.spans.length l.c3, .slice l.a4 p.ties.length l.c4], _] _ _
  go_enter Try.func11, Try.ntmps11
  go_wp2_with fail
  obtain ⟨W0, hW0, X0, B0, S0⟩ := boxed w p l 29
  rw [← hW0]
  have I0 := hp.below B0 (Nat.le_refl _)
  have V0 := hv.below B0 (Nat.le_refl _)
  have hX : w.heap.size < W0.heap.size := by omega
  clear hW0 S0 hp hv
  have c4 := X0.c4
  obtain ⟨-, c0, c1, c2, c3, -⟩ := X0
  refine (sVal_any p l a c vs _ hF.rules hm0 hR I0.rules V0).mono ?_
  rintro e w1 hq
  by_cases h2 : ValOk p vs
  · obtain ⟨rfl, A1⟩ := hq.yes h2
    clear hq
    have T1 := I0.ties
    have V1 := V0
    have hft := hF.ties
    have HV2 := hidOf h2
    obtain ⟨n, hn⟩ : ∃ n, n = p.ties.length := ⟨_, rfl⟩
    have HN := hidOf hn
    unfold RowsAt at T1
    unfold KidsAt at V1
    rw [← hn] at T1 c4 hft ⊢
    obtain ⟨m, hm⟩ : ∃ m, m = vs.length := ⟨_, rfl⟩
    have HM := hidOf hm
    rw [← hm] at V1 hm0 ⊢
    clear hn h2 I0 V0 hm c0 c1 c2 c3
    go_wp2
    go_loopw [5] (fun i wr => ∃ k : Nat, k ≤ n ∧ i = .int .i64 k ∧ Hid (∀ (j : Nat) (x : Ti), j < k → p.ties[j]? = some x → TieOk vs x) ∧ Below W0.heap.size W0 wr) (fun i _ => n - (intOf i).toNat)
    case atStart => exact ⟨0, Nat.zero_le _, rfl, hidOf fun j x h => by omega, A1⟩
    case round =>
      obtain ⟨k, hk, rfl, HA, hb⟩ := hrel
      have BW := B0.trans (hb.mono B0.size)
      have d4 := (hb.cell (p := ⟨w.heap.size, 4, none⟩) hX).trans c4
      by_cases hlt : k < n
      · obtain ⟨x, ex⟩ : ∃ x, p.ties[k]? = some x := ⟨_, List.getElem?_eq_getElem (by rw [← HN.out]; exact hlt)⟩
        obtain ⟨b1, o1, ea, hb1, hc1⟩ := T1 (by omega)
        obtain ⟨p0, p1⟩ := tiC (w := wr) (fun j hj => by rw [hb.cell hb1]; exact hc1 k x ex j hj)
        rw [ea] at d4 ⊢
        have EX := hidOf ex
        have HB : ∀ o1 : Obj, Below W0.heap.size W0 (wr.alloc o1) := fun o1 => hb.alloc hb.size _
        have HBW : ∀ o1 : Obj, Below w.heap.size w (wr.alloc o1) := fun o1 => BW.alloc BW.size _
        clear ex hc1 T1 ea
        have hA : (0 : Int) ≤ (k : Int) := by omega
        have hB : (k : Int) < (n : Int) := by omega
        have no : ∀ (s t : Nat), st vs x.kid = s → st vs x.up = t → holdB s t = false → ¬ TiesHold p vs := fun s t e1 e2 e3 h => by
          have := h.ties k x EX.out
          unfold TieOk at this
          rw [e1, e2, e3] at this
          cases this
        have NO := hidOf no
        clear no
        have q0 := fun W => sIn_any x.kid 0 ((m : Int) - 1) W
        have q1 := fun W => sIn_any x.up 0 ((m : Int) - 1) W
        by_cases h0 : 0 ≤ x.kid ∧ x.kid ≤ (m : Int) - 1
        · rw [inB_yes h0.1 h0.2] at q0
          obtain ⟨r, er⟩ := Int.eq_ofNat_of_zero_le h0.1
          by_cases h1 : 0 ≤ x.up ∧ x.up ≤ (m : Int) - 1
          · rw [inB_yes h1.1 h1.2] at q1
            obtain ⟨u, eu⟩ := Int.eq_ofNat_of_zero_le h1.1
            obtain ⟨z, ez⟩ : ∃ z, vs[r]? = some z := ⟨_, List.getElem?_eq_getElem (by rw [← HM.out]; omega)⟩
            obtain ⟨y, ey⟩ : ∃ y, vs[u]? = some y := ⟨_, List.getElem?_eq_getElem (by rw [← HM.out]; omega)⟩
            obtain ⟨b2, o2, eb, hb2, hc2⟩ := V1 (by omega)
            have zc := fun ob : Obj => (((HB ob).cell (p := ⟨b2, o2 + r, none⟩) hb2).trans (hc2 r z ez))
            have yc := fun ob : Obj => (((HB ob).cell (p := ⟨b2, o2 + u, none⟩) hb2).trans (hc2 u y ey))
            have hyl : 0 ≤ y := by
              have hu := (List.getElem?_eq_some_iff.1 ey).1
              rw [HV2.out.len] at hu
              exact (HV2.out.all u y _ ey (List.getElem?_eq_getElem hu)).1
            have s1 := hidOf (show st vs x.kid = if 0 < z then 2 else 1 by rw [er]; exact st_in ez)
            have s2 := hidOf (show st vs x.up = if 0 < y then 2 else 1 by rw [eu]; exact st_in ey)
            have hA2 : (0 : Int) ≤ (r : Int) := by omega
            have hB2 : (r : Int) < (m : Int) := by omega
            have hA3 : (0 : Int) ≤ (u : Int) := by omega
            have hB3 : (u : Int) < (m : Int) := by omega
            rw [er] at p0 q0
            rw [eu] at p1 q1
            rw [eb]
            clear er eu ez ey hc2 V1 eb h0 h1
            by_cases hz : 0 < z
            · by_cases hy : y = 0
              · rw [hy] at yc
                have e1 := s1.out
                have e2 := s2.out
                rw [if_pos hz] at e1
                rw [if_neg (by omega)] at e2
                have HNO := hidOf (NO.out _ _ e1 e2 rfl)
                clear e1 e2 s1 s2 hy hyl
                go_wp2_with (first | (go_at_call_of 42 (r); refine (q0 _).mono ?_; rintro e w9 ⟨rfl, rfl⟩) | (go_at_call_of 42 (u); refine (q1 _).mono ?_; rintro e w9 ⟨rfl, rfl⟩))
                go_ret
                exact tells_no HNO.out (HBW _)
              · have e1 := s1.out
                have e2 := s2.out
                rw [if_pos hz] at e1
                rw [if_pos (by omega)] at e2
                have HOK := hidOf (show TieOk vs x by unfold TieOk; rw [e1, e2]; rfl)
                have hy2 : (y == 0) = false := by simpa using hy
                clear e1 e2 s1 s2 hyl
                go_wp2_with (first | (go_at_call_of 42 (r); refine (q0 _).mono ?_; rintro e w9 ⟨rfl, rfl⟩) | (go_at_call_of 42 (u); refine (q1 _).mono ?_; rintro e w9 ⟨rfl, rfl⟩))
                go_roundw
                case rel => exact ⟨k + 1, by omega, by go_num, hidOf (upto_step HA.out EX.out HOK.out), HB _⟩
                case measure => simp [intOf]; omega
            · have e1 := s1.out
              rw [if_neg hz] at e1
              have HOK := hidOf (show TieOk vs x by unfold TieOk; rw [e1, s2.out]; split <;> rfl)
              clear e1 s1 s2 hyl
              go_wp2_with (first | (go_at_call_of 42 (r); refine (q0 _).mono ?_; rintro e w9 ⟨rfl, rfl⟩) | (go_at_call_of 42 (u); refine (q1 _).mono ?_; rintro e w9 ⟨rfl, rfl⟩))
              go_roundw
              case rel => exact ⟨k + 1, by omega, by go_num, hidOf (upto_step HA.out EX.out HOK.out), HB _⟩
              case measure => simp [intOf]; omega
          · rw [inB_no h1] at q1
            have e2 : st vs x.up = 0 := st_out (by rw [← HM.out]; exact h1)
            have HNO := hidOf (NO.out _ _ rfl e2 (by rcases st_cases vs x.kid with h | h | h <;> rw [h] <;> rfl))
            rw [er] at p0 q0
            clear er h0 h1 e2
            go_wp2_with (first | (go_at_call_of 42 (r); refine (q0 _).mono ?_; rintro e w9 ⟨rfl, rfl⟩) | (go_at_call_of 42 (x.up); refine (q1 _).mono ?_; rintro e w9 ⟨rfl, rfl⟩))
            go_ret
            exact tells_no HNO.out (HBW _)
        · rw [inB_no h0] at q0
          have e1 : st vs x.kid = 0 := st_out (by rw [← HM.out]; exact h0)
          have HNO := hidOf (NO.out _ _ e1 rfl (by rcases st_cases vs x.up with h | h | h <;> rw [h] <;> rfl))
          clear h0 e1
          go_wp2_with (go_at_call_of 42 (x.kid); refine (q0 _).mono ?_; rintro e w9 ⟨rfl, rfl⟩)
          go_ret
          exact tells_no HNO.out (HBW _)
      · go_wp2
        go_ret
        exact tells_yes ⟨HV2.out, upto_all (by have := HN.out; omega) HA.out⟩ BW
  · obtain ⟨rfl, A1⟩ := hq.no h2
    go_wp2
    go_ret
    exact tells_no (fun h => h2 h.vals) (B0.trans (A1.mono B0.size))
end Go.Proofs.Ytbjfkfohkpdlfaa
/- What laws.sameInts answers; how a rule stands with its value. -/
namespace Go.Proofs.Ytbjfkfohkpdlfaa
open Go.RowKit

set_option maxHeartbeats 1600000 in
theorem sameInts_any (a1 a2 : Option Addr) (c1 c2 : Nat) (ks : List Int) (w : World) (hx0 : ks.length ≤ 4611686018427387904) (h1 : KidsAt w a1 ks) (h2 : KidsAt w a2 ks) :
    Calls Try.prog 20 #[.slice a1 ks.length c1, .slice a2 ks.length c2] w fun e w' => e = .returned (.bool true) ∧ Below w.heap.size w w' := by
  have hx := hx0
  clear hx0
  unfold KidsAt at h1 h2
  obtain ⟨n, hn⟩ : ∃ n, n = ks.length := ⟨_, rfl⟩
  rw [← hn] at h1 h2 hx
  rw [← hn]
  have HN := hidOf hn
  clear hn
  have hne : ((n : Int) != (n : Int)) = false := by simp
  go_enter Try.func20, Try.ntmps20
  go_wp2
  go_loopw [5] (fun i wr => ∃ k q : Nat, k ≤ n ∧ i = .int .i64 k ∧ wr = w.drewN q) (fun i _ => n - (intOf i).toNat)
  case atStart => exact ⟨0, 0, Nat.zero_le _, rfl, rfl⟩
  case round =>
    obtain ⟨k, q, hk, rfl, rfl⟩ := hrel
    by_cases hlt : k < n
    · obtain ⟨x, ex⟩ : ∃ x, ks[k]? = some x := ⟨_, List.getElem?_eq_getElem (by rw [← HN.out]; exact hlt)⟩
      obtain ⟨b1, o1, rfl, hb1, hc1⟩ := h1 (by omega)
      obtain ⟨b2, o2, rfl, hb2, hc2⟩ := h2 (by omega)
      have p0 := hc1 k x ex
      have q0 := hc2 k x ex
      clear ex hc1 hc2 h1 h2
      have hm1 : (x != x) = false := by simp
      have hA : (0 : Int) ≤ (k : Int) := by omega
      have hB : (k : Int) < (n : Int) := by omega
      go_wp2
      go_quiet (fail)
      go_wp2
      go_roundw
      case rel => exact ⟨k + 1, q + nq, by omega, by go_num, rfl⟩
      case measure => simp [intOf]; omega
    · go_wp2
      go_ret
      exact ⟨rfl, below_drewN _ _⟩

theorem st_of {vs : List Int} {r : Int} (h0 : 0 ≤ r) (h1 : r ≤ (vs.length : Int) - 1) : ∃ z, vs[r.toNat]? = some z ∧ st vs r = if 0 < z then 2 else 1 := by
  obtain ⟨k, rfl⟩ := Int.eq_ofNat_of_zero_le h0
  have hk : k < vs.length := by omega
  exact ⟨vs[k], by simp [hk], st_in (List.getElem?_eq_getElem hk)⟩
end Go.Proofs.Ytbjfkfohkpdlfaa
