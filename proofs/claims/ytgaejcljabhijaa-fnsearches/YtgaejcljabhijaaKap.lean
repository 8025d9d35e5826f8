/- What impl.ValuesOk answers, where no rule has the least number that there is. -/
import Derived.Test.YtgaejcljabhijaaValLib
import Derived.Test.YtgaejcljabhijaaCntI
import Derived.Test.YtgaejcljabhijaaBoxPc
import Derived.Deep.RegionWith
import Derived.Test.YtgaejcljabhijaaKao
import Derived.Test.YtgaejcljabhijaaKal
import Derived.Test.YtgaejcljabhijaaKaj
import Derived.Test.YtgaejcljabhijaaKae
import Derived.Test.YtgaejcljabhijaaKaf
import Derived.Deep.CutBlock
import Derived.BigRegion
namespace Go.Proofs.Ytgaejcljabhijaa
open Go.RowKit

theorem val_no {p : Pc} {vs : List Int} {k : Nat} {z : Int} {y : Ru} (hz : vs[k]? = some z) (hy : p.rules[k]? = some y) (h : ¬ (0 ≤ z ∧ z ≤ y.values - 1)) : ¬ ValOk p vs := fun hv => h (hv.all k z y hz hy)

set_option maxHeartbeats 8000000 in
theorem iVal_any (p : Pc) (l : Pl) (a : Option Addr) (c : Nat) (vs : List Int) (w : World) (hn0 : p.rules.length ≤ 1048576) (hm0 : vs.length ≤ 1048576) (hR : NoLeast p.rules) (hp : RowsAt 2 ruCells w l.a1 p.rules) (hv : KidsAt w a vs) :
    Calls Try.prog 57 #[pcV p l, .slice a vs.length c] w fun e w' => Tells (ValOk p vs) w e w' := by
  show Calls _ _ #[.agg #[.int .i64 p.indent, .slice l.a1 p.rules.length l.c1, .slice l.a2 p.chunks.length l.c2, .slice l.a3 p.spans.length l.c3, .slice l.a4 p.ties.length l.c4], _] _ _
  have HB : ∀ o1 : Obj, Below w.heap.size w (w.alloc o1) := fun o1 => (Below.refl _ _).alloc (Nat.le_refl _) _
  have hm1 := hm0
  clear hm0
  unfold RowsAt at hp
  unfold KidsAt at hv
  by_cases hl : vs.length = p.rules.length
  · obtain ⟨n, hn⟩ : ∃ n, n = p.rules.length := ⟨_, rfl⟩
    rw [hl, ← hn] at hv hm1 ⊢
    rw [← hn] at hp hn0
    have HN := hidOf hn
    have HL := hidOf hl
    have HR := hidOf hR
    clear hn hl hR
    have hne : ((n : Int) != (n : Int)) = false := by simp
    go_enter Try.func57, Try.ntmps57
    go_wp2
    go_loop [15] (fun i => ∃ k : Nat, k ≤ n ∧ i = .int .i64 k ∧ Hid (∀ (j : Nat) (z : Int) (y : Ru), j < k → vs[j]? = some z → p.rules[j]? = some y → 0 ≤ z ∧ z ≤ y.values - 1)) (fun i => n - (intOf i).toNat)
    case atStart => exact ⟨0, Nat.zero_le _, rfl, hidOf fun j z y h => by omega⟩
    case round =>
      obtain ⟨k, hk, rfl, HA⟩ := hrel
      by_cases hlt : k < n
      · obtain ⟨y, ey⟩ : ∃ y, p.rules[k]? = some y := ⟨_, List.getElem?_eq_getElem (by rw [← HN.out]; exact hlt)⟩
        obtain ⟨z, ez⟩ : ∃ z, vs[k]? = some z := ⟨_, List.getElem?_eq_getElem (by rw [HL.out, ← HN.out]; exact hlt)⟩
        obtain ⟨b1, o1, ea, hb1, hc1⟩ := hp (by omega)
        obtain ⟨b2, o2, eb, hb2, hc2⟩ := hv (by omega)
        have p01 := fun ob : Obj => ruC (w := w.alloc ob) (fun j hj => by rw [(HB ob).cell hb1]; exact hc1 k y ey j hj)
        have p0 := fun ob => (p01 ob).1
        have p2 := fun ob : Obj => ((HB ob).cell (p := ⟨b2, o2 + k, none⟩) hb2).trans (hc2 k z ez)
        rw [ea, eb]
        have EY := hidOf ey
        have EZ := hidOf ez
        clear ey ez hc1 hc2 hp hv p01 ea eb
        have hA : (0 : Int) ≤ (k : Int) := by omega
        have hB : (k : Int) < (n : Int) := by omega
        by_cases h1 : z < 0
        · go_wp2
          go_ret
          exact tells_no (val_no EZ.out EY.out (by omega)) (HB _)
        · by_cases h2 : z ≥ y.values
          · go_wp2
            go_ret
            exact tells_no (val_no EZ.out EY.out (by omega)) (HB _)
          · go_wp2
            go_round
            case rel => exact ⟨k + 1, by omega, by go_num, hidOf (fun j z' y' hj hz hy => by
              by_cases e : j = k
              · subst e
                have e1 := EZ.out
                have e2 := EY.out
                rw [hz] at e1
                rw [hy] at e2
                cases e1
                cases e2
                omega
              · exact HA.out j z' y' (by omega) hz hy)⟩
            case measure => simp [intOf]; omega
      · go_wp2
        go_ret
        exact tells_yes ⟨HL.out, fun j z y hz hy => HA.out j z y (by have := (List.getElem?_eq_some_iff.1 hy).1; have := HN.out; omega) hz hy⟩ (HB _)
  · have hne : ((vs.length : Int) != (p.rules.length : Int)) = true := by simp; omega
    have HL := hidOf hl
    clear hl hp hv
    go_enter Try.func57, Try.ntmps57
    go_wp2
    go_ret
    exact tells_no (fun h => HL.out h.len) (HB _)
end Go.Proofs.Ytgaejcljabhijaa
/- What spec.ValuesOk answers, where no rule has the least number that there is. -/
namespace Go.Proofs.Ytgaejcljabhijaa
open Go.RowKit

set_option maxHeartbeats 8000000 in
theorem sVal_any (p : Pc) (l : Pl) (a : Option Addr) (c : Nat) (vs : List Int) (w : World) (hn0 : p.rules.length ≤ 1048576) (hm0 : vs.length ≤ 1048576) (hR : NoLeast p.rules) (hp : RowsAt 2 ruCells w l.a1 p.rules) (hv : KidsAt w a vs) :
    Calls Try.prog 42 #[pcV p l, .slice a vs.length c] w fun e w' => Tells (ValOk p vs) w e w' := by
  show Calls _ _ #[.agg #[.int .i64 p.indent, .slice l.a1 p.rules.length l.c1, .slice l.a2 p.chunks.length l.c2, .slice l.a3 p.spans.length l.c3, .slice l.a4 p.ties.length l.c4], _] _ _
  have hm1 := hm0
  clear hm0
  unfold KidsAt at hv
  by_cases hl : vs.length = p.rules.length
  · obtain ⟨n, hn⟩ : ∃ n, n = p.rules.length := ⟨_, rfl⟩
    rw [hl, ← hn] at hv hm1 ⊢
    rw [← hn] at hn0
    have HN := hidOf hn
    have HL := hidOf hl
    have HR := hidOf hR
    clear hn hl hR
    have hne : ((n : Int) != (n : Int)) = false := by simp
    have X := boxed w p l 29
    rw [← HN.out] at X
    obtain ⟨W0, hW0, X0, B0, S0⟩ := X
    have hX : w.heap.size < W0.heap.size := by omega
    have c1 := X0.c1
    have R0 := hp.below B0 (Nat.le_refl _)
    unfold RowsAt at R0
    rw [← HN.out] at c1 R0
    go_enter Try.func42, Try.ntmps42
    go_wp2
    rw [← hW0]
    clear hW0 S0 hp X0
    go_loopw [5] (fun i wr => ∃ k : Nat, k ≤ n ∧ i = .int .i64 k ∧ Below W0.heap.size W0 wr ∧ Hid (∀ (j : Nat) (z : Int) (y : Ru), j < k → vs[j]? = some z → p.rules[j]? = some y → 0 ≤ z ∧ z ≤ y.values - 1)) (fun i _ => n - (intOf i).toNat)
    case atStart => exact ⟨0, Nat.zero_le _, rfl, Below.refl _ _, hidOf fun j z y h => by omega⟩
    case round =>
      obtain ⟨k, hk, rfl, hb, HA⟩ := hrel
      have BW := B0.trans (hb.mono B0.size)
      have d1 := (hb.cell (p := ⟨w.heap.size, 1, none⟩) hX).trans c1
      by_cases hlt : k < n
      · obtain ⟨y, ey⟩ : ∃ y, p.rules[k]? = some y := ⟨_, List.getElem?_eq_getElem (by rw [← HN.out]; exact hlt)⟩
        obtain ⟨z, ez⟩ : ∃ z, vs[k]? = some z := ⟨_, List.getElem?_eq_getElem (by rw [HL.out, ← HN.out]; exact hlt)⟩
        obtain ⟨b1, o1, ea, hb1, hc1⟩ := R0 (by omega)
        obtain ⟨b2, o2, eb, hb2, hc2⟩ := hv (by omega)
        have hrr := HR.out k y ey
        obtain ⟨p0, p1⟩ := ruC (w := wr) (fun j hj => by rw [hb.cell hb1]; exact hc1 k y ey j hj)
        have p2 := (BW.cell (p := ⟨b2, o2 + k, none⟩) hb2).trans (hc2 k z ez)
        rw [ea] at d1
        rw [ea, eb]
        have EY := hidOf ey
        have EZ := hidOf ez
        clear ey ez hc1 hc2 R0 hv ea eb
        have hA : (0 : Int) ≤ (k : Int) := by omega
        have hB : (k : Int) < (n : Int) := by omega
        have hwv : IntKind.i64.wrap (y.values - 1) = y.values - 1 := IntWalk.i64_in _ ⟨by omega, by omega⟩
        have q0 := fun W => sIn_any z 0 (y.values - 1) W
        by_cases h1 : 0 ≤ z ∧ z ≤ y.values - 1
        · rw [inB_yes h1.1 h1.2] at q0
          have H1 := hidOf h1
          clear h1
          go_wp2
          go_quiet ((go_at_call 36; exact Calls.quiet_of_same (q0 _)))
          go_wp2
          go_roundw
          case rel => exact ⟨k + 1, by omega, by go_num, bel_drewN hb _, hidOf (fun j z' y' hj hz hy => by
            by_cases e : j = k
            · subst e
              have e1 := EZ.out
              have e2 := EY.out
              rw [hz] at e1
              rw [hy] at e2
              cases e1
              cases e2
              exact H1.out
            · exact HA.out j z' y' (by omega) hz hy)⟩
          case measure => simp [intOf]; omega
        · rw [inB_no h1] at q0
          have H1 := hidOf h1
          clear h1
          go_wp2
          go_quiet ((go_at_call 36; exact Calls.quiet_of_same (q0 _)))
          go_wp2
          go_ret
          exact tells_no (val_no EZ.out EY.out H1.out) (bel_drewN BW _)
      · go_wp2
        go_ret
        exact tells_yes ⟨HL.out, fun j z y hz hy => HA.out j z y (by have := (List.getElem?_eq_some_iff.1 hy).1; have := HN.out; omega) hz hy⟩ BW
  · have HB : ∀ o1 : Obj, Below w.heap.size w (w.alloc o1) := fun o1 => (Below.refl _ _).alloc (Nat.le_refl _) _
    have hne : ((vs.length : Int) != (p.rules.length : Int)) = true := by simp; omega
    have HL := hidOf hl
    clear hl hp hv
    go_enter Try.func42, Try.ntmps42
    go_wp2
    go_ret
    exact tells_no (fun h => HL.out h.len) (HB _)
end Go.Proofs.Ytgaejcljabhijaa
/- Rows that lie apart, and nothing told: what NextOf's and BestOf's texts share. -/
namespace Go.Proofs.Ytgaejcljabhijaa
open Go.RowKit

/-- A list of numbers in memory of its own, and whether there is one. -/
def NxAns (us : List Int) (b : Bool) (w : World) (e : Ending) (w' : World) : Prop :=
  Below w.heap.size w w' ∧ ∃ a c, e = .returned (.tuple #[.slice a us.length c, .bool b]) ∧ w'.ownsRow w.heap.size 3 1 (.slice a us.length c) us.length (intVals us)
theorem nx_none0 {w w' : World} {a : Option Addr} {c : Nat} (hb : Below w.heap.size w w') (ho : w'.ownsRow w.heap.size 3 1 (.slice a 0 c) 0 []) : NxAns [] false w (.returned (.tuple #[.slice a 0 c, .bool false])) w' := ⟨hb, a, c, rfl, ho⟩
theorem own_made0 (w : World) (base : Nat) (hb : base ≤ w.heap.size) : (w.alloc (.cells #[] 3)).ownsRow base 3 1 (.slice (some ⟨w.heap.size, 0, none⟩) 0 0) 0 [] :=
  World.ownsRow_made (e := 3) (size := 1) (base := base) w #[] 0 hb (by decide) rfl
/-- The rules lie in another place than what was made later. -/
theorem rules_far {w : World} {a1 : Option Addr} {rs : List Ru} {b : Nat} (h : RowsAt 2 ruCells w a1 rs) (hb : w.heap.size ≤ b) : 0 < rs.length → ∀ g o, a1 = some ⟨g, o, none⟩ → g ≠ b := fun hr g o e => by
  obtain ⟨b', o', e', hlt, -⟩ := h hr
  rw [e'] at e
  cases e
  omega
end Go.Proofs.Ytgaejcljabhijaa
/- What impl.TiesHold answers. -/
namespace Go.Proofs.Ytgaejcljabhijaa
open Go.RowKit

set_option maxHeartbeats 1600000 in
theorem holds_any (s t : Nat) (hs : s ≤ 2) (ht : t ≤ 2) (w : World) :
    Calls Try.prog 59 #[.int .u8 (bothB s t)] w fun e w' => e = .returned (.bool (holdB s t)) ∧ w' = w := by
  have b0_3 : bits .and .u8 0 3 = 0 := by decide
  have b0_7 : bits .and .u8 0 7 = 0 := by decide
  have b0_8 : bits .and .u8 0 8 = 0 := by decide
  have b2_3 : bits .and .u8 2 3 = 2 := by decide
  have b2_7 : bits .and .u8 2 7 = 2 := by decide
  have b2_8 : bits .and .u8 2 8 = 0 := by decide
  have b10_3 : bits .and .u8 10 3 = 2 := by decide
  have b10_7 : bits .and .u8 10 7 = 2 := by decide
  have b10_8 : bits .and .u8 10 8 = 8 := by decide
  have b1_3 : bits .and .u8 1 3 = 1 := by decide
  have b1_7 : bits .and .u8 1 7 = 1 := by decide
  have b1_8 : bits .and .u8 1 8 = 0 := by decide
  have b3_3 : bits .and .u8 3 3 = 3 := by decide
  have b3_7 : bits .and .u8 3 7 = 3 := by decide
  have b3_8 : bits .and .u8 3 8 = 0 := by decide
  have b11_3 : bits .and .u8 11 3 = 3 := by decide
  have b11_7 : bits .and .u8 11 7 = 3 := by decide
  have b11_8 : bits .and .u8 11 8 = 8 := by decide
  have b5_3 : bits .and .u8 5 3 = 1 := by decide
  have b5_7 : bits .and .u8 5 7 = 5 := by decide
  have b5_8 : bits .and .u8 5 8 = 0 := by decide
  have b7_3 : bits .and .u8 7 3 = 3 := by decide
  have b7_7 : bits .and .u8 7 7 = 7 := by decide
  have b7_8 : bits .and .u8 7 8 = 0 := by decide
  have b15_3 : bits .and .u8 15 3 = 3 := by decide
  have b15_7 : bits .and .u8 15 7 = 7 := by decide
  have b15_8 : bits .and .u8 15 8 = 8 := by decide
  rcases (show s = 0 ∨ s = 1 ∨ s = 2 by omega) with rfl | rfl | rfl
  all_goals rcases (show t = 0 ∨ t = 1 ∨ t = 2 by omega) with rfl | rfl | rfl
  all_goals simp only [bothB, kB, uB]
  all_goals go_enter Try.func59, Try.ntmps59
  all_goals go_wp2
  all_goals go_ret
  all_goals exact ⟨rfl, rfl⟩

set_option maxHeartbeats 8000000 in
theorem iTie_any (p : Pc) (l : Pl) (a : Option Addr) (c : Nat) (vs : List Int) (w : World) (hF : PcFew p) (hm0 : vs.length ≤ 1048576) (hR : NoLeast p.rules) (hp : PcIn w p l) (hv : KidsAt w a vs) :
    Calls Try.prog 23 #[pcV p l, .slice a vs.length c] w fun e w' => Tells (TiesHold p vs) w e w' := by
  show Calls _ _ #[.agg #[.int .i64 p.indent, .slice l.a1 p.rules.length l.c1, .slice l.a2 p.chunks.length l.c2, .slice l.a3 p.spans.length l.c3, .slice l.a4 p.ties.length l.c4], _] _ _
  go_enter Try.func23, Try.ntmps23
  go_wp2_with fail
  obtain ⟨W0, hW0, X0, B0, S0⟩ := boxed w p l 29
  rw [← hW0]
  have I0 := hp.below B0 (Nat.le_refl _)
  have V0 := hv.below B0 (Nat.le_refl _)
  have hX : w.heap.size < W0.heap.size := by omega
  clear hW0 S0 hp hv
  obtain ⟨-, c0, c1, c2, c3, c4⟩ := X0
  refine (iVal_any p l a c vs _ hF.rules hm0 hR I0.rules V0).mono ?_
  rintro e w1 hq
  by_cases h2 : ValOk p vs
  · obtain ⟨rfl, A1⟩ := hq.yes h2
    have k1 := fun o => A1.cell (p := ⟨w.heap.size, o, none⟩) hX
    clear hq
    have T1 := I0.ties.below A1 (Nat.le_refl _)
    have V1 := V0.below A1 (Nat.le_refl _)
    have hft := hF.ties
    have HV2 := hidOf h2
    obtain ⟨n, hn⟩ : ∃ n, n = p.ties.length := ⟨_, rfl⟩
    have HN := hidOf hn
    unfold RowsAt at T1
    rw [← hn] at T1 c4 hft ⊢
    clear hn h2 I0 V0
    go_wp2
    go_loopw [14] (fun i wr => ∃ k : Nat, k ≤ n ∧ i = .int .i64 k ∧ Hid (∀ (j : Nat) (x : Ti), j < k → p.ties[j]? = some x → TieOk vs x) ∧ Below w1.heap.size w1 wr) (fun i _ => n - (intOf i).toNat)
    case atStart => exact ⟨0, Nat.zero_le _, rfl, hidOf fun j x h => by omega, Below.refl _ _⟩
    case round =>
      obtain ⟨k, hk, rfl, HA, hb⟩ := hrel
      have BW := B0.trans ((A1.trans (hb.mono A1.size)).mono B0.size)
      by_cases hlt : k < n
      · obtain ⟨x, ex⟩ : ∃ x, p.ties[k]? = some x := ⟨_, List.getElem?_eq_getElem (by rw [← HN.out]; exact hlt)⟩
        obtain ⟨b1, o1, ea, hb1, hc1⟩ := T1 (by omega)
        obtain ⟨p0, p1⟩ := tiC (w := wr) (fun j hj => by rw [hb.cell hb1]; exact hc1 k x ex j hj)
        rw [ea]
        have EX := hidOf ex
        have HB : ∀ o1 : Obj, Below w1.heap.size w1 (wr.alloc o1) := fun o1 => hb.alloc hb.size _
        have HBW : ∀ o1 : Obj, Below w.heap.size w (wr.alloc o1) := fun o1 => BW.alloc BW.size _
        clear ex hc1 T1 ea
        have hA : (0 : Int) ≤ (k : Int) := by omega
        have hB : (k : Int) < (n : Int) := by omega
        have s1 : st vs x.kid ≤ 2 := by rcases st_cases vs x.kid with h | h | h <;> omega
        have s2 : st vs x.up ≤ 2 := by rcases st_cases vs x.up with h | h | h <;> omega
        go_wp2_with fail
        refine (tbits_any x a c vs _ (V1.below (HB _) (Nat.le_refl _))).mono ?_
        rintro e w2 ⟨rfl, hb2⟩
        have BB := (HB _).trans (hb2.mono (HB _).size)
        have BBW := (HBW _).trans (hb2.mono (HBW _).size)
        clear hb2
        go_wp2_with fail
        refine (holds_any _ _ s1 s2 _).mono ?_
        rintro e w2 ⟨rfl, rfl⟩
        cases hh : holdB (st vs x.kid) (st vs x.up)
        · go_wp2
          go_ret
          exact tells_no (fun h => by have := h.ties k x EX.out; unfold TieOk at this; rw [hh] at this; cases this) BBW
        · go_wp2
          go_roundw
          case rel => exact ⟨k + 1, by omega, by go_num, hidOf (upto_step HA.out EX.out hh), BB⟩
          case measure => simp [intOf]; omega
      · go_wp2
        go_ret
        exact tells_yes ⟨HV2.out, upto_all (by have := HN.out; omega) HA.out⟩ BW
  · obtain ⟨rfl, A1⟩ := hq.no h2
    go_wp2
    go_ret
    exact tells_no (fun h => h2 h.vals) (B0.trans (A1.mono B0.size))
end Go.Proofs.Ytgaejcljabhijaa
/- The search of impl.BestOf so far: arrays of eight numbers, and what lies where. -/
namespace Go.Proofs.Ytgaejcljabhijaa
open Go.RowKit

abbrev coT : Nat := 37
abbrev zeroCo : Array Value := #[.int .i64 0, .int .i64 0]
abbrev coCells (p : Pc) (wd : Int) (bs : List Int) : Array Value := #[.int .i64 (costOver p bs wd), .int .i64 (costSum p bs)]
abbrev pcBox (p : Pc) (l : Pl) : Array Value := #[.int .i64 p.indent, .slice l.a1 p.rules.length l.c1, .slice l.a2 p.chunks.length l.c2, .slice l.a3 p.spans.length l.c3, .slice l.a4 p.ties.length l.c4]
/-- The search so far: the piece in its box, what will be told, the list that counts, the best one, and what that costs. -/
structure BS (w : World) (p : Pc) (l : Pl) (wd : Int) (N E L : Nat) (wr : World) (vs bs : List Int) : Prop where
  bel : Below w.heap.size w wr
  box : wr.heap[w.heap.size]? = some (.cells (pcBox p l) 29 (0, 0))
  res : wr.heap[w.heap.size + 1]? = some (.cells zeroCo coT (0, 0))
  now : wr.ownsRow (w.heap.size + 2) 98 1 (.slice (some ⟨N, 0, none⟩) 8 8) 8 (intVals vs ++ restZ p.rules.length)
  best : wr.ownsRow (w.heap.size + 2) 98 1 (.slice (some ⟨E, 0, none⟩) 8 8) 8 (intVals bs ++ restZ p.rules.length)
  least : wr.heap[L]? = some (.cells (coCells p wd bs) coT (0, 0))
  two : w.heap.size + 2 ≤ L
  ne : N ≠ E
  vl : vs.length = p.rules.length
  bl : bs.length = p.rules.length

section
variable {w : World} {p : Pc} {l : Pl} {wd : Int} {N E L : Nat} {wr w' : World} {vs bs us : List Int}
theorem BS.nlo (h : BS w p l wd N E L wr vs bs) : w.heap.size + 2 ≤ N := (h.now.lt N rfl).1
theorem BS.elo (h : BS w p l wd N E L wr vs bs) : w.heap.size + 2 ≤ E := (h.best.lt E rfl).1
theorem BS.neL (h : BS w p l wd N E L wr vs bs) : L ≠ N ∧ L ≠ E := by
  constructor
  · intro e
    obtain ⟨cur, h1⟩ := row_type h.now
    rw [← e, h.least] at h1
    cases h1
  · intro e
    obtain ⟨cur, h1⟩ := row_type h.best
    rw [← e, h.least] at h1
    cases h1
theorem BS.cellN (h : BS w p l wd N E L wr vs bs) (j : Nat) (z : Int) (hz : vs[j]? = some z) (h8 : p.rules.length ≤ 8) : wr.cell? ⟨N, j, none⟩ = some (.int .i64 z) := by
  have hj := (List.getElem?_eq_some_iff.1 hz).1
  have := h.vl
  rw [h.now.cellAt j (by omega), List.getElem?_append_left (by rw [intVals_len]; exact hj)]
  unfold intVals
  rw [List.getElem?_map, hz]
  rfl
theorem BS.read (h : BS w p l wd N E L wr vs bs) (h8 : p.rules.length ≤ 8) : readI wr N p.rules.length = vs := by
  rw [← h.vl]
  exact readI_eq (fun j z hz => h.cellN j z hz h8)
theorem BS.kids (h : BS w p l wd N E L wr vs bs) (h8 : p.rules.length ≤ 8) : KidsAt wr (some ⟨N, 0, none⟩) vs := fun _ => ⟨N, 0, rfl, (h.now.lt N rfl).2, fun j z hz => by rw [Nat.zero_add]; exact h.cellN j z hz h8⟩
theorem BS.kidsB (h : BS w p l wd N E L wr vs bs) (h8 : p.rules.length ≤ 8) : KidsAt wr (some ⟨E, 0, none⟩) bs := fun _ => ⟨E, 0, rfl, (h.best.lt E rfl).2, fun j z hz => by
  have hj := (List.getElem?_eq_some_iff.1 hz).1
  have := h.bl
  rw [Nat.zero_add, h.best.cellAt j (by omega), List.getElem?_append_left (by rw [intVals_len]; exact hj)]
  unfold intVals
  rw [List.getElem?_map, hz]
  rfl⟩
/-- More was made. -/
theorem BS.more (h : BS w p l wd N E L wr vs bs) (hb : Below wr.heap.size wr w') : BS w p l wd N E L w' vs bs :=
  ⟨h.bel.trans (hb.mono h.bel.size), (hb.block _ (Array.getElem?_eq_some_iff.1 h.box).1).trans h.box, (hb.block _ (Array.getElem?_eq_some_iff.1 h.res).1).trans h.res, owns_below h.now hb, owns_below h.best hb, (hb.block _ (Array.getElem?_eq_some_iff.1 h.least).1).trans h.least, h.two, h.ne, h.vl, h.bl⟩
/-- The list counts on. -/
theorem BS.step (h : BS w p l wd N E L wr vs bs) (hg : wr.grownBy w' (some N)) (hl : us.length = p.rules.length) (ho : w'.ownsRow (w.heap.size + 2) 98 1 (.slice (some ⟨N, 0, none⟩) 8 8) 8 (intVals us ++ restZ p.rules.length)) : BS w p l wd N E L w' us bs := by
  have hn := h.nlo
  refine ⟨h.bel.grown hg h.bel.size (fun k e => by cases e; omega), (hg.block _ (Array.getElem?_eq_some_iff.1 h.box).1 (fun e => by have := Option.some.inj e; omega)).trans h.box, (hg.block _ (Array.getElem?_eq_some_iff.1 h.res).1 (fun e => by have := Option.some.inj e; omega)).trans h.res, ho, World.ownsRow.kept h.best hg (.inr (fun e => h.ne (Option.some.inj e).symm)), (hg.block _ (Array.getElem?_eq_some_iff.1 h.least).1 (fun e => h.neL.1 (Option.some.inj e))).trans h.least, h.two, h.ne, hl, h.bl⟩
/-- The list that counts is the best one. -/
theorem BS.take (h : BS w p l wd N E L wr vs bs) {x0 x1 x2 x3 x4 x5 x6 x7 : Value} (hx : intVals vs ++ restZ p.rules.length = [x0, x1, x2, x3, x4, x5, x6, x7]) :
    BS w p l wd N E L (((((((((((wr.setCell ⟨E, 0, none⟩ x0).setCell ⟨E, 1, none⟩ x1).setCell ⟨E, 2, none⟩ x2).setCell ⟨E, 3, none⟩ x3).setCell ⟨E, 4, none⟩ x4).setCell ⟨E, 5, none⟩ x5).setCell ⟨E, 6, none⟩ x6).setCell ⟨E, 7, none⟩ x7)).setCell ⟨L, 0, none⟩ (.int .i64 (costOver p vs wd))).setCell ⟨L, 1, none⟩ (.int .i64 (costSum p vs))) vs vs := by
  obtain ⟨o8, g8⟩ := put8 h.best x0 x1 x2 x3 x4 x5 x6 x7
  generalize (((((((wr.setCell ⟨E, 0, none⟩ x0).setCell ⟨E, 1, none⟩ x1).setCell ⟨E, 2, none⟩ x2).setCell ⟨E, 3, none⟩ x3).setCell ⟨E, 4, none⟩ x4).setCell ⟨E, 5, none⟩ x5).setCell ⟨E, 6, none⟩ x6).setCell ⟨E, 7, none⟩ x7 = u at o8 g8
  have hn := h.elo
  have ht := h.two
  have hbel := h.bel.grown g8 h.bel.size (fun k e => by cases e; omega)
  have hbox := (g8.block _ (Array.getElem?_eq_some_iff.1 h.box).1 (fun e => by have := Option.some.inj e; omega)).trans h.box
  have hres := (g8.block _ (Array.getElem?_eq_some_iff.1 h.res).1 (fun e => by have := Option.some.inj e; omega)).trans h.res
  have hnow := World.ownsRow.kept h.now g8 (.inr (fun e => h.ne (Option.some.inj e)))
  have hlea := (g8.block _ (Array.getElem?_eq_some_iff.1 h.least).1 (fun e => h.neL.2 (Option.some.inj e))).trans h.least
  have s1 := heap_setCell_same u L 0 _ _ (.int .i64 (costOver p vs wd)) hlea
  have s2 := heap_setCell_same _ L 1 _ _ (.int .i64 (costSum p vs)) s1
  have hg : u.grownBy ((u.setCell ⟨L, 0, none⟩ (.int .i64 (costOver p vs wd))).setCell ⟨L, 1, none⟩ (.int .i64 (costSum p vs))) (some L) :=
    ⟨rfl, rfl, rfl, by simp, fun k _ hk => (heap_setCell_other _ ⟨L, 1, none⟩ k _ (fun e => hk (by simp [e]))).trans (heap_setCell_other _ ⟨L, 0, none⟩ k _ (fun e => hk (by simp [e])))⟩
  exact ⟨hbel.grown hg hbel.size (fun k e => by cases e; omega), (hg.block _ (Array.getElem?_eq_some_iff.1 hbox).1 (fun e => by have := Option.some.inj e; omega)).trans hbox, (hg.block _ (Array.getElem?_eq_some_iff.1 hres).1 (fun e => by have := Option.some.inj e; omega)).trans hres,
    World.ownsRow.kept hnow hg (.inr (fun e => h.neL.1 (Option.some.inj e).symm)), by rw [hx]; exact World.ownsRow.kept o8 hg (.inr (fun e => h.neL.2 (Option.some.inj e).symm)), s2, ht, h.ne, h.vl, h.vl⟩
end
end Go.Proofs.Ytgaejcljabhijaa
