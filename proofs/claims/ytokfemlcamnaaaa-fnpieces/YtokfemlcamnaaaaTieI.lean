/- What impl.TiesHold answers. -/
import Derived.Test.YtokfemlcamnaaaaTieB
import Derived.Test.YtokfemlcamnaaaaValP
namespace Go.Proofs.Ytokfemlcamnaaaa
open Go.RowKit

set_option maxHeartbeats 1600000 in
theorem holds_any (s t : Nat) (hs : s ≤ 2) (ht : t ≤ 2) (w : World) :
    Calls Try.prog 87 #[.int .u8 (bothB s t)] w fun e w' => e = .returned (.bool (holdB s t)) ∧ w' = w := by
  have b0_3 : bits .and .u8 0 3 = 0 := by decide
  have b0_7 : bits .and .u8 0 7 = 0 := by decide
  have b0_8 : bits .and .u8 0 8 = 0 := by decide
  have b2_3 : bits .and .u8 2 3 = 2 := by decide
  have b2_7 : bits .and .u8 2 7 = 2 := by decide
  have b2_8 : bits .and .u8 2 8 = 0 := by decide
  have b10_3 : bits .and .u8 10 3 = 2 := by decide
  have b10_7 : bits .and .u8 10 7 = 2 := by decide
  have b10_8 : bits .and .u8 10 8 = 8 := by decide
  have b1_3 : bits .and .u8 1 3 = 1 := by decide
  have b1_7 : bits .and .u8 1 7 = 1 := by decide
  have b1_8 : bits .and .u8 1 8 = 0 := by decide
  have b3_3 : bits .and .u8 3 3 = 3 := by decide
  have b3_7 : bits .and .u8 3 7 = 3 := by decide
  have b3_8 : bits .and .u8 3 8 = 0 := by decide
  have b11_3 : bits .and .u8 11 3 = 3 := by decide
  have b11_7 : bits .and .u8 11 7 = 3 := by decide
  have b11_8 : bits .and .u8 11 8 = 8 := by decide
  have b5_3 : bits .and .u8 5 3 = 1 := by decide
  have b5_7 : bits .and .u8 5 7 = 5 := by decide
  have b5_8 : bits .and .u8 5 8 = 0 := by decide
  have b7_3 : bits .and .u8 7 3 = 3 := by decide
  have b7_7 : bits .and .u8 7 7 = 7 := by decide
  have b7_8 : bits .and .u8 7 8 = 0 := by decide
  have b15_3 : bits .and .u8 15 3 = 3 := by decide
  have b15_7 : bits .and .u8 15 7 = 7 := by decide
  have b15_8 : bits .and .u8 15 8 = 8 := by decide
  rcases (show s = 0 ∨ s = 1 ∨ s = 2 by omega) with rfl | rfl | rfl
  all_goals rcases (show t = 0 ∨ t = 1 ∨ t = 2 by omega) with rfl | rfl | rfl
  all_goals simp only [bothB, kB, uB]
  all_goals go_enter Try.func87, Try.ntmps87
  all_goals go_wp2
  all_goals go_ret
  all_goals exact ⟨rfl, rfl⟩

set_option maxHeartbeats 8000000 in
theorem iTie_any (p : Pc) (l : Pl) (a : Option Addr) (c : Nat) (vs : List Int) (w : World) (hF : PcFew p) (hm0 : vs.length ≤ 1048576) (hR : NoLeast p.rules) (hp : PcIn w p l) (hv : KidsAt w a vs) :
    Calls Try.prog 20 #[pcV p l, .slice a vs.length c] w fun e w' => Tells (TiesHold p vs) w e w' := by
  show Calls _ _ #[.agg #[.int .i64 p.indent, .slice l.a1 p.rules.length l.c1, .slice l.a2 p.chunks.length l.c2, .slice l.a3 p.spans.length l.c3, .slice l.a4 p.ties.length l.c4], _] _ _
  go_enter Try.func20, Try.ntmps20
  go_wp2_with fail
  obtain ⟨W0, hW0, X0, B0, S0⟩ := boxed w p l 29
  rw [← hW0]
  have I0 := hp.below B0 (Nat.le_refl _)
  have V0 := hv.below B0 (Nat.le_refl _)
  have hX : w.heap.size < W0.heap.size := by omega
  clear hW0 S0 hp hv
  obtain ⟨-, c0, c1, c2, c3, c4⟩ := X0
  refine (iVal_any p l a c vs _ hF.rules hm0 hR I0.rules V0).mono ?_
  rintro e w1 hq
  by_cases h2 : ValOk p vs
  · obtain ⟨rfl, A1⟩ := hq.yes h2
    have k1 := fun o => A1.cell (p := ⟨w.heap.size, o, none⟩) hX
    clear hq
    have T1 := I0.ties.below A1 (Nat.le_refl _)
    have V1 := V0.below A1 (Nat.le_refl _)
    have hft := hF.ties
    have HV2 := hidOf h2
    obtain ⟨n, hn⟩ : ∃ n, n = p.ties.length := ⟨_, rfl⟩
    have HN := hidOf hn
    unfold RowsAt at T1
    rw [← hn] at T1 c4 hft ⊢
    clear hn h2 I0 V0
    go_wp2
    go_loopw [14] (fun i wr => ∃ k : Nat, k ≤ n ∧ i = .int .i64 k ∧ Hid (∀ (j : Nat) (x : Ti), j < k → p.ties[j]? = some x → TieOk vs x) ∧ Below w1.heap.size w1 wr) (fun i _ => n - (intOf i).toNat)
    case atStart => exact ⟨0, Nat.zero_le _, rfl, hidOf fun j x h => by omega, Below.refl _ _⟩
    case round =>
      obtain ⟨k, hk, rfl, HA, hb⟩ := hrel
      have BW := B0.trans ((A1.trans (hb.mono A1.size)).mono B0.size)
      by_cases hlt : k < n
      · obtain ⟨x, ex⟩ : ∃ x, p.ties[k]? = some x := ⟨_, List.getElem?_eq_getElem (by rw [← HN.out]; exact hlt)⟩
        obtain ⟨b1, o1, ea, hb1, hc1⟩ := T1 (by omega)
        obtain ⟨p0, p1⟩ := tiC (w := wr) (fun j hj => by rw [hb.cell hb1]; exact hc1 k x ex j hj)
        rw [ea]
        have EX := hidOf ex
        have HB : ∀ o1 : Obj, Below w1.heap.size w1 (wr.alloc o1) := fun o1 => hb.alloc hb.size _
        have HBW : ∀ o1 : Obj, Below w.heap.size w (wr.alloc o1) := fun o1 => BW.alloc BW.size _
        clear ex hc1 T1 ea
        have hA : (0 : Int) ≤ (k : Int) := by omega
        have hB : (k : Int) < (n : Int) := by omega
        have s1 : st vs x.kid ≤ 2 := by rcases st_cases vs x.kid with h | h | h <;> omega
        have s2 : st vs x.up ≤ 2 := by rcases st_cases vs x.up with h | h | h <;> omega
        go_wp2_with fail
        refine (tbits_any x a c vs _ (V1.below (HB _) (Nat.le_refl _))).mono ?_
        rintro e w2 ⟨rfl, hb2⟩
        have BB := (HB _).trans (hb2.mono (HB _).size)
        have BBW := (HBW _).trans (hb2.mono (HBW _).size)
        clear hb2
        go_wp2_with fail
        refine (holds_any _ _ s1 s2 _).mono ?_
        rintro e w2 ⟨rfl, rfl⟩
        cases hh : holdB (st vs x.kid) (st vs x.up)
        · go_wp2
          go_ret
          exact tells_no (fun h => by have := h.ties k x EX.out; unfold TieOk at this; rw [hh] at this; cases this) BBW
        · go_wp2
          go_roundw
          case rel => exact ⟨k + 1, by omega, by go_num, hidOf (upto_step HA.out EX.out hh), BB⟩
          case measure => simp [intOf]; omega
      · go_wp2
        go_ret
        exact tells_yes ⟨HV2.out, upto_all (by have := HN.out; omega) HA.out⟩ BW
  · obtain ⟨rfl, A1⟩ := hq.no h2
    go_wp2
    go_ret
    exact tells_no (fun h => h2 h.vals) (B0.trans (A1.mono B0.size))
end Go.Proofs.Ytokfemlcamnaaaa
