/- What impl.ValuesOk and spec.ValuesOk answer, where no rule has the least number that there is. -/
import Derived.Test.YtokfemlcamnaaaaValLib
import Derived.Test.YtokfemlcamnaaaaCntI
import Derived.Test.YtokfemlcamnaaaaBoxPc
import Derived.Deep.RegionWith
namespace Go.Proofs.Ytokfemlcamnaaaa
open Go.RowKit

theorem val_no {p : Pc} {vs : List Int} {k : Nat} {z : Int} {y : Ru} (hz : vs[k]? = some z) (hy : p.rules[k]? = some y) (h : ¬ (0 ≤ z ∧ z ≤ y.values - 1)) : ¬ ValOk p vs := fun hv => h (hv.all k z y hz hy)

set_option maxHeartbeats 8000000 in
theorem iVal_any (p : Pc) (l : Pl) (a : Option Addr) (c : Nat) (vs : List Int) (w : World) (hn0 : p.rules.length ≤ 1048576) (hm0 : vs.length ≤ 1048576) (hR : NoLeast p.rules) (hp : RowsAt 2 ruCells w l.a1 p.rules) (hv : KidsAt w a vs) :
    Calls Try.prog 19 #[pcV p l, .slice a vs.length c] w fun e w' => Tells (ValOk p vs) w e w' := by
  show Calls _ _ #[.agg #[.int .i64 p.indent, .slice l.a1 p.rules.length l.c1, .slice l.a2 p.chunks.length l.c2, .slice l.a3 p.spans.length l.c3, .slice l.a4 p.ties.length l.c4], _] _ _
  have HB : ∀ o1 : Obj, Below w.heap.size w (w.alloc o1) := fun o1 => (Below.refl _ _).alloc (Nat.le_refl _) _
  have hm1 := hm0
  clear hm0
  unfold RowsAt at hp
  unfold KidsAt at hv
  by_cases hl : vs.length = p.rules.length
  · obtain ⟨n, hn⟩ : ∃ n, n = p.rules.length := ⟨_, rfl⟩
    rw [hl, ← hn] at hv hm1 ⊢
    rw [← hn] at hp hn0
    have HN := hidOf hn
    have HL := hidOf hl
    have HR := hidOf hR
    clear hn hl hR
    have hne : ((n : Int) != (n : Int)) = false := by simp
    go_enter Try.func19, Try.ntmps19
    go_wp2
    go_loop [15] (fun i => ∃ k : Nat, k ≤ n ∧ i = .int .i64 k ∧ Hid (∀ (j : Nat) (z : Int) (y : Ru), j < k → vs[j]? = some z → p.rules[j]? = some y → 0 ≤ z ∧ z ≤ y.values - 1)) (fun i => n - (intOf i).toNat)
    case atStart => exact ⟨0, Nat.zero_le _, rfl, hidOf fun j z y h => by omega⟩
    case round =>
      obtain ⟨k, hk, rfl, HA⟩ := hrel
      by_cases hlt : k < n
      · obtain ⟨y, ey⟩ : ∃ y, p.rules[k]? = some y := ⟨_, List.getElem?_eq_getElem (by rw [← HN.out]; exact hlt)⟩
        obtain ⟨z, ez⟩ : ∃ z, vs[k]? = some z := ⟨_, List.getElem?_eq_getElem (by rw [HL.out, ← HN.out]; exact hlt)⟩
        obtain ⟨b1, o1, ea, hb1, hc1⟩ := hp (by omega)
        obtain ⟨b2, o2, eb, hb2, hc2⟩ := hv (by omega)
        have p01 := fun ob : Obj => ruC (w := w.alloc ob) (fun j hj => by rw [(HB ob).cell hb1]; exact hc1 k y ey j hj)
        have p0 := fun ob => (p01 ob).1
        have p2 := fun ob : Obj => ((HB ob).cell (p := ⟨b2, o2 + k, none⟩) hb2).trans (hc2 k z ez)
        rw [ea, eb]
        have EY := hidOf ey
        have EZ := hidOf ez
        clear ey ez hc1 hc2 hp hv p01 ea eb
        have hA : (0 : Int) ≤ (k : Int) := by omega
        have hB : (k : Int) < (n : Int) := by omega
        by_cases h1 : z < 0
        · go_wp2
          go_ret
          exact tells_no (val_no EZ.out EY.out (by omega)) (HB _)
        · by_cases h2 : z ≥ y.values
          · go_wp2
            go_ret
            exact tells_no (val_no EZ.out EY.out (by omega)) (HB _)
          · go_wp2
            go_round
            case rel => exact ⟨k + 1, by omega, by go_num, hidOf (fun j z' y' hj hz hy => by
              by_cases e : j = k
              · subst e
                have e1 := EZ.out
                have e2 := EY.out
                rw [hz] at e1
                rw [hy] at e2
                cases e1
                cases e2
                omega
              · exact HA.out j z' y' (by omega) hz hy)⟩
            case measure => simp [intOf]; omega
      · go_wp2
        go_ret
        exact tells_yes ⟨HL.out, fun j z y hz hy => HA.out j z y (by have := (List.getElem?_eq_some_iff.1 hy).1; have := HN.out; omega) hz hy⟩ (HB _)
  · have hne : ((vs.length : Int) != (p.rules.length : Int)) = true := by simp; omega
    have HL := hidOf hl
    clear hl hp hv
    go_enter Try.func19, Try.ntmps19
    go_wp2
    go_ret
    exact tells_no (fun h => HL.out h.len) (HB _)

set_option maxHeartbeats 8000000 in
theorem sVal_any (p : Pc) (l : Pl) (a : Option Addr) (c : Nat) (vs : List Int) (w : World) (hn0 : p.rules.length ≤ 1048576) (hm0 : vs.length ≤ 1048576) (hR : NoLeast p.rules) (hp : RowsAt 2 ruCells w l.a1 p.rules) (hv : KidsAt w a vs) :
    Calls Try.prog 21 #[pcV p l, .slice a vs.length c] w fun e w' => Tells (ValOk p vs) w e w' := by
  show Calls _ _ #[.agg #[.int .i64 p.indent, .slice l.a1 p.rules.length l.c1, .slice l.a2 p.chunks.length l.c2, .slice l.a3 p.spans.length l.c3, .slice l.a4 p.ties.length l.c4], _] _ _
  have hm1 := hm0
  clear hm0
  unfold KidsAt at hv
  by_cases hl : vs.length = p.rules.length
  · obtain ⟨n, hn⟩ : ∃ n, n = p.rules.length := ⟨_, rfl⟩
    rw [hl, ← hn] at hv hm1 ⊢
    rw [← hn] at hn0
    have HN := hidOf hn
    have HL := hidOf hl
    have HR := hidOf hR
    clear hn hl hR
    have hne : ((n : Int) != (n : Int)) = false := by simp
    have X := boxed w p l 29
    rw [← HN.out] at X
    obtain ⟨W0, hW0, X0, B0, S0⟩ := X
    have hX : w.heap.size < W0.heap.size := by omega
    have c1 := X0.c1
    have R0 := hp.below B0 (Nat.le_refl _)
    unfold RowsAt at R0
    rw [← HN.out] at c1 R0
    go_enter Try.func21, Try.ntmps21
    go_wp2
    rw [← hW0]
    clear hW0 S0 hp X0
    go_loopw [5] (fun i wr => ∃ k : Nat, k ≤ n ∧ i = .int .i64 k ∧ Below W0.heap.size W0 wr ∧ Hid (∀ (j : Nat) (z : Int) (y : Ru), j < k → vs[j]? = some z → p.rules[j]? = some y → 0 ≤ z ∧ z ≤ y.values - 1)) (fun i _ => n - (intOf i).toNat)
    case atStart => exact ⟨0, Nat.zero_le _, rfl, Below.refl _ _, hidOf fun j z y h => by omega⟩
    case round =>
      obtain ⟨k, hk, rfl, hb, HA⟩ := hrel
      have BW := B0.trans (hb.mono B0.size)
      have d1 := (hb.cell (p := ⟨w.heap.size, 1, none⟩) hX).trans c1
      by_cases hlt : k < n
      · obtain ⟨y, ey⟩ : ∃ y, p.rules[k]? = some y := ⟨_, List.getElem?_eq_getElem (by rw [← HN.out]; exact hlt)⟩
        obtain ⟨z, ez⟩ : ∃ z, vs[k]? = some z := ⟨_, List.getElem?_eq_getElem (by rw [HL.out, ← HN.out]; exact hlt)⟩
        obtain ⟨b1, o1, ea, hb1, hc1⟩ := R0 (by omega)
        obtain ⟨b2, o2, eb, hb2, hc2⟩ := hv (by omega)
        have hrr := HR.out k y ey
        obtain ⟨p0, p1⟩ := ruC (w := wr) (fun j hj => by rw [hb.cell hb1]; exact hc1 k y ey j hj)
        have p2 := (BW.cell (p := ⟨b2, o2 + k, none⟩) hb2).trans (hc2 k z ez)
        rw [ea] at d1
        rw [ea, eb]
        have EY := hidOf ey
        have EZ := hidOf ez
        clear ey ez hc1 hc2 R0 hv ea eb
        have hA : (0 : Int) ≤ (k : Int) := by omega
        have hB : (k : Int) < (n : Int) := by omega
        have hwv : IntKind.i64.wrap (y.values - 1) = y.values - 1 := IntWalk.i64_in _ ⟨by omega, by omega⟩
        have q0 := fun W => sIn_any z 0 (y.values - 1) W
        by_cases h1 : 0 ≤ z ∧ z ≤ y.values - 1
        · rw [inB_yes h1.1 h1.2] at q0
          have H1 := hidOf h1
          clear h1
          go_wp2
          go_quiet ((go_at_call 88; exact Calls.quiet_of_same (q0 _)))
          go_wp2
          go_roundw
          case rel => exact ⟨k + 1, by omega, by go_num, bel_drewN hb _, hidOf (fun j z' y' hj hz hy => by
            by_cases e : j = k
            · subst e
              have e1 := EZ.out
              have e2 := EY.out
              rw [hz] at e1
              rw [hy] at e2
              cases e1
              cases e2
              exact H1.out
            · exact HA.out j z' y' (by omega) hz hy)⟩
          case measure => simp [intOf]; omega
        · rw [inB_no h1] at q0
          have H1 := hidOf h1
          clear h1
          go_wp2
          go_quiet ((go_at_call 88; exact Calls.quiet_of_same (q0 _)))
          go_wp2
          go_ret
          exact tells_no (val_no EZ.out EY.out H1.out) (bel_drewN BW _)
      · go_wp2
        go_ret
        exact tells_yes ⟨HL.out, fun j z y hz hy => HA.out j z y (by have := (List.getElem?_eq_some_iff.1 hy).1; have := HN.out; omega) hz hy⟩ BW
  · have HB : ∀ o1 : Obj, Below w.heap.size w (w.alloc o1) := fun o1 => (Below.refl _ _).alloc (Nat.le_refl _) _
    have hne : ((vs.length : Int) != (p.rules.length : Int)) = true := by simp; omega
    have HL := hidOf hl
    clear hl hp hv
    go_enter Try.func21, Try.ntmps21
    go_wp2
    go_ret
    exact tells_no (fun h => HL.out h.len) (HB _)
end Go.Proofs.Ytokfemlcamnaaaa
