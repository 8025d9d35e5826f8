/- What spec.l08At answers, and splits in plain words. -/
import Derived.Test.YtgaejcljabhijaaValLib
import Derived.Test.YtgaejcljabhijaaKaf
import Derived.Test.YtgaejcljabhijaaOkS2
import Derived.Test.YtgaejcljabhijaaKad
import Derived.Test.YtgaejcljabhijaaKag
import Derived.Test.YtgaejcljabhijaaKae
import Derived.Test.YtgaejcljabhijaaKaj
import Derived.Test.YtgaejcljabhijaaBoxPc
import Derived.Test.YtgaejcljabhijaaCntI
namespace Go.Proofs.Ytgaejcljabhijaa
open Go.RowKit

theorem at_yes {p : Pc} {vs : List Int} {k : Nat} {x : Ch} {r : Nat} {z : Int} (h : Right p) (hv : ValOk p vs) (hk : (k : Int) ≤ (p.chunks.length : Int) - 2) (hx : p.chunks[k]? = some x) (hr : x.rule = (r : Int)) (hz : vs[r]? = some z) (hf : x.frm ≤ z) : SplitAt p vs (k : Int) :=
  ⟨h, hv, Int.natCast_nonneg k, hk, fun x' z' hx' hz' => by
    rw [Int.toNat_natCast, hx] at hx'
    cases hx'
    rw [hr, Int.toNat_natCast, hz] at hz'
    cases hz'
    exact hf⟩
theorem at_no {p : Pc} {vs : List Int} {k : Nat} {x : Ch} {r : Nat} {z : Int} (hx : p.chunks[k]? = some x) (hr : x.rule = (r : Int)) (hz : vs[r]? = some z) (hf : ¬ x.frm ≤ z) : ¬ SplitAt p vs (k : Int) := fun h =>
  hf (h.splits x z (by rw [Int.toNat_natCast]; exact hx) (by rw [hr, Int.toNat_natCast]; exact hz))

set_option maxHeartbeats 8000000 in
theorem s08At_any (p : Pc) (l : Pl) (a : Option Addr) (c : Nat) (vs : List Int) (k : Nat) (w : World) (hF : PcFew p) (hm0 : vs.length ≤ 1048576) (hp : PcIn w p l) (hv : KidsAt w a vs) (h1 : Right p) (h2 : ValOk p vs) (hk : (k : Int) ≤ (p.chunks.length : Int) - 2) :
    Calls Try.prog 114 #[pcV p l, .slice a vs.length c, .int .i64 k] w fun e w' => Tells (SplitAt p vs k) w e w' := by
  show Calls _ _ #[.agg #[.int .i64 p.indent, .slice l.a1 p.rules.length l.c1, .slice l.a2 p.chunks.length l.c2, .slice l.a3 p.spans.length l.c3, .slice l.a4 p.ties.length l.c4], _, _] _ _
  have hcl := hF.chunks
  have hm1 := hm0
  clear hm0
  have HB : ∀ o1 : Obj, Below w.heap.size w (w.alloc o1) := fun o1 => (Below.refl _ _).alloc (Nat.le_refl _) _
  have HB2 : ∀ o1 o2 : Obj, Below w.heap.size w ((w.alloc o1).alloc o2) := fun o1 o2 => ((Below.refl _ _).alloc (Nat.le_refl _) _).alloc (by simp) _
  obtain ⟨x, r, z, ex, er, hr, ez⟩ := split_val h1 h2 hk
  obtain ⟨b1, o1, ea, hb1, hc1⟩ := hp.chunks (by omega)
  obtain ⟨b2, o2, eb, hb2, hc2⟩ := hv (by omega)
  have hch := fun ob : Obj => chC (w := w.alloc ob) (fun j hj => by rw [(HB ob).cell hb1]; exact hc1 k x ex j hj)
  rw [er] at hch
  have p0 := fun ob => (hch ob).1
  have p1 := fun ob => (hch ob).2.1
  have p2 := fun ob => (hch ob).2.2.1
  have p3 := fun ob => (hch ob).2.2.2.1
  have p4 := fun ob => (hch ob).2.2.2.2
  have zc := fun ob oc : Obj => ((HB2 ob oc).cell (p := ⟨b2, o2 + r, none⟩) hb2).trans (hc2 r z ez)
  rw [ea, eb]
  have HX := hidOf ex
  have HR := hidOf er
  have HZ := hidOf ez
  have H1 := hidOf h1
  have H2 := hidOf h2
  have HK := hidOf hk
  clear ex er ez hc1 hc2 ea eb h1 h2 hch hp hv
  have hA : (0 : Int) ≤ (k : Int) := by omega
  have hB : (k : Int) < (p.chunks.length : Int) := by omega
  have hA2 : (0 : Int) ≤ (r : Int) := by omega
  have hB2 : (r : Int) < (vs.length : Int) := by omega
  by_cases hf : x.frm ≤ z
  · have hfd : decide (z ≥ x.frm) = true := by rw [decide_eq_true_eq]; exact hf
    have HF2 := hidOf hf
    go_enter Try.func114, Try.ntmps114
    go_wp2
    go_quiet (fail)
    go_wp2
    go_ret
    exact tells_yes (at_yes H1.out H2.out HK.out HX.out HR.out HZ.out HF2.out) (bel_drewN (HB2 _ _) _)
  · have hfd : decide (z ≥ x.frm) = false := by rw [decide_eq_false_iff_not]; omega
    have HF2 := hidOf hf
    go_enter Try.func114, Try.ntmps114
    go_wp2
    go_quiet (fail)
    go_wp2
    go_ret
    exact tells_no (at_no HX.out HR.out HZ.out (by have := HF2.out; omega)) (bel_drewN (HB2 _ _) _)

end Go.Proofs.Ytgaejcljabhijaa
/- What spec.l08At answers at a chunk. -/
namespace Go.Proofs.Ytgaejcljabhijaa
open Go.RowKit

theorem sSpl1_any (p : Pc) (l : Pl) (a : Option Addr) (c : Nat) (vs : List Int) (k : Nat) (x : Ch) (w : World) (hF : PcFew p) (hm0 : vs.length ≤ 1048576) (hp : PcIn w p l) (hv : KidsAt w a vs) (h1 : Right p) (h2 : ValOk p vs) (hk : (k : Int) ≤ (p.chunks.length : Int) - 2) (hx : p.chunks[k]? = some x) :
    Calls Try.prog 114 #[pcV p l, .slice a vs.length c, .int .i64 k] w fun e w' => e = .returned (.bool (spl vs x)) ∧ Below w.heap.size w w' :=
  (s08At_any p l a c vs k w hF hm0 hp hv h1 h2 hk).mono fun e w' ⟨b, e1, hb, hB⟩ => ⟨by rw [e1, same_bool hb (spl_at h1 h2 hk hx).symm], hB⟩

end Go.Proofs.Ytgaejcljabhijaa
/- What spec.l09Sum answers. -/
namespace Go.Proofs.Ytgaejcljabhijaa
open Go.RowKit

/-- Whether there is a split behind one of those chunks. -/
def anyTo (cs : List Ch) (vs : List Int) (f u : Nat) : Bool := ((cs.take u).drop f).any (spl vs)
theorem anyTo_none (cs : List Ch) (vs : List Int) (f : Nat) : anyTo cs vs f f = false := by
  unfold anyTo
  rw [List.drop_of_length_le (by rw [List.length_take]; omega)]
  rfl
theorem anyTo_more {cs : List Ch} {vs : List Int} {f u : Nat} {y : Ch} (hf : f ≤ u) (hy : cs[u]? = some y) : anyTo cs vs f (u + 1) = (anyTo cs vs f u || spl vs y) := by
  have hu := (List.getElem?_eq_some_iff.1 hy).1
  unfold anyTo
  rw [List.take_add_one, hy, List.drop_append_of_le_length (by rw [List.length_take]; omega), List.any_append]
  simp
theorem anyTo_all {cs : List Ch} {vs : List Int} {x : Sn} {f t : Nat} (hf : x.frm = (f : Int)) (ht : x.til = (t : Int)) : anyTo cs vs f (t + 1) = snSpl cs vs x := by
  unfold anyTo snSpl
  rw [hf, ht, Int.toNat_natCast, Int.toNat_natCast]

set_option maxHeartbeats 16000000 in
set_option maxRecDepth 20000 in
theorem sSum_any (p : Pc) (l : Pl) (a : Option Addr) (c : Nat) (vs : List Int) (w : World) (hF : PcFew p) (hm0 : vs.length ≤ 1048576) (hp : PcIn w p l) (hv : KidsAt w a vs) (h1 : Right p) (h2 : ValOk p vs) :
    Calls Try.prog 82 #[pcV p l, .slice a vs.length c] w fun e w' => e = .returned (.int .i64 (costSum p vs)) ∧ Below w.heap.size w w' := by
  show Calls _ _ #[.agg #[.int .i64 p.indent, .slice l.a1 p.rules.length l.c1, .slice l.a2 p.chunks.length l.c2, .slice l.a3 p.spans.length l.c3, .slice l.a4 p.ties.length l.c4], _] _ _
  have hcl := hF.chunks
  have hr8 := h1.rules.1
  have hs40 := h1.spans.most
  have hnr : vs.length ≤ p.rules.length := by rw [h2.len]; exact Nat.le_refl _
  obtain ⟨T, hT⟩ : ∃ T, T = costSum p vs := ⟨_, rfl⟩
  rw [← hT]
  have HT := hidOf hT
  clear hT
  obtain ⟨W0, hW0, X0, B0, S0⟩ := boxed w p l 29
  have hX : w.heap.size < W0.heap.size := by omega
  have I0 := hp.below B0 (Nat.le_refl _)
  have V0 := hv.below B0 (Nat.le_refl _)
  have hm1 : (vs.length : Int) ≤ 1048576 := by omega
  go_enter Try.func82, Try.ntmps82
  go_wp2
  rw [← hW0]
  clear hW0 hp hv S0
  go_loopw [5, 6] (fun m i wr => ∃ (k : Nat) (s : Int), k ≤ vs.length ∧ i = .int .i64 k ∧ m = .int .i64 s ∧ 0 ≤ s ∧ s ≤ 18 * k ∧ Hid (s + vcost (p.rules.drop k) (vs.drop k) = vcost p.rules vs) ∧ Below W0.heap.size W0 wr) (fun _ i _ => vs.length - (intOf i).toNat)
  case atStart => exact ⟨0, 0, Nat.zero_le _, rfl, rfl, by omega, by omega, hidOf (by rw [List.drop_zero, List.drop_zero]; omega), Below.refl _ _⟩
  case round =>
    obtain ⟨k, s, hk, rfl, rfl, hs0, hs1, HI, hb⟩ := hrel
    obtain ⟨-, c0, c1, c2, c3, c4⟩ := X0.below hb hX
    by_cases hlt : k < vs.length
    · obtain ⟨y, ey⟩ : ∃ y, p.rules[k]? = some y := ⟨_, List.getElem?_eq_getElem (by omega)⟩
      obtain ⟨z, ez⟩ : ∃ z, vs[k]? = some z := ⟨_, List.getElem?_eq_getElem hlt⟩
      obtain ⟨b1, o1, ea, hb1, hc1⟩ := I0.rules (by omega)
      obtain ⟨b2, o2, eb, hb2, hc2⟩ := V0 (by omega)
      obtain ⟨p0, p1⟩ := ruC (w := wr) (fun j hj => by rw [hb.cell hb1]; exact hc1 k y ey j hj)
      have p2 := (hb.cell (p := ⟨b2, o2 + k, none⟩) hb2).trans (hc2 k z ez)
      have hcz := one_cost h1 h2 ey ez
      have HE := hidOf (show (s + y.cost * z) + vcost (p.rules.drop (k + 1)) (vs.drop (k + 1)) = vcost p.rules vs by rw [← HI.out, vcost_at ey ez]; omega)
      rw [ea] at c1
      rw [ea, eb]
      clear ey ez hc1 hc2 ea eb
      have hA : (0 : Int) ≤ (k : Int) := by omega
      have hB : (k : Int) < (vs.length : Int) := by omega
      have hB2 : (k : Int) < (p.rules.length : Int) := by omega
      obtain ⟨q, hq⟩ : ∃ q, q = y.cost * z := ⟨_, rfl⟩
      have hwm : IntKind.i64.wrap (y.cost * z) = q := by rw [← hq]; exact IntWalk.i64_in _ ⟨by omega, by omega⟩
      rw [← hq] at hcz HE
      have hq1 := hcz.1
      have hq2 := hcz.2
      have hws : IntKind.i64.wrap (s + q) = s + q := IntWalk.i64_in _ ⟨by omega, by omega⟩
      clear hq hcz
      go_wp2
      go_quiet (fail)
      go_wp2
      go_roundw
      case rel => exact ⟨k + 1, s + q, by omega, by go_num, rfl, by omega, by omega, HE, bel_drewN hb _⟩
      case measure => simp [intOf]; omega
    · have hM : ¬ (k : Int) < (vs.length : Int) := by omega
      have HV := hidOf (show s = vcost p.rules vs by have h := HI.out; rw [vcost_end (by omega)] at h; omega)
      have hs2 : s ≤ 144 := by omega
      clear c0 c1 c2 c4
      go_wp2
      go_loopw [5, 7] (fun m i wr => ∃ (k : Nat) (s : Int), k ≤ p.spans.length ∧ i = .int .i64 k ∧ m = .int .i64 s ∧ 0 ≤ s ∧ s ≤ 144 + 9 * k ∧ Hid (s + scost p.chunks vs (p.spans.drop k) = T) ∧ Below W0.heap.size W0 wr) (fun _ i _ => p.spans.length - (intOf i).toNat)
      case atStart => exact ⟨0, s, Nat.zero_le _, rfl, rfl, by omega, by omega, hidOf (by rw [List.drop_zero, HT.out, HV.out]; rfl), hb⟩
      case round =>
        obtain ⟨k, s, hk, rfl, rfl, hs0, hs1, HI, hb⟩ := hrel
        have BW := B0.trans (hb.mono B0.size)
        obtain ⟨-, c0, c1, c2, c3, c4⟩ := X0.below hb hX
        by_cases hlt : k < p.spans.length
        · obtain ⟨x, ex⟩ : ∃ x, p.spans[k]? = some x := ⟨_, List.getElem?_eq_getElem hlt⟩
          obtain ⟨b1, o1, ea, hb1, hc1⟩ := I0.spans (by omega)
          obtain ⟨⟨g1, g2⟩, ⟨g3, g4⟩, hco0, hco1⟩ := h1.spans.all k x ex
          obtain ⟨f, hf⟩ := Int.eq_ofNat_of_zero_le g3
          obtain ⟨t, ht⟩ := Int.eq_ofNat_of_zero_le g1
          have HFf := hidOf hf
          have HTt := hidOf ht
          have hft : f ≤ t := by omega
          have htn : t + 1 < p.chunks.length := by omega
          have CS := fun (W : World) (hB : Below W0.heap.size W0 W) => snC (w := W) (fun j hj => by rw [hB.cell hb1]; exact hc1 k x ex j hj)
          obtain ⟨p0, p1, p2⟩ := CS wr hb
          have HCS := hidOf CS
          clear CS
          rw [ea] at c3
          rw [hf] at p0
          have HA := hidOf ea
          have EX := hidOf ex
          clear ex hc1 ea g1 g2 g3 g4 hf ht
          have hA : (0 : Int) ≤ (k : Int) := by omega
          have hB : (k : Int) < (p.spans.length : Int) := by omega
          go_wp2
          go_loopw [8, 9] (fun m i wr => ∃ (u : Nat) (b : Bool), f ≤ u ∧ u ≤ t + 1 ∧ i = .int .i64 u ∧ m = .bool b ∧ Hid (anyTo p.chunks vs f u = b) ∧ Below W0.heap.size W0 wr) (fun _ i _ => t + 1 - (intOf i).toNat)
          case atStart => exact ⟨f, false, Nat.le_refl _, by omega, rfl, rfl, hidOf (anyTo_none _ _ _), hb⟩
          case round =>
            obtain ⟨u, b, hu1, hu2, rfl, rfl, HB, hb⟩ := hrel
            clear c0 c1 c2 c3 c4 p0 p1 p2
            obtain ⟨-, c0, c1, c2, c3, c4⟩ := X0.below hb hX
            obtain ⟨p0, p1, p2⟩ := HCS.out _ hb
            rw [HA.out] at c3
            rw [HTt.out] at p1
            by_cases hut : u ≤ t
            · have hM2 : (u : Int) ≤ (t : Int) := by omega
              obtain ⟨y, ey⟩ : ∃ y, p.chunks[u]? = some y := ⟨_, List.getElem?_eq_getElem (by omega)⟩
              cases b with
              | true =>
                have HE := hidOf (show anyTo p.chunks vs f (u + 1) = true by rw [anyTo_more hu1 ey, HB.out]; rfl)
                clear ey
                go_wp2
                go_roundw
                case rel => exact ⟨u + 1, true, by omega, by omega, by go_num, rfl, HE, hb⟩
                case measure => simp [intOf]; omega
              | false =>
                have HE := hidOf (show anyTo p.chunks vs f (u + 1) = spl vs y by rw [anyTo_more hu1 ey, HB.out]; rfl)
                have q0 := sSpl1_any p l a c vs u y _ hF hm0 (I0.below hb (Nat.le_refl _)) (V0.below hb (Nat.le_refl _)) h1 h2 (by omega) ey
                have hpv : pcV p l = .agg #[.int .i64 p.indent, .slice l.a1 p.rules.length l.c1, .slice l.a2 p.chunks.length l.c2, .slice (some ⟨b1, o1, none⟩) p.spans.length l.c3, .slice l.a4 p.ties.length l.c4] := by show Value.agg _ = _; rw [HA.out]
                rw [hpv] at q0
                clear ey hpv
                go_wp2_with fail
                refine q0.mono ?_
                rintro e w3 ⟨rfl, hb3⟩
                have A3 := hb.trans (hb3.mono hb.size)
                go_wp2
                go_roundw
                case rel => exact ⟨u + 1, spl vs y, by omega, by omega, by go_num, rfl, HE, A3⟩
                case measure => simp [intOf]; omega
            · have hM2 : ¬ (u : Int) ≤ (t : Int) := by omega
              have hut2 : u = t + 1 := by omega
              have HE := hidOf (show snSpl p.chunks vs x = b by rw [← anyTo_all HFf.out HTt.out, ← hut2]; exact HB.out)
              clear hut2
              cases b with
              | true =>
                have HE2 := hidOf (show (s + x.cost) + scost p.chunks vs (p.spans.drop (k + 1)) = T by rw [← HI.out, scost_yes EX.out HE.out]; omega)
                go_wp2
                go_roundw
                case rel => exact ⟨k + 1, s + x.cost, by omega, by go_num, rfl, by omega, by omega, HE2, hb⟩
                case measure => simp [intOf]; omega
              | false =>
                have HE2 := hidOf (show s + scost p.chunks vs (p.spans.drop (k + 1)) = T by rw [← HI.out, scost_no EX.out HE.out])
                go_wp2
                go_roundw
                case rel => exact ⟨k + 1, s, by omega, by go_num, rfl, by omega, by omega, HE2, hb⟩
                case measure => simp [intOf]; omega
        · have hM2 : ¬ (k : Int) < (p.spans.length : Int) := by omega
          go_wp2
          go_ret
          have h := HI.out
          rw [scost_end (by omega)] at h
          exact ⟨ret_int (by omega), BW⟩
end Go.Proofs.Ytgaejcljabhijaa
/- What spec.l12Bound answers: what the first values of a right piece cost at least. -/
namespace Go.Proofs.Ytgaejcljabhijaa
open Go.RowKit

theorem pre_cost {p : Pc} {vs : List Int} {k : Nat} {y : Ru} {z : Int} (h1 : Right p) (h2 : PreV p.rules vs) (hy : p.rules[k]? = some y) (hz : vs[k]? = some z) : 0 ≤ y.cost * z ∧ y.cost * z ≤ 18 := by
  obtain ⟨⟨-, a2⟩, a3, a4⟩ := h1.rules.2 k y hy
  obtain ⟨b1, b2⟩ := h2.2 k z y hz hy
  exact ⟨Int.mul_nonneg a3 b1, Int.le_trans (Int.mul_le_mul_of_nonneg_right a4 b1) (by omega)⟩
theorem spl_out {vs : List Int} {y : Ch} {r : Nat} (hr : y.rule = (r : Int)) (hf : 1 ≤ y.frm) (h : vs.length ≤ r) : spl vs y = false := by
  unfold spl
  rw [hr, Int.toNat_natCast, List.getD_eq_getElem?_getD, List.getElem?_eq_none h]
  simp
  omega

set_option maxHeartbeats 16000000 in
set_option maxRecDepth 20000 in
theorem sBnd_any (p : Pc) (l : Pl) (a : Option Addr) (c : Nat) (vs : List Int) (w : World) (hF : PcFew p) (hp : PcIn w p l) (hv : KidsAt w a vs) (h1 : Right p) (h2 : PreV p.rules vs) :
    Calls Try.prog 46 #[pcV p l, .slice a vs.length c] w fun e w' => e = .returned (.int .i64 (costSum p vs)) ∧ Below w.heap.size w w' := by
  show Calls _ _ #[.agg #[.int .i64 p.indent, .slice l.a1 p.rules.length l.c1, .slice l.a2 p.chunks.length l.c2, .slice l.a3 p.spans.length l.c3, .slice l.a4 p.ties.length l.c4], _] _ _
  have hcl := hF.chunks
  have hr8 := h1.rules.1
  have hs40 := h1.spans.most
  have hnr : vs.length ≤ p.rules.length := h2.1
  obtain ⟨T, hT⟩ : ∃ T, T = costSum p vs := ⟨_, rfl⟩
  rw [← hT]
  have HT := hidOf hT
  clear hT
  obtain ⟨W0, hW0, X0, B0, S0⟩ := boxed w p l 29
  have hX : w.heap.size < W0.heap.size := by omega
  have I0 := hp.below B0 (Nat.le_refl _)
  have V0 := hv.below B0 (Nat.le_refl _)
  have hm1 : (vs.length : Int) ≤ 1048576 := by omega
  go_enter Try.func46, Try.ntmps46
  go_wp2
  rw [← hW0]
  clear hW0 hp hv S0
  go_loopw [5, 6] (fun m i wr => ∃ (k : Nat) (s : Int), k ≤ vs.length ∧ i = .int .i64 k ∧ m = .int .i64 s ∧ 0 ≤ s ∧ s ≤ 18 * k ∧ Hid (s + vcost (p.rules.drop k) (vs.drop k) = vcost p.rules vs) ∧ Below W0.heap.size W0 wr) (fun _ i _ => vs.length - (intOf i).toNat)
  case atStart => exact ⟨0, 0, Nat.zero_le _, rfl, rfl, by omega, by omega, hidOf (by rw [List.drop_zero, List.drop_zero]; omega), Below.refl _ _⟩
  case round =>
    obtain ⟨k, s, hk, rfl, rfl, hs0, hs1, HI, hb⟩ := hrel
    obtain ⟨-, c0, c1, c2, c3, c4⟩ := X0.below hb hX
    by_cases hlt : k < vs.length
    · obtain ⟨y, ey⟩ : ∃ y, p.rules[k]? = some y := ⟨_, List.getElem?_eq_getElem (by omega)⟩
      obtain ⟨z, ez⟩ : ∃ z, vs[k]? = some z := ⟨_, List.getElem?_eq_getElem hlt⟩
      obtain ⟨b1, o1, ea, hb1, hc1⟩ := I0.rules (by omega)
      obtain ⟨b2, o2, eb, hb2, hc2⟩ := V0 (by omega)
      obtain ⟨p0, p1⟩ := ruC (w := wr) (fun j hj => by rw [hb.cell hb1]; exact hc1 k y ey j hj)
      have p2 := (hb.cell (p := ⟨b2, o2 + k, none⟩) hb2).trans (hc2 k z ez)
      have hcz := pre_cost h1 h2 ey ez
      have HE := hidOf (show (s + y.cost * z) + vcost (p.rules.drop (k + 1)) (vs.drop (k + 1)) = vcost p.rules vs by rw [← HI.out, vcost_at ey ez]; omega)
      rw [ea] at c1
      rw [ea, eb]
      clear ey ez hc1 hc2 ea eb
      have hA : (0 : Int) ≤ (k : Int) := by omega
      have hB : (k : Int) < (vs.length : Int) := by omega
      have hB2 : (k : Int) < (p.rules.length : Int) := by omega
      obtain ⟨q, hq⟩ : ∃ q, q = y.cost * z := ⟨_, rfl⟩
      have hwm : IntKind.i64.wrap (y.cost * z) = q := by rw [← hq]; exact IntWalk.i64_in _ ⟨by omega, by omega⟩
      rw [← hq] at hcz HE
      have hq1 := hcz.1
      have hq2 := hcz.2
      have hws : IntKind.i64.wrap (s + q) = s + q := IntWalk.i64_in _ ⟨by omega, by omega⟩
      clear hq hcz
      go_wp2
      go_quiet (fail)
      go_wp2
      go_roundw
      case rel => exact ⟨k + 1, s + q, by omega, by go_num, rfl, by omega, by omega, HE, bel_drewN hb _⟩
      case measure => simp [intOf]; omega
    · have hM : ¬ (k : Int) < (vs.length : Int) := by omega
      have HV := hidOf (show s = vcost p.rules vs by have h := HI.out; rw [vcost_end (by omega)] at h; omega)
      have hs2 : s ≤ 144 := by omega
      clear c0 c1 c2 c4
      go_wp2
      go_loopw [5, 7] (fun m i wr => ∃ (k : Nat) (s : Int), k ≤ p.spans.length ∧ i = .int .i64 k ∧ m = .int .i64 s ∧ 0 ≤ s ∧ s ≤ 144 + 9 * k ∧ Hid (s + scost p.chunks vs (p.spans.drop k) = T) ∧ Below W0.heap.size W0 wr) (fun _ i _ => p.spans.length - (intOf i).toNat)
      case atStart => exact ⟨0, s, Nat.zero_le _, rfl, rfl, by omega, by omega, hidOf (by rw [List.drop_zero, HT.out, HV.out]; rfl), hb⟩
      case round =>
        obtain ⟨k, s, hk, rfl, rfl, hs0, hs1, HI, hb⟩ := hrel
        have BW := B0.trans (hb.mono B0.size)
        obtain ⟨-, c0, c1, c2, c3, c4⟩ := X0.below hb hX
        by_cases hlt : k < p.spans.length
        · obtain ⟨x, ex⟩ : ∃ x, p.spans[k]? = some x := ⟨_, List.getElem?_eq_getElem hlt⟩
          obtain ⟨b1, o1, ea, hb1, hc1⟩ := I0.spans (by omega)
          obtain ⟨⟨g1, g2⟩, ⟨g3, g4⟩, hco0, hco1⟩ := h1.spans.all k x ex
          obtain ⟨f, hf⟩ := Int.eq_ofNat_of_zero_le g3
          obtain ⟨t, ht⟩ := Int.eq_ofNat_of_zero_le g1
          have HFf := hidOf hf
          have HTt := hidOf ht
          have hft : f ≤ t := by omega
          have htn : t + 1 < p.chunks.length := by omega
          have CS := fun (W : World) (hB : Below W0.heap.size W0 W) => snC (w := W) (fun j hj => by rw [hB.cell hb1]; exact hc1 k x ex j hj)
          obtain ⟨p0, p1, p2⟩ := CS wr hb
          have HCS := hidOf CS
          clear CS
          rw [ea] at c3
          rw [hf] at p0
          have HA := hidOf ea
          have EX := hidOf ex
          clear ex hc1 ea g1 g2 g3 g4 hf ht
          have hA : (0 : Int) ≤ (k : Int) := by omega
          have hB : (k : Int) < (p.spans.length : Int) := by omega
          go_wp2
          go_loopw [8, 9] (fun m i wr => ∃ (u : Nat) (b : Bool), f ≤ u ∧ u ≤ t + 1 ∧ i = .int .i64 u ∧ m = .bool b ∧ Hid (anyTo p.chunks vs f u = b) ∧ Below W0.heap.size W0 wr) (fun _ i _ => t + 1 - (intOf i).toNat)
          case atStart => exact ⟨f, false, Nat.le_refl _, by omega, rfl, rfl, hidOf (anyTo_none _ _ _), hb⟩
          case round =>
            obtain ⟨u, b, hu1, hu2, rfl, rfl, HB, hb⟩ := hrel
            clear c0 c1 c2 c3 c4 p0 p1 p2
            obtain ⟨-, c0, c1, c2, c3, c4⟩ := X0.below hb hX
            obtain ⟨p0, p1, p2⟩ := HCS.out _ hb
            rw [HA.out] at c3
            rw [HTt.out] at p1
            by_cases hut : u ≤ t
            · have hM2 : (u : Int) ≤ (t : Int) := by omega
              obtain ⟨y, ey⟩ : ∃ y, p.chunks[u]? = some y := ⟨_, List.getElem?_eq_getElem (by omega)⟩
              obtain ⟨b3, o3, ec, hb3, hc3⟩ := I0.chunks (by omega)
              obtain ⟨e0, e1, e2, e3, e4⟩ := chC (w := wr) (fun j hj => by rw [hb.cell hb3]; exact hc3 u y ey j hj)
              obtain ⟨-, hsp⟩ := h1.chunks.texts u y ey
              obtain ⟨hr0, ⟨yr, hyr, hf1, -⟩, -⟩ := hsp (by omega)
              obtain ⟨r, er⟩ := Int.eq_ofNat_of_zero_le hr0
              have hal : ∀ (ob : Obj) (b k : Nat), b < wr.heap.size → (wr.alloc ob).cell? ⟨b, k, none⟩ = wr.cell? ⟨b, k, none⟩ := fun ob b k h => ((Below.refl wr.heap.size wr).alloc (Nat.le_refl _) ob).cell (p := ⟨b, k, none⟩) h
              have hwX : w.heap.size < wr.heap.size := Nat.lt_of_lt_of_le hX hb.size
              have hwb : b3 < wr.heap.size := Nat.lt_of_lt_of_le hb3 hb.size
              have HBA : ∀ ob : Obj, Below W0.heap.size W0 (wr.alloc ob) := fun ob => hb.alloc hb.size _
              have hAu : (0 : Int) ≤ (u : Int) := by omega
              have hBu : (u : Int) < (p.chunks.length : Int) := by omega
              rw [er] at e1
              rw [ec] at c2
              cases b with
              | true =>
                have HE := hidOf (show anyTo p.chunks vs f (u + 1) = true by rw [anyTo_more hu1 ey, HB.out]; rfl)
                clear ey hc3 er hyr ec
                go_wp2
                go_quiet (fail)
                go_wp2
                go_roundw
                case rel => exact ⟨u + 1, true, by omega, by omega, by go_num, rfl, HE, bel_drewN (HBA _) _⟩
                case measure => simp [intOf]; omega
              | false =>
                by_cases hrl : r < vs.length
                · obtain ⟨z, ez⟩ : ∃ z, vs[r]? = some z := ⟨_, List.getElem?_eq_getElem hrl⟩
                  have HE := hidOf (show anyTo p.chunks vs f (u + 1) = decide (z ≥ y.frm) by rw [anyTo_more hu1 ey, HB.out, Bool.false_or, spl_of er ez])
                  obtain ⟨b2, o2, eb, hb2, hc2⟩ := V0 (by omega)
                  have zc := fun ob : Obj => ((HBA ob).cell (p := ⟨b2, o2 + r, none⟩) hb2).trans (hc2 r z ez)
                  have hg : decide ((r : Int) < (vs.length : Int)) = true := by simp; omega
                  have hAr : (0 : Int) ≤ (r : Int) := by omega
                  have hBr : (r : Int) < (vs.length : Int) := by omega
                  rw [eb]
                  clear ey hc3 er hyr ec ez hc2 eb
                  go_wp2
                  go_quiet (fail)
                  go_wp2
                  go_roundw
                  case rel => exact ⟨u + 1, decide (z ≥ y.frm), by omega, by omega, by go_num, rfl, HE, bel_drewN (HBA _) _⟩
                  case measure => simp [intOf]; omega
                · have HE := hidOf (show anyTo p.chunks vs f (u + 1) = false by rw [anyTo_more hu1 ey, HB.out, Bool.false_or, spl_out er hf1 (by omega)])
                  have hg : decide ((r : Int) < (vs.length : Int)) = false := by simp; omega
                  clear ey hc3 er hyr ec
                  go_wp2
                  go_quiet (fail)
                  go_wp2
                  go_roundw
                  case rel => exact ⟨u + 1, false, by omega, by omega, by go_num, rfl, HE, bel_drewN (HBA _) _⟩
                  case measure => simp [intOf]; omega
            · have hM2 : ¬ (u : Int) ≤ (t : Int) := by omega
              have hut2 : u = t + 1 := by omega
              have HE := hidOf (show snSpl p.chunks vs x = b by rw [← anyTo_all HFf.out HTt.out, ← hut2]; exact HB.out)
              clear hut2
              cases b with
              | true =>
                have HE2 := hidOf (show (s + x.cost) + scost p.chunks vs (p.spans.drop (k + 1)) = T by rw [← HI.out, scost_yes EX.out HE.out]; omega)
                go_wp2
                go_roundw
                case rel => exact ⟨k + 1, s + x.cost, by omega, by go_num, rfl, by omega, by omega, HE2, hb⟩
                case measure => simp [intOf]; omega
              | false =>
                have HE2 := hidOf (show s + scost p.chunks vs (p.spans.drop (k + 1)) = T by rw [← HI.out, scost_no EX.out HE.out])
                go_wp2
                go_roundw
                case rel => exact ⟨k + 1, s, by omega, by go_num, rfl, by omega, by omega, HE2, hb⟩
                case measure => simp [intOf]; omega
        · have hM2 : ¬ (k : Int) < (p.spans.length : Int) := by omega
          go_wp2
          go_ret
          have h := HI.out
          rw [scost_end (by omega)] at h
          exact ⟨ret_int (by omega), BW⟩
end Go.Proofs.Ytgaejcljabhijaa
/- What spec.TiesMay answers. -/
namespace Go.Proofs.Ytgaejcljabhijaa
open Go.RowKit

set_option maxHeartbeats 8000000 in
theorem sMay_any (p : Pc) (l : Pl) (a : Option Addr) (c : Nat) (vs : List Int) (w : World) (hF : PcFew p) (hm0 : vs.length ≤ 1048576) (hp : PcIn w p l) (hv : KidsAt w a vs) :
    Calls Try.prog 47 #[pcV p l, .slice a vs.length c] w fun e w' => e = .returned (.bool (mayB p vs)) ∧ Below w.heap.size w w' := by
  show Calls _ _ #[.agg #[.int .i64 p.indent, .slice l.a1 p.rules.length l.c1, .slice l.a2 p.chunks.length l.c2, .slice l.a3 p.spans.length l.c3, .slice l.a4 p.ties.length l.c4], _] _ _
  obtain ⟨W0, hW0, X0, B0, S0⟩ := boxed w p l 29
  have hX : w.heap.size < W0.heap.size := by omega
  have T1 := hp.ties.below B0 (Nat.le_refl _)
  have V1 := hv.below B0 (Nat.le_refl _)
  have hft := hF.ties
  have c4 := X0.c4
  obtain ⟨n, hn⟩ : ∃ n, n = p.ties.length := ⟨_, rfl⟩
  have HN := hidOf hn
  unfold RowsAt at T1
  unfold KidsAt at V1
  rw [← hn] at T1 hft c4 hW0 ⊢
  obtain ⟨m, hm⟩ : ∃ m, m = vs.length := ⟨_, rfl⟩
  have HM := hidOf hm
  rw [← hm] at V1 hm0 ⊢
  clear hn hm hp hv X0
  go_enter Try.func47, Try.ntmps47
  go_wp2
  rw [← hW0]
  clear hW0 S0
  go_loopw [6] (fun i wr => ∃ k : Nat, k ≤ n ∧ i = .int .i64 k ∧ Hid (∀ (j : Nat) (x : Ti), j < k → p.ties[j]? = some x → brk vs x = false) ∧ Below W0.heap.size W0 wr) (fun i _ => n - (intOf i).toNat)
  case atStart => exact ⟨0, Nat.zero_le _, rfl, hidOf fun j x h => by omega, Below.refl _ _⟩
  case round =>
    obtain ⟨k, hk, rfl, HA, hb⟩ := hrel
    have BW := B0.trans (hb.mono B0.size)
    have d4 := (hb.cell (p := ⟨w.heap.size, 4, none⟩) hX).trans c4
    by_cases hlt : k < n
    · obtain ⟨x, ex⟩ : ∃ x, p.ties[k]? = some x := ⟨_, List.getElem?_eq_getElem (by rw [← HN.out]; exact hlt)⟩
      obtain ⟨b1, o1, ea, hb1, hc1⟩ := T1 (by omega)
      obtain ⟨p0, p1⟩ := tiC (w := wr) (fun j hj => by rw [hb.cell hb1]; exact hc1 k x ex j hj)
      rw [ea] at d4
      have EX := hidOf ex
      have HB : ∀ o1 : Obj, Below W0.heap.size W0 (wr.alloc o1) := fun o1 => hb.alloc hb.size _
      have HBW : ∀ o1 : Obj, Below w.heap.size w (wr.alloc o1) := fun o1 => BW.alloc BW.size _
      clear ex hc1 T1 ea c4
      have hA : (0 : Int) ≤ (k : Int) := by omega
      have hB : (k : Int) < (n : Int) := by omega
      have q0 := fun W => sIn_any x.kid 0 ((m : Int) - 1) W
      have q1 := fun W => sIn_any x.up 0 ((m : Int) - 1) W
      by_cases h0 : 0 ≤ x.kid ∧ x.kid ≤ (m : Int) - 1
      · rw [inB_yes h0.1 h0.2] at q0
        obtain ⟨r, er⟩ := Int.eq_ofNat_of_zero_le h0.1
        by_cases h1 : 0 ≤ x.up ∧ x.up ≤ (m : Int) - 1
        · rw [inB_yes h1.1 h1.2] at q1
          obtain ⟨u, eu⟩ := Int.eq_ofNat_of_zero_le h1.1
          obtain ⟨z, ez⟩ : ∃ z, vs[r]? = some z := ⟨_, List.getElem?_eq_getElem (by rw [← HM.out]; omega)⟩
          obtain ⟨y, ey⟩ : ∃ y, vs[u]? = some y := ⟨_, List.getElem?_eq_getElem (by rw [← HM.out]; omega)⟩
          obtain ⟨b2, o2, eb, hb2, hc2⟩ := V1 (by omega)
          have zc := fun ob : Obj => (((HB ob).cell (p := ⟨b2, o2 + r, none⟩) hb2).trans (hc2 r z ez))
          have yc := fun ob : Obj => (((HB ob).cell (p := ⟨b2, o2 + u, none⟩) hb2).trans (hc2 u y ey))
          have HE := hidOf (brk_of er eu ez ey)
          have hA2 : (0 : Int) ≤ (r : Int) := by omega
          have hB2 : (r : Int) < (m : Int) := by omega
          have hA3 : (0 : Int) ≤ (u : Int) := by omega
          have hB3 : (u : Int) < (m : Int) := by omega
          rw [er] at p0 q0
          rw [eu] at p1 q1
          rw [eb]
          clear er eu ez ey hc2 V1 eb h0 h1
          by_cases hz : 0 < z
          · by_cases hy : y = 0
            · have HF2 := hidOf (show brk vs x = true by rw [HE.out, decide_eq_true hz, decide_eq_true hy]; rfl)
              rw [hy] at yc
              clear hy
              go_wp2_with (first | (go_at_call_of 36 (r); refine (q0 _).mono ?_; rintro e w9 ⟨rfl, rfl⟩) | (go_at_call_of 36 (u); refine (q1 _).mono ?_; rintro e w9 ⟨rfl, rfl⟩))
              go_ret
              exact ⟨ret_bool (may_no EX.out HF2.out).symm, HBW _⟩
            · have HF2 := hidOf (show brk vs x = false by rw [HE.out, decide_eq_false hy, Bool.and_false])
              have hy2 : (y == 0) = false := by simpa using hy
              go_wp2_with (first | (go_at_call_of 36 (r); refine (q0 _).mono ?_; rintro e w9 ⟨rfl, rfl⟩) | (go_at_call_of 36 (u); refine (q1 _).mono ?_; rintro e w9 ⟨rfl, rfl⟩))
              go_roundw
              case rel => exact ⟨k + 1, by omega, by go_num, hidOf (upto_step HA.out EX.out HF2.out), HB _⟩
              case measure => simp [intOf]; omega
          · have HF2 := hidOf (show brk vs x = false by rw [HE.out, decide_eq_false hz, Bool.false_and])
            go_wp2_with (first | (go_at_call_of 36 (r); refine (q0 _).mono ?_; rintro e w9 ⟨rfl, rfl⟩) | (go_at_call_of 36 (u); refine (q1 _).mono ?_; rintro e w9 ⟨rfl, rfl⟩))
            go_roundw
            case rel => exact ⟨k + 1, by omega, by go_num, hidOf (upto_step HA.out EX.out HF2.out), HB _⟩
            case measure => simp [intOf]; omega
        · rw [inB_no h1] at q1
          have HF2 := hidOf (show brk vs x = false from brk_out2 (by rw [← HM.out]; exact h1))
          rw [er] at p0 q0
          clear er h0 h1
          go_wp2_with (first | (go_at_call_of 36 (r); refine (q0 _).mono ?_; rintro e w9 ⟨rfl, rfl⟩) | (go_at_call_of 36 (x.up); refine (q1 _).mono ?_; rintro e w9 ⟨rfl, rfl⟩))
          go_roundw
          case rel => exact ⟨k + 1, by omega, by go_num, hidOf (upto_step HA.out EX.out HF2.out), HB _⟩
          case measure => simp [intOf]; omega
      · rw [inB_no h0] at q0
        have HF2 := hidOf (show brk vs x = false from brk_out1 (by rw [← HM.out]; exact h0))
        clear h0
        go_wp2_with (go_at_call_of 36 (x.kid); refine (q0 _).mono ?_; rintro e w9 ⟨rfl, rfl⟩)
        go_roundw
        case rel => exact ⟨k + 1, by omega, by go_num, hidOf (upto_step HA.out EX.out HF2.out), HB _⟩
        case measure => simp [intOf]; omega
    · go_wp2
      go_ret
      exact ⟨ret_bool (may_yes (upto_all (by have := HN.out; omega) HA.out)).symm, BW⟩
end Go.Proofs.Ytgaejcljabhijaa
