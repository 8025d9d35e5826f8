/- What spec.l08At answers, and splits in plain words. -/
import Derived.Test.YtbjfkfohkpdlfaaKd
import Derived.Test.YtbjfkfohkpdlfaaOkI3
import Derived.Test.YtbjfkfohkpdlfaaKb
import Derived.Test.YtbjfkfohkpdlfaaOkS2
import Derived.Test.YtbjfkfohkpdlfaaKc
namespace Go.Proofs.Ytbjfkfohkpdlfaa
open Go.RowKit

theorem at_yes {p : Pc} {vs : List Int} {k : Nat} {x : Ch} {r : Nat} {z : Int} (h : Right p) (hv : ValOk p vs) (hk : (k : Int) ≤ (p.chunks.length : Int) - 2) (hx : p.chunks[k]? = some x) (hr : x.rule = (r : Int)) (hz : vs[r]? = some z) (hf : x.frm ≤ z) : SplitAt p vs (k : Int) :=
  ⟨h, hv, Int.natCast_nonneg k, hk, fun x' z' hx' hz' => by
    rw [Int.toNat_natCast, hx] at hx'
    cases hx'
    rw [hr, Int.toNat_natCast, hz] at hz'
    cases hz'
    exact hf⟩
theorem at_no {p : Pc} {vs : List Int} {k : Nat} {x : Ch} {r : Nat} {z : Int} (hx : p.chunks[k]? = some x) (hr : x.rule = (r : Int)) (hz : vs[r]? = some z) (hf : ¬ x.frm ≤ z) : ¬ SplitAt p vs (k : Int) := fun h =>
  hf (h.splits x z (by rw [Int.toNat_natCast]; exact hx) (by rw [hr, Int.toNat_natCast]; exact hz))

set_option maxHeartbeats 8000000 in
theorem s08At_any (p : Pc) (l : Pl) (a : Option Addr) (c : Nat) (vs : List Int) (k : Nat) (w : World) (hF : PcFew p) (hm0 : vs.length ≤ 1048576) (hp : PcIn w p l) (hv : KidsAt w a vs) (h1 : Right p) (h2 : ValOk p vs) (hk : (k : Int) ≤ (p.chunks.length : Int) - 2) :
    Calls Try.prog 103 #[pcV p l, .slice a vs.length c, .int .i64 k] w fun e w' => Tells (SplitAt p vs k) w e w' := by
  show Calls _ _ #[.agg #[.int .i64 p.indent, .slice l.a1 p.rules.length l.c1, .slice l.a2 p.chunks.length l.c2, .slice l.a3 p.spans.length l.c3, .slice l.a4 p.ties.length l.c4], _, _] _ _
  have hcl := hF.chunks
  have hm1 := hm0
  clear hm0
  have HB : ∀ o1 : Obj, Below w.heap.size w (w.alloc o1) := fun o1 => (Below.refl _ _).alloc (Nat.le_refl _) _
  have HB2 : ∀ o1 o2 : Obj, Below w.heap.size w ((w.alloc o1).alloc o2) := fun o1 o2 => ((Below.refl _ _).alloc (Nat.le_refl _) _).alloc (by simp) _
  obtain ⟨x, r, z, ex, er, hr, ez⟩ := split_val h1 h2 hk
  obtain ⟨b1, o1, ea, hb1, hc1⟩ := hp.chunks (by omega)
  obtain ⟨b2, o2, eb, hb2, hc2⟩ := hv (by omega)
  have hch := fun ob : Obj => chC (w := w.alloc ob) (fun j hj => by rw [(HB ob).cell hb1]; exact hc1 k x ex j hj)
  rw [er] at hch
  have p0 := fun ob => (hch ob).1
  have p1 := fun ob => (hch ob).2.1
  have p2 := fun ob => (hch ob).2.2.1
  have p3 := fun ob => (hch ob).2.2.2.1
  have p4 := fun ob => (hch ob).2.2.2.2
  have zc := fun ob oc : Obj => ((HB2 ob oc).cell (p := ⟨b2, o2 + r, none⟩) hb2).trans (hc2 r z ez)
  rw [ea, eb]
  have HX := hidOf ex
  have HR := hidOf er
  have HZ := hidOf ez
  have H1 := hidOf h1
  have H2 := hidOf h2
  have HK := hidOf hk
  clear ex er ez hc1 hc2 ea eb h1 h2 hch hp hv
  have hA : (0 : Int) ≤ (k : Int) := by omega
  have hB : (k : Int) < (p.chunks.length : Int) := by omega
  have hA2 : (0 : Int) ≤ (r : Int) := by omega
  have hB2 : (r : Int) < (vs.length : Int) := by omega
  by_cases hf : x.frm ≤ z
  · have hfd : decide (z ≥ x.frm) = true := by rw [decide_eq_true_eq]; exact hf
    have HF2 := hidOf hf
    go_enter Try.func103, Try.ntmps103
    go_wp2
    go_quiet (fail)
    go_wp2
    go_ret
    exact tells_yes (at_yes H1.out H2.out HK.out HX.out HR.out HZ.out HF2.out) (bel_drewN (HB2 _ _) _)
  · have hfd : decide (z ≥ x.frm) = false := by rw [decide_eq_false_iff_not]; omega
    have HF2 := hidOf hf
    go_enter Try.func103, Try.ntmps103
    go_wp2
    go_quiet (fail)
    go_wp2
    go_ret
    exact tells_no (at_no HX.out HR.out HZ.out (by have := HF2.out; omega)) (bel_drewN (HB2 _ _) _)

end Go.Proofs.Ytbjfkfohkpdlfaa
/- What spec.l08At answers at a chunk. -/
namespace Go.Proofs.Ytbjfkfohkpdlfaa
open Go.RowKit

theorem sSpl1_any (p : Pc) (l : Pl) (a : Option Addr) (c : Nat) (vs : List Int) (k : Nat) (x : Ch) (w : World) (hF : PcFew p) (hm0 : vs.length ≤ 1048576) (hp : PcIn w p l) (hv : KidsAt w a vs) (h1 : Right p) (h2 : ValOk p vs) (hk : (k : Int) ≤ (p.chunks.length : Int) - 2) (hx : p.chunks[k]? = some x) :
    Calls Try.prog 103 #[pcV p l, .slice a vs.length c, .int .i64 k] w fun e w' => e = .returned (.bool (spl vs x)) ∧ Below w.heap.size w w' :=
  (s08At_any p l a c vs k w hF hm0 hp hv h1 h2 hk).mono fun e w' ⟨b, e1, hb, hB⟩ => ⟨by rw [e1, same_bool hb (spl_at h1 h2 hk hx).symm], hB⟩

end Go.Proofs.Ytbjfkfohkpdlfaa
/- What spec.l09Width and spec.l09Over answer. -/
namespace Go.Proofs.Ytbjfkfohkpdlfaa
open Go.RowKit

set_option maxHeartbeats 1600000 in
theorem sWid_any (x : Int) (w : World) : Calls Try.prog 80 #[.int .i64 x] w fun e w' => e = .returned (.int .i64 (wid x)) ∧ w' = w := by
  by_cases h1 : x < 0
  · rw [show wid x = 0 by unfold wid; omega]
    go_enter Try.func80, Try.ntmps80
    go_wp2
    go_ret
    exact ⟨rfl, rfl⟩
  · by_cases h2 : x > 100000
    · rw [show wid x = 100000 by unfold wid; omega]
      go_enter Try.func80, Try.ntmps80
      go_wp2
      go_ret
      exact ⟨rfl, rfl⟩
    · rw [show wid x = x by unfold wid; omega]
      go_enter Try.func80, Try.ntmps80
      go_wp2
      go_ret
      exact ⟨rfl, rfl⟩
/-- The lines of what is left: none behind the last chunk. -/
def renF (p : Pc) (vs : List Int) (t : ByteArray) (k : Nat) : List ByteArray := if k < p.chunks.length then ren p.indent vs t (p.chunks.drop k) else []
theorem renF_last {p : Pc} {vs : List Int} {k : Nat} {x : Ch} (t u : ByteArray) (hx : p.chunks[k]? = some x) (hk : k + 1 = p.chunks.length) : renF p vs t k = (t ++ x.text) :: renF p vs u (k + 1) := by
  unfold renF
  rw [if_pos (by omega), if_neg (by omega), ren_last t hx hk]
theorem renF_split {p : Pc} {vs : List Int} {k : Nat} {x : Ch} (t : ByteArray) (hx : p.chunks[k]? = some x) (hk : k + 1 < p.chunks.length) (h : spl vs x = true) : renF p vs t k = (t ++ x.text) :: renF p vs (blanks (p.indent + x.nest)) (k + 1) := by
  unfold renF
  rw [if_pos (by omega), if_pos hk, ren_split t hx hk h]
theorem renF_join {p : Pc} {vs : List Int} {k : Nat} {x : Ch} (t : ByteArray) (hx : p.chunks[k]? = some x) (hk : k + 1 < p.chunks.length) (h : spl vs x = false) : renF p vs t k = renF p vs (t ++ x.text ++ sp1 x) (k + 1) := by
  unfold renF
  rw [if_pos (by omega), if_pos hk, ren_join t hx hk h]

set_option maxHeartbeats 16000000 in
set_option maxRecDepth 20000 in
theorem sOver_any (p : Pc) (l : Pl) (a : Option Addr) (c : Nat) (vs : List Int) (d : Int) (w : World) (hF : PcFew p) (hm0 : vs.length ≤ 1048576) (hp : PcIn w p l) (hv : KidsAt w a vs) (h1 : Right p) (h2 : ValOk p vs) (hd0 : 0 ≤ d) (hd1 : d ≤ 100000) :
    Calls Try.prog 79 #[pcV p l, .slice a vs.length c, .int .i64 d] w fun e w' => e = .returned (.int .i64 (ovr d (linesOf p vs))) ∧ Below w.heap.size w w' := by
  show Calls _ _ #[.agg #[.int .i64 p.indent, .slice l.a1 p.rules.length l.c1, .slice l.a2 p.chunks.length l.c2, .slice l.a3 p.spans.length l.c3, .slice l.a4 p.ties.length l.c4], _, _] _ _
  have hcl := hF.chunks
  have hc1 := h1.chunks.least
  have hc80 := h1.chunks.most
  have hin := h1.indent
  obtain ⟨T, hT⟩ : ∃ T, T = ovr d (linesOf p vs) := ⟨_, rfl⟩
  rw [← hT]
  have HT := hidOf (show ovr d (renF p vs (blanks p.indent) 0) = T by rw [hT]; unfold renF linesOf; rw [if_pos (by omega), List.drop_zero])
  clear hT
  obtain ⟨W0, hW0, X0, B0, S0⟩ := boxed w p l 29
  have hX : w.heap.size < W0.heap.size := by omega
  have I0 := hp.below B0 (Nat.le_refl _)
  have V0 := hv.below B0 (Nat.le_refl _)
  have hbi : ((blanks p.indent).size : Int) = p.indent := by rw [blanks_size]; omega
  have HBI := hidOf hbi
  clear hbi
  go_enter Try.func79, Try.ntmps79
  go_wp2
  rw [← hW0]
  clear hW0 hp hv
  go_loopw [7, 8, 9] (fun m s i wr => ∃ (k : Nat) (ov : Int) (t : ByteArray), k ≤ p.chunks.length ∧ i = .int .i64 k ∧ m = .int .i64 ov ∧ s = .int .i64 t.size ∧ 0 ≤ ov ∧ ov ≤ k * 90000000 ∧ t.size ≤ 100 + k * 1048577 ∧ Hid (ov + ovr d (renF p vs t k) = T) ∧ Below W0.heap.size W0 wr) (fun _ _ i _ => p.chunks.length - (intOf i).toNat)
  case atStart => exact ⟨0, 0, blanks p.indent, Nat.zero_le _, rfl, rfl, by rw [HBI.out], by omega, by omega, by have := HBI.out; omega, hidOf (by rw [HT.out]; omega), Below.refl _ _⟩
  case round =>
    obtain ⟨k, ov, t, hk, rfl, rfl, rfl, ho0, ho1, hts, HI, hb⟩ := hrel
    have BW := B0.trans (hb.mono B0.size)
    have hzr := hb.size
    obtain ⟨-, c0, c1, c2, c3, c4⟩ := X0.below hb hX
    by_cases hlt : k < p.chunks.length
    · obtain ⟨x, ex⟩ : ∃ x, p.chunks[k]? = some x := ⟨_, List.getElem?_eq_getElem hlt⟩
      have hxs := hF.texts k x ex
      obtain ⟨b1, o1, ea, hb1, hc1'⟩ := I0.chunks (by omega)
      obtain ⟨p0, p1, p2, p3, p4⟩ := chC (w := wr) (fun j hj => by rw [hb.cell hb1]; exact hc1' k x ex j hj)
      have hpv : pcV p l = .agg #[.int .i64 p.indent, .slice l.a1 p.rules.length l.c1, .slice (some ⟨b1, o1, none⟩) p.chunks.length l.c2, .slice l.a3 p.spans.length l.c3, .slice l.a4 p.ties.length l.c4] := by show Value.agg _ = _; rw [ea]
      have hA : (0 : Int) ≤ (k : Int) := by omega
      have hB : (k : Int) < (p.chunks.length : Int) := by omega
      have hap := app_size t x.text
      have C := fun (W : World) (hB : Below W0.heap.size W0 W) => And.intro (X0.below hB hX) (chC (w := W) (fun j hj => by rw [hB.cell hb1]; exact hc1' k x ex j hj))
      rw [ea] at c2
      have HA := hidOf ea
      by_cases hlast : k + 1 = p.chunks.length
      · have hq : ((k : Int) + 1 == (p.chunks.length : Int)) = true := by simp; omega
        have hbk : x.nest = 0 := by
          have := h1.chunks.last x (by rw [show p.chunks.length - 1 = k by omega]; exact ex)
          exact this.2.2.2
        have h0 := HI.out
        rw [renF_last t (blanks (p.indent + x.nest)) ex hlast, ovr, hap] at h0
        have hn1 : 0 ≤ x.nest := by omega
        have hn2 : x.nest ≤ 40 := by omega
        have hwv : IntKind.i64.wrap (p.indent + x.nest) = p.indent + x.nest := IntWalk.i64_in _ ⟨by omega, by omega⟩
        have HBN := hidOf (show ((blanks (p.indent + x.nest)).size : Int) = p.indent + x.nest by rw [blanks_size]; omega)
        clear ex hc1' ea hpv hbk hap
        by_cases hgo : (t.size : Int) + (x.text.size : Int) > d
        · have HE := hidOf (show (ov + (t.size : Int) + (x.text.size : Int) - d) + ovr d (renF p vs (blanks (p.indent + x.nest)) (k + 1)) = T by rw [← h0]; omega)
          clear h0
          go_wp2
          go_quiet (fail)
          go_wp2
          go_roundw
          case rel => exact ⟨k + 1, ov + (t.size : Int) + (x.text.size : Int) - d, blanks (p.indent + x.nest), by omega, by go_num, congrArg (Value.int .i64) (by omega), by rw [HBN.out], by omega, by omega, by have := HBN.out; omega, HE, bel_drewN hb _⟩
          case measure => simp [intOf]; omega
        · have HE := hidOf (show ov + ovr d (renF p vs (blanks (p.indent + x.nest)) (k + 1)) = T by rw [← h0]; omega)
          clear h0
          go_wp2
          go_quiet (fail)
          go_wp2
          go_roundw
          case rel => exact ⟨k + 1, ov, blanks (p.indent + x.nest), by omega, by go_num, rfl, by rw [HBN.out], by omega, by omega, by have := HBN.out; omega, HE, bel_drewN hb _⟩
          case measure => simp [intOf]; omega
      · have hq : ((k : Int) + 1 == (p.chunks.length : Int)) = false := by simp; omega
        have q0 := sSpl1_any p l a c vs k x wr hF hm0 (I0.below hb (Nat.le_refl _)) (V0.below hb (Nat.le_refl _)) h1 h2 (by omega) ex
        rw [hpv] at q0
        obtain ⟨-, hs⟩ := h1.chunks.texts k x ex
        obtain ⟨-, -, hn1, hn2⟩ := hs (by omega)
        cases hsp : spl vs x with
        | true =>
          rw [hsp] at q0
          have h0 := HI.out
          rw [renF_split t ex (by omega) hsp, ovr, hap] at h0
          have hwv : IntKind.i64.wrap (p.indent + x.nest) = p.indent + x.nest := IntWalk.i64_in _ ⟨by omega, by omega⟩
          have HBN := hidOf (show ((blanks (p.indent + x.nest)).size : Int) = p.indent + x.nest by rw [blanks_size]; omega)
          clear ex hc1' ea hpv hap hsp hs
          by_cases hgo : (t.size : Int) + (x.text.size : Int) > d
          · have HE := hidOf (show (ov + (t.size : Int) + (x.text.size : Int) - d) + ovr d (renF p vs (blanks (p.indent + x.nest)) (k + 1)) = T by rw [← h0]; omega)
            clear h0
            go_wp2_with fail
            refine q0.mono ?_
            rintro e w3 ⟨rfl, hb3⟩
            have A3 := hb.trans (hb3.mono hb.size)
            clear q0 hb3 c0 c1 c2 c3 c4 p0 p1 p2 p3 p4
            obtain ⟨⟨-, c0, c1, c2, c3, c4⟩, p0, p1, p2, p3, p4⟩ := C w3 A3
            rw [HA.out] at c2
            clear C
            go_wp2
            go_quiet (fail)
            go_wp2
            go_roundw
            case rel => exact ⟨k + 1, ov + (t.size : Int) + (x.text.size : Int) - d, blanks (p.indent + x.nest), by omega, by go_num, congrArg (Value.int .i64) (by omega), by rw [HBN.out], by omega, by omega, by have := HBN.out; omega, HE, bel_drewN A3 _⟩
            case measure => simp [intOf]; omega
          · have HE := hidOf (show ov + ovr d (renF p vs (blanks (p.indent + x.nest)) (k + 1)) = T by rw [← h0]; omega)
            clear h0
            go_wp2_with fail
            refine q0.mono ?_
            rintro e w3 ⟨rfl, hb3⟩
            have A3 := hb.trans (hb3.mono hb.size)
            clear q0 hb3 c0 c1 c2 c3 c4 p0 p1 p2 p3 p4
            obtain ⟨⟨-, c0, c1, c2, c3, c4⟩, p0, p1, p2, p3, p4⟩ := C w3 A3
            rw [HA.out] at c2
            clear C
            go_wp2
            go_quiet (fail)
            go_wp2
            go_roundw
            case rel => exact ⟨k + 1, ov, blanks (p.indent + x.nest), by omega, by go_num, rfl, by rw [HBN.out], by omega, by omega, by have := HBN.out; omega, HE, bel_drewN A3 _⟩
            case measure => simp [intOf]; omega
        | false =>
          rw [hsp] at q0
          have h0 := HI.out
          rw [renF_join t ex (by omega) hsp] at h0
          cases hbl : x.space with
          | true =>
            rw [sp1_yes hbl] at h0
            have HE := hidOf h0
            have hsz : (t ++ x.text ++ ⟨#[32]⟩).size = t.size + x.text.size + 1 := by rw [app_size, hap]; rfl
            have HSZ := hidOf hsz
            clear ex hc1' ea hpv hsp hs h0 hap hsz
            go_wp2_with fail
            refine q0.mono ?_
            rintro e w3 ⟨rfl, hb3⟩
            have A3 := hb.trans (hb3.mono hb.size)
            clear q0 hb3 c0 c1 c2 c3 c4 p0 p1 p2 p3 p4
            obtain ⟨⟨-, c0, c1, c2, c3, c4⟩, p0, p1, p2, p3, p4⟩ := C w3 A3
            rw [HA.out] at c2
            rw [hbl] at p3
            clear C hbl
            go_wp2
            go_roundw
            case rel => exact ⟨k + 1, ov, _, by omega, by go_num, rfl, congrArg (Value.int .i64) (by rw [HSZ.out]; omega), ho0, by omega, by rw [HSZ.out]; omega, HE, A3⟩
            case measure => simp [intOf]; omega
          | false =>
            rw [sp1_no hbl, app_none] at h0
            have HE := hidOf h0
            have HSZ := hidOf hap
            clear ex hc1' ea hpv hsp hs h0 hap
            go_wp2_with fail
            refine q0.mono ?_
            rintro e w3 ⟨rfl, hb3⟩
            have A3 := hb.trans (hb3.mono hb.size)
            clear q0 hb3 c0 c1 c2 c3 c4 p0 p1 p2 p3 p4
            obtain ⟨⟨-, c0, c1, c2, c3, c4⟩, p0, p1, p2, p3, p4⟩ := C w3 A3
            rw [HA.out] at c2
            rw [hbl] at p3
            clear C hbl
            go_wp2
            go_roundw
            case rel => exact ⟨k + 1, ov, _, by omega, by go_num, rfl, congrArg (Value.int .i64) (by rw [HSZ.out]; omega), ho0, by omega, by rw [HSZ.out]; omega, HE, A3⟩
            case measure => simp [intOf]; omega
    · have hM : ¬ (k : Int) < (p.chunks.length : Int) := by omega
      go_wp2
      go_ret
      have h := HI.out
      unfold renF at h
      rw [if_neg (by omega), ovr] at h
      exact ⟨ret_int (by omega), BW⟩
end Go.Proofs.Ytbjfkfohkpdlfaa
/- What spec.l09Sum answers. -/
namespace Go.Proofs.Ytbjfkfohkpdlfaa
open Go.RowKit

/-- Whether there is a split behind one of those chunks. -/
def anyTo (cs : List Ch) (vs : List Int) (f u : Nat) : Bool := ((cs.take u).drop f).any (spl vs)
theorem anyTo_none (cs : List Ch) (vs : List Int) (f : Nat) : anyTo cs vs f f = false := by
  unfold anyTo
  rw [List.drop_of_length_le (by rw [List.length_take]; omega)]
  rfl
theorem anyTo_more {cs : List Ch} {vs : List Int} {f u : Nat} {y : Ch} (hf : f ≤ u) (hy : cs[u]? = some y) : anyTo cs vs f (u + 1) = (anyTo cs vs f u || spl vs y) := by
  have hu := (List.getElem?_eq_some_iff.1 hy).1
  unfold anyTo
  rw [List.take_add_one, hy, List.drop_append_of_le_length (by rw [List.length_take]; omega), List.any_append]
  simp
theorem anyTo_all {cs : List Ch} {vs : List Int} {x : Sn} {f t : Nat} (hf : x.frm = (f : Int)) (ht : x.til = (t : Int)) : anyTo cs vs f (t + 1) = snSpl cs vs x := by
  unfold anyTo snSpl
  rw [hf, ht, Int.toNat_natCast, Int.toNat_natCast]

set_option maxHeartbeats 16000000 in
set_option maxRecDepth 20000 in
theorem sSum_any (p : Pc) (l : Pl) (a : Option Addr) (c : Nat) (vs : List Int) (w : World) (hF : PcFew p) (hm0 : vs.length ≤ 1048576) (hp : PcIn w p l) (hv : KidsAt w a vs) (h1 : Right p) (h2 : ValOk p vs) :
    Calls Try.prog 81 #[pcV p l, .slice a vs.length c] w fun e w' => e = .returned (.int .i64 (costSum p vs)) ∧ Below w.heap.size w w' := by
  show Calls _ _ #[.agg #[.int .i64 p.indent, .slice l.a1 p.rules.length l.c1, .slice l.a2 p.chunks.length l.c2, .slice l.a3 p.spans.length l.c3, .slice l.a4 p.ties.length l.c4], _] _ _
  have hcl := hF.chunks
  have hr8 := h1.rules.1
  have hs40 := h1.spans.most
  have hnr : vs.length ≤ p.rules.length := by rw [h2.len]; exact Nat.le_refl _
  obtain ⟨T, hT⟩ : ∃ T, T = costSum p vs := ⟨_, rfl⟩
  rw [← hT]
  have HT := hidOf hT
  clear hT
  obtain ⟨W0, hW0, X0, B0, S0⟩ := boxed w p l 29
  have hX : w.heap.size < W0.heap.size := by omega
  have I0 := hp.below B0 (Nat.le_refl _)
  have V0 := hv.below B0 (Nat.le_refl _)
  have hm1 : (vs.length : Int) ≤ 1048576 := by omega
  go_enter Try.func81, Try.ntmps81
  go_wp2
  rw [← hW0]
  clear hW0 hp hv S0
  go_loopw [5, 6] (fun m i wr => ∃ (k : Nat) (s : Int), k ≤ vs.length ∧ i = .int .i64 k ∧ m = .int .i64 s ∧ 0 ≤ s ∧ s ≤ 18 * k ∧ Hid (s + vcost (p.rules.drop k) (vs.drop k) = vcost p.rules vs) ∧ Below W0.heap.size W0 wr) (fun _ i _ => vs.length - (intOf i).toNat)
  case atStart => exact ⟨0, 0, Nat.zero_le _, rfl, rfl, by omega, by omega, hidOf (by rw [List.drop_zero, List.drop_zero]; omega), Below.refl _ _⟩
  case round =>
    obtain ⟨k, s, hk, rfl, rfl, hs0, hs1, HI, hb⟩ := hrel
    obtain ⟨-, c0, c1, c2, c3, c4⟩ := X0.below hb hX
    by_cases hlt : k < vs.length
    · obtain ⟨y, ey⟩ : ∃ y, p.rules[k]? = some y := ⟨_, List.getElem?_eq_getElem (by omega)⟩
      obtain ⟨z, ez⟩ : ∃ z, vs[k]? = some z := ⟨_, List.getElem?_eq_getElem hlt⟩
      obtain ⟨b1, o1, ea, hb1, hc1⟩ := I0.rules (by omega)
      obtain ⟨b2, o2, eb, hb2, hc2⟩ := V0 (by omega)
      obtain ⟨p0, p1⟩ := ruC (w := wr) (fun j hj => by rw [hb.cell hb1]; exact hc1 k y ey j hj)
      have p2 := (hb.cell (p := ⟨b2, o2 + k, none⟩) hb2).trans (hc2 k z ez)
      have hcz := one_cost h1 h2 ey ez
      have HE := hidOf (show (s + y.cost * z) + vcost (p.rules.drop (k + 1)) (vs.drop (k + 1)) = vcost p.rules vs by rw [← HI.out, vcost_at ey ez]; omega)
      rw [ea] at c1
      rw [ea, eb]
      clear ey ez hc1 hc2 ea eb
      have hA : (0 : Int) ≤ (k : Int) := by omega
      have hB : (k : Int) < (vs.length : Int) := by omega
      have hB2 : (k : Int) < (p.rules.length : Int) := by omega
      obtain ⟨q, hq⟩ : ∃ q, q = y.cost * z := ⟨_, rfl⟩
      have hwm : IntKind.i64.wrap (y.cost * z) = q := by rw [← hq]; exact IntWalk.i64_in _ ⟨by omega, by omega⟩
      rw [← hq] at hcz HE
      have hq1 := hcz.1
      have hq2 := hcz.2
      have hws : IntKind.i64.wrap (s + q) = s + q := IntWalk.i64_in _ ⟨by omega, by omega⟩
      clear hq hcz
      go_wp2
      go_quiet (fail)
      go_wp2
      go_roundw
      case rel => exact ⟨k + 1, s + q, by omega, by go_num, rfl, by omega, by omega, HE, bel_drewN hb _⟩
      case measure => simp [intOf]; omega
    · have hM : ¬ (k : Int) < (vs.length : Int) := by omega
      have HV := hidOf (show s = vcost p.rules vs by have h := HI.out; rw [vcost_end (by omega)] at h; omega)
      have hs2 : s ≤ 144 := by omega
      clear c0 c1 c2 c4
      go_wp2
      go_loopw [5, 7] (fun m i wr => ∃ (k : Nat) (s : Int), k ≤ p.spans.length ∧ i = .int .i64 k ∧ m = .int .i64 s ∧ 0 ≤ s ∧ s ≤ 144 + 9 * k ∧ Hid (s + scost p.chunks vs (p.spans.drop k) = T) ∧ Below W0.heap.size W0 wr) (fun _ i _ => p.spans.length - (intOf i).toNat)
      case atStart => exact ⟨0, s, Nat.zero_le _, rfl, rfl, by omega, by omega, hidOf (by rw [List.drop_zero, HT.out, HV.out]; rfl), hb⟩
      case round =>
        obtain ⟨k, s, hk, rfl, rfl, hs0, hs1, HI, hb⟩ := hrel
        have BW := B0.trans (hb.mono B0.size)
        obtain ⟨-, c0, c1, c2, c3, c4⟩ := X0.below hb hX
        by_cases hlt : k < p.spans.length
        · obtain ⟨x, ex⟩ : ∃ x, p.spans[k]? = some x := ⟨_, List.getElem?_eq_getElem hlt⟩
          obtain ⟨b1, o1, ea, hb1, hc1⟩ := I0.spans (by omega)
          obtain ⟨⟨g1, g2⟩, ⟨g3, g4⟩, hco0, hco1⟩ := h1.spans.all k x ex
          obtain ⟨f, hf⟩ := Int.eq_ofNat_of_zero_le g3
          obtain ⟨t, ht⟩ := Int.eq_ofNat_of_zero_le g1
          have HFf := hidOf hf
          have HTt := hidOf ht
          have hft : f ≤ t := by omega
          have htn : t + 1 < p.chunks.length := by omega
          have CS := fun (W : World) (hB : Below W0.heap.size W0 W) => snC (w := W) (fun j hj => by rw [hB.cell hb1]; exact hc1 k x ex j hj)
          obtain ⟨p0, p1, p2⟩ := CS wr hb
          have HCS := hidOf CS
          clear CS
          rw [ea] at c3
          rw [hf] at p0
          have HA := hidOf ea
          have EX := hidOf ex
          clear ex hc1 ea g1 g2 g3 g4 hf ht
          have hA : (0 : Int) ≤ (k : Int) := by omega
          have hB : (k : Int) < (p.spans.length : Int) := by omega
          go_wp2
          go_loopw [8, 9] (fun m i wr => ∃ (u : Nat) (b : Bool), f ≤ u ∧ u ≤ t + 1 ∧ i = .int .i64 u ∧ m = .bool b ∧ Hid (anyTo p.chunks vs f u = b) ∧ Below W0.heap.size W0 wr) (fun _ i _ => t + 1 - (intOf i).toNat)
          case atStart => exact ⟨f, false, Nat.le_refl _, by omega, rfl, rfl, hidOf (anyTo_none _ _ _), hb⟩
          case round =>
            obtain ⟨u, b, hu1, hu2, rfl, rfl, HB, hb⟩ := hrel
            clear c0 c1 c2 c3 c4 p0 p1 p2
            obtain ⟨-, c0, c1, c2, c3, c4⟩ := X0.below hb hX
            obtain ⟨p0, p1, p2⟩ := HCS.out _ hb
            rw [HA.out] at c3
            rw [HTt.out] at p1
            by_cases hut : u ≤ t
            · have hM2 : (u : Int) ≤ (t : Int) := by omega
              obtain ⟨y, ey⟩ : ∃ y, p.chunks[u]? = some y := ⟨_, List.getElem?_eq_getElem (by omega)⟩
              cases b with
              | true =>
                have HE := hidOf (show anyTo p.chunks vs f (u + 1) = true by rw [anyTo_more hu1 ey, HB.out]; rfl)
                clear ey
                go_wp2
                go_roundw
                case rel => exact ⟨u + 1, true, by omega, by omega, by go_num, rfl, HE, hb⟩
                case measure => simp [intOf]; omega
              | false =>
                have HE := hidOf (show anyTo p.chunks vs f (u + 1) = spl vs y by rw [anyTo_more hu1 ey, HB.out]; rfl)
                have q0 := sSpl1_any p l a c vs u y _ hF hm0 (I0.below hb (Nat.le_refl _)) (V0.below hb (Nat.le_refl _)) h1 h2 (by omega) ey
                have hpv : pcV p l = .agg #[.int .i64 p.indent, .slice l.a1 p.rules.length l.c1, .slice l.a2 p.chunks.length l.c2, .slice (some ⟨b1, o1, none⟩) p.spans.length l.c3, .slice l.a4 p.ties.length l.c4] := by show Value.agg _ = _; rw [HA.out]
                rw [hpv] at q0
                clear ey hpv
                go_wp2_with fail
                refine q0.mono ?_
                rintro e w3 ⟨rfl, hb3⟩
                have A3 := hb.trans (hb3.mono hb.size)
                go_wp2
                go_roundw
                case rel => exact ⟨u + 1, spl vs y, by omega, by omega, by go_num, rfl, HE, A3⟩
                case measure => simp [intOf]; omega
            · have hM2 : ¬ (u : Int) ≤ (t : Int) := by omega
              have hut2 : u = t + 1 := by omega
              have HE := hidOf (show snSpl p.chunks vs x = b by rw [← anyTo_all HFf.out HTt.out, ← hut2]; exact HB.out)
              clear hut2
              cases b with
              | true =>
                have HE2 := hidOf (show (s + x.cost) + scost p.chunks vs (p.spans.drop (k + 1)) = T by rw [← HI.out, scost_yes EX.out HE.out]; omega)
                go_wp2
                go_roundw
                case rel => exact ⟨k + 1, s + x.cost, by omega, by go_num, rfl, by omega, by omega, HE2, hb⟩
                case measure => simp [intOf]; omega
              | false =>
                have HE2 := hidOf (show s + scost p.chunks vs (p.spans.drop (k + 1)) = T by rw [← HI.out, scost_no EX.out HE.out])
                go_wp2
                go_roundw
                case rel => exact ⟨k + 1, s, by omega, by go_num, rfl, by omega, by omega, HE2, hb⟩
                case measure => simp [intOf]; omega
        · have hM2 : ¬ (k : Int) < (p.spans.length : Int) := by omega
          go_wp2
          go_ret
          have h := HI.out
          rw [scost_end (by omega)] at h
          exact ⟨ret_int (by omega), BW⟩
end Go.Proofs.Ytbjfkfohkpdlfaa
/- What spec.l09Cost and spec.CostOf answer. -/
namespace Go.Proofs.Ytbjfkfohkpdlfaa
open Go.RowKit

set_option maxHeartbeats 8000000 in
set_option maxRecDepth 20000 in
theorem sCostR_any (p : Pc) (l : Pl) (a : Option Addr) (c : Nat) (vs : List Int) (wd : Int) (w : World) (hF : PcFew p) (hm0 : vs.length ≤ 1048576) (hp : PcIn w p l) (hv : KidsAt w a vs) (h1 : Right p) (h2 : ValOk p vs) :
    Calls Try.prog 41 #[pcV p l, .slice a vs.length c, .int .i64 wd] w fun e w' => e = .returned (coV (costOver p vs wd) (costSum p vs)) ∧ Below w.heap.size w w' := by
  show Calls _ _ #[.agg #[.int .i64 p.indent, .slice l.a1 p.rules.length l.c1, .slice l.a2 p.chunks.length l.c2, .slice l.a3 p.spans.length l.c3, .slice l.a4 p.ties.length l.c4], _, _] _ _
  have hwi := wid_le wd
  have qO := fun W hP hK => sOver_any p l a c vs (wid wd) W hF hm0 hP hK h1 h2 hwi.1 hwi.2
  have qW := fun W => sWid_any wd W
  have qS := fun W hP hK => sSum_any p l a c vs W hF hm0 hP hK h1 h2
  unfold costOver
  obtain ⟨d, hd⟩ : ∃ d, d = wid wd := ⟨_, rfl⟩
  obtain ⟨sm, hsm⟩ : ∃ sm, sm = costSum p vs := ⟨_, rfl⟩
  rw [← hd] at qO qW
  rw [← hd, ← hsm]
  rw [← hsm] at qS
  obtain ⟨ov, hov⟩ : ∃ ov, ov = ovr d (linesOf p vs) := ⟨_, rfl⟩
  rw [← hov] at qO
  rw [← hov]
  clear hsm hov hd hwi
  obtain ⟨W0, hW0, X0, B0, S0⟩ := boxed w p l 29
  have hX : w.heap.size < W0.heap.size := by omega
  have I0 := hp.below B0 (Nat.le_refl _)
  have V0 := hv.below B0 (Nat.le_refl _)
  go_enter Try.func41, Try.ntmps41
  go_wp2
  rw [← hW0]
  obtain ⟨W1, hW1⟩ : ∃ W1, W1 = W0.alloc (.cells #[.int .i64 0, .int .i64 0] 34) := ⟨_, rfl⟩
  rw [← hW1]
  have B1 : Below W0.heap.size W0 W1 := by rw [hW1]; exact (Below.refl _ _).alloc (Nat.le_refl _) _
  have F1 : W1.heap[w.heap.size + 1]? = some (.cells #[.int .i64 0, .int .i64 0] 34 (0, 0)) := by rw [hW1, ← S0]; exact heap_alloc_new W0 _
  have z1 : w.heap.size + 1 < W1.heap.size := by rw [hW1]; simp; omega
  have z0 : w.heap.size < W1.heap.size := by omega
  have I1 := I0.below B1 (Nat.le_refl _)
  have V1 := V0.below B1 (Nat.le_refl _)
  obtain ⟨-, c0, c1, c2, c3, c4⟩ := X0.below B1 hX
  have g0 : W1.cell? ⟨w.heap.size + 1, 0, none⟩ = some (.int .i64 0) := by rw [Lib.cell_of_heap F1]; rfl
  have g1 : W1.cell? ⟨w.heap.size + 1, 1, none⟩ = some (.int .i64 0) := by rw [Lib.cell_of_heap F1]; rfl
  have f0 := Lib.frozen_of_heap F1 0
  have f1 := Lib.frozen_of_heap F1 1
  have hne : w.heap.size ≠ w.heap.size + 1 := by omega
  have ID := I1.below (Below.refl W1.heap.size W1).drew (Nat.le_refl _)
  have VD := V1.below (Below.refl W1.heap.size W1).drew (Nat.le_refl _)
  clear hW0 hW1 hp hv S0
  go_region_held3 (fun W => ((W.cell? ⟨w.heap.size, 0, none⟩ = some (.int .i64 p.indent) ∧ W.cell? ⟨w.heap.size, 1, none⟩ = some (.slice l.a1 p.rules.length l.c1) ∧ W.cell? ⟨w.heap.size, 2, none⟩ = some (.slice l.a2 p.chunks.length l.c2) ∧ W.cell? ⟨w.heap.size, 3, none⟩ = some (.slice l.a3 p.spans.length l.c3) ∧ W.cell? ⟨w.heap.size, 4, none⟩ = some (.slice l.a4 p.ties.length l.c4)))) (first | trivial | go_keep)
    ((first
    | (go_at_call 80; refine (qW _).mono ?_; rintro e w0 ⟨rfl, rfl⟩)
    | (go_at_call 79; refine (qO _ ID VD).mono ?_; rintro e w1 ⟨rfl, hb1⟩; have A1 := (Below.refl W1.heap.size W1).drew.trans hb1; have hc1 := (bcell A1).1; have hd1 := (bcell A1).2)
    | (go_at_call 81; refine (qS _ (I1.below A1 (Nat.le_refl _)) (V1.below A1 (Nat.le_refl _))).mono ?_; rintro e w3 ⟨rfl, hb2⟩; have A3 := A1.trans (hb2.mono A1.size); have hc2 := (bcell A3).1; have hd2 := (bcell A3).2)))
  have F3 := (A3.block (w.heap.size + 1) z1).trans F1
  have y0 : w3.cell? ⟨w.heap.size + 1, 0, none⟩ = some (.int .i64 0) := by rw [Lib.cell_of_heap F3]; rfl
  have y1 : w3.cell? ⟨w.heap.size + 1, 1, none⟩ = some (.int .i64 0) := by rw [Lib.cell_of_heap F3]; rfl
  have BW : Below w.heap.size w w3 := B0.trans ((B1.trans (A3.mono B1.size)).mono B0.size)
  clear qO qW qS c0 c1 c2 c3 c4 g0 g1 f0 f1 hc1 hc2 hd1 hd2 hb1 hb2 A1 A3 I0 I1 V0 V1 ID VD F1 X0
  go_wp2
  refine bodyPost_ret (results_one2 rfl _ _ (w.heap.size + 1) (.int .i64 ov) (.int .i64 sm) _ rfl ?_ ?_ Try.underlying34 rfl infoCoI) rfl ?_
  · go_simp
  · go_simp
  · have q1 : w.heap.size ≤ w.heap.size + 1 := by omega
    exact ⟨rfl, (BW.setCell q1 _).setCell q1 _⟩

set_option maxHeartbeats 8000000 in
set_option maxRecDepth 20000 in
theorem sCost_yes (p : Pc) (l : Pl) (a : Option Addr) (c : Nat) (vs : List Int) (wd : Int) (w : World) (hF : PcFew p) (hm0 : vs.length ≤ 1048576) (hp : PcIn w p l) (hv : KidsAt w a vs) (h1 : Right p) (h2 : ValOk p vs) :
    Calls Try.prog 10 #[pcV p l, .slice a vs.length c, .int .i64 wd] w fun e w' => CoAns (costOver p vs wd) (costSum p vs) w e w' := by
  show Calls _ _ #[.agg #[.int .i64 p.indent, .slice l.a1 p.rules.length l.c1, .slice l.a2 p.chunks.length l.c2, .slice l.a3 p.spans.length l.c3, .slice l.a4 p.ties.length l.c4], _, _] _ _
  obtain ⟨ov, hov⟩ : ∃ ov, ov = costOver p vs wd := ⟨_, rfl⟩
  obtain ⟨sm, hsm⟩ : ∃ sm, sm = costSum p vs := ⟨_, rfl⟩
  have qR := fun W hP hK => sCostR_any p l a c vs wd W hF hm0 hP hK h1 h2
  rw [← hov, ← hsm] at qR
  rw [← hov, ← hsm]
  clear hov hsm
  obtain ⟨W0, hW0, X0, B0, S0⟩ := boxed w p l 29
  have hX : w.heap.size < W0.heap.size := by omega
  have I0 := hp.below B0 (Nat.le_refl _)
  have V0 := hv.below B0 (Nat.le_refl _)
  go_enter Try.func10, Try.ntmps10
  go_wp2_with fail
  rw [← hW0]
  obtain ⟨W1, hW1⟩ : ∃ W1, W1 = W0.alloc (.cells #[.int .i64 0, .int .i64 0] 34) := ⟨_, rfl⟩
  rw [← hW1]
  have B1 : Below W0.heap.size W0 W1 := by rw [hW1]; exact (Below.refl _ _).alloc (Nat.le_refl _) _
  have F1 : W1.heap[w.heap.size + 1]? = some (.cells #[.int .i64 0, .int .i64 0] 34 (0, 0)) := by rw [hW1, ← S0]; exact heap_alloc_new W0 _
  have z1 : w.heap.size + 1 < W1.heap.size := by rw [hW1]; simp; omega
  clear hW0 hW1 hp hv S0
  refine (sOk_any p l _ hF (I0.below B1 (Nat.le_refl _))).mono ?_
  rintro e w1 hq
  obtain ⟨rfl, A1⟩ := hq.yes h1
  clear hq
  have C1 := B1.trans (A1.mono B1.size)
  obtain ⟨-, c0, c1, c2, c3, c4⟩ := X0.below C1 hX
  go_wp2_with fail
  refine (sVal_any p l a c vs _ hF.rules hm0 (noLeast_right h1.rules) (I0.rules.below C1 (Nat.le_refl _)) (V0.below C1 (Nat.le_refl _))).mono ?_
  rintro e w2 hq
  obtain ⟨rfl, hb2⟩ := hq.yes h2
  have A2 := A1.trans (hb2.mono A1.size)
  have C2 := B1.trans (A2.mono B1.size)
  clear hq hb2 A1 C1 c0 c1 c2 c3 c4
  obtain ⟨-, c0, c1, c2, c3, c4⟩ := X0.below C2 hX
  go_wp2_with fail
  refine (qR _ (I0.below C2 (Nat.le_refl _)) (V0.below C2 (Nat.le_refl _))).mono ?_
  rintro e w3 ⟨rfl, hb3⟩
  have A3 := A2.trans (hb3.mono A2.size)
  have F3 := (A3.block (w.heap.size + 1) z1).trans F1
  have y0 : w3.cell? ⟨w.heap.size + 1, 0, none⟩ = some (.int .i64 0) := by rw [Lib.cell_of_heap F3]; rfl
  have y1 : w3.cell? ⟨w.heap.size + 1, 1, none⟩ = some (.int .i64 0) := by rw [Lib.cell_of_heap F3]; rfl
  have f0 := Lib.frozen_of_heap F3 0
  have f1 := Lib.frozen_of_heap F3 1
  have BW : Below w.heap.size w w3 := B0.trans ((B1.trans (A3.mono B1.size)).mono B0.size)
  clear c0 c1 c2 c3 c4 qR A2 A3 hb3 C2 F1
  go_wp2
  refine bodyPost_ret (results_one2 rfl _ _ (w.heap.size + 1) (.int .i64 ov) (.int .i64 sm) _ rfl ?_ ?_ Try.underlying34 rfl infoCoI) rfl ?_
  · go_simp
  · go_simp
  · have q1 : w.heap.size ≤ w.heap.size + 1 := by omega
    exact ⟨rfl, (BW.setCell q1 _).setCell q1 _⟩

set_option maxHeartbeats 8000000 in
set_option maxRecDepth 20000 in
theorem sCost_no (p : Pc) (l : Pl) (a : Option Addr) (c : Nat) (vs : List Int) (wd : Int) (w : World) (hF : PcFew p) (hm0 : vs.length ≤ 1048576) (hp : PcIn w p l) (hv : KidsAt w a vs) (hno : ¬ (Right p ∧ ValOk p vs)) :
    Calls Try.prog 10 #[pcV p l, .slice a vs.length c, .int .i64 wd] w fun e w' => CoAns 1000000 0 w e w' := by
  show Calls _ _ #[.agg #[.int .i64 p.indent, .slice l.a1 p.rules.length l.c1, .slice l.a2 p.chunks.length l.c2, .slice l.a3 p.spans.length l.c3, .slice l.a4 p.ties.length l.c4], _, _] _ _
  obtain ⟨W0, hW0, X0, B0, S0⟩ := boxed w p l 29
  have hX : w.heap.size < W0.heap.size := by omega
  have I0 := hp.below B0 (Nat.le_refl _)
  have V0 := hv.below B0 (Nat.le_refl _)
  go_enter Try.func10, Try.ntmps10
  go_wp2_with fail
  rw [← hW0]
  obtain ⟨W1, hW1⟩ : ∃ W1, W1 = W0.alloc (.cells #[.int .i64 0, .int .i64 0] 34) := ⟨_, rfl⟩
  rw [← hW1]
  have B1 : Below W0.heap.size W0 W1 := by rw [hW1]; exact (Below.refl _ _).alloc (Nat.le_refl _) _
  have F1 : W1.heap[w.heap.size + 1]? = some (.cells #[.int .i64 0, .int .i64 0] 34 (0, 0)) := by rw [hW1, ← S0]; exact heap_alloc_new W0 _
  have z1 : w.heap.size + 1 < W1.heap.size := by rw [hW1]; simp; omega
  clear hW0 hW1 hp hv S0
  have q1 : w.heap.size ≤ w.heap.size + 1 := by omega
  refine (sOk_any p l _ hF (I0.below B1 (Nat.le_refl _))).mono ?_
  rintro e w1 hq
  by_cases h1 : Right p
  · obtain ⟨rfl, A1⟩ := hq.yes h1
    clear hq
    have C1 := B1.trans (A1.mono B1.size)
    obtain ⟨-, c0, c1, c2, c3, c4⟩ := X0.below C1 hX
    go_wp2_with fail
    refine (sVal_any p l a c vs _ hF.rules hm0 (noLeast_right h1.rules) (I0.rules.below C1 (Nat.le_refl _)) (V0.below C1 (Nat.le_refl _))).mono ?_
    rintro e w3 hq
    obtain ⟨rfl, hb2⟩ := hq.no (fun h => hno ⟨h1, h⟩)
    have A3 := A1.trans (hb2.mono A1.size)
    have F3 := (A3.block (w.heap.size + 1) z1).trans F1
    have y0 : w3.cell? ⟨w.heap.size + 1, 0, none⟩ = some (.int .i64 0) := by rw [Lib.cell_of_heap F3]; rfl
    have y1 : w3.cell? ⟨w.heap.size + 1, 1, none⟩ = some (.int .i64 0) := by rw [Lib.cell_of_heap F3]; rfl
    have f0 := Lib.frozen_of_heap F3 0
    have f1 := Lib.frozen_of_heap F3 1
    have BW : Below w.heap.size w w3 := B0.trans ((B1.trans (A3.mono B1.size)).mono B0.size)
    clear c0 c1 c2 c3 c4 A1 A3 C1 F1 hq hb2
    go_wp2
    refine bodyPost_ret (results_one2 rfl _ _ (w.heap.size + 1) (.int .i64 1000000) (.int .i64 0) _ rfl ?_ ?_ Try.underlying34 rfl infoCoI) rfl ?_
    · go_simp
    · go_simp
    · exact ⟨rfl, (BW.setCell q1 _).setCell q1 _⟩
  · obtain ⟨rfl, A3⟩ := hq.no h1
    obtain ⟨w3, hw3⟩ : ∃ w3, w3 = w1 := ⟨_, rfl⟩
    subst hw3
    have F3 := (A3.block (w.heap.size + 1) z1).trans F1
    have y0 : w3.cell? ⟨w.heap.size + 1, 0, none⟩ = some (.int .i64 0) := by rw [Lib.cell_of_heap F3]; rfl
    have y1 : w3.cell? ⟨w.heap.size + 1, 1, none⟩ = some (.int .i64 0) := by rw [Lib.cell_of_heap F3]; rfl
    have f0 := Lib.frozen_of_heap F3 0
    have f1 := Lib.frozen_of_heap F3 1
    have BW : Below w.heap.size w w3 := B0.trans ((B1.trans (A3.mono B1.size)).mono B0.size)
    clear A3 F1 hq
    go_wp2
    refine bodyPost_ret (results_one2 rfl _ _ (w.heap.size + 1) (.int .i64 1000000) (.int .i64 0) _ rfl ?_ ?_ Try.underlying34 rfl infoCoI) rfl ?_
    · go_simp
    · go_simp
    · exact ⟨rfl, (BW.setCell q1 _).setCell q1 _⟩
end Go.Proofs.Ytbjfkfohkpdlfaa
