/- What spec.l09Width and spec.l09Over answer. -/
import Derived.Test.YtgaejcljabhijaaKam
import Derived.Test.YtgaejcljabhijaaKaj
import Derived.Test.YtgaejcljabhijaaKal
import Derived.Test.YtgaejcljabhijaaPopS
import Derived.Test.YtgaejcljabhijaaKaa
import Derived.Test.YtgaejcljabhijaaOkS2
namespace Go.Proofs.Ytgaejcljabhijaa
open Go.RowKit

set_option maxHeartbeats 1600000 in
theorem sWid_any (x : Int) (w : World) : Calls Try.prog 81 #[.int .i64 x] w fun e w' => e = .returned (.int .i64 (wid x)) ∧ w' = w := by
  by_cases h1 : x < 0
  · rw [show wid x = 0 by unfold wid; omega]
    go_enter Try.func81, Try.ntmps81
    go_wp2
    go_ret
    exact ⟨rfl, rfl⟩
  · by_cases h2 : x > 100000
    · rw [show wid x = 100000 by unfold wid; omega]
      go_enter Try.func81, Try.ntmps81
      go_wp2
      go_ret
      exact ⟨rfl, rfl⟩
    · rw [show wid x = x by unfold wid; omega]
      go_enter Try.func81, Try.ntmps81
      go_wp2
      go_ret
      exact ⟨rfl, rfl⟩
/-- The lines of what is left: none behind the last chunk. -/
def renF (p : Pc) (vs : List Int) (t : ByteArray) (k : Nat) : List ByteArray := if k < p.chunks.length then ren p.indent vs t (p.chunks.drop k) else []
theorem renF_last {p : Pc} {vs : List Int} {k : Nat} {x : Ch} (t u : ByteArray) (hx : p.chunks[k]? = some x) (hk : k + 1 = p.chunks.length) : renF p vs t k = (t ++ x.text) :: renF p vs u (k + 1) := by
  unfold renF
  rw [if_pos (by omega), if_neg (by omega), ren_last t hx hk]
theorem renF_split {p : Pc} {vs : List Int} {k : Nat} {x : Ch} (t : ByteArray) (hx : p.chunks[k]? = some x) (hk : k + 1 < p.chunks.length) (h : spl vs x = true) : renF p vs t k = (t ++ x.text) :: renF p vs (blanks (p.indent + x.nest)) (k + 1) := by
  unfold renF
  rw [if_pos (by omega), if_pos hk, ren_split t hx hk h]
theorem renF_join {p : Pc} {vs : List Int} {k : Nat} {x : Ch} (t : ByteArray) (hx : p.chunks[k]? = some x) (hk : k + 1 < p.chunks.length) (h : spl vs x = false) : renF p vs t k = renF p vs (t ++ x.text ++ sp1 x) (k + 1) := by
  unfold renF
  rw [if_pos (by omega), if_pos hk, ren_join t hx hk h]

set_option maxHeartbeats 16000000 in
set_option maxRecDepth 20000 in
theorem sOver_any (p : Pc) (l : Pl) (a : Option Addr) (c : Nat) (vs : List Int) (d : Int) (w : World) (hF : PcFew p) (hm0 : vs.length ≤ 1048576) (hp : PcIn w p l) (hv : KidsAt w a vs) (h1 : Right p) (h2 : ValOk p vs) (hd0 : 0 ≤ d) (hd1 : d ≤ 100000) :
    Calls Try.prog 80 #[pcV p l, .slice a vs.length c, .int .i64 d] w fun e w' => e = .returned (.int .i64 (ovr d (linesOf p vs))) ∧ Below w.heap.size w w' := by
  show Calls _ _ #[.agg #[.int .i64 p.indent, .slice l.a1 p.rules.length l.c1, .slice l.a2 p.chunks.length l.c2, .slice l.a3 p.spans.length l.c3, .slice l.a4 p.ties.length l.c4], _, _] _ _
  have hcl := hF.chunks
  have hc1 := h1.chunks.least
  have hc80 := h1.chunks.most
  have hin := h1.indent
  obtain ⟨T, hT⟩ : ∃ T, T = ovr d (linesOf p vs) := ⟨_, rfl⟩
  rw [← hT]
  have HT := hidOf (show ovr d (renF p vs (blanks p.indent) 0) = T by rw [hT]; unfold renF linesOf; rw [if_pos (by omega), List.drop_zero])
  clear hT
  obtain ⟨W0, hW0, X0, B0, S0⟩ := boxed w p l 29
  have hX : w.heap.size < W0.heap.size := by omega
  have I0 := hp.below B0 (Nat.le_refl _)
  have V0 := hv.below B0 (Nat.le_refl _)
  have hbi : ((blanks p.indent).size : Int) = p.indent := by rw [blanks_size]; omega
  have HBI := hidOf hbi
  clear hbi
  go_enter Try.func80, Try.ntmps80
  go_wp2
  rw [← hW0]
  clear hW0 hp hv
  go_loopw [7, 8, 9] (fun m s i wr => ∃ (k : Nat) (ov : Int) (t : ByteArray), k ≤ p.chunks.length ∧ i = .int .i64 k ∧ m = .int .i64 ov ∧ s = .int .i64 t.size ∧ 0 ≤ ov ∧ ov ≤ k * 90000000 ∧ t.size ≤ 100 + k * 1048577 ∧ Hid (ov + ovr d (renF p vs t k) = T) ∧ Below W0.heap.size W0 wr) (fun _ _ i _ => p.chunks.length - (intOf i).toNat)
  case atStart => exact ⟨0, 0, blanks p.indent, Nat.zero_le _, rfl, rfl, by rw [HBI.out], by omega, by omega, by have := HBI.out; omega, hidOf (by rw [HT.out]; omega), Below.refl _ _⟩
  case round =>
    obtain ⟨k, ov, t, hk, rfl, rfl, rfl, ho0, ho1, hts, HI, hb⟩ := hrel
    have BW := B0.trans (hb.mono B0.size)
    have hzr := hb.size
    obtain ⟨-, c0, c1, c2, c3, c4⟩ := X0.below hb hX
    by_cases hlt : k < p.chunks.length
    · obtain ⟨x, ex⟩ : ∃ x, p.chunks[k]? = some x := ⟨_, List.getElem?_eq_getElem hlt⟩
      have hxs := hF.texts k x ex
      obtain ⟨b1, o1, ea, hb1, hc1'⟩ := I0.chunks (by omega)
      obtain ⟨p0, p1, p2, p3, p4⟩ := chC (w := wr) (fun j hj => by rw [hb.cell hb1]; exact hc1' k x ex j hj)
      have hpv : pcV p l = .agg #[.int .i64 p.indent, .slice l.a1 p.rules.length l.c1, .slice (some ⟨b1, o1, none⟩) p.chunks.length l.c2, .slice l.a3 p.spans.length l.c3, .slice l.a4 p.ties.length l.c4] := by show Value.agg _ = _; rw [ea]
      have hA : (0 : Int) ≤ (k : Int) := by omega
      have hB : (k : Int) < (p.chunks.length : Int) := by omega
      have hap := app_size t x.text
      have C := fun (W : World) (hB : Below W0.heap.size W0 W) => And.intro (X0.below hB hX) (chC (w := W) (fun j hj => by rw [hB.cell hb1]; exact hc1' k x ex j hj))
      rw [ea] at c2
      have HA := hidOf ea
      by_cases hlast : k + 1 = p.chunks.length
      · have hq : ((k : Int) + 1 == (p.chunks.length : Int)) = true := by simp; omega
        have hbk : x.nest = 0 := by
          have := h1.chunks.last x (by rw [show p.chunks.length - 1 = k by omega]; exact ex)
          exact this.2.2.2
        have h0 := HI.out
        rw [renF_last t (blanks (p.indent + x.nest)) ex hlast, ovr, hap] at h0
        have hn1 : 0 ≤ x.nest := by omega
        have hn2 : x.nest ≤ 40 := by omega
        have hwv : IntKind.i64.wrap (p.indent + x.nest) = p.indent + x.nest := IntWalk.i64_in _ ⟨by omega, by omega⟩
        have HBN := hidOf (show ((blanks (p.indent + x.nest)).size : Int) = p.indent + x.nest by rw [blanks_size]; omega)
        clear ex hc1' ea hpv hbk hap
        by_cases hgo : (t.size : Int) + (x.text.size : Int) > d
        · have HE := hidOf (show (ov + (t.size : Int) + (x.text.size : Int) - d) + ovr d (renF p vs (blanks (p.indent + x.nest)) (k + 1)) = T by rw [← h0]; omega)
          clear h0
          go_wp2
          go_quiet (fail)
          go_wp2
          go_roundw
          case rel => exact ⟨k + 1, ov + (t.size : Int) + (x.text.size : Int) - d, blanks (p.indent + x.nest), by omega, by go_num, congrArg (Value.int .i64) (by omega), by rw [HBN.out], by omega, by omega, by have := HBN.out; omega, HE, bel_drewN hb _⟩
          case measure => simp [intOf]; omega
        · have HE := hidOf (show ov + ovr d (renF p vs (blanks (p.indent + x.nest)) (k + 1)) = T by rw [← h0]; omega)
          clear h0
          go_wp2
          go_quiet (fail)
          go_wp2
          go_roundw
          case rel => exact ⟨k + 1, ov, blanks (p.indent + x.nest), by omega, by go_num, rfl, by rw [HBN.out], by omega, by omega, by have := HBN.out; omega, HE, bel_drewN hb _⟩
          case measure => simp [intOf]; omega
      · have hq : ((k : Int) + 1 == (p.chunks.length : Int)) = false := by simp; omega
        have q0 := sSpl1_any p l a c vs k x wr hF hm0 (I0.below hb (Nat.le_refl _)) (V0.below hb (Nat.le_refl _)) h1 h2 (by omega) ex
        rw [hpv] at q0
        obtain ⟨-, hs⟩ := h1.chunks.texts k x ex
        obtain ⟨-, -, hn1, hn2⟩ := hs (by omega)
        cases hsp : spl vs x with
        | true =>
          rw [hsp] at q0
          have h0 := HI.out
          rw [renF_split t ex (by omega) hsp, ovr, hap] at h0
          have hwv : IntKind.i64.wrap (p.indent + x.nest) = p.indent + x.nest := IntWalk.i64_in _ ⟨by omega, by omega⟩
          have HBN := hidOf (show ((blanks (p.indent + x.nest)).size : Int) = p.indent + x.nest by rw [blanks_size]; omega)
          clear ex hc1' ea hpv hap hsp hs
          by_cases hgo : (t.size : Int) + (x.text.size : Int) > d
          · have HE := hidOf (show (ov + (t.size : Int) + (x.text.size : Int) - d) + ovr d (renF p vs (blanks (p.indent + x.nest)) (k + 1)) = T by rw [← h0]; omega)
            clear h0
            go_wp2_with fail
            refine q0.mono ?_
            rintro e w3 ⟨rfl, hb3⟩
            have A3 := hb.trans (hb3.mono hb.size)
            clear q0 hb3 c0 c1 c2 c3 c4 p0 p1 p2 p3 p4
            obtain ⟨⟨-, c0, c1, c2, c3, c4⟩, p0, p1, p2, p3, p4⟩ := C w3 A3
            rw [HA.out] at c2
            clear C
            go_wp2
            go_quiet (fail)
            go_wp2
            go_roundw
            case rel => exact ⟨k + 1, ov + (t.size : Int) + (x.text.size : Int) - d, blanks (p.indent + x.nest), by omega, by go_num, congrArg (Value.int .i64) (by omega), by rw [HBN.out], by omega, by omega, by have := HBN.out; omega, HE, bel_drewN A3 _⟩
            case measure => simp [intOf]; omega
          · have HE := hidOf (show ov + ovr d (renF p vs (blanks (p.indent + x.nest)) (k + 1)) = T by rw [← h0]; omega)
            clear h0
            go_wp2_with fail
            refine q0.mono ?_
            rintro e w3 ⟨rfl, hb3⟩
            have A3 := hb.trans (hb3.mono hb.size)
            clear q0 hb3 c0 c1 c2 c3 c4 p0 p1 p2 p3 p4
            obtain ⟨⟨-, c0, c1, c2, c3, c4⟩, p0, p1, p2, p3, p4⟩ := C w3 A3
            rw [HA.out] at c2
            clear C
            go_wp2
            go_quiet (fail)
            go_wp2
            go_roundw
            case rel => exact ⟨k + 1, ov, blanks (p.indent + x.nest), by omega, by go_num, rfl, by rw [HBN.out], by omega, by omega, by have := HBN.out; omega, HE, bel_drewN A3 _⟩
            case measure => simp [intOf]; omega
        | false =>
          rw [hsp] at q0
          have h0 := HI.out
          rw [renF_join t ex (by omega) hsp] at h0
          cases hbl : x.space with
          | true =>
            rw [sp1_yes hbl] at h0
            have HE := hidOf h0
            have hsz : (t ++ x.text ++ ⟨#[32]⟩).size = t.size + x.text.size + 1 := by rw [app_size, hap]; rfl
            have HSZ := hidOf hsz
            clear ex hc1' ea hpv hsp hs h0 hap hsz
            go_wp2_with fail
            refine q0.mono ?_
            rintro e w3 ⟨rfl, hb3⟩
            have A3 := hb.trans (hb3.mono hb.size)
            clear q0 hb3 c0 c1 c2 c3 c4 p0 p1 p2 p3 p4
            obtain ⟨⟨-, c0, c1, c2, c3, c4⟩, p0, p1, p2, p3, p4⟩ := C w3 A3
            rw [HA.out] at c2
            rw [hbl] at p3
            clear C hbl
            go_wp2
            go_roundw
            case rel => exact ⟨k + 1, ov, _, by omega, by go_num, rfl, congrArg (Value.int .i64) (by rw [HSZ.out]; omega), ho0, by omega, by rw [HSZ.out]; omega, HE, A3⟩
            case measure => simp [intOf]; omega
          | false =>
            rw [sp1_no hbl, app_none] at h0
            have HE := hidOf h0
            have HSZ := hidOf hap
            clear ex hc1' ea hpv hsp hs h0 hap
            go_wp2_with fail
            refine q0.mono ?_
            rintro e w3 ⟨rfl, hb3⟩
            have A3 := hb.trans (hb3.mono hb.size)
            clear q0 hb3 c0 c1 c2 c3 c4 p0 p1 p2 p3 p4
            obtain ⟨⟨-, c0, c1, c2, c3, c4⟩, p0, p1, p2, p3, p4⟩ := C w3 A3
            rw [HA.out] at c2
            rw [hbl] at p3
            clear C hbl
            go_wp2
            go_roundw
            case rel => exact ⟨k + 1, ov, _, by omega, by go_num, rfl, congrArg (Value.int .i64) (by rw [HSZ.out]; omega), ho0, by omega, by rw [HSZ.out]; omega, HE, A3⟩
            case measure => simp [intOf]; omega
    · have hM : ¬ (k : Int) < (p.chunks.length : Int) := by omega
      go_wp2
      go_ret
      have h := HI.out
      unfold renF at h
      rw [if_neg (by omega), ovr] at h
      exact ⟨ret_int (by omega), BW⟩
end Go.Proofs.Ytgaejcljabhijaa
/- What spec.l09Cost answers. -/
namespace Go.Proofs.Ytgaejcljabhijaa
open Go.RowKit

set_option maxHeartbeats 8000000 in
set_option maxRecDepth 20000 in
theorem sCostR_any (p : Pc) (l : Pl) (a : Option Addr) (c : Nat) (vs : List Int) (wd : Int) (w : World) (hF : PcFew p) (hm0 : vs.length ≤ 1048576) (hp : PcIn w p l) (hv : KidsAt w a vs) (h1 : Right p) (h2 : ValOk p vs) :
    Calls Try.prog 39 #[pcV p l, .slice a vs.length c, .int .i64 wd] w fun e w' => e = .returned (coV (costOver p vs wd) (costSum p vs)) ∧ Below w.heap.size w w' := by
  show Calls _ _ #[.agg #[.int .i64 p.indent, .slice l.a1 p.rules.length l.c1, .slice l.a2 p.chunks.length l.c2, .slice l.a3 p.spans.length l.c3, .slice l.a4 p.ties.length l.c4], _, _] _ _
  have hwi := wid_le wd
  have qO := fun W hP hK => sOver_any p l a c vs (wid wd) W hF hm0 hP hK h1 h2 hwi.1 hwi.2
  have qW := fun W => sWid_any wd W
  have qS := fun W hP hK => sSum_any p l a c vs W hF hm0 hP hK h1 h2
  unfold costOver
  obtain ⟨d, hd⟩ : ∃ d, d = wid wd := ⟨_, rfl⟩
  obtain ⟨sm, hsm⟩ : ∃ sm, sm = costSum p vs := ⟨_, rfl⟩
  rw [← hd] at qO qW
  rw [← hd, ← hsm]
  rw [← hsm] at qS
  obtain ⟨ov, hov⟩ : ∃ ov, ov = ovr d (linesOf p vs) := ⟨_, rfl⟩
  rw [← hov] at qO
  rw [← hov]
  clear hsm hov hd hwi
  obtain ⟨W0, hW0, X0, B0, S0⟩ := boxed w p l 29
  have hX : w.heap.size < W0.heap.size := by omega
  have I0 := hp.below B0 (Nat.le_refl _)
  have V0 := hv.below B0 (Nat.le_refl _)
  go_enter Try.func39, Try.ntmps39
  go_wp2
  rw [← hW0]
  obtain ⟨W1, hW1⟩ : ∃ W1, W1 = W0.alloc (.cells #[.int .i64 0, .int .i64 0] 37) := ⟨_, rfl⟩
  rw [← hW1]
  have B1 : Below W0.heap.size W0 W1 := by rw [hW1]; exact (Below.refl _ _).alloc (Nat.le_refl _) _
  have F1 : W1.heap[w.heap.size + 1]? = some (.cells #[.int .i64 0, .int .i64 0] 37 (0, 0)) := by rw [hW1, ← S0]; exact heap_alloc_new W0 _
  have z1 : w.heap.size + 1 < W1.heap.size := by rw [hW1]; simp; omega
  have z0 : w.heap.size < W1.heap.size := by omega
  have I1 := I0.below B1 (Nat.le_refl _)
  have V1 := V0.below B1 (Nat.le_refl _)
  obtain ⟨-, c0, c1, c2, c3, c4⟩ := X0.below B1 hX
  have g0 : W1.cell? ⟨w.heap.size + 1, 0, none⟩ = some (.int .i64 0) := by rw [Lib.cell_of_heap F1]; rfl
  have g1 : W1.cell? ⟨w.heap.size + 1, 1, none⟩ = some (.int .i64 0) := by rw [Lib.cell_of_heap F1]; rfl
  have f0 := Lib.frozen_of_heap F1 0
  have f1 := Lib.frozen_of_heap F1 1
  have hne : w.heap.size ≠ w.heap.size + 1 := by omega
  have ID := I1.below (Below.refl W1.heap.size W1).drew (Nat.le_refl _)
  have VD := V1.below (Below.refl W1.heap.size W1).drew (Nat.le_refl _)
  clear hW0 hW1 hp hv S0
  go_region_held3 (fun W => ((W.cell? ⟨w.heap.size, 0, none⟩ = some (.int .i64 p.indent) ∧ W.cell? ⟨w.heap.size, 1, none⟩ = some (.slice l.a1 p.rules.length l.c1) ∧ W.cell? ⟨w.heap.size, 2, none⟩ = some (.slice l.a2 p.chunks.length l.c2) ∧ W.cell? ⟨w.heap.size, 3, none⟩ = some (.slice l.a3 p.spans.length l.c3) ∧ W.cell? ⟨w.heap.size, 4, none⟩ = some (.slice l.a4 p.ties.length l.c4)))) (first | trivial | go_keep)
    ((first
    | (go_at_call 81; refine (qW _).mono ?_; rintro e w0 ⟨rfl, rfl⟩)
    | (go_at_call 80; refine (qO _ ID VD).mono ?_; rintro e w1 ⟨rfl, hb1⟩; have A1 := (Below.refl W1.heap.size W1).drew.trans hb1; have hc1 := (bcell A1).1; have hd1 := (bcell A1).2)
    | (go_at_call 82; refine (qS _ (I1.below A1 (Nat.le_refl _)) (V1.below A1 (Nat.le_refl _))).mono ?_; rintro e w3 ⟨rfl, hb2⟩; have A3 := A1.trans (hb2.mono A1.size); have hc2 := (bcell A3).1; have hd2 := (bcell A3).2)))
  have F3 := (A3.block (w.heap.size + 1) z1).trans F1
  have y0 : w3.cell? ⟨w.heap.size + 1, 0, none⟩ = some (.int .i64 0) := by rw [Lib.cell_of_heap F3]; rfl
  have y1 : w3.cell? ⟨w.heap.size + 1, 1, none⟩ = some (.int .i64 0) := by rw [Lib.cell_of_heap F3]; rfl
  have BW : Below w.heap.size w w3 := B0.trans ((B1.trans (A3.mono B1.size)).mono B0.size)
  clear qO qW qS c0 c1 c2 c3 c4 g0 g1 f0 f1 hc1 hc2 hd1 hd2 hb1 hb2 A1 A3 I0 I1 V0 V1 ID VD F1 X0
  go_wp2
  refine bodyPost_ret (results_one2 rfl _ _ (w.heap.size + 1) (.int .i64 ov) (.int .i64 sm) _ rfl ?_ ?_ Try.underlying37 rfl infoCoI) rfl ?_
  · go_simp
  · go_simp
  · have q1 : w.heap.size ≤ w.heap.size + 1 := by omega
    exact ⟨rfl, (BW.setCell q1 _).setCell q1 _⟩
end Go.Proofs.Ytgaejcljabhijaa
/- The specification's search in memory. -/
namespace Go.Proofs.Ytgaejcljabhijaa
open Go.RowKit

/-- The piece and the cost in their variables, the states that are open, the best one so far. -/
structure Ss (w0 : World) (pb cb : Nat) (p : Pc) (l : Pl) (wd : Int) (W : World) (a : Option Addr) (c : Nat) (ps : List Sp) (ba : Option Addr) (bc : Nat) (bs : List Int) : Prop where
  pbx : W.heap[pb]? = some (.cells #[.int .i64 p.indent, .slice l.a1 p.rules.length l.c1, .slice l.a2 p.chunks.length l.c2, .slice l.a3 p.spans.length l.c3, .slice l.a4 p.ties.length l.c4] 29 (0, 0))
  cbx : W.heap[cb]? = some (.cells #[.int .i64 (costOver p bs wd), .int .i64 (costSum p bs)] 37 (0, 0))
  own : Own W w0.heap.size a c ps
  best : W.ownsRow w0.heap.size 3 1 (.slice ba bs.length bc) bs.length (intVals bs)
  bel : Below w0.heap.size w0 W
  low : w0.heap.size ≤ cb
section
variable {w0 : World} {pb cb : Nat} {p : Pc} {l : Pl} {wd : Int} {W W' : World} {a : Option Addr} {c : Nat} {ps : List Sp} {ba : Option Addr} {bc : Nat} {bs : List Int}
theorem Ss.more (h : Ss w0 pb cb p l wd W a c ps ba bc bs) (hb : Below W.heap.size W W') : Ss w0 pb cb p l wd W' a c ps ba bc bs :=
  ⟨keep_bel h.pbx hb, keep_bel h.cbx hb, h.own.below hb, owns_below h.best hb, h.bel.trans (hb.mono h.bel.size), h.low⟩
theorem Ss.pc (h : Ss w0 pb cb p l wd W a c ps ba bc bs) (hp : PcIn w0 p l) : PcIn W p l := hp.below h.bel (Nat.le_refl _)
theorem Ss.wlow (h : Ss w0 pb cb p l wd W a c ps ba bc bs) : w0.heap.size ≤ W.heap.size := h.bel.size
theorem far_one {w : World} {B e s n b t : Nat} {v : Value} {xs : List Value} {cur : Array Value} {z : Nat × Nat} (h : w.ownsRow B e s v n xs) (hb : w.heap[b]? = some (.cells cur t z)) (hne : e ≠ t) : some b ≠ v.ownBlock := fun e => by
  rcases far_row h hb hne with h1 | h1
  · rw [h1] at e; cases e
  · exact h1 e.symm
/-- The heap has turned, all else is as it was. -/
theorem Ss.turn {a' : Option Addr} {c' : Nat} {qs : List Sp} (h : Ss w0 pb cb p l wd W a c ps ba bc bs) (hg : W.grownBy W' (Value.slice a ps.length c).ownBlock) (ho : Own W' w0.heap.size a' c' qs) : Ss w0 pb cb p l wd W' a' c' qs ba bc bs :=
  ⟨keep_blk h.pbx hg (far_one h.own.row h.pbx (by decide)), keep_blk h.cbx hg (far_one h.own.row h.cbx (by decide)), ho, h.best.kept hg (types_apart h.best h.own.row (by decide)), h.bel.grown hg h.bel.size (fun k e => (h.own.row.lt k e).1), h.low⟩
theorem Ss.box (h : Ss w0 pb cb p l wd W a c ps ba bc bs) : pb < W.heap.size ∧ W.cell? ⟨pb, 0, none⟩ = some (.int .i64 p.indent) ∧ W.cell? ⟨pb, 1, none⟩ = some (.slice l.a1 p.rules.length l.c1) ∧ W.cell? ⟨pb, 2, none⟩ = some (.slice l.a2 p.chunks.length l.c2) ∧ W.cell? ⟨pb, 3, none⟩ = some (.slice l.a3 p.spans.length l.c3) ∧ W.cell? ⟨pb, 4, none⟩ = some (.slice l.a4 p.ties.length l.c4) :=
  ⟨(Array.getElem?_eq_some_iff.1 h.pbx).1, cell_of_row W pb 0 _ _ _ h.pbx, cell_of_row W pb 1 _ _ _ h.pbx, cell_of_row W pb 2 _ _ _ h.pbx, cell_of_row W pb 3 _ _ _ h.pbx, cell_of_row W pb 4 _ _ _ h.pbx⟩
theorem Ss.costs (h : Ss w0 pb cb p l wd W a c ps ba bc bs) : cb < W.heap.size ∧ W.cell? ⟨cb, 0, none⟩ = some (.int .i64 (costOver p bs wd)) ∧ W.cell? ⟨cb, 1, none⟩ = some (.int .i64 (costSum p bs)) ∧ W.frozen? ⟨cb, 0, none⟩ = false ∧ W.frozen? ⟨cb, 1, none⟩ = false :=
  ⟨(Array.getElem?_eq_some_iff.1 h.cbx).1, cell_of_row W cb 0 _ _ _ h.cbx, cell_of_row W cb 1 _ _ _ h.cbx, frozen_of_row W cb 0 _ _ h.cbx, frozen_of_row W cb 1 _ _ h.cbx⟩
/-- The best one is another one. -/
theorem Ss.take {va : Option Addr} {vc : Nat} {vs : List Int} (h : Ss w0 pb cb p l wd W a c ps ba bc bs) (ho : W.ownsRow w0.heap.size 3 1 (.slice va vs.length vc) vs.length (intVals vs)) :
    Ss w0 pb cb p l wd ((W.setCell ⟨cb, 0, none⟩ (.int .i64 (costOver p vs wd))).setCell ⟨cb, 1, none⟩ (.int .i64 (costSum p vs))) a c ps va vc vs := by
  have G : W.grownBy ((W.setCell ⟨cb, 0, none⟩ (.int .i64 (costOver p vs wd))).setCell ⟨cb, 1, none⟩ (.int .i64 (costSum p vs))) (some cb) := grownBy_trans (grown_set W ⟨cb, 0, none⟩ _) (grown_set _ ⟨cb, 1, none⟩ _)
  refine ⟨keep_blk h.pbx G (fun e => ?_), heap_setCell_same _ cb 1 _ _ _ (heap_setCell_same W cb 0 _ _ _ h.cbx), h.own.other G (far_row h.own.row h.cbx (by decide)) (fun q hq => far_row (h.own.each q hq) h.cbx (by decide)), ho.kept G (far_row ho h.cbx (by decide)), (h.bel.setCell (p := ⟨cb, 0, none⟩) h.low _).setCell (p := ⟨cb, 1, none⟩) h.low _, h.low⟩
  have e' : pb = cb := by injection e
  have h1 := h.cbx
  rw [← e', h.pbx] at h1
  injection h1 with h1
  injection h1 with _ h2 _
  exact absurd h2 (by decide)
/-- While the next values are pushed. -/
structure Tx (w0 : World) (pb cb : Nat) (p : Pc) (l : Pl) (wd : Int) (W : World) (a : Option Addr) (c : Nat) (qs : List Sp) (ba : Option Addr) (bc : Nat) (bs : List Int) (tb : Nat) (f : Sp) : Prop where
  ss : Ss w0 pb cb p l wd W a c qs ba bc bs
  box : W.heap[tb]? = some (.cells #[.slice f.a f.st.vals.length f.c, .int .i64 f.st.sum] 74 (0, 0))
  own : W.ownsRow w0.heap.size 3 1 (.slice f.a f.st.vals.length f.c) f.st.vals.length (intVals f.st.vals)
  far : ∀ g, (Value.slice a qs.length c).ownBlock = some g → g ≠ tb
theorem Tx.more {tb : Nat} {f : Sp} (h : Tx w0 pb cb p l wd W a c ps ba bc bs tb f) (hb : Below W.heap.size W W') : Tx w0 pb cb p l wd W' a c ps ba bc bs tb f :=
  ⟨h.ss.more hb, keep_bel h.box hb, owns_below h.own hb, h.far⟩
theorem Tx.push {tb : Nat} {f : Sp} {a' : Option Addr} {c' : Nat} {rs : List Sp} (h : Tx w0 pb cb p l wd W a c ps ba bc bs tb f) (hg : W.grownBy W' (Value.slice a ps.length c).ownBlock) (ho : Own W' w0.heap.size a' c' rs) (hq : ∀ g, (Value.slice a' rs.length c').ownBlock = some g → (Value.slice a ps.length c).ownBlock = some g ∨ W.heap.size ≤ g) : Tx w0 pb cb p l wd W' a' c' rs ba bc bs tb f := by
  have ht := (Array.getElem?_eq_some_iff.1 h.box).1
  refine ⟨h.ss.turn hg ho, keep_blk h.box hg (fun e => h.far tb e.symm rfl), h.own.kept hg (types_apart h.own h.ss.own.row (by decide)), fun g hg e => ?_⟩
  rcases hq g hg with h5 | h5
  · exact h.far g h5 e
  · omega
theorem Tx.cells {tb : Nat} {f : Sp} (h : Tx w0 pb cb p l wd W a c ps ba bc bs tb f) : tb < W.heap.size ∧ W.cell? ⟨tb, 0, none⟩ = some (.slice f.a f.st.vals.length f.c) ∧ W.cell? ⟨tb, 1, none⟩ = some (.int .i64 f.st.sum) :=
  ⟨(Array.getElem?_eq_some_iff.1 h.box).1, cell_of_row W tb 0 _ _ _ h.box, cell_of_row W tb 1 _ _ _ h.box⟩
end
/-- A list of one state. -/
theorem own_first {w : World} {B g : Nat} {x : Sp} {cur : Array Value} (hB : B ≤ g) (hr : w.heap[g]? = some (.cells cur 74 (0, 0))) (hc : cur.toList = spCells x) (ho : w.ownsRow B 3 1 (.slice x.a x.st.vals.length x.c) x.st.vals.length (intVals x.st.vals)) : Own w B (some ⟨g, 0, none⟩) 1 [x] := by
  have hs : cur.size = 2 := by
    have := congrArg List.length hc
    simpa [spCells] using this
  refine ⟨⟨by simp [rowVals, spCells], .inr ⟨g, 1, cur, rfl, hB, hr, Nat.le_refl _, by unfold maxLen; omega, by omega, ?_⟩⟩, fun q hq => ?_, fun i j q r hij hq hr => ?_⟩
  · rw [List.take_of_length_le (by rw [Array.length_toList, hs]; simp), hc]
    simp [rowVals]
  · have : q = x := by simpa using hq
    subst this
    exact ho
  · have h1 := (List.getElem?_eq_some_iff.1 hq).1
    have h2 := (List.getElem?_eq_some_iff.1 hr).1
    simp at h1 h2
    omega
end Go.Proofs.Ytgaejcljabhijaa
