/- What spec.l09Width and spec.l09Over answer. -/
import Derived.Test.YtghfpcjgionbaaaKaq
namespace Go.Proofs.Ytghfpcjgionbaaa
open Go.RowKit

set_option maxHeartbeats 1600000 in
theorem sWid_any (x : Int) (w : World) : Calls Try.prog 70 #[.int .i64 x] w fun e w' => e = .returned (.int .i64 (wid x)) ∧ w' = w := by
  by_cases h1 : x < 0
  · rw [show wid x = 0 by unfold wid; omega]
    go_enter Try.func70, Try.ntmps70
    go_wp2
    go_ret
    exact ⟨rfl, rfl⟩
  · by_cases h2 : x > 100000
    · rw [show wid x = 100000 by unfold wid; omega]
      go_enter Try.func70, Try.ntmps70
      go_wp2
      go_ret
      exact ⟨rfl, rfl⟩
    · rw [show wid x = x by unfold wid; omega]
      go_enter Try.func70, Try.ntmps70
      go_wp2
      go_ret
      exact ⟨rfl, rfl⟩
/-- The lines of what is left: none behind the last chunk. -/
def renF (p : Pc) (vs : List Int) (t : ByteArray) (k : Nat) : List ByteArray := if k < p.chunks.length then ren p.indent vs t (p.chunks.drop k) else []
theorem renF_last {p : Pc} {vs : List Int} {k : Nat} {x : Ch} (t u : ByteArray) (hx : p.chunks[k]? = some x) (hk : k + 1 = p.chunks.length) : renF p vs t k = (t ++ x.text) :: renF p vs u (k + 1) := by
  unfold renF
  rw [if_pos (by omega), if_neg (by omega), ren_last t hx hk]
theorem renF_split {p : Pc} {vs : List Int} {k : Nat} {x : Ch} (t : ByteArray) (hx : p.chunks[k]? = some x) (hk : k + 1 < p.chunks.length) (h : spl vs x = true) : renF p vs t k = (t ++ x.text) :: renF p vs (blanks (p.indent + x.nest)) (k + 1) := by
  unfold renF
  rw [if_pos (by omega), if_pos hk, ren_split t hx hk h]
theorem renF_join {p : Pc} {vs : List Int} {k : Nat} {x : Ch} (t : ByteArray) (hx : p.chunks[k]? = some x) (hk : k + 1 < p.chunks.length) (h : spl vs x = false) : renF p vs t k = renF p vs (t ++ x.text ++ sp1 x) (k + 1) := by
  unfold renF
  rw [if_pos (by omega), if_pos hk, ren_join t hx hk h]

set_option maxHeartbeats 16000000 in
set_option maxRecDepth 20000 in
theorem sOver_any (p : Pc) (l : Pl) (a : Option Addr) (c : Nat) (vs : List Int) (d : Int) (w : World) (hF : PcFew p) (hm0 : vs.length ≤ 1048576) (hp : PcIn w p l) (hv : KidsAt w a vs) (h1 : Right p) (h2 : ValOk p vs) (hd0 : 0 ≤ d) (hd1 : d ≤ 100000) :
    Calls Try.prog 69 #[pcV p l, .slice a vs.length c, .int .i64 d] w fun e w' => e = .returned (.int .i64 (ovr d (linesOf p vs))) ∧ Below w.heap.size w w' := by
  show Calls _ _ #[.agg #[.int .i64 p.indent, .slice l.a1 p.rules.length l.c1, .slice l.a2 p.chunks.length l.c2, .slice l.a3 p.spans.length l.c3, .slice l.a4 p.ties.length l.c4], _, _] _ _
  have hcl := hF.chunks
  have hc1 := h1.chunks.least
  have hc80 := h1.chunks.most
  have hin := h1.indent
  obtain ⟨T, hT⟩ : ∃ T, T = ovr d (linesOf p vs) := ⟨_, rfl⟩
  rw [← hT]
  have HT := hidOf (show ovr d (renF p vs (blanks p.indent) 0) = T by rw [hT]; unfold renF linesOf; rw [if_pos (by omega), List.drop_zero])
  clear hT
  obtain ⟨W0, hW0, X0, B0, S0⟩ := boxed w p l 29
  have hX : w.heap.size < W0.heap.size := by omega
  have I0 := hp.below B0 (Nat.le_refl _)
  have V0 := hv.below B0 (Nat.le_refl _)
  have hbi : ((blanks p.indent).size : Int) = p.indent := by rw [blanks_size]; omega
  have HBI := hidOf hbi
  clear hbi
  go_enter Try.func69, Try.ntmps69
  go_wp2
  rw [← hW0]
  clear hW0 hp hv
  go_loopw [7, 8, 9] (fun m s i wr => ∃ (k : Nat) (ov : Int) (t : ByteArray), k ≤ p.chunks.length ∧ i = .int .i64 k ∧ m = .int .i64 ov ∧ s = .int .i64 t.size ∧ 0 ≤ ov ∧ ov ≤ k * 90000000 ∧ t.size ≤ 100 + k * 1048577 ∧ Hid (ov + ovr d (renF p vs t k) = T) ∧ Below W0.heap.size W0 wr) (fun _ _ i _ => p.chunks.length - (intOf i).toNat)
  case atStart => exact ⟨0, 0, blanks p.indent, Nat.zero_le _, rfl, rfl, by rw [HBI.out], by omega, by omega, by have := HBI.out; omega, hidOf (by rw [HT.out]; omega), Below.refl _ _⟩
  case round =>
    obtain ⟨k, ov, t, hk, rfl, rfl, rfl, ho0, ho1, hts, HI, hb⟩ := hrel
    have BW := B0.trans (hb.mono B0.size)
    have hzr := hb.size
    obtain ⟨-, c0, c1, c2, c3, c4⟩ := X0.below hb hX
    by_cases hlt : k < p.chunks.length
    · obtain ⟨x, ex⟩ : ∃ x, p.chunks[k]? = some x := ⟨_, List.getElem?_eq_getElem hlt⟩
      have hxs := hF.texts k x ex
      obtain ⟨b1, o1, ea, hb1, hc1'⟩ := I0.chunks (by omega)
      obtain ⟨p0, p1, p2, p3, p4⟩ := chC (w := wr) (fun j hj => by rw [hb.cell hb1]; exact hc1' k x ex j hj)
      have hpv : pcV p l = .agg #[.int .i64 p.indent, .slice l.a1 p.rules.length l.c1, .slice (some ⟨b1, o1, none⟩) p.chunks.length l.c2, .slice l.a3 p.spans.length l.c3, .slice l.a4 p.ties.length l.c4] := by show Value.agg _ = _; rw [ea]
      have hA : (0 : Int) ≤ (k : Int) := by omega
      have hB : (k : Int) < (p.chunks.length : Int) := by omega
      have hap := app_size t x.text
      have C := fun (W : World) (hB : Below W0.heap.size W0 W) => And.intro (X0.below hB hX) (chC (w := W) (fun j hj => by rw [hB.cell hb1]; exact hc1' k x ex j hj))
      rw [ea] at c2
      have HA := hidOf ea
      by_cases hlast : k + 1 = p.chunks.length
      · have hq : ((k : Int) + 1 == (p.chunks.length : Int)) = true := by simp; omega
        have hbk : x.nest = 0 := by
          have := h1.chunks.last x (by rw [show p.chunks.length - 1 = k by omega]; exact ex)
          exact this.2.2.2
        have h0 := HI.out
        rw [renF_last t (blanks (p.indent + x.nest)) ex hlast, ovr, hap] at h0
        have hn1 : 0 ≤ x.nest := by omega
        have hn2 : x.nest ≤ 40 := by omega
        have hwv : IntKind.i64.wrap (p.indent + x.nest) = p.indent + x.nest := IntWalk.i64_in _ ⟨by omega, by omega⟩
        have HBN := hidOf (show ((blanks (p.indent + x.nest)).size : Int) = p.indent + x.nest by rw [blanks_size]; omega)
        clear ex hc1' ea hpv hbk hap
        by_cases hgo : (t.size : Int) + (x.text.size : Int) > d
        · have HE := hidOf (show (ov + (t.size : Int) + (x.text.size : Int) - d) + ovr d (renF p vs (blanks (p.indent + x.nest)) (k + 1)) = T by rw [← h0]; omega)
          clear h0
          go_wp2
          go_quiet (fail)
          go_wp2
          go_roundw
          case rel => exact ⟨k + 1, ov + (t.size : Int) + (x.text.size : Int) - d, blanks (p.indent + x.nest), by omega, by go_num, congrArg (Value.int .i64) (by omega), by rw [HBN.out], by omega, by omega, by have := HBN.out; omega, HE, bel_drewN hb _⟩
          case measure => simp [intOf]; omega
        · have HE := hidOf (show ov + ovr d (renF p vs (blanks (p.indent + x.nest)) (k + 1)) = T by rw [← h0]; omega)
          clear h0
          go_wp2
          go_quiet (fail)
          go_wp2
          go_roundw
          case rel => exact ⟨k + 1, ov, blanks (p.indent + x.nest), by omega, by go_num, rfl, by rw [HBN.out], by omega, by omega, by have := HBN.out; omega, HE, bel_drewN hb _⟩
          case measure => simp [intOf]; omega
      · have hq : ((k : Int) + 1 == (p.chunks.length : Int)) = false := by simp; omega
        have q0 := sSpl1_any p l a c vs k x wr hF hm0 (I0.below hb (Nat.le_refl _)) (V0.below hb (Nat.le_refl _)) h1 h2 (by omega) ex
        rw [hpv] at q0
        obtain ⟨-, hs⟩ := h1.chunks.texts k x ex
        obtain ⟨-, -, hn1, hn2⟩ := hs (by omega)
        cases hsp : spl vs x with
        | true =>
          rw [hsp] at q0
          have h0 := HI.out
          rw [renF_split t ex (by omega) hsp, ovr, hap] at h0
          have hwv : IntKind.i64.wrap (p.indent + x.nest) = p.indent + x.nest := IntWalk.i64_in _ ⟨by omega, by omega⟩
          have HBN := hidOf (show ((blanks (p.indent + x.nest)).size : Int) = p.indent + x.nest by rw [blanks_size]; omega)
          clear ex hc1' ea hpv hap hsp hs
          by_cases hgo : (t.size : Int) + (x.text.size : Int) > d
          · have HE := hidOf (show (ov + (t.size : Int) + (x.text.size : Int) - d) + ovr d (renF p vs (blanks (p.indent + x.nest)) (k + 1)) = T by rw [← h0]; omega)
            clear h0
            go_wp2_with fail
            refine q0.mono ?_
            rintro e w3 ⟨rfl, hb3⟩
            have A3 := hb.trans (hb3.mono hb.size)
            clear q0 hb3 c0 c1 c2 c3 c4 p0 p1 p2 p3 p4
            obtain ⟨⟨-, c0, c1, c2, c3, c4⟩, p0, p1, p2, p3, p4⟩ := C w3 A3
            rw [HA.out] at c2
            clear C
            go_wp2
            go_quiet (fail)
            go_wp2
            go_roundw
            case rel => exact ⟨k + 1, ov + (t.size : Int) + (x.text.size : Int) - d, blanks (p.indent + x.nest), by omega, by go_num, congrArg (Value.int .i64) (by omega), by rw [HBN.out], by omega, by omega, by have := HBN.out; omega, HE, bel_drewN A3 _⟩
            case measure => simp [intOf]; omega
          · have HE := hidOf (show ov + ovr d (renF p vs (blanks (p.indent + x.nest)) (k + 1)) = T by rw [← h0]; omega)
            clear h0
            go_wp2_with fail
            refine q0.mono ?_
            rintro e w3 ⟨rfl, hb3⟩
            have A3 := hb.trans (hb3.mono hb.size)
            clear q0 hb3 c0 c1 c2 c3 c4 p0 p1 p2 p3 p4
            obtain ⟨⟨-, c0, c1, c2, c3, c4⟩, p0, p1, p2, p3, p4⟩ := C w3 A3
            rw [HA.out] at c2
            clear C
            go_wp2
            go_quiet (fail)
            go_wp2
            go_roundw
            case rel => exact ⟨k + 1, ov, blanks (p.indent + x.nest), by omega, by go_num, rfl, by rw [HBN.out], by omega, by omega, by have := HBN.out; omega, HE, bel_drewN A3 _⟩
            case measure => simp [intOf]; omega
        | false =>
          rw [hsp] at q0
          have h0 := HI.out
          rw [renF_join t ex (by omega) hsp] at h0
          cases hbl : x.space with
          | true =>
            rw [sp1_yes hbl] at h0
            have HE := hidOf h0
            have hsz : (t ++ x.text ++ ⟨#[32]⟩).size = t.size + x.text.size + 1 := by rw [app_size, hap]; rfl
            have HSZ := hidOf hsz
            clear ex hc1' ea hpv hsp hs h0 hap hsz
            go_wp2_with fail
            refine q0.mono ?_
            rintro e w3 ⟨rfl, hb3⟩
            have A3 := hb.trans (hb3.mono hb.size)
            clear q0 hb3 c0 c1 c2 c3 c4 p0 p1 p2 p3 p4
            obtain ⟨⟨-, c0, c1, c2, c3, c4⟩, p0, p1, p2, p3, p4⟩ := C w3 A3
            rw [HA.out] at c2
            rw [hbl] at p3
            clear C hbl
            go_wp2
            go_roundw
            case rel => exact ⟨k + 1, ov, _, by omega, by go_num, rfl, congrArg (Value.int .i64) (by rw [HSZ.out]; omega), ho0, by omega, by rw [HSZ.out]; omega, HE, A3⟩
            case measure => simp [intOf]; omega
          | false =>
            rw [sp1_no hbl, app_none] at h0
            have HE := hidOf h0
            have HSZ := hidOf hap
            clear ex hc1' ea hpv hsp hs h0 hap
            go_wp2_with fail
            refine q0.mono ?_
            rintro e w3 ⟨rfl, hb3⟩
            have A3 := hb.trans (hb3.mono hb.size)
            clear q0 hb3 c0 c1 c2 c3 c4 p0 p1 p2 p3 p4
            obtain ⟨⟨-, c0, c1, c2, c3, c4⟩, p0, p1, p2, p3, p4⟩ := C w3 A3
            rw [HA.out] at c2
            rw [hbl] at p3
            clear C hbl
            go_wp2
            go_roundw
            case rel => exact ⟨k + 1, ov, _, by omega, by go_num, rfl, congrArg (Value.int .i64) (by rw [HSZ.out]; omega), ho0, by omega, by rw [HSZ.out]; omega, HE, A3⟩
            case measure => simp [intOf]; omega
    · have hM : ¬ (k : Int) < (p.chunks.length : Int) := by omega
      go_wp2
      go_ret
      have h := HI.out
      unfold renF at h
      rw [if_neg (by omega), ovr] at h
      exact ⟨ret_int (by omega), BW⟩
end Go.Proofs.Ytghfpcjgionbaaa
