/- What impl.SplitsAt and spec.SplitsAt answer. -/
import Derived.Test.YtndnngfljoamdaaKc
import Derived.Test.YtndnngfljoamdaaOkI3
import Derived.Test.YtndnngfljoamdaaKa
import Derived.Test.YtndnngfljoamdaaOkS2
import Derived.Lib.AppendIntMem
import Derived.Laws.OwnMore
import Derived.Maps.AppendAt
namespace Go.Proofs.Ytndnngfljoamdaa
open Go.RowKit

theorem at_yes {p : Pc} {vs : List Int} {k : Nat} {x : Ch} {r : Nat} {z : Int} (h : Right p) (hv : ValOk p vs) (hk : (k : Int) ≤ (p.chunks.length : Int) - 2) (hx : p.chunks[k]? = some x) (hr : x.rule = (r : Int)) (hz : vs[r]? = some z) (hf : x.frm ≤ z) : SplitAt p vs (k : Int) :=
  ⟨h, hv, Int.natCast_nonneg k, hk, fun x' z' hx' hz' => by
    rw [Int.toNat_natCast, hx] at hx'
    cases hx'
    rw [hr, Int.toNat_natCast, hz] at hz'
    cases hz'
    exact hf⟩
theorem at_no {p : Pc} {vs : List Int} {k : Nat} {x : Ch} {r : Nat} {z : Int} (hx : p.chunks[k]? = some x) (hr : x.rule = (r : Int)) (hz : vs[r]? = some z) (hf : ¬ x.frm ≤ z) : ¬ SplitAt p vs (k : Int) := fun h =>
  hf (h.splits x z (by rw [Int.toNat_natCast]; exact hx) (by rw [hr, Int.toNat_natCast]; exact hz))

set_option maxHeartbeats 8000000 in
theorem iAt_any (p : Pc) (l : Pl) (a : Option Addr) (c : Nat) (vs : List Int) (i : Int) (w : World) (hF : PcFew p) (hm0 : vs.length ≤ 1048576) (hp : PcIn w p l) (hv : KidsAt w a vs) :
    Calls Try.prog 13 #[pcV p l, .slice a vs.length c, .int .i64 i] w fun e w' => Tells (SplitAt p vs i) w e w' := by
  show Calls _ _ #[.agg #[.int .i64 p.indent, .slice l.a1 p.rules.length l.c1, .slice l.a2 p.chunks.length l.c2, .slice l.a3 p.spans.length l.c3, .slice l.a4 p.ties.length l.c4], _, _] _ _
  have hcl := hF.chunks
  have q0 := fun W => iIn_any i 0 ((p.chunks.length : Int) - 2) W
  by_cases hi : 0 ≤ i ∧ i ≤ (p.chunks.length : Int) - 2
  · rw [inB_yes hi.1 hi.2] at q0
    obtain ⟨k, rfl⟩ := Int.eq_ofNat_of_zero_le hi.1
    have hk := hi.2
    clear hi
    go_enter Try.func13, Try.ntmps13
    go_wp2_with fail
    obtain ⟨W0, hW0, X0, B0, S0⟩ := boxed w p l 29
    rw [← hW0]
    have I0 := hp.below B0 (Nat.le_refl _)
    have V0 := hv.below B0 (Nat.le_refl _)
    have hX : w.heap.size < W0.heap.size := by omega
    clear hW0 S0 hp hv
    obtain ⟨-, c0, c1, c2, c3, c4⟩ := X0
    refine (q0 _).mono ?_
    rintro e W0 ⟨rfl, rfl⟩
    go_wp2_with fail
    refine (iOk_any p l _ hF I0).mono ?_
    rintro e w1 hq
    by_cases h1 : Right p
    · obtain ⟨rfl, A1⟩ := hq.yes h1
      have k1 := fun o => A1.cell (p := ⟨w.heap.size, o, none⟩) hX
      clear hq
      go_wp2_with fail
      refine (iVal_any p l a c vs _ hF.rules hm0 (noLeast_right h1.rules) (I0.rules.below A1 (Nat.le_refl _)) (V0.below A1 (Nat.le_refl _))).mono ?_
      rintro e w2 hq
      by_cases h2 : ValOk p vs
      · obtain ⟨rfl, hb2⟩ := hq.yes h2
        have A2 := A1.trans (hb2.mono A1.size)
        have k2 := fun o => A2.cell (p := ⟨w.heap.size, o, none⟩) hX
        have BW := B0.trans (A2.mono B0.size)
        clear hq hb2 k1
        obtain ⟨x, r, z, ex, er, hr, ez⟩ := split_val h1 h2 hk
        obtain ⟨b1, o1, ea, hb1, hc1⟩ := I0.chunks (by omega)
        obtain ⟨p0, p1, p2, p3, p4⟩ := chC (w := w2) (fun j hj => by rw [A2.cell hb1]; exact hc1 k x ex j hj)
        rw [ea] at c2
        rw [ea]
        have HX := hidOf ex
        have HR := hidOf er
        have H1 := hidOf h1
        have H2 := hidOf h2
        have HK := hidOf hk
        clear ex er ez hc1 ea h1 h2
        have hA : (0 : Int) ≤ (k : Int) := by omega
        have hB : (k : Int) < (p.chunks.length : Int) := by omega
        go_wp2_with fail
        refine (isSpl_any x a c vs r _ hm0 HR.out hr (V0.below A2 (Nat.le_refl _))).mono ?_
        rintro e w3 ⟨rfl, hb3⟩
        go_wp2
        go_ret
        exact ⟨_, rfl, (spl_at H1.out H2.out HK.out HX.out).symm, BW.trans (hb3.mono BW.size)⟩
      · obtain ⟨rfl, hb2⟩ := hq.no h2
        have A2 := A1.trans (hb2.mono A1.size)
        go_wp2
        go_ret
        exact tells_no (fun h => h2 h.vals) (B0.trans (A2.mono B0.size))
    · obtain ⟨rfl, A1⟩ := hq.no h1
      go_wp2
      go_ret
      exact tells_no (fun h => h1 h.right) (B0.trans (A1.mono B0.size))
  · rw [inB_no hi] at q0
    have HI := hidOf hi
    have HB : ∀ o1 : Obj, Below w.heap.size w (w.alloc o1) := fun o1 => (Below.refl _ _).alloc (Nat.le_refl _) _
    clear hi hp hv
    go_enter Try.func13, Try.ntmps13
    go_wp2_with (go_at_call 59; refine (q0 _).mono ?_; rintro e w1 ⟨rfl, rfl⟩)
    go_ret
    exact tells_no (fun h => HI.out ⟨h.low, h.high⟩) (HB _)

set_option maxHeartbeats 8000000 in
theorem s08At_any (p : Pc) (l : Pl) (a : Option Addr) (c : Nat) (vs : List Int) (k : Nat) (w : World) (hF : PcFew p) (hm0 : vs.length ≤ 1048576) (hp : PcIn w p l) (hv : KidsAt w a vs) (h1 : Right p) (h2 : ValOk p vs) (hk : (k : Int) ≤ (p.chunks.length : Int) - 2) :
    Calls Try.prog 71 #[pcV p l, .slice a vs.length c, .int .i64 k] w fun e w' => Tells (SplitAt p vs k) w e w' := by
  show Calls _ _ #[.agg #[.int .i64 p.indent, .slice l.a1 p.rules.length l.c1, .slice l.a2 p.chunks.length l.c2, .slice l.a3 p.spans.length l.c3, .slice l.a4 p.ties.length l.c4], _, _] _ _
  have hcl := hF.chunks
  have hm1 := hm0
  clear hm0
  have HB : ∀ o1 : Obj, Below w.heap.size w (w.alloc o1) := fun o1 => (Below.refl _ _).alloc (Nat.le_refl _) _
  have HB2 : ∀ o1 o2 : Obj, Below w.heap.size w ((w.alloc o1).alloc o2) := fun o1 o2 => ((Below.refl _ _).alloc (Nat.le_refl _) _).alloc (by simp) _
  obtain ⟨x, r, z, ex, er, hr, ez⟩ := split_val h1 h2 hk
  obtain ⟨b1, o1, ea, hb1, hc1⟩ := hp.chunks (by omega)
  obtain ⟨b2, o2, eb, hb2, hc2⟩ := hv (by omega)
  have hch := fun ob : Obj => chC (w := w.alloc ob) (fun j hj => by rw [(HB ob).cell hb1]; exact hc1 k x ex j hj)
  rw [er] at hch
  have p0 := fun ob => (hch ob).1
  have p1 := fun ob => (hch ob).2.1
  have p2 := fun ob => (hch ob).2.2.1
  have p3 := fun ob => (hch ob).2.2.2.1
  have p4 := fun ob => (hch ob).2.2.2.2
  have zc := fun ob oc : Obj => ((HB2 ob oc).cell (p := ⟨b2, o2 + r, none⟩) hb2).trans (hc2 r z ez)
  rw [ea, eb]
  have HX := hidOf ex
  have HR := hidOf er
  have HZ := hidOf ez
  have H1 := hidOf h1
  have H2 := hidOf h2
  have HK := hidOf hk
  clear ex er ez hc1 hc2 ea eb h1 h2 hch hp hv
  have hA : (0 : Int) ≤ (k : Int) := by omega
  have hB : (k : Int) < (p.chunks.length : Int) := by omega
  have hA2 : (0 : Int) ≤ (r : Int) := by omega
  have hB2 : (r : Int) < (vs.length : Int) := by omega
  by_cases hf : x.frm ≤ z
  · have hfd : decide (z ≥ x.frm) = true := by rw [decide_eq_true_eq]; exact hf
    have HF2 := hidOf hf
    go_enter Try.func71, Try.ntmps71
    go_wp2
    go_quiet (fail)
    go_wp2
    go_ret
    exact tells_yes (at_yes H1.out H2.out HK.out HX.out HR.out HZ.out HF2.out) (bel_drewN (HB2 _ _) _)
  · have hfd : decide (z ≥ x.frm) = false := by rw [decide_eq_false_iff_not]; omega
    have HF2 := hidOf hf
    go_enter Try.func71, Try.ntmps71
    go_wp2
    go_quiet (fail)
    go_wp2
    go_ret
    exact tells_no (at_no HX.out HR.out HZ.out (by have := HF2.out; omega)) (bel_drewN (HB2 _ _) _)

set_option maxHeartbeats 8000000 in
theorem sAt_any (p : Pc) (l : Pl) (a : Option Addr) (c : Nat) (vs : List Int) (i : Int) (w : World) (hF : PcFew p) (hm0 : vs.length ≤ 1048576) (hp : PcIn w p l) (hv : KidsAt w a vs) :
    Calls Try.prog 22 #[pcV p l, .slice a vs.length c, .int .i64 i] w fun e w' => Tells (SplitAt p vs i) w e w' := by
  show Calls _ _ #[.agg #[.int .i64 p.indent, .slice l.a1 p.rules.length l.c1, .slice l.a2 p.chunks.length l.c2, .slice l.a3 p.spans.length l.c3, .slice l.a4 p.ties.length l.c4], _, _] _ _
  have hcl := hF.chunks
  go_enter Try.func22, Try.ntmps22
  go_wp2_with fail
  obtain ⟨W0, hW0, X0, B0, S0⟩ := boxed w p l 29
  rw [← hW0]
  have I0 := hp.below B0 (Nat.le_refl _)
  have V0 := hv.below B0 (Nat.le_refl _)
  have hX : w.heap.size < W0.heap.size := by omega
  clear hW0 S0 hp hv
  obtain ⟨-, c0, c1, c2, c3, c4⟩ := X0
  refine (sOk_any p l _ hF I0).mono ?_
  rintro e w1 hq
  by_cases h1 : Right p
  · obtain ⟨rfl, A1⟩ := hq.yes h1
    have k1 := fun o => A1.cell (p := ⟨w.heap.size, o, none⟩) hX
    clear hq
    go_wp2_with fail
    refine (sVal_any p l a c vs _ hF.rules hm0 (noLeast_right h1.rules) (I0.rules.below A1 (Nat.le_refl _)) (V0.below A1 (Nat.le_refl _))).mono ?_
    rintro e w2 hq
    by_cases h2 : ValOk p vs
    · obtain ⟨rfl, hb2⟩ := hq.yes h2
      have A2 := A1.trans (hb2.mono A1.size)
      have k2 := fun o => A2.cell (p := ⟨w.heap.size, o, none⟩) hX
      have BW := B0.trans (A2.mono B0.size)
      clear hq hb2 k1
      have q0 := fun W => sIn_any i 0 ((p.chunks.length : Int) - 2) W
      by_cases hi : 0 ≤ i ∧ i ≤ (p.chunks.length : Int) - 2
      · rw [inB_yes hi.1 hi.2] at q0
        obtain ⟨k, rfl⟩ := Int.eq_ofNat_of_zero_le hi.1
        have hk := hi.2
        clear hi
        go_wp2_with fail
        refine (q0 _).mono ?_
        rintro e w2 ⟨rfl, rfl⟩
        go_wp2_with fail
        refine (s08At_any p l a c vs k _ hF hm0 (I0.below A2 (Nat.le_refl _)) (V0.below A2 (Nat.le_refl _)) h1 h2 hk).mono ?_
        rintro e w3 hq
        by_cases h3 : SplitAt p vs (k : Int)
        · obtain ⟨rfl, hb3⟩ := hq.yes h3
          go_wp2
          go_ret
          exact tells_yes h3 (BW.trans (hb3.mono BW.size))
        · obtain ⟨rfl, hb3⟩ := hq.no h3
          go_wp2
          go_ret
          exact tells_no h3 (BW.trans (hb3.mono BW.size))
      · rw [inB_no hi] at q0
        have HI := hidOf hi
        clear hi
        go_wp2_with fail
        refine (q0 _).mono ?_
        rintro e w2 ⟨rfl, rfl⟩
        go_wp2
        go_ret
        exact tells_no (fun h => HI.out ⟨h.low, h.high⟩) BW
    · obtain ⟨rfl, hb2⟩ := hq.no h2
      have A2 := A1.trans (hb2.mono A1.size)
      go_wp2
      go_ret
      exact tells_no (fun h => h2 h.vals) (B0.trans (A2.mono B0.size))
  · obtain ⟨rfl, A1⟩ := hq.no h1
    go_wp2
    go_ret
    exact tells_no (fun h => h1 h.right) (B0.trans (A1.mono B0.size))
end Go.Proofs.Ytndnngfljoamdaa
/- What spec.Render answers. -/
namespace Go.Proofs.Ytndnngfljoamdaa
open Go.RowKit

theorem infoStrR : (Try.prog.info? 9).map (fun i => (i.zero, i.size, i.bytes)) = some (some (.string ByteArray.empty), 1, 16) := by kernel_rfl
theorem blanks_more (k : Nat) : blanks ((k : Int) + 1) = blanks k ++ ⟨#[32]⟩ := by
  apply ByteArray.ext
  apply Array.ext'
  rw [ByteArray.data_append, Array.toList_append]
  show (List.replicate ((k : Int) + 1).toNat (32 : UInt8)).toArray.toList = (List.replicate ((k : Int)).toNat (32 : UInt8)).toArray.toList ++ [32]
  rw [show ((k : Int) + 1).toNat = k + 1 by omega, show ((k : Int)).toNat = k by omega, List.replicate_succ']

set_option maxHeartbeats 1600000 in
theorem sBlanks_any (z : Int) (w : World) (h0 : 0 ≤ z) (h1 : z ≤ 1000) :
    Calls Try.prog 123 #[.int .i64 z] w fun e w' => e = .returned (.string (blanks z)) ∧ w' = w := by
  obtain ⟨n, rfl⟩ := Int.eq_ofNat_of_zero_le h0
  go_enter Try.func123, Try.ntmps123
  go_wp2
  go_loop [3, 4] (fun s i => ∃ k : Nat, k ≤ n ∧ i = .int .i64 k ∧ s = .string (blanks k)) (fun _ i => n - (intOf i).toNat)
  case atStart => exact ⟨0, Nat.zero_le _, rfl, rfl⟩
  case round =>
    obtain ⟨k, hk, rfl, rfl⟩ := hrel
    have hs := blanks_size k
    by_cases hlt : k < n
    · have hM : (k : Int) < (n : Int) := by omega
      have HE := hidOf (blanks_more k)
      obtain ⟨s, es⟩ : ∃ s, s = blanks (k : Int) := ⟨_, rfl⟩
      rw [← es] at hs HE ⊢
      have hss : s.size ≤ 1000 := by omega
      clear hs es
      go_wp2
      go_round
      case rel => exact ⟨k + 1, by omega, by go_num, by rw [show ((k + 1 : Nat) : Int) = (k : Int) + 1 by omega, HE.out]⟩
      case measure => simp [intOf]; omega
    · have hM : ¬ (k : Int) < (n : Int) := by omega
      have hkn : k = n := by omega
      subst hkn
      go_wp2
      go_ret
      exact ⟨rfl, rfl⟩

theorem sSpl1_any (p : Pc) (l : Pl) (a : Option Addr) (c : Nat) (vs : List Int) (k : Nat) (x : Ch) (w : World) (hF : PcFew p) (hm0 : vs.length ≤ 1048576) (hp : PcIn w p l) (hv : KidsAt w a vs) (h1 : Right p) (h2 : ValOk p vs) (hk : (k : Int) ≤ (p.chunks.length : Int) - 2) (hx : p.chunks[k]? = some x) :
    Calls Try.prog 71 #[pcV p l, .slice a vs.length c, .int .i64 k] w fun e w' => e = .returned (.bool (spl vs x)) ∧ Below w.heap.size w w' :=
  (s08At_any p l a c vs k w hF hm0 hp hv h1 h2 hk).mono fun e w' ⟨b, e1, hb, hB⟩ => ⟨by rw [e1, same_bool hb (spl_at h1 h2 hk hx).symm], hB⟩

set_option maxHeartbeats 16000000 in
set_option maxRecDepth 20000 in
theorem sRen_lines (p : Pc) (l : Pl) (a : Option Addr) (c : Nat) (vs : List Int) (w : World) (hF : PcFew p) (hm0 : vs.length ≤ 1048576) (hp : PcIn w p l) (hv : KidsAt w a vs) (h1 : Right p) (h2 : ValOk p vs) :
    Calls Try.prog 80 #[pcV p l, .slice a vs.length c] w fun e w' => StrsAns (linesOf p vs) 9 w e w' := by
  show Calls _ _ #[.agg #[.int .i64 p.indent, .slice l.a1 p.rules.length l.c1, .slice l.a2 p.chunks.length l.c2, .slice l.a3 p.spans.length l.c3, .slice l.a4 p.ties.length l.c4], _] _ _
  obtain ⟨i0, hi, hz0, hz1, hz2⟩ := info_parts infoStrR
  have hcl := hF.chunks
  have hc1 := h1.chunks.least
  have hc80 := h1.chunks.most
  have hin := h1.indent
  obtain ⟨W0, hW0, X0, B0, S0⟩ := boxed w p l 29
  have hX : w.heap.size < W0.heap.size := by omega
  go_enter Try.func80, Try.ntmps80
  go_wp2_with fail
  obtain ⟨W1, hW1⟩ : ∃ W1, W1 = (w.alloc (.cells #[.int .i64 p.indent, .slice l.a1 p.rules.length l.c1, .slice l.a2 p.chunks.length l.c2, .slice l.a3 p.spans.length l.c3, .slice l.a4 p.ties.length l.c4] 29)).alloc (.cells #[] 9) := ⟨_, rfl⟩
  rw [← hW1]
  have O1 : W1.ownsRow (w.heap.size + 1) 9 1 (.slice (some ⟨w.heap.size + 1, 0, none⟩) 0 0) 0 (strVals []) := by rw [hW1]; exact own_none1 w _ _ _
  have B1 : Below W0.heap.size W0 W1 := by rw [hW1, ← hW0]; exact (Below.refl _ _).alloc (Nat.le_refl _) _
  have I0 := hp.below B0 (Nat.le_refl _)
  have V0 := hv.below B0 (Nat.le_refl _)
  clear hW0 hW1 hp hv
  obtain ⟨bl, hbl⟩ : ∃ bl, bl = blanks p.indent := ⟨_, rfl⟩
  have hbs : bl.size ≤ 60 := by rw [hbl, blanks_size]; omega
  have HBL := hidOf hbl
  refine (sBlanks_any p.indent _ hin.1 (by omega)).mono ?_
  rw [← hbl]
  rintro e w1 ⟨rfl, rfl⟩
  clear hbl
  go_wp2
  go_loopw [5, 6, 7] (fun v s i wr => ∃ (k : Nat) (os : List ByteArray) (t : ByteArray), k < p.chunks.length ∧ i = .int .i64 k ∧ s = .string t ∧ t.size ≤ 100 + k * 1048577 ∧ os.length ≤ k ∧ Hid (os ++ ren p.indent vs t (p.chunks.drop k) = linesOf p vs) ∧ wr.ownsRow (w.heap.size + 1) 9 1 v os.length (strVals os) ∧ Below W0.heap.size W0 wr) (fun _ _ i _ => p.chunks.length - (intOf i).toNat)
  case atStart => exact ⟨0, [], bl, by omega, rfl, rfl, by omega, Nat.zero_le _, hidOf (by rw [HBL.out]; rfl), O1, B1⟩
  case round =>
    obtain ⟨k, os, t, hk, rfl, rfl, hts, hol, HI, hown, hb⟩ := hrel
    obtain ⟨ao, cv, rfl⟩ := owns_slice hown
    have BW := B0.trans (hb.mono B0.size)
    have hzr := hb.size
    obtain ⟨-, c0, c1, c2, c3, c4⟩ := X0.below hb hX
    obtain ⟨x, ex⟩ : ∃ x, p.chunks[k]? = some x := ⟨_, List.getElem?_eq_getElem hk⟩
    have hxs := hF.texts k x ex
    obtain ⟨b1, o1, ea, hb1, hc1'⟩ := I0.chunks (by omega)
    obtain ⟨p0, p1, p2, p3, p4⟩ := chC (w := wr) (fun j hj => by rw [hb.cell hb1]; exact hc1' k x ex j hj)
    have hpv : pcV p l = .agg #[.int .i64 p.indent, .slice l.a1 p.rules.length l.c1, .slice (some ⟨b1, o1, none⟩) p.chunks.length l.c2, .slice l.a3 p.spans.length l.c3, .slice l.a4 p.ties.length l.c4] := by show Value.agg _ = _; rw [ea]
    have hA : (0 : Int) ≤ (k : Int) := by omega
    have hB : (k : Int) < (p.chunks.length : Int) := by omega
    have hst : (t ++ x.text).size ≤ 100 + k * 1048577 + 1048576 := by rw [app_size]; omega
    by_cases hlast : k + 1 = p.chunks.length
    · have HE := hidOf (show os ++ [t ++ x.text] = linesOf p vs by have h := HI.out; rw [ren_last t ex hlast] at h; exact h)
      have hq : ((k : Int) + 1 == (p.chunks.length : Int)) = true := by simp; omega
      rw [ea] at c2
      clear ex hc1' ea hpv I0
      go_wp2_with (at_builtin; refine wpList_append_own _ rfl _ _ 42 rfl (w.heap.size + 1) 9 i0 (.string ByteArray.empty) 1 16 Try.underlying42 hi hz0 hz1 hz2 rfl (by decide) _ _ _ rfl (hown.alloc _) ⟨wr.heap.size, 0, none⟩ 1 1 [.string (t ++ x.text)] rfl rfl (cell_one_new _ _ _) (fun x hx => by simp at hx; subst hx; rfl) (by unfold maxLen; omega) (by omega) (by simp; omega) ?_; intro v' w5 hown' hgrow5 hnil5)
      go_ret
      have hB5 : Below w.heap.size w w5 := (BW.alloc BW.size _).grown hgrow5 (by have := BW.size; simp; omega) (fun q hq => by have := (hown.lt q hq).1; omega)
      rw [← HE.out]
      exact ⟨hB5, _, rfl, ownsRow_base (by simpa [strVals] using hown') (by omega)⟩
    · have hq : ((k : Int) + 1 == (p.chunks.length : Int)) = false := by simp; omega
      have q0 := sSpl1_any p l a c vs k x wr hF hm0 (I0.below hb (Nat.le_refl _)) (V0.below hb (Nat.le_refl _)) h1 h2 (by omega) ex
      rw [hpv] at q0
      rw [ea] at c2
      obtain ⟨-, hs⟩ := h1.chunks.texts k x ex
      obtain ⟨-, -, hn1, hn2⟩ := hs (by omega)
      have C := fun (W : World) (hB : Below W0.heap.size W0 W) => And.intro (X0.below hB hX) (chC (w := W) (fun j hj => by rw [hB.cell hb1]; exact hc1' k x ex j hj))
      cases hsp : spl vs x with
      | true =>
        rw [hsp] at q0
        have HE := hidOf (show (os ++ [t ++ x.text]) ++ ren p.indent vs (blanks (p.indent + x.nest)) (p.chunks.drop (k + 1)) = linesOf p vs by have h := HI.out; rw [ren_split t ex (by omega) hsp] at h; rw [← h]; simp)
        have HA := hidOf ea
        clear ex hc1' ea hpv hsp hs
        go_wp2_with fail
        refine q0.mono ?_
        rintro e w3 ⟨rfl, hb3⟩
        have A3 := hb.trans (hb3.mono hb.size)
        have O3 := owns_below hown hb3
        have hz3 := A3.size
        clear q0 hb3 hown c0 c1 c2 c3 c4 p0 p1 p2 p3 p4
        go_wp2_with (at_builtin; refine wpList_append_own _ rfl _ _ 42 rfl (w.heap.size + 1) 9 i0 (.string ByteArray.empty) 1 16 Try.underlying42 hi hz0 hz1 hz2 rfl (by decide) _ _ _ rfl (O3.alloc _) ⟨w3.heap.size, 0, none⟩ 1 1 [.string (t ++ x.text)] rfl rfl (cell_one_new _ _ _) (fun x hx => by simp at hx; subst hx; rfl) (by unfold maxLen; omega) (by omega) (by simp; omega) ?_; intro v' w5 hown' hgrow5 hnil5)
        have A5 : Below W0.heap.size W0 w5 := (A3.alloc hz3 _).grown hgrow5 (by simp; omega) (fun q hq => by have := (O3.lt q hq).1; omega)
        obtain ⟨⟨-, c0, c1, c2, c3, c4⟩, p0, p1, p2, p3, p4⟩ := C w5 A5
        rw [HA.out] at c2
        have hwv : IntKind.i64.wrap (p.indent + x.nest) = p.indent + x.nest := IntWalk.i64_in _ ⟨by omega, by omega⟩
        have hbq := fun W => sBlanks_any (p.indent + x.nest) W (by omega) (by omega)
        obtain ⟨bn, hbn⟩ : ∃ bn, bn = blanks (p.indent + x.nest) := ⟨_, rfl⟩
        have hbz : bn.size ≤ 100 := by rw [hbn, blanks_size]; omega
        rw [← hbn] at hbq HE
        clear hbn C
        go_quiet ((go_at_call 123; exact Calls.quiet_of_same (hbq _)))
        go_wp2
        go_roundw
        case rel => exact ⟨k + 1, os ++ [t ++ x.text], bn, by omega, by go_num, rfl, by omega, by simp; omega, HE, owns_below (by simpa [strVals] using hown') (below_drewN _ _), bel_drewN A5 _⟩
        case measure => simp [intOf]; omega
      | false =>
        rw [hsp] at q0
        have h0 := HI.out
        rw [ren_join t ex (by omega) hsp] at h0
        have HA := hidOf ea
        cases hbl : x.space with
        | true =>
          rw [sp1_yes hbl] at h0
          have HE := hidOf h0
          clear ex hc1' ea hpv hsp hs h0
          go_wp2_with fail
          refine q0.mono ?_
          rintro e w3 ⟨rfl, hb3⟩
          have A3 := hb.trans (hb3.mono hb.size)
          have O3 := owns_below hown hb3
          clear q0 hb3 hown c0 c1 c2 c3 c4 p0 p1 p2 p3 p4
          obtain ⟨⟨-, c0, c1, c2, c3, c4⟩, p0, p1, p2, p3, p4⟩ := C w3 A3
          rw [HA.out] at c2
          rw [hbl] at p3
          clear C hbl
          go_wp2
          go_roundw
          case rel => exact ⟨k + 1, os, _, by omega, by go_num, rfl, by rw [app_size]; show (t ++ x.text).size + 1 ≤ _; omega, by omega, HE, O3, A3⟩
          case measure => simp [intOf]; omega
        | false =>
          rw [sp1_no hbl, app_none] at h0
          have HE := hidOf h0
          clear ex hc1' ea hpv hsp hs h0
          go_wp2_with fail
          refine q0.mono ?_
          rintro e w3 ⟨rfl, hb3⟩
          have A3 := hb.trans (hb3.mono hb.size)
          have O3 := owns_below hown hb3
          clear q0 hb3 hown c0 c1 c2 c3 c4 p0 p1 p2 p3 p4
          obtain ⟨⟨-, c0, c1, c2, c3, c4⟩, p0, p1, p2, p3, p4⟩ := C w3 A3
          rw [HA.out] at c2
          rw [hbl] at p3
          clear C hbl
          go_wp2
          go_roundw
          case rel => exact ⟨k + 1, os, _, by omega, by go_num, rfl, by omega, by omega, HE, O3, A3⟩
          case measure => simp [intOf]; omega

set_option maxHeartbeats 4000000 in
theorem sRen_yes (p : Pc) (l : Pl) (a : Option Addr) (c : Nat) (vs : List Int) (w : World) (hF : PcFew p) (hm0 : vs.length ≤ 1048576) (hp : PcIn w p l) (hv : KidsAt w a vs) (h1 : Right p) (h2 : ValOk p vs) :
    Calls Try.prog 40 #[pcV p l, .slice a vs.length c] w fun e w' => StrsAns (linesOf p vs) 9 w e w' := by
  show Calls _ _ #[.agg #[.int .i64 p.indent, .slice l.a1 p.rules.length l.c1, .slice l.a2 p.chunks.length l.c2, .slice l.a3 p.spans.length l.c3, .slice l.a4 p.ties.length l.c4], _] _ _
  obtain ⟨W0, hW0, X0, B0, S0⟩ := boxed w p l 29
  have hX : w.heap.size < W0.heap.size := by omega
  go_enter Try.func40, Try.ntmps40
  go_wp2_with fail
  rw [← hW0]
  have I0 := hp.below B0 (Nat.le_refl _)
  have V0 := hv.below B0 (Nat.le_refl _)
  clear hW0 hp hv
  refine (sOk_any p l _ hF I0).mono ?_
  rintro e w1 hq
  obtain ⟨rfl, A1⟩ := hq.yes h1
  clear hq
  obtain ⟨-, c0, c1, c2, c3, c4⟩ := X0.below A1 hX
  go_wp2_with fail
  refine (sVal_any p l a c vs _ hF.rules hm0 (noLeast_right h1.rules) (I0.rules.below A1 (Nat.le_refl _)) (V0.below A1 (Nat.le_refl _))).mono ?_
  rintro e w2 hq
  obtain ⟨rfl, hb2⟩ := hq.yes h2
  have A2 := A1.trans (hb2.mono A1.size)
  clear hq hb2 A1 c0 c1 c2 c3 c4
  obtain ⟨-, c0, c1, c2, c3, c4⟩ := X0.below A2 hX
  have BW := B0.trans (A2.mono B0.size)
  go_wp2_with fail
  refine (sRen_lines p l a c vs _ hF hm0 (I0.below A2 (Nat.le_refl _)) (V0.below A2 (Nat.le_refl _)) h1 h2).mono ?_
  rintro e w3 ⟨hb3, v, rfl, ho⟩
  obtain ⟨ao, cv, rfl⟩ := owns_slice ho
  go_wp2
  go_ret
  exact ⟨BW.trans (hb3.mono BW.size), _, rfl, ownsRow_base ho BW.size⟩

set_option maxHeartbeats 4000000 in
theorem sRen_no (p : Pc) (l : Pl) (a : Option Addr) (c : Nat) (vs : List Int) (w : World) (hF : PcFew p) (hm0 : vs.length ≤ 1048576) (hp : PcIn w p l) (hv : KidsAt w a vs) (hno : ¬ (Right p ∧ ValOk p vs)) :
    Calls Try.prog 40 #[pcV p l, .slice a vs.length c] w fun e w' => StrsAns [] 9 w e w' := by
  show Calls _ _ #[.agg #[.int .i64 p.indent, .slice l.a1 p.rules.length l.c1, .slice l.a2 p.chunks.length l.c2, .slice l.a3 p.spans.length l.c3, .slice l.a4 p.ties.length l.c4], _] _ _
  obtain ⟨W0, hW0, X0, B0, S0⟩ := boxed w p l 29
  have hX : w.heap.size < W0.heap.size := by omega
  go_enter Try.func40, Try.ntmps40
  go_wp2_with fail
  rw [← hW0]
  have I0 := hp.below B0 (Nat.le_refl _)
  have V0 := hv.below B0 (Nat.le_refl _)
  clear hW0 hp hv
  refine (sOk_any p l _ hF I0).mono ?_
  rintro e w1 hq
  by_cases h1 : Right p
  · obtain ⟨rfl, A1⟩ := hq.yes h1
    clear hq
    obtain ⟨-, c0, c1, c2, c3, c4⟩ := X0.below A1 hX
    go_wp2_with fail
    refine (sVal_any p l a c vs _ hF.rules hm0 (noLeast_right h1.rules) (I0.rules.below A1 (Nat.le_refl _)) (V0.below A1 (Nat.le_refl _))).mono ?_
    rintro e w2 hq
    obtain ⟨rfl, hb2⟩ := hq.no (fun h => hno ⟨h1, h⟩)
    have A2 := A1.trans (hb2.mono A1.size)
    have BW := B0.trans (A2.mono B0.size)
    go_wp2
    go_ret
    exact ⟨BW.alloc BW.size _, _, rfl, World.ownsRow_made _ #[] 0 BW.size (by decide) rfl⟩
  · obtain ⟨rfl, A1⟩ := hq.no h1
    have BW := B0.trans (A1.mono B0.size)
    go_wp2
    go_ret
    exact ⟨BW.alloc BW.size _, _, rfl, World.ownsRow_made _ #[] 0 BW.size (by decide) rfl⟩
end Go.Proofs.Ytndnngfljoamdaa
