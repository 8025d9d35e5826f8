/- What impl.overOf, impl.valuesCost, impl.isSpanSplit and impl.spansCost answer. -/
import Derived.Test.YtgaejcljabhijaaKaf
import Derived.Test.YtgaejcljabhijaaProg
import Derived.Test.YtgaejcljabhijaaKag
import Derived.Test.YtgaejcljabhijaaIntLib
import Derived.BigQuiet
import Derived.Deep.QuietTactic
import Derived.Laws.StructEq
import Derived.Test.YtgaejcljabhijaaKai
import Derived.Test.YtgaejcljabhijaaValLib
import Derived.Test.YtgaejcljabhijaaBCell
import Derived.Test.YtgaejcljabhijaaPcLib
import Derived.Deep.RegionHeld3
import Derived.Lib.Builder
import Derived.Test.YtgaejcljabhijaaRightLib
import Derived.Deep.RegionWith
import Derived.Test.YtgaejcljabhijaaBoxPc
namespace Go.Proofs.Ytgaejcljabhijaa
open Go.RowKit

set_option maxHeartbeats 8000000 in
set_option maxRecDepth 20000 in
theorem iOver_any (p : Pc) (l : Pl) (a : Option Addr) (c : Nat) (vs : List Int) (wd : Int) (w : World) (hF : PcFew p) (hm0 : vs.length ≤ 1048576) (hp : PcIn w p l) (hv : KidsAt w a vs) (h1 : Right p) (h2 : ValOk p vs) :
    Calls Try.prog 102 #[pcV p l, .slice a vs.length c, .int .i64 wd] w fun e w' => e = .returned (.int .i64 (costOver p vs wd)) ∧ Below w.heap.size w w' := by
  show Calls _ _ #[.agg #[.int .i64 p.indent, .slice l.a1 p.rules.length l.c1, .slice l.a2 p.chunks.length l.c2, .slice l.a3 p.spans.length l.c3, .slice l.a4 p.ties.length l.c4], _, _] _ _
  have hcl := hF.chunks
  have hc1 := h1.chunks.least
  have hc80 := h1.chunks.most
  obtain ⟨T, hT⟩ : ∃ T, T = costOver p vs wd := ⟨_, rfl⟩
  rw [← hT]
  obtain ⟨W0, hW0, X0, B0, S0⟩ := boxed w p l 29
  have hX : w.heap.size < W0.heap.size := by omega
  have I0 := hp.below B0 (Nat.le_refl _)
  have V0 := hv.below B0 (Nat.le_refl _)
  by_cases hw1 : wd < 0
  · have HT := hidOf (show ovr 0 (linesFrom p vs 0) = T by rw [hT, lines_zero (by omega)]; unfold costOver; rw [show wid wd = 0 by unfold wid; omega])
    have hw2 : ¬ (100000 : Int) < 0 := by omega
    clear hT
    go_enter Try.func102, Try.ntmps102
    go_wp2
    rw [← hW0]
    clear hW0 hp hv
    go_loopw [7, 8] (fun m i wr => ∃ (k : Nat) (ov : Int), k ≤ p.chunks.length ∧ i = .int .i64 k ∧ m = .int .i64 ov ∧ 0 ≤ ov ∧ ov ≤ k * 83886260 ∧ Hid (ov + ovr 0 (linesFrom p vs k) = T) ∧ Below W0.heap.size W0 wr) (fun _ i _ => p.chunks.length - (intOf i).toNat)
    case atStart => exact ⟨0, 0, Nat.zero_le _, rfl, rfl, by omega, by omega, hidOf (by rw [HT.out]; omega), Below.refl _ _⟩
    case round =>
      obtain ⟨k, ov, hk, rfl, rfl, hov0, hov1, HI, hb⟩ := hrel
      have BW := B0.trans (hb.mono B0.size)
      obtain ⟨-, c0, c1, c2, c3, c4⟩ := X0.below hb hX
      by_cases hlt : k < p.chunks.length
      · have hM : (k : Int) < (p.chunks.length : Int) := by omega
        go_wp2_with fail
        refine (next_any p l a c vs k _ hF hm0 (I0.below hb (Nat.le_refl _)) (V0.below hb (Nat.le_refl _)) h1 h2 hlt).mono ?_
        rintro e w3 ⟨n, rfl, hsg, hb3⟩
        have A3 := hb.trans (hb3.mono hb.size)
        have hn1 := hsg.lt
        have hn2 := hsg.le
        have h0 := HI.out
        rw [lines_seg hsg, ovr] at h0
        clear hb3 c0 c1 c2 c3 c4 hsg
        obtain ⟨-, c0, c1, c2, c3, c4⟩ := X0.below A3 hX
        go_wp2_with fail
        obtain ⟨L, hL⟩ : ∃ L, L = (lineOf p k n).size := ⟨_, rfl⟩
        have hLs : L ≤ 83886260 := by rw [hL]; exact lineOf_size h1 hF hlt
        refine (len_any p l k n _ hF (I0.below A3 (Nat.le_refl _)) h1 hn1 hn2).mono ?_
        rw [← hL] at h0 ⊢
        rintro e w4 ⟨rfl, hb4⟩
        have A4 := A3.trans (hb4.mono A3.size)
        clear hb4 c0 c1 c2 c3 c4 hL
        by_cases hgo : (L : Int) - 0 < 0
        · have HE := hidOf (show ov + ovr 0 (linesFrom p vs n) = T by rw [← h0]; omega)
          clear h0
          go_wp2
          go_roundw
          case rel => exact ⟨n, ov, hn2, by go_num, by go_num, hov0, by omega, HE, A4⟩
          case measure => simp [intOf]; omega
        · have HE := hidOf (show (ov + ((L : Int) - 0)) + ovr 0 (linesFrom p vs n) = T by rw [← h0]; omega)
          have hge : 0 ≤ (L : Int) - 0 := by omega
          clear h0
          go_wp2
          go_roundw
          case rel => exact ⟨n, ov + ((L : Int) - 0), hn2, by go_num, by go_num, by omega, by omega, HE, A4⟩
          case measure => simp [intOf]; omega
      · have hM : ¬ (k : Int) < (p.chunks.length : Int) := by omega
        go_wp2
        go_ret
        have h := HI.out
        rw [lines_end (by omega), ovr] at h
        exact ⟨ret_int (by omega), BW⟩
  by_cases hw2 : wd ≤ 100000
  · have HT := hidOf (show ovr wd (linesFrom p vs 0) = T by rw [hT, lines_zero (by omega)]; unfold costOver; rw [show wid wd = wd by unfold wid; omega])
    have hw3 : 0 ≤ wd := by omega
    clear hT
    go_enter Try.func102, Try.ntmps102
    go_wp2
    rw [← hW0]
    clear hW0 hp hv
    go_loopw [7, 8] (fun m i wr => ∃ (k : Nat) (ov : Int), k ≤ p.chunks.length ∧ i = .int .i64 k ∧ m = .int .i64 ov ∧ 0 ≤ ov ∧ ov ≤ k * 83886260 ∧ Hid (ov + ovr wd (linesFrom p vs k) = T) ∧ Below W0.heap.size W0 wr) (fun _ i _ => p.chunks.length - (intOf i).toNat)
    case atStart => exact ⟨0, 0, Nat.zero_le _, rfl, rfl, by omega, by omega, hidOf (by rw [HT.out]; omega), Below.refl _ _⟩
    case round =>
      obtain ⟨k, ov, hk, rfl, rfl, hov0, hov1, HI, hb⟩ := hrel
      have BW := B0.trans (hb.mono B0.size)
      obtain ⟨-, c0, c1, c2, c3, c4⟩ := X0.below hb hX
      by_cases hlt : k < p.chunks.length
      · have hM : (k : Int) < (p.chunks.length : Int) := by omega
        go_wp2_with fail
        refine (next_any p l a c vs k _ hF hm0 (I0.below hb (Nat.le_refl _)) (V0.below hb (Nat.le_refl _)) h1 h2 hlt).mono ?_
        rintro e w3 ⟨n, rfl, hsg, hb3⟩
        have A3 := hb.trans (hb3.mono hb.size)
        have hn1 := hsg.lt
        have hn2 := hsg.le
        have h0 := HI.out
        rw [lines_seg hsg, ovr] at h0
        clear hb3 c0 c1 c2 c3 c4 hsg
        obtain ⟨-, c0, c1, c2, c3, c4⟩ := X0.below A3 hX
        go_wp2_with fail
        obtain ⟨L, hL⟩ : ∃ L, L = (lineOf p k n).size := ⟨_, rfl⟩
        have hLs : L ≤ 83886260 := by rw [hL]; exact lineOf_size h1 hF hlt
        refine (len_any p l k n _ hF (I0.below A3 (Nat.le_refl _)) h1 hn1 hn2).mono ?_
        rw [← hL] at h0 ⊢
        rintro e w4 ⟨rfl, hb4⟩
        have A4 := A3.trans (hb4.mono A3.size)
        clear hb4 c0 c1 c2 c3 c4 hL
        by_cases hgo : (L : Int) - wd < 0
        · have HE := hidOf (show ov + ovr wd (linesFrom p vs n) = T by rw [← h0]; omega)
          clear h0
          go_wp2
          go_roundw
          case rel => exact ⟨n, ov, hn2, by go_num, by go_num, hov0, by omega, HE, A4⟩
          case measure => simp [intOf]; omega
        · have HE := hidOf (show (ov + ((L : Int) - wd)) + ovr wd (linesFrom p vs n) = T by rw [← h0]; omega)
          have hge : 0 ≤ (L : Int) - wd := by omega
          clear h0
          go_wp2
          go_roundw
          case rel => exact ⟨n, ov + ((L : Int) - wd), hn2, by go_num, by go_num, by omega, by omega, HE, A4⟩
          case measure => simp [intOf]; omega
      · have hM : ¬ (k : Int) < (p.chunks.length : Int) := by omega
        go_wp2
        go_ret
        have h := HI.out
        rw [lines_end (by omega), ovr] at h
        exact ⟨ret_int (by omega), BW⟩
  · have HT := hidOf (show ovr 100000 (linesFrom p vs 0) = T by rw [hT, lines_zero (by omega)]; unfold costOver; rw [show wid wd = 100000 by unfold wid; omega])
    have hw3 : ¬ wd < 0 := by omega
    clear hT
    go_enter Try.func102, Try.ntmps102
    go_wp2
    rw [← hW0]
    clear hW0 hp hv
    go_loopw [7, 8] (fun m i wr => ∃ (k : Nat) (ov : Int), k ≤ p.chunks.length ∧ i = .int .i64 k ∧ m = .int .i64 ov ∧ 0 ≤ ov ∧ ov ≤ k * 83886260 ∧ Hid (ov + ovr 100000 (linesFrom p vs k) = T) ∧ Below W0.heap.size W0 wr) (fun _ i _ => p.chunks.length - (intOf i).toNat)
    case atStart => exact ⟨0, 0, Nat.zero_le _, rfl, rfl, by omega, by omega, hidOf (by rw [HT.out]; omega), Below.refl _ _⟩
    case round =>
      obtain ⟨k, ov, hk, rfl, rfl, hov0, hov1, HI, hb⟩ := hrel
      have BW := B0.trans (hb.mono B0.size)
      obtain ⟨-, c0, c1, c2, c3, c4⟩ := X0.below hb hX
      by_cases hlt : k < p.chunks.length
      · have hM : (k : Int) < (p.chunks.length : Int) := by omega
        go_wp2_with fail
        refine (next_any p l a c vs k _ hF hm0 (I0.below hb (Nat.le_refl _)) (V0.below hb (Nat.le_refl _)) h1 h2 hlt).mono ?_
        rintro e w3 ⟨n, rfl, hsg, hb3⟩
        have A3 := hb.trans (hb3.mono hb.size)
        have hn1 := hsg.lt
        have hn2 := hsg.le
        have h0 := HI.out
        rw [lines_seg hsg, ovr] at h0
        clear hb3 c0 c1 c2 c3 c4 hsg
        obtain ⟨-, c0, c1, c2, c3, c4⟩ := X0.below A3 hX
        go_wp2_with fail
        obtain ⟨L, hL⟩ : ∃ L, L = (lineOf p k n).size := ⟨_, rfl⟩
        have hLs : L ≤ 83886260 := by rw [hL]; exact lineOf_size h1 hF hlt
        refine (len_any p l k n _ hF (I0.below A3 (Nat.le_refl _)) h1 hn1 hn2).mono ?_
        rw [← hL] at h0 ⊢
        rintro e w4 ⟨rfl, hb4⟩
        have A4 := A3.trans (hb4.mono A3.size)
        clear hb4 c0 c1 c2 c3 c4 hL
        by_cases hgo : (L : Int) - 100000 < 0
        · have HE := hidOf (show ov + ovr 100000 (linesFrom p vs n) = T by rw [← h0]; omega)
          clear h0
          go_wp2
          go_roundw
          case rel => exact ⟨n, ov, hn2, by go_num, by go_num, hov0, by omega, HE, A4⟩
          case measure => simp [intOf]; omega
        · have HE := hidOf (show (ov + ((L : Int) - 100000)) + ovr 100000 (linesFrom p vs n) = T by rw [← h0]; omega)
          have hge : 0 ≤ (L : Int) - 100000 := by omega
          clear h0
          go_wp2
          go_roundw
          case rel => exact ⟨n, ov + ((L : Int) - 100000), hn2, by go_num, by go_num, by omega, by omega, HE, A4⟩
          case measure => simp [intOf]; omega
      · have hM : ¬ (k : Int) < (p.chunks.length : Int) := by omega
        go_wp2
        go_ret
        have h := HI.out
        rw [lines_end (by omega), ovr] at h
        exact ⟨ret_int (by omega), BW⟩
end Go.Proofs.Ytgaejcljabhijaa
/- What impl.CostLess and spec.CostLess answer. -/
namespace Go.Proofs.Ytgaejcljabhijaa
open Go.RowKit

theorem coGuard (o1 s1 o2 s2 : Int) (op : BinOp) (a b : Operand) (w : World) : (eqGuard op 37 a b (.agg #[.int .i64 o1, .int .i64 s1]) (.agg #[.int .i64 o2, .int .i64 s2])).run Try.prog w = .ok () w :=
  run_eqGuard_agg w op 37 a b _ _ (by kernel_rfl)
theorem coNeq (o1 s1 o2 s2 : Int) (w : World) : (binOp .neq 37 (.agg #[.int .i64 o1, .int .i64 s1]) (.agg #[.int .i64 o2, .int .i64 s2])).run Try.prog w = .ok (.bool (!decide (o1 = o2 ∧ s1 = s2))) w := by
  have u3 := Try.underlying3
  have a3 := Try.isAgg3
  have z3 := Try.sizeOf3
  have hS : Try.prog.underlying 37 = some (.struct (Try.prog.fieldsOf 37)) := by kernel_rfl
  have hp : Try.prog.stoodInHeld 37 = false := by kernel_rfl
  rw [run_neq_struct, show (10000 : Nat) = 9999 + 1 from rfl, run_equalIn_agg w 9999 37 _ _ hS hp]
  simp only [Program.fieldsOf, Try.underlying37]
  by_cases h1 : o1 = o2
  · subst h1
    by_cases h2 : s1 = s2
    · subst h2
      go_simp
    · have h2' : (s1 == s2) = false := by simpa using h2
      go_simp
  · have h1' : (o1 == o2) = false := by simpa using h1
    go_simp

set_option maxHeartbeats 4000000 in
theorem upto_any (o1 s1 o2 s2 : Int) (w : World) : Calls Try.prog 105 #[coV o1 s1, coV o2 s2] w fun e w' => e = .returned (.bool (uptoC o1 s1 o2 s2)) ∧ Below w.heap.size w w' := by
  show Calls _ _ #[.agg #[.int .i64 o1, .int .i64 s1], .agg #[.int .i64 o2, .int .i64 s2]] _ _
  have HB2 : ∀ a b : Obj, Below w.heap.size w ((w.alloc a).alloc b) := fun a b => ((Below.refl _ _).alloc (Nat.le_refl _) _).alloc (by simp) _
  by_cases h1 : o1 < o2
  · rw [show uptoC o1 s1 o2 s2 = true by unfold uptoC; rw [decide_eq_true_eq]; omega]
    go_enter Try.func105, Try.ntmps105
    go_wp2
    go_ret
    exact ⟨rfl, HB2 _ _⟩
  · by_cases h2 : o1 = o2
    · subst h2
      have h3 : (o1 == o1) = true := by simp
      by_cases h4 : s1 ≤ s2
      · rw [show uptoC o1 s1 o1 s2 = true by unfold uptoC; rw [decide_eq_true_eq]; omega]
        go_enter Try.func105, Try.ntmps105
        go_wp2
        go_ret
        exact ⟨rfl, HB2 _ _⟩
      · rw [show uptoC o1 s1 o1 s2 = false by unfold uptoC; rw [decide_eq_false_iff_not]; omega]
        go_enter Try.func105, Try.ntmps105
        go_wp2
        go_ret
        exact ⟨rfl, HB2 _ _⟩
    · have h3 : (o1 == o2) = false := by simpa using h2
      rw [show uptoC o1 s1 o2 s2 = false by unfold uptoC; rw [decide_eq_false_iff_not]; omega]
      clear h2
      go_enter Try.func105, Try.ntmps105
      go_wp2
      go_ret
      exact ⟨rfl, HB2 _ _⟩

set_option maxHeartbeats 4000000 in
theorem iLess_any (o1 s1 o2 s2 : Int) (w : World) : Calls Try.prog 67 #[coV o1 s1, coV o2 s2] w fun e w' => e = .returned (.bool (lessC o1 s1 o2 s2)) ∧ Below w.heap.size w w' := by
  show Calls _ _ #[.agg #[.int .i64 o1, .int .i64 s1], .agg #[.int .i64 o2, .int .i64 s2]] _ _
  have HB2 : ∀ a b : Obj, Below w.heap.size w ((w.alloc a).alloc b) := fun a b => ((Below.refl _ _).alloc (Nat.le_refl _) _).alloc (by simp) _
  have hG := coGuard o1 s1 o2 s2
  have hQ := coNeq o1 s1 o2 s2
  have hU := fun W => upto_any o1 s1 o2 s2 W
  by_cases h : o1 = o2 ∧ s1 = s2
  · rw [show lessC o1 s1 o2 s2 = false by unfold lessC; rw [decide_eq_false_iff_not]; omega]
    rw [show (!decide (o1 = o2 ∧ s1 = s2)) = false by rw [decide_eq_true h]; rfl] at hQ
    clear h
    go_enter Try.func67, Try.ntmps67
    go_wp2
    go_ret
    exact ⟨rfl, HB2 _ _⟩
  · rw [show lessC o1 s1 o2 s2 = uptoC o1 s1 o2 s2 by unfold lessC uptoC; rw [decide_eq_decide]; omega]
    rw [show (!decide (o1 = o2 ∧ s1 = s2)) = true by rw [decide_eq_false h]; rfl] at hQ
    clear h
    go_enter Try.func67, Try.ntmps67
    go_wp2_with fail
    refine (hU _).mono ?_
    rintro e w1 ⟨rfl, hb⟩
    have BW := (HB2 (.cells #[.int .i64 o1, .int .i64 s1] 37) (.cells #[.int .i64 o2, .int .i64 s2] 37))
    have BX := BW.trans (hb.mono BW.size)
    go_wp2
    go_ret
    exact ⟨rfl, BX⟩

set_option maxHeartbeats 4000000 in
theorem sLess_any (o1 s1 o2 s2 : Int) (w : World) : Calls Try.prog 19 #[coV o1 s1, coV o2 s2] w fun e w' => e = .returned (.bool (lessC o1 s1 o2 s2)) ∧ Below w.heap.size w w' := by
  show Calls _ _ #[.agg #[.int .i64 o1, .int .i64 s1], .agg #[.int .i64 o2, .int .i64 s2]] _ _
  have HB2 : ∀ a b : Obj, Below w.heap.size w ((w.alloc a).alloc b) := fun a b => ((Below.refl _ _).alloc (Nat.le_refl _) _).alloc (by simp) _
  by_cases h1 : o1 < o2
  · rw [show lessC o1 s1 o2 s2 = true by unfold lessC; rw [decide_eq_true_eq]; omega]
    go_enter Try.func19, Try.ntmps19
    go_wp2
    go_ret
    exact ⟨rfl, HB2 _ _⟩
  · by_cases h2 : o1 = o2
    · subst h2
      have h3 : (o1 == o1) = true := by simp
      by_cases h4 : s1 < s2
      · rw [show lessC o1 s1 o1 s2 = true by unfold lessC; rw [decide_eq_true_eq]; omega]
        go_enter Try.func19, Try.ntmps19
        go_wp2
        go_ret
        exact ⟨rfl, HB2 _ _⟩
      · rw [show lessC o1 s1 o1 s2 = false by unfold lessC; rw [decide_eq_false_iff_not]; omega]
        go_enter Try.func19, Try.ntmps19
        go_wp2
        go_ret
        exact ⟨rfl, HB2 _ _⟩
    · have h3 : (o1 == o2) = false := by simpa using h2
      rw [show lessC o1 s1 o2 s2 = false by unfold lessC; rw [decide_eq_false_iff_not]; omega]
      clear h2
      go_enter Try.func19, Try.ntmps19
      go_wp2
      go_ret
      exact ⟨rfl, HB2 _ _⟩
end Go.Proofs.Ytgaejcljabhijaa
/- What impl.costOfRight answers. -/
namespace Go.Proofs.Ytgaejcljabhijaa
open Go.RowKit

theorem infoCoI : (Try.prog.info? 37).map (·.size) = some 2 := by kernel_rfl
set_option maxHeartbeats 8000000 in
set_option maxRecDepth 20000 in
theorem iCostR_any (p : Pc) (l : Pl) (a : Option Addr) (c : Nat) (vs : List Int) (wd : Int) (w : World) (hF : PcFew p) (hm0 : vs.length ≤ 1048576) (hcap : p.chunks.length ≤ l.c2) (hp : PcIn w p l) (hv : KidsAt w a vs) (h1 : Right p) (h2 : ValOk p vs) :
    Calls Try.prog 65 #[pcV p l, .slice a vs.length c, .int .i64 wd] w fun e w' => e = .returned (coV (costOver p vs wd) (costSum p vs)) ∧ Below w.heap.size w w' := by
  show Calls _ _ #[.agg #[.int .i64 p.indent, .slice l.a1 p.rules.length l.c1, .slice l.a2 p.chunks.length l.c2, .slice l.a3 p.spans.length l.c3, .slice l.a4 p.ties.length l.c4], _, _] _ _
  have hsu := sums_le h1 h2
  unfold costSum
  obtain ⟨vc, hvc⟩ : ∃ vc, vc = vcost p.rules vs := ⟨_, rfl⟩
  obtain ⟨sc, hsc⟩ : ∃ sc, sc = scost p.chunks vs p.spans := ⟨_, rfl⟩
  obtain ⟨ov, hov⟩ : ∃ ov, ov = costOver p vs wd := ⟨_, rfl⟩
  have qO := fun W hP hK => iOver_any p l a c vs wd W hF hm0 hP hK h1 h2
  have qV := fun W hP hK => iVaCost_any p l a c vs W hm0 hP hK h1 h2
  have qS := fun W hP hK => iSpCost_any p l a c vs W hF hm0 hcap hP hK h1 h2
  rw [← hvc, ← hsc] at hsu
  rw [← hvc, ← hsc, ← hov]
  rw [← hov] at qO
  rw [← hvc] at qV
  rw [← hsc] at qS
  clear hvc hsc hov
  obtain ⟨⟨u1, u2⟩, u3, u4⟩ := hsu
  have hws : IntKind.i64.wrap (vc + sc) = vc + sc := IntWalk.i64_in _ ⟨by omega, by omega⟩
  obtain ⟨W0, hW0, X0, B0, S0⟩ := boxed w p l 29
  have hX : w.heap.size < W0.heap.size := by omega
  have I0 := hp.below B0 (Nat.le_refl _)
  have V0 := hv.below B0 (Nat.le_refl _)
  go_enter Try.func65, Try.ntmps65
  go_wp2
  rw [← hW0]
  obtain ⟨W1, hW1⟩ : ∃ W1, W1 = W0.alloc (.cells #[.int .i64 0, .int .i64 0] 37) := ⟨_, rfl⟩
  rw [← hW1]
  have B1 : Below W0.heap.size W0 W1 := by rw [hW1]; exact (Below.refl _ _).alloc (Nat.le_refl _) _
  have F1 : W1.heap[w.heap.size + 1]? = some (.cells #[.int .i64 0, .int .i64 0] 37 (0, 0)) := by rw [hW1, ← S0]; exact heap_alloc_new W0 _
  have z1 : w.heap.size + 1 < W1.heap.size := by rw [hW1]; simp; omega
  have z0 : w.heap.size < W1.heap.size := by omega
  have I1 := I0.below B1 (Nat.le_refl _)
  have V1 := V0.below B1 (Nat.le_refl _)
  obtain ⟨-, c0, c1, c2, c3, c4⟩ := X0.below B1 hX
  have g0 : W1.cell? ⟨w.heap.size + 1, 0, none⟩ = some (.int .i64 0) := by rw [Lib.cell_of_heap F1]; rfl
  have g1 : W1.cell? ⟨w.heap.size + 1, 1, none⟩ = some (.int .i64 0) := by rw [Lib.cell_of_heap F1]; rfl
  have f0 := Lib.frozen_of_heap F1 0
  have f1 := Lib.frozen_of_heap F1 1
  have hne : w.heap.size ≠ w.heap.size + 1 := by omega
  have ID := I1.below (Below.refl W1.heap.size W1).drew (Nat.le_refl _)
  have VD := V1.below (Below.refl W1.heap.size W1).drew (Nat.le_refl _)
  clear hW0 hW1 hp hv S0
  go_region_held3 (fun W => ((W.cell? ⟨w.heap.size, 0, none⟩ = some (.int .i64 p.indent) ∧ W.cell? ⟨w.heap.size, 1, none⟩ = some (.slice l.a1 p.rules.length l.c1) ∧ W.cell? ⟨w.heap.size, 2, none⟩ = some (.slice l.a2 p.chunks.length l.c2) ∧ W.cell? ⟨w.heap.size, 3, none⟩ = some (.slice l.a3 p.spans.length l.c3) ∧ W.cell? ⟨w.heap.size, 4, none⟩ = some (.slice l.a4 p.ties.length l.c4)))) (first | trivial | go_keep)
    ((first
    | (go_at_call 102; refine (qO _ ID VD).mono ?_; rintro e w1 ⟨rfl, hb1⟩; have A1 := (Below.refl W1.heap.size W1).drew.trans hb1; have hc1 := (bcell A1).1; have hd1 := (bcell A1).2)
    | (go_at_call 103; refine (qV _ (I1.below A1 (Nat.le_refl _)) (V1.below A1 (Nat.le_refl _))).mono ?_; rintro e w2 ⟨rfl, hb2⟩; have A2 := A1.trans (hb2.mono A1.size); have hc2 := (bcell A2).1; have hd2 := (bcell A2).2)
    | (go_at_call 104; refine (qS _ (I1.below A2 (Nat.le_refl _)) (V1.below A2 (Nat.le_refl _))).mono ?_; rintro e w3 ⟨rfl, hb3⟩; have A3 := A2.trans (hb3.mono A2.size); have hc3 := (bcell A3).1; have hd3 := (bcell A3).2)))
  have F3 := (A3.block (w.heap.size + 1) z1).trans F1
  have y0 : w3.cell? ⟨w.heap.size + 1, 0, none⟩ = some (.int .i64 0) := by rw [Lib.cell_of_heap F3]; rfl
  have y1 : w3.cell? ⟨w.heap.size + 1, 1, none⟩ = some (.int .i64 0) := by rw [Lib.cell_of_heap F3]; rfl
  have BW : Below w.heap.size w w3 := B0.trans ((B1.trans (A3.mono B1.size)).mono B0.size)
  clear qO qV qS c0 c1 c2 c3 c4 g0 g1 f0 f1 hc1 hc2 hc3 hd1 hd2 hd3 hb1 hb2 hb3 A1 A2 A3 I0 I1 V0 V1 ID VD F1 X0
  go_wp2
  refine bodyPost_ret (results_one2 rfl _ _ (w.heap.size + 1) (.int .i64 ov) (.int .i64 (vc + sc)) _ rfl ?_ ?_ Try.underlying37 rfl infoCoI) rfl ?_
  · go_simp
  · go_simp
  · have q1 : w.heap.size ≤ w.heap.size + 1 := by omega
    exact ⟨rfl, (BW.setCell q1 _).setCell q1 _⟩

/-- What CostOf answers. -/
def CoAns (o s : Int) (w : World) (e : Ending) (w' : World) : Prop := e = .returned (coV o s) ∧ Below w.heap.size w w'

end Go.Proofs.Ytgaejcljabhijaa
/- Plain facts that the two programs of the search share: zeros behind the first values cost nothing, all split is right and its ties hold, how many states there are at most. -/
namespace Go.Proofs.Ytgaejcljabhijaa
open Go.RowKit

/-- What the first values cost is no more than can be. -/
theorem pre_le {p : Pc} (hR : Right p) {u : List Int} (h : PreV p.rules u) : 0 ≤ costSum p u ∧ costSum p u ≤ 504 := by
  have h1 := sums_le hR (pre_full hR h)
  rw [vcost_more, scost_zero] at h1
  unfold costSum
  omega
/-- A tie is broken, told by what its rules' values are. -/
theorem brk_st {u : List Int} (hn : ∀ z ∈ u, 0 ≤ z) (x : Ti) : brk u x = (decide (2 ≤ st u x.kid) && decide (1 ≤ st u x.up) && decide (st u x.up ≤ 1)) := by
  have hg : ∀ k : Nat, 0 ≤ u.getD k 0 := fun k => by
    rw [List.getD_eq_getElem?_getD]
    cases e : u[k]? with
    | none => simp
    | some z => simpa using hn z (List.mem_of_getElem? e)
  have h0 := hg x.up.toNat
  unfold brk st
  rw [Bool.eq_iff_iff]
  simp only [Bool.and_eq_true, decide_eq_true_eq]
  constructor
  · rintro ⟨⟨⟨⟨⟨h1, h2⟩, h3⟩, h4⟩, h5⟩, h6⟩
    rw [if_pos ⟨h1, h2⟩, if_pos h5, if_pos ⟨h3, h4⟩, if_neg (by omega)]
    omega
  · rintro ⟨⟨h1, h2⟩, h3⟩
    split at h1
    · rename_i hk
      split at h1
      · rename_i hk2
        split at h2
        · rename_i hu
          rw [if_pos hu] at h3
          split at h3
          · omega
          · rename_i hu2
            exact ⟨⟨⟨⟨⟨hk.1, hk.2⟩, hu.1⟩, hu.2⟩, hk2⟩, by omega⟩
        · omega
      · omega
    · omega
/-- What is left is no fewer than there are. -/
theorem len_left {p : Pc} (hR : Right p) : ∀ (h : List St), (h.length : Int) ≤ leftOf p h
  | [] => by simp [leftOf, totS]
  | x :: xs => by
    have ih := len_left hR xs
    have := nodes_pos hR x.vals.length
    unfold leftOf at ih ⊢
    rw [totS, List.length_cons]
    omega
theorem left_le {p : Pc} (hR : Right p) : 2 * cntOf p - 1 ≤ 13121 := by
  rw [cnt_tot hR]
  have h1 := (tot_le p.rules (right_vals hR)).2
  have h2 := pw3_mono hR.rules.1
  have h3 : pw3 8 = 6561 := by decide
  omega
/-- Where a search is: no more can be left than could be. -/
theorem room_of {p : Pc} (hR : Right p) {h : List St} (hl : leftOf p h ≤ 2 * cntOf p - 1) : h.length ≤ 13121 := by
  have h1 := len_left hR h
  have h2 := left_le hR
  omega
/-- One step of the search: the heap, and the best one so far. -/
def stepH (p : Pc) (wd : Int) (h : List St) (best : List Int) : List St := if (hd0 h).vals.length = p.rules.length then restL stLess h else pushK p wd best (hd0 h).vals (vOf p (hd0 h).vals.length) 0 (restL stLess h)
def stepB (p : Pc) (wd : Int) (h : List St) (best : List Int) : List Int := if (hd0 h).vals.length = p.rules.length then (if aheadB p wd (hd0 h).vals best = true then (hd0 h).vals else best) else best
theorem srch_one {p : Pc} {wd : Int} {f : Nat} {h : List St} {best : List Int} (hn : h ≠ []) : srch p wd (f + 1) h best = srch p wd f (stepH p wd h best) (stepB p wd h best) := by
  cases h with
  | nil => exact absurd rfl hn
  | cons y ys =>
    rw [srch]
    unfold stepH stepB
    split <;> rfl
theorem hd0_of {h : List St} {x : St} (hx : h[0]? = some x) : hd0 h = x := by unfold hd0; rw [hx]; rfl
theorem SInv.next {p : Pc} {wd : Int} {h : List St} {best : List Int} (hR : Right p) (hi : SInv p wd h best) (hn : h ≠ []) : SInv p wd (stepH p wd h best) (stepB p wd h best) := by
  obtain ⟨x, hx⟩ : ∃ x, h[0]? = some x := by cases h with | nil => exact absurd rfl hn | cons y ys => exact ⟨y, rfl⟩
  unfold stepH stepB
  rw [hd0_of hx]
  split
  · exact hi.full hR hx (by assumption)
  · exact hi.part hR hx (by assumption)
theorem left_next {p : Pc} {wd : Int} {h : List St} {best : List Int} (hR : Right p) (hi : SInv p wd h best) (hn : h ≠ []) : leftOf p (stepH p wd h best) ≤ leftOf p h - 1 := by
  obtain ⟨x, hx⟩ : ∃ x, h[0]? = some x := by cases h with | nil => exact absurd rfl hn | cons y ys => exact ⟨y, rfl⟩
  unfold stepH
  rw [hd0_of hx]
  split
  · exact left_full hR hx
  · rename_i hl
    exact left_part hR hx (by have := (hi.pre x (List.mem_of_getElem? hx)).1; omega)
theorem srch_stop (p : Pc) (wd : Int) (h : List St) (best : List Int) (hn : h ≠ []) : srch p wd 0 h best = (best, 2) := by
  cases h with
  | nil => exact absurd rfl hn
  | cons y ys => rfl
theorem srch_none (p : Pc) (wd : Int) (f : Nat) (best : List Int) : srch p wd f [] best = (best, 1) := by cases f <;> rfl
/-- The next values, one more. -/
theorem pushK_snoc {p : Pc} {wd : Int} {best u : List Int} : ∀ (c k : Nat) (h : List St), pushK p wd best u (c + 1) k h = (if goodB p wd best (u ++ [((k + c : Nat) : Int)]) = true then pushL stLess (pushK p wd best u c k h) ⟨u ++ [((k + c : Nat) : Int)], costSum p (u ++ [((k + c : Nat) : Int)])⟩ else pushK p wd best u c k h)
  | 0, k, h => by simp only [pushK, Nat.add_zero]
  | c + 1, k, h => by
    rw [pushK, pushK_snoc c (k + 1), show k + 1 + c = k + (c + 1) by omega]
    rw [pushK]
theorem pushK_len {p : Pc} {wd : Int} {best u : List Int} : ∀ (c k : Nat) (h : List St), (pushK p wd best u c k h).length ≤ h.length + c
  | 0, _, h => by rw [pushK]; omega
  | c + 1, k, h => by
    rw [pushK]
    refine Nat.le_trans (pushK_len c (k + 1) _) ?_
    split
    · rw [pushL_len]; omega
    · omega
end Go.Proofs.Ytgaejcljabhijaa
/- When a tie is broken by the first values, told case by case. -/
namespace Go.Proofs.Ytgaejcljabhijaa
open Go.RowKit

theorem brk_of {vs : List Int} {x : Ti} {r u : Nat} {z y : Int} (er : x.kid = (r : Int)) (eu : x.up = (u : Int)) (ez : vs[r]? = some z) (ey : vs[u]? = some y) : brk vs x = (decide (0 < z) && decide (y = 0)) := by
  have h1 := (List.getElem?_eq_some_iff.1 ez).1
  have h2 := (List.getElem?_eq_some_iff.1 ey).1
  unfold brk
  rw [er, eu, Int.toNat_natCast, Int.toNat_natCast, List.getD_eq_getElem?_getD, List.getD_eq_getElem?_getD, ez, ey, decide_eq_true (show (0 : Int) ≤ (r : Int) by omega), decide_eq_true (show (r : Int) < (vs.length : Int) by omega), decide_eq_true (show (0 : Int) ≤ (u : Int) by omega), decide_eq_true (show (u : Int) < (vs.length : Int) by omega)]
  rfl
theorem brk_out1 {vs : List Int} {x : Ti} (h : ¬ (0 ≤ x.kid ∧ x.kid ≤ (vs.length : Int) - 1)) : brk vs x = false := by
  unfold brk
  by_cases h0 : 0 ≤ x.kid
  · rw [decide_eq_false (show ¬ x.kid < (vs.length : Int) by omega)]
    simp
  · rw [decide_eq_false h0]
    simp
theorem brk_out2 {vs : List Int} {x : Ti} (h : ¬ (0 ≤ x.up ∧ x.up ≤ (vs.length : Int) - 1)) : brk vs x = false := by
  unfold brk
  by_cases h0 : 0 ≤ x.up
  · rw [decide_eq_false (show ¬ x.up < (vs.length : Int) by omega)]
    simp
  · rw [decide_eq_false h0]
    simp
theorem may_no {p : Pc} {vs : List Int} {k : Nat} {x : Ti} (hx : p.ties[k]? = some x) (h : brk vs x = true) : mayB p vs = false := all_not hx (by rw [h]; rfl)
theorem may_yes {p : Pc} {vs : List Int} (h : ∀ (j : Nat) (x : Ti), p.ties[j]? = some x → brk vs x = false) : mayB p vs = true := all_yes fun j x hx => by rw [h j x hx]; rfl
end Go.Proofs.Ytgaejcljabhijaa
/- What the bits of a tie are, and when they tell that it is broken. -/
namespace Go.Proofs.Ytgaejcljabhijaa
open Go.RowKit

def kB : Nat → Int
  | 0 => 0
  | 1 => 1
  | _ => 5
def uB : Nat → Int
  | 0 => 0
  | 1 => 2
  | _ => 10
set_option maxHeartbeats 1600000 in
theorem rbK_any (a : Option Addr) (c : Nat) (vs : List Int) (r : Int) (w : World) (hv : KidsAt w a vs) :
    Calls Try.prog 90 #[.slice a vs.length c, .int .i64 r, .int .u8 1, .int .u8 4] w fun e w' => e = .returned (.int .u8 (kB (st vs r))) ∧ w' = w := by
  unfold KidsAt at hv
  by_cases h0 : r < 0
  · have e : st vs r = 0 := by unfold st; rw [if_neg (by omega)]
    rw [e]
    clear e hv
    go_enter Try.func90, Try.ntmps90
    go_wp2
    go_ret
    exact ⟨rfl, rfl⟩
  · by_cases h1 : r ≥ (vs.length : Int)
    · have e : st vs r = 0 := by unfold st; rw [if_neg (by omega)]
      rw [e]
      clear e hv
      go_enter Try.func90, Try.ntmps90
      go_wp2
      go_ret
      exact ⟨rfl, rfl⟩
    · obtain ⟨k, rfl⟩ := Int.eq_ofNat_of_zero_le (show 0 ≤ r by omega)
      obtain ⟨z, ez⟩ : ∃ z, vs[k]? = some z := ⟨_, List.getElem?_eq_getElem (by omega)⟩
      obtain ⟨b1, o1, rfl, hb1, hc1⟩ := hv (by omega)
      have p0 := hc1 k z ez
      have hA : (0 : Int) ≤ (k : Int) := by omega
      have hB : (k : Int) < (vs.length : Int) := by omega
      have hg : vs.getD (k : Int).toNat 0 = z := by rw [Int.toNat_natCast, List.getD_eq_getElem?_getD, ez]; rfl
      by_cases hz : 0 < z
      · have e : st vs (k : Int) = 2 := by unfold st; rw [if_pos ⟨hA, hB⟩, hg, if_pos hz]
        rw [e]
        clear e hc1 hv ez hg
        go_enter Try.func90, Try.ntmps90
        go_wp2
        go_ret
        exact ⟨rfl, rfl⟩
      · have e : st vs (k : Int) = 1 := by unfold st; rw [if_pos ⟨hA, hB⟩, hg, if_neg hz]
        rw [e]
        clear e hc1 hv ez hg
        go_enter Try.func90, Try.ntmps90
        go_wp2
        go_ret
        exact ⟨rfl, rfl⟩

set_option maxHeartbeats 1600000 in
theorem rbU_any (a : Option Addr) (c : Nat) (vs : List Int) (r : Int) (w : World) (hv : KidsAt w a vs) :
    Calls Try.prog 90 #[.slice a vs.length c, .int .i64 r, .int .u8 2, .int .u8 8] w fun e w' => e = .returned (.int .u8 (uB (st vs r))) ∧ w' = w := by
  unfold KidsAt at hv
  by_cases h0 : r < 0
  · have e : st vs r = 0 := by unfold st; rw [if_neg (by omega)]
    rw [e]
    clear e hv
    go_enter Try.func90, Try.ntmps90
    go_wp2
    go_ret
    exact ⟨rfl, rfl⟩
  · by_cases h1 : r ≥ (vs.length : Int)
    · have e : st vs r = 0 := by unfold st; rw [if_neg (by omega)]
      rw [e]
      clear e hv
      go_enter Try.func90, Try.ntmps90
      go_wp2
      go_ret
      exact ⟨rfl, rfl⟩
    · obtain ⟨k, rfl⟩ := Int.eq_ofNat_of_zero_le (show 0 ≤ r by omega)
      obtain ⟨z, ez⟩ : ∃ z, vs[k]? = some z := ⟨_, List.getElem?_eq_getElem (by omega)⟩
      obtain ⟨b1, o1, rfl, hb1, hc1⟩ := hv (by omega)
      have p0 := hc1 k z ez
      have hA : (0 : Int) ≤ (k : Int) := by omega
      have hB : (k : Int) < (vs.length : Int) := by omega
      have hg : vs.getD (k : Int).toNat 0 = z := by rw [Int.toNat_natCast, List.getD_eq_getElem?_getD, ez]; rfl
      by_cases hz : 0 < z
      · have e : st vs (k : Int) = 2 := by unfold st; rw [if_pos ⟨hA, hB⟩, hg, if_pos hz]
        rw [e]
        clear e hc1 hv ez hg
        go_enter Try.func90, Try.ntmps90
        go_wp2
        go_ret
        exact ⟨rfl, rfl⟩
      · have e : st vs (k : Int) = 1 := by unfold st; rw [if_pos ⟨hA, hB⟩, hg, if_neg hz]
        rw [e]
        clear e hc1 hv ez hg
        go_enter Try.func90, Try.ntmps90
        go_wp2
        go_ret
        exact ⟨rfl, rfl⟩

/-- The two together. -/
def bothB (s t : Nat) : Int := kB s + uB t
set_option maxHeartbeats 1600000 in
theorem tbits_any (x : Ti) (a : Option Addr) (c : Nat) (vs : List Int) (w : World) (hv : KidsAt w a vs) :
    Calls Try.prog 58 #[.agg #[.int .i64 x.kid, .int .i64 x.up], .slice a vs.length c] w fun e w' => e = .returned (.int .u8 (bothB (st vs x.kid) (st vs x.up))) ∧ Below w.heap.size w w' := by
  have HB : ∀ o1 : Obj, Below w.heap.size w (w.alloc o1) := fun o1 => (Below.refl _ _).alloc (Nat.le_refl _) _
  have q0 := fun W h => rbK_any a c vs x.kid W h
  have q1 := fun W h => rbU_any a c vs x.up W h
  have hW : ∀ (ob : Obj) (n : Nat), KidsAt ((w.alloc ob).drewN n) a vs := fun ob n => hv.below (bel_drewN (HB ob) n) (Nat.le_refl _)
  have HV := hidOf hW
  clear hW hv
  rcases st_cases vs x.kid with e1 | e1 | e1
  all_goals rcases st_cases vs x.up with e2 | e2 | e2
  all_goals rw [e1] at q0 ⊢
  all_goals rw [e2] at q1 ⊢
  all_goals clear e1 e2
  all_goals simp only [kB, uB] at q0 q1
  all_goals go_enter Try.func58, Try.ntmps58
  all_goals go_wp2
  all_goals go_quiet ((first | (go_at_call_of 90 (x.kid); exact Calls.quiet_of_same (q0 _ (HV.out _ _))) | (go_at_call_of 90 (x.up); exact Calls.quiet_of_same (q1 _ (HV.out _ _)))))
  all_goals go_wp2
  all_goals go_ret
  all_goals exact ⟨rfl, bel_drewN (HB _) _⟩

/-- Both rules are there, the one's value above 0, the other's not. -/
def brkB (s t : Nat) : Bool := decide (2 ≤ s) && decide (1 ≤ t) && decide (t ≤ 1)
set_option maxHeartbeats 1600000 in
theorem broken_any (s t : Nat) (hs : s ≤ 2) (ht : t ≤ 2) (w : World) :
    Calls Try.prog 92 #[.int .u8 (bothB s t)] w fun e w' => e = .returned (.bool (brkB s t)) ∧ w' = w := by
  have b0_3 : bits .and .u8 0 3 = 0 := by decide
  have b0_7 : bits .and .u8 0 7 = 0 := by decide
  have b0_8 : bits .and .u8 0 8 = 0 := by decide
  have b2_3 : bits .and .u8 2 3 = 2 := by decide
  have b2_7 : bits .and .u8 2 7 = 2 := by decide
  have b2_8 : bits .and .u8 2 8 = 0 := by decide
  have b10_3 : bits .and .u8 10 3 = 2 := by decide
  have b10_7 : bits .and .u8 10 7 = 2 := by decide
  have b10_8 : bits .and .u8 10 8 = 8 := by decide
  have b1_3 : bits .and .u8 1 3 = 1 := by decide
  have b1_7 : bits .and .u8 1 7 = 1 := by decide
  have b1_8 : bits .and .u8 1 8 = 0 := by decide
  have b3_3 : bits .and .u8 3 3 = 3 := by decide
  have b3_7 : bits .and .u8 3 7 = 3 := by decide
  have b3_8 : bits .and .u8 3 8 = 0 := by decide
  have b11_3 : bits .and .u8 11 3 = 3 := by decide
  have b11_7 : bits .and .u8 11 7 = 3 := by decide
  have b11_8 : bits .and .u8 11 8 = 8 := by decide
  have b5_3 : bits .and .u8 5 3 = 1 := by decide
  have b5_7 : bits .and .u8 5 7 = 5 := by decide
  have b5_8 : bits .and .u8 5 8 = 0 := by decide
  have b7_3 : bits .and .u8 7 3 = 3 := by decide
  have b7_7 : bits .and .u8 7 7 = 7 := by decide
  have b7_8 : bits .and .u8 7 8 = 0 := by decide
  have b15_3 : bits .and .u8 15 3 = 3 := by decide
  have b15_7 : bits .and .u8 15 7 = 7 := by decide
  have b15_8 : bits .and .u8 15 8 = 8 := by decide
  rcases (show s = 0 ∨ s = 1 ∨ s = 2 by omega) with rfl | rfl | rfl
  all_goals rcases (show t = 0 ∨ t = 1 ∨ t = 2 by omega) with rfl | rfl | rfl
  all_goals simp only [bothB, kB, uB]
  all_goals go_enter Try.func92, Try.ntmps92
  all_goals go_wp2
  all_goals go_ret
  all_goals exact ⟨rfl, rfl⟩
end Go.Proofs.Ytgaejcljabhijaa
/- What impl.TiesMay answers, where no value is below 0. -/
namespace Go.Proofs.Ytgaejcljabhijaa
open Go.RowKit

set_option maxHeartbeats 8000000 in
theorem iMay_any (p : Pc) (l : Pl) (a : Option Addr) (c : Nat) (vs : List Int) (w : World) (hF : PcFew p) (hp : PcIn w p l) (hv : KidsAt w a vs) (hnn : ∀ z ∈ vs, 0 ≤ z) :
    Calls Try.prog 126 #[pcV p l, .slice a vs.length c] w fun e w' => e = .returned (.bool (mayB p vs)) ∧ Below w.heap.size w w' := by
  show Calls _ _ #[.agg #[.int .i64 p.indent, .slice l.a1 p.rules.length l.c1, .slice l.a2 p.chunks.length l.c2, .slice l.a3 p.spans.length l.c3, .slice l.a4 p.ties.length l.c4], _] _ _
  obtain ⟨W0, hW0, X0, B0, S0⟩ := boxed w p l 29
  have T1 := hp.ties.below B0 (Nat.le_refl _)
  have V1 := hv.below B0 (Nat.le_refl _)
  have hft := hF.ties
  have x4 := X0.c4
  obtain ⟨n, hn⟩ : ∃ n, n = p.ties.length := ⟨_, rfl⟩
  have HN := hidOf hn
  have HNN := hidOf hnn
  unfold RowsAt at T1
  rw [← hn] at T1 hft x4 hW0 ⊢
  clear hn hp hv X0 hnn
  go_enter Try.func126, Try.ntmps126
  go_wp2
  rw [← hW0]
  clear hW0 S0 x4
  go_loopw [10] (fun i wr => ∃ k : Nat, k ≤ n ∧ i = .int .i64 k ∧ Hid (∀ (j : Nat) (x : Ti), j < k → p.ties[j]? = some x → brk vs x = false) ∧ Below W0.heap.size W0 wr) (fun i _ => n - (intOf i).toNat)
  case atStart => exact ⟨0, Nat.zero_le _, rfl, hidOf fun j x h => by omega, Below.refl _ _⟩
  case round =>
    obtain ⟨k, hk, rfl, HA, hb⟩ := hrel
    have BW := B0.trans (hb.mono B0.size)
    by_cases hlt : k < n
    · obtain ⟨x, ex⟩ : ∃ x, p.ties[k]? = some x := ⟨_, List.getElem?_eq_getElem (by rw [← HN.out]; exact hlt)⟩
      obtain ⟨b1, o1, ea, hb1, hc1⟩ := T1 (by omega)
      obtain ⟨p0, p1⟩ := tiC (w := wr) (fun j hj => by rw [hb.cell hb1]; exact hc1 k x ex j hj)
      rw [ea]
      have EX := hidOf ex
      have HB : ∀ o1 : Obj, Below W0.heap.size W0 (wr.alloc o1) := fun o1 => hb.alloc hb.size _
      have HBW : ∀ o1 : Obj, Below w.heap.size w (wr.alloc o1) := fun o1 => BW.alloc BW.size _
      clear ex hc1 T1 ea
      have hA : (0 : Int) ≤ (k : Int) := by omega
      have hB : (k : Int) < (n : Int) := by omega
      have s1 : st vs x.kid ≤ 2 := by rcases st_cases vs x.kid with h | h | h <;> omega
      have s2 : st vs x.up ≤ 2 := by rcases st_cases vs x.up with h | h | h <;> omega
      have HE := hidOf (show brk vs x = brkB (st vs x.kid) (st vs x.up) from brk_st HNN.out x)
      go_wp2_with fail
      refine (tbits_any x a c vs _ (V1.below (HB _) (Nat.le_refl _))).mono ?_
      rintro e w2 ⟨rfl, hb2⟩
      have BB := (HB _).trans (hb2.mono (HB _).size)
      have BBW := (HBW _).trans (hb2.mono (HBW _).size)
      clear hb2
      go_wp2_with fail
      refine (broken_any _ _ s1 s2 _).mono ?_
      rintro e w2 ⟨rfl, rfl⟩
      cases hh : brkB (st vs x.kid) (st vs x.up)
      · go_wp2
        go_roundw
        case rel => exact ⟨k + 1, by omega, by go_num, hidOf (upto_step HA.out EX.out (HE.out.trans hh)), BB⟩
        case measure => simp [intOf]; omega
      · go_wp2
        go_ret
        exact ⟨ret_bool (may_no EX.out (HE.out.trans hh)).symm, BBW⟩
    · go_wp2
      go_ret
      exact ⟨ret_bool (may_yes (upto_all (by have := HN.out; omega) HA.out)).symm, BW⟩
end Go.Proofs.Ytgaejcljabhijaa
