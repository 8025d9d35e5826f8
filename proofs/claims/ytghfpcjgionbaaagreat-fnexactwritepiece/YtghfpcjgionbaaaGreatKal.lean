/- What impl.overOf, impl.valuesCost, impl.isSpanSplit and impl.spansCost answer. -/
import Derived.Test.YtghfpcjgionbaaaGreatKah
import Derived.Test.YtghfpcjgionbaaaGreatProg
import Derived.Test.YtghfpcjgionbaaaGreatKai
import Derived.Test.YtghfpcjgionbaaaGreatKaa
import Derived.BigQuiet
import Derived.Deep.QuietTactic
import Derived.Laws.StructEq
import Derived.Test.YtghfpcjgionbaaaGreatKak
import Derived.Test.YtghfpcjgionbaaaGreatKaf
import Derived.Test.YtghfpcjgionbaaaGreatBCell
import Derived.Test.YtghfpcjgionbaaaGreatPcLib
import Derived.Deep.RegionHeld3
import Derived.Lib.Builder
namespace Go.Proofs.YtghfpcjgionbaaaGreat
open Go.RowKit

set_option maxHeartbeats 8000000 in
set_option maxRecDepth 20000 in
theorem iOver_any (p : Pc) (l : Pl) (a : Option Addr) (c : Nat) (vs : List Int) (wd : Int) (w : World) (hF : PcFew p) (hm0 : vs.length ≤ 1048576) (hp : PcIn w p l) (hv : KidsAt w a vs) (h1 : Right p) (h2 : ValOk p vs) :
    Calls Tryz.prog 119 #[pcV p l, .slice a vs.length c, .int .i64 wd] w fun e w' => e = .returned (.int .i64 (costOver p vs wd)) ∧ Below w.heap.size w w' := by
  show Calls _ _ #[.agg #[.int .i64 p.indent, .slice l.a1 p.rules.length l.c1, .slice l.a2 p.chunks.length l.c2, .slice l.a3 p.spans.length l.c3, .slice l.a4 p.ties.length l.c4], _, _] _ _
  have hcl := hF.chunks
  have hc1 := h1.chunks.least
  have hc80 := h1.chunks.most
  obtain ⟨T, hT⟩ : ∃ T, T = costOver p vs wd := ⟨_, rfl⟩
  rw [← hT]
  obtain ⟨W0, hW0, X0, B0, S0⟩ := boxed w p l 37
  have hX : w.heap.size < W0.heap.size := by omega
  have I0 := hp.below B0 (Nat.le_refl _)
  have V0 := hv.below B0 (Nat.le_refl _)
  by_cases hw1 : wd < 0
  · have HT := hidOf (show ovr 0 (linesFrom p vs 0) = T by rw [hT, lines_zero (by omega)]; unfold costOver; rw [show wid wd = 0 by unfold wid; omega])
    have hw2 : ¬ (100000 : Int) < 0 := by omega
    clear hT
    go_enter Tryz.func119, Tryz.ntmps119
    go_wp2
    rw [← hW0]
    clear hW0 hp hv
    go_loopw [7, 8] (fun m i wr => ∃ (k : Nat) (ov : Int), k ≤ p.chunks.length ∧ i = .int .i64 k ∧ m = .int .i64 ov ∧ 0 ≤ ov ∧ ov ≤ k * 83886260 ∧ Hid (ov + ovr 0 (linesFrom p vs k) = T) ∧ Below W0.heap.size W0 wr) (fun _ i _ => p.chunks.length - (intOf i).toNat)
    case atStart => exact ⟨0, 0, Nat.zero_le _, rfl, rfl, by omega, by omega, hidOf (by rw [HT.out]; omega), Below.refl _ _⟩
    case round =>
      obtain ⟨k, ov, hk, rfl, rfl, hov0, hov1, HI, hb⟩ := hrel
      have BW := B0.trans (hb.mono B0.size)
      obtain ⟨-, c0, c1, c2, c3, c4⟩ := X0.below hb hX
      by_cases hlt : k < p.chunks.length
      · have hM : (k : Int) < (p.chunks.length : Int) := by omega
        go_wp2_with fail
        refine (next_any p l a c vs k _ hF hm0 (I0.below hb (Nat.le_refl _)) (V0.below hb (Nat.le_refl _)) h1 h2 hlt).mono ?_
        rintro e w3 ⟨n, rfl, hsg, hb3⟩
        have A3 := hb.trans (hb3.mono hb.size)
        have hn1 := hsg.lt
        have hn2 := hsg.le
        have h0 := HI.out
        rw [lines_seg hsg, ovr] at h0
        clear hb3 c0 c1 c2 c3 c4 hsg
        obtain ⟨-, c0, c1, c2, c3, c4⟩ := X0.below A3 hX
        go_wp2_with fail
        obtain ⟨L, hL⟩ : ∃ L, L = (lineOf p k n).size := ⟨_, rfl⟩
        have hLs : L ≤ 83886260 := by rw [hL]; exact lineOf_size h1 hF hlt
        refine (len_any p l k n _ hF (I0.below A3 (Nat.le_refl _)) h1 hn1 hn2).mono ?_
        rw [← hL] at h0 ⊢
        rintro e w4 ⟨rfl, hb4⟩
        have A4 := A3.trans (hb4.mono A3.size)
        clear hb4 c0 c1 c2 c3 c4 hL
        by_cases hgo : (L : Int) - 0 < 0
        · have HE := hidOf (show ov + ovr 0 (linesFrom p vs n) = T by rw [← h0]; omega)
          clear h0
          go_wp2
          go_roundw
          case rel => exact ⟨n, ov, hn2, by go_num, by go_num, hov0, by omega, HE, A4⟩
          case measure => simp [intOf]; omega
        · have HE := hidOf (show (ov + ((L : Int) - 0)) + ovr 0 (linesFrom p vs n) = T by rw [← h0]; omega)
          have hge : 0 ≤ (L : Int) - 0 := by omega
          clear h0
          go_wp2
          go_roundw
          case rel => exact ⟨n, ov + ((L : Int) - 0), hn2, by go_num, by go_num, by omega, by omega, HE, A4⟩
          case measure => simp [intOf]; omega
      · have hM : ¬ (k : Int) < (p.chunks.length : Int) := by omega
        go_wp2
        go_ret
        have h := HI.out
        rw [lines_end (by omega), ovr] at h
        exact ⟨ret_int (by omega), BW⟩
  by_cases hw2 : wd ≤ 100000
  · have HT := hidOf (show ovr wd (linesFrom p vs 0) = T by rw [hT, lines_zero (by omega)]; unfold costOver; rw [show wid wd = wd by unfold wid; omega])
    have hw3 : 0 ≤ wd := by omega
    clear hT
    go_enter Tryz.func119, Tryz.ntmps119
    go_wp2
    rw [← hW0]
    clear hW0 hp hv
    go_loopw [7, 8] (fun m i wr => ∃ (k : Nat) (ov : Int), k ≤ p.chunks.length ∧ i = .int .i64 k ∧ m = .int .i64 ov ∧ 0 ≤ ov ∧ ov ≤ k * 83886260 ∧ Hid (ov + ovr wd (linesFrom p vs k) = T) ∧ Below W0.heap.size W0 wr) (fun _ i _ => p.chunks.length - (intOf i).toNat)
    case atStart => exact ⟨0, 0, Nat.zero_le _, rfl, rfl, by omega, by omega, hidOf (by rw [HT.out]; omega), Below.refl _ _⟩
    case round =>
      obtain ⟨k, ov, hk, rfl, rfl, hov0, hov1, HI, hb⟩ := hrel
      have BW := B0.trans (hb.mono B0.size)
      obtain ⟨-, c0, c1, c2, c3, c4⟩ := X0.below hb hX
      by_cases hlt : k < p.chunks.length
      · have hM : (k : Int) < (p.chunks.length : Int) := by omega
        go_wp2_with fail
        refine (next_any p l a c vs k _ hF hm0 (I0.below hb (Nat.le_refl _)) (V0.below hb (Nat.le_refl _)) h1 h2 hlt).mono ?_
        rintro e w3 ⟨n, rfl, hsg, hb3⟩
        have A3 := hb.trans (hb3.mono hb.size)
        have hn1 := hsg.lt
        have hn2 := hsg.le
        have h0 := HI.out
        rw [lines_seg hsg, ovr] at h0
        clear hb3 c0 c1 c2 c3 c4 hsg
        obtain ⟨-, c0, c1, c2, c3, c4⟩ := X0.below A3 hX
        go_wp2_with fail
        obtain ⟨L, hL⟩ : ∃ L, L = (lineOf p k n).size := ⟨_, rfl⟩
        have hLs : L ≤ 83886260 := by rw [hL]; exact lineOf_size h1 hF hlt
        refine (len_any p l k n _ hF (I0.below A3 (Nat.le_refl _)) h1 hn1 hn2).mono ?_
        rw [← hL] at h0 ⊢
        rintro e w4 ⟨rfl, hb4⟩
        have A4 := A3.trans (hb4.mono A3.size)
        clear hb4 c0 c1 c2 c3 c4 hL
        by_cases hgo : (L : Int) - wd < 0
        · have HE := hidOf (show ov + ovr wd (linesFrom p vs n) = T by rw [← h0]; omega)
          clear h0
          go_wp2
          go_roundw
          case rel => exact ⟨n, ov, hn2, by go_num, by go_num, hov0, by omega, HE, A4⟩
          case measure => simp [intOf]; omega
        · have HE := hidOf (show (ov + ((L : Int) - wd)) + ovr wd (linesFrom p vs n) = T by rw [← h0]; omega)
          have hge : 0 ≤ (L : Int) - wd := by omega
          clear h0
          go_wp2
          go_roundw
          case rel => exact ⟨n, ov + ((L : Int) - wd), hn2, by go_num, by go_num, by omega, by omega, HE, A4⟩
          case measure => simp [intOf]; omega
      · have hM : ¬ (k : Int) < (p.chunks.length : Int) := by omega
        go_wp2
        go_ret
        have h := HI.out
        rw [lines_end (by omega), ovr] at h
        exact ⟨ret_int (by omega), BW⟩
  · have HT := hidOf (show ovr 100000 (linesFrom p vs 0) = T by rw [hT, lines_zero (by omega)]; unfold costOver; rw [show wid wd = 100000 by unfold wid; omega])
    have hw3 : ¬ wd < 0 := by omega
    clear hT
    go_enter Tryz.func119, Tryz.ntmps119
    go_wp2
    rw [← hW0]
    clear hW0 hp hv
    go_loopw [7, 8] (fun m i wr => ∃ (k : Nat) (ov : Int), k ≤ p.chunks.length ∧ i = .int .i64 k ∧ m = .int .i64 ov ∧ 0 ≤ ov ∧ ov ≤ k * 83886260 ∧ Hid (ov + ovr 100000 (linesFrom p vs k) = T) ∧ Below W0.heap.size W0 wr) (fun _ i _ => p.chunks.length - (intOf i).toNat)
    case atStart => exact ⟨0, 0, Nat.zero_le _, rfl, rfl, by omega, by omega, hidOf (by rw [HT.out]; omega), Below.refl _ _⟩
    case round =>
      obtain ⟨k, ov, hk, rfl, rfl, hov0, hov1, HI, hb⟩ := hrel
      have BW := B0.trans (hb.mono B0.size)
      obtain ⟨-, c0, c1, c2, c3, c4⟩ := X0.below hb hX
      by_cases hlt : k < p.chunks.length
      · have hM : (k : Int) < (p.chunks.length : Int) := by omega
        go_wp2_with fail
        refine (next_any p l a c vs k _ hF hm0 (I0.below hb (Nat.le_refl _)) (V0.below hb (Nat.le_refl _)) h1 h2 hlt).mono ?_
        rintro e w3 ⟨n, rfl, hsg, hb3⟩
        have A3 := hb.trans (hb3.mono hb.size)
        have hn1 := hsg.lt
        have hn2 := hsg.le
        have h0 := HI.out
        rw [lines_seg hsg, ovr] at h0
        clear hb3 c0 c1 c2 c3 c4 hsg
        obtain ⟨-, c0, c1, c2, c3, c4⟩ := X0.below A3 hX
        go_wp2_with fail
        obtain ⟨L, hL⟩ : ∃ L, L = (lineOf p k n).size := ⟨_, rfl⟩
        have hLs : L ≤ 83886260 := by rw [hL]; exact lineOf_size h1 hF hlt
        refine (len_any p l k n _ hF (I0.below A3 (Nat.le_refl _)) h1 hn1 hn2).mono ?_
        rw [← hL] at h0 ⊢
        rintro e w4 ⟨rfl, hb4⟩
        have A4 := A3.trans (hb4.mono A3.size)
        clear hb4 c0 c1 c2 c3 c4 hL
        by_cases hgo : (L : Int) - 100000 < 0
        · have HE := hidOf (show ov + ovr 100000 (linesFrom p vs n) = T by rw [← h0]; omega)
          clear h0
          go_wp2
          go_roundw
          case rel => exact ⟨n, ov, hn2, by go_num, by go_num, hov0, by omega, HE, A4⟩
          case measure => simp [intOf]; omega
        · have HE := hidOf (show (ov + ((L : Int) - 100000)) + ovr 100000 (linesFrom p vs n) = T by rw [← h0]; omega)
          have hge : 0 ≤ (L : Int) - 100000 := by omega
          clear h0
          go_wp2
          go_roundw
          case rel => exact ⟨n, ov + ((L : Int) - 100000), hn2, by go_num, by go_num, by omega, by omega, HE, A4⟩
          case measure => simp [intOf]; omega
      · have hM : ¬ (k : Int) < (p.chunks.length : Int) := by omega
        go_wp2
        go_ret
        have h := HI.out
        rw [lines_end (by omega), ovr] at h
        exact ⟨ret_int (by omega), BW⟩
end Go.Proofs.YtghfpcjgionbaaaGreat
/- What impl.CostLess and spec.CostLess answer. -/
namespace Go.Proofs.YtghfpcjgionbaaaGreat
open Go.RowKit

theorem coGuard (o1 s1 o2 s2 : Int) (op : BinOp) (a b : Operand) (w : World) : (eqGuard op 58 a b (.agg #[.int .i64 o1, .int .i64 s1]) (.agg #[.int .i64 o2, .int .i64 s2])).run Tryz.prog w = .ok () w :=
  run_eqGuard_agg w op 58 a b _ _ (by kernel_rfl)
theorem coNeq (o1 s1 o2 s2 : Int) (w : World) : (binOp .neq 58 (.agg #[.int .i64 o1, .int .i64 s1]) (.agg #[.int .i64 o2, .int .i64 s2])).run Tryz.prog w = .ok (.bool (!decide (o1 = o2 ∧ s1 = s2))) w := by
  have u3 := Tryz.underlying3
  have a3 := Tryz.isAgg3
  have z3 := Tryz.sizeOf3
  have hS : Tryz.prog.underlying 58 = some (.struct (Tryz.prog.fieldsOf 58)) := by kernel_rfl
  have hp : Tryz.prog.stoodInHeld 58 = false := by kernel_rfl
  rw [run_neq_struct, show (10000 : Nat) = 9999 + 1 from rfl, run_equalIn_agg w 9999 58 _ _ hS hp]
  simp only [Program.fieldsOf, Tryz.underlying58]
  by_cases h1 : o1 = o2
  · subst h1
    by_cases h2 : s1 = s2
    · subst h2
      go_simp
    · have h2' : (s1 == s2) = false := by simpa using h2
      go_simp
  · have h1' : (o1 == o2) = false := by simpa using h1
    go_simp

set_option maxHeartbeats 4000000 in
theorem upto_any (o1 s1 o2 s2 : Int) (w : World) : Calls Tryz.prog 124 #[coV o1 s1, coV o2 s2] w fun e w' => e = .returned (.bool (uptoC o1 s1 o2 s2)) ∧ Below w.heap.size w w' := by
  show Calls _ _ #[.agg #[.int .i64 o1, .int .i64 s1], .agg #[.int .i64 o2, .int .i64 s2]] _ _
  have HB2 : ∀ a b : Obj, Below w.heap.size w ((w.alloc a).alloc b) := fun a b => ((Below.refl _ _).alloc (Nat.le_refl _) _).alloc (by simp) _
  by_cases h1 : o1 < o2
  · rw [show uptoC o1 s1 o2 s2 = true by unfold uptoC; rw [decide_eq_true_eq]; omega]
    go_enter Tryz.func124, Tryz.ntmps124
    go_wp2
    go_ret
    exact ⟨rfl, HB2 _ _⟩
  · by_cases h2 : o1 = o2
    · subst h2
      have h3 : (o1 == o1) = true := by simp
      by_cases h4 : s1 ≤ s2
      · rw [show uptoC o1 s1 o1 s2 = true by unfold uptoC; rw [decide_eq_true_eq]; omega]
        go_enter Tryz.func124, Tryz.ntmps124
        go_wp2
        go_ret
        exact ⟨rfl, HB2 _ _⟩
      · rw [show uptoC o1 s1 o1 s2 = false by unfold uptoC; rw [decide_eq_false_iff_not]; omega]
        go_enter Tryz.func124, Tryz.ntmps124
        go_wp2
        go_ret
        exact ⟨rfl, HB2 _ _⟩
    · have h3 : (o1 == o2) = false := by simpa using h2
      rw [show uptoC o1 s1 o2 s2 = false by unfold uptoC; rw [decide_eq_false_iff_not]; omega]
      clear h2
      go_enter Tryz.func124, Tryz.ntmps124
      go_wp2
      go_ret
      exact ⟨rfl, HB2 _ _⟩

set_option maxHeartbeats 4000000 in
theorem iLess_any (o1 s1 o2 s2 : Int) (w : World) : Calls Tryz.prog 91 #[coV o1 s1, coV o2 s2] w fun e w' => e = .returned (.bool (lessC o1 s1 o2 s2)) ∧ Below w.heap.size w w' := by
  show Calls _ _ #[.agg #[.int .i64 o1, .int .i64 s1], .agg #[.int .i64 o2, .int .i64 s2]] _ _
  have HB2 : ∀ a b : Obj, Below w.heap.size w ((w.alloc a).alloc b) := fun a b => ((Below.refl _ _).alloc (Nat.le_refl _) _).alloc (by simp) _
  have hG := coGuard o1 s1 o2 s2
  have hQ := coNeq o1 s1 o2 s2
  have hU := fun W => upto_any o1 s1 o2 s2 W
  by_cases h : o1 = o2 ∧ s1 = s2
  · rw [show lessC o1 s1 o2 s2 = false by unfold lessC; rw [decide_eq_false_iff_not]; omega]
    rw [show (!decide (o1 = o2 ∧ s1 = s2)) = false by rw [decide_eq_true h]; rfl] at hQ
    clear h
    go_enter Tryz.func91, Tryz.ntmps91
    go_wp2
    go_ret
    exact ⟨rfl, HB2 _ _⟩
  · rw [show lessC o1 s1 o2 s2 = uptoC o1 s1 o2 s2 by unfold lessC uptoC; rw [decide_eq_decide]; omega]
    rw [show (!decide (o1 = o2 ∧ s1 = s2)) = true by rw [decide_eq_false h]; rfl] at hQ
    clear h
    go_enter Tryz.func91, Tryz.ntmps91
    go_wp2_with fail
    refine (hU _).mono ?_
    rintro e w1 ⟨rfl, hb⟩
    have BW := (HB2 (.cells #[.int .i64 o1, .int .i64 s1] 58) (.cells #[.int .i64 o2, .int .i64 s2] 58))
    have BX := BW.trans (hb.mono BW.size)
    go_wp2
    go_ret
    exact ⟨rfl, BX⟩

set_option maxHeartbeats 4000000 in
theorem sLess_any (o1 s1 o2 s2 : Int) (w : World) : Calls Tryz.prog 30 #[coV o1 s1, coV o2 s2] w fun e w' => e = .returned (.bool (lessC o1 s1 o2 s2)) ∧ Below w.heap.size w w' := by
  show Calls _ _ #[.agg #[.int .i64 o1, .int .i64 s1], .agg #[.int .i64 o2, .int .i64 s2]] _ _
  have HB2 : ∀ a b : Obj, Below w.heap.size w ((w.alloc a).alloc b) := fun a b => ((Below.refl _ _).alloc (Nat.le_refl _) _).alloc (by simp) _
  by_cases h1 : o1 < o2
  · rw [show lessC o1 s1 o2 s2 = true by unfold lessC; rw [decide_eq_true_eq]; omega]
    go_enter Tryz.func30, Tryz.ntmps30
    go_wp2
    go_ret
    exact ⟨rfl, HB2 _ _⟩
  · by_cases h2 : o1 = o2
    · subst h2
      have h3 : (o1 == o1) = true := by simp
      by_cases h4 : s1 < s2
      · rw [show lessC o1 s1 o1 s2 = true by unfold lessC; rw [decide_eq_true_eq]; omega]
        go_enter Tryz.func30, Tryz.ntmps30
        go_wp2
        go_ret
        exact ⟨rfl, HB2 _ _⟩
      · rw [show lessC o1 s1 o1 s2 = false by unfold lessC; rw [decide_eq_false_iff_not]; omega]
        go_enter Tryz.func30, Tryz.ntmps30
        go_wp2
        go_ret
        exact ⟨rfl, HB2 _ _⟩
    · have h3 : (o1 == o2) = false := by simpa using h2
      rw [show lessC o1 s1 o2 s2 = false by unfold lessC; rw [decide_eq_false_iff_not]; omega]
      clear h2
      go_enter Tryz.func30, Tryz.ntmps30
      go_wp2
      go_ret
      exact ⟨rfl, HB2 _ _⟩
end Go.Proofs.YtghfpcjgionbaaaGreat
/- What impl.costOfRight answers. -/
namespace Go.Proofs.YtghfpcjgionbaaaGreat
open Go.RowKit

theorem infoCoI : (Tryz.prog.info? 58).map (·.size) = some 2 := by kernel_rfl
set_option maxHeartbeats 8000000 in
set_option maxRecDepth 20000 in
theorem iCostR_any (p : Pc) (l : Pl) (a : Option Addr) (c : Nat) (vs : List Int) (wd : Int) (w : World) (hF : PcFew p) (hm0 : vs.length ≤ 1048576) (hcap : p.chunks.length ≤ l.c2) (hp : PcIn w p l) (hv : KidsAt w a vs) (h1 : Right p) (h2 : ValOk p vs) :
    Calls Tryz.prog 88 #[pcV p l, .slice a vs.length c, .int .i64 wd] w fun e w' => e = .returned (coV (costOver p vs wd) (costSum p vs)) ∧ Below w.heap.size w w' := by
  show Calls _ _ #[.agg #[.int .i64 p.indent, .slice l.a1 p.rules.length l.c1, .slice l.a2 p.chunks.length l.c2, .slice l.a3 p.spans.length l.c3, .slice l.a4 p.ties.length l.c4], _, _] _ _
  have hsu := sums_le h1 h2
  unfold costSum
  obtain ⟨vc, hvc⟩ : ∃ vc, vc = vcost p.rules vs := ⟨_, rfl⟩
  obtain ⟨sc, hsc⟩ : ∃ sc, sc = scost p.chunks vs p.spans := ⟨_, rfl⟩
  obtain ⟨ov, hov⟩ : ∃ ov, ov = costOver p vs wd := ⟨_, rfl⟩
  have qO := fun W hP hK => iOver_any p l a c vs wd W hF hm0 hP hK h1 h2
  have qV := fun W hP hK => iVaCost_any p l a c vs W hm0 hP hK h1 h2
  have qS := fun W hP hK => iSpCost_any p l a c vs W hF hm0 hcap hP hK h1 h2
  rw [← hvc, ← hsc] at hsu
  rw [← hvc, ← hsc, ← hov]
  rw [← hov] at qO
  rw [← hvc] at qV
  rw [← hsc] at qS
  clear hvc hsc hov
  obtain ⟨⟨u1, u2⟩, u3, u4⟩ := hsu
  have hws : IntKind.i64.wrap (vc + sc) = vc + sc := IntWalk.i64_in _ ⟨by omega, by omega⟩
  obtain ⟨W0, hW0, X0, B0, S0⟩ := boxed w p l 37
  have hX : w.heap.size < W0.heap.size := by omega
  have I0 := hp.below B0 (Nat.le_refl _)
  have V0 := hv.below B0 (Nat.le_refl _)
  go_enter Tryz.func88, Tryz.ntmps88
  go_wp2
  rw [← hW0]
  obtain ⟨W1, hW1⟩ : ∃ W1, W1 = W0.alloc (.cells #[.int .i64 0, .int .i64 0] 58) := ⟨_, rfl⟩
  rw [← hW1]
  have B1 : Below W0.heap.size W0 W1 := by rw [hW1]; exact (Below.refl _ _).alloc (Nat.le_refl _) _
  have F1 : W1.heap[w.heap.size + 1]? = some (.cells #[.int .i64 0, .int .i64 0] 58 (0, 0)) := by rw [hW1, ← S0]; exact heap_alloc_new W0 _
  have z1 : w.heap.size + 1 < W1.heap.size := by rw [hW1]; simp; omega
  have z0 : w.heap.size < W1.heap.size := by omega
  have I1 := I0.below B1 (Nat.le_refl _)
  have V1 := V0.below B1 (Nat.le_refl _)
  obtain ⟨-, c0, c1, c2, c3, c4⟩ := X0.below B1 hX
  have g0 : W1.cell? ⟨w.heap.size + 1, 0, none⟩ = some (.int .i64 0) := by rw [Lib.cell_of_heap F1]; rfl
  have g1 : W1.cell? ⟨w.heap.size + 1, 1, none⟩ = some (.int .i64 0) := by rw [Lib.cell_of_heap F1]; rfl
  have f0 := Lib.frozen_of_heap F1 0
  have f1 := Lib.frozen_of_heap F1 1
  have hne : w.heap.size ≠ w.heap.size + 1 := by omega
  have ID := I1.below (Below.refl W1.heap.size W1).drew (Nat.le_refl _)
  have VD := V1.below (Below.refl W1.heap.size W1).drew (Nat.le_refl _)
  clear hW0 hW1 hp hv S0
  go_region_held3 (fun W => ((W.cell? ⟨w.heap.size, 0, none⟩ = some (.int .i64 p.indent) ∧ W.cell? ⟨w.heap.size, 1, none⟩ = some (.slice l.a1 p.rules.length l.c1) ∧ W.cell? ⟨w.heap.size, 2, none⟩ = some (.slice l.a2 p.chunks.length l.c2) ∧ W.cell? ⟨w.heap.size, 3, none⟩ = some (.slice l.a3 p.spans.length l.c3) ∧ W.cell? ⟨w.heap.size, 4, none⟩ = some (.slice l.a4 p.ties.length l.c4)))) (first | trivial | go_keep)
    ((first
    | (go_at_call 119; refine (qO _ ID VD).mono ?_; rintro e w1 ⟨rfl, hb1⟩; have A1 := (Below.refl W1.heap.size W1).drew.trans hb1; have hc1 := (bcell A1).1; have hd1 := (bcell A1).2)
    | (go_at_call 120; refine (qV _ (I1.below A1 (Nat.le_refl _)) (V1.below A1 (Nat.le_refl _))).mono ?_; rintro e w2 ⟨rfl, hb2⟩; have A2 := A1.trans (hb2.mono A1.size); have hc2 := (bcell A2).1; have hd2 := (bcell A2).2)
    | (go_at_call 121; refine (qS _ (I1.below A2 (Nat.le_refl _)) (V1.below A2 (Nat.le_refl _))).mono ?_; rintro e w3 ⟨rfl, hb3⟩; have A3 := A2.trans (hb3.mono A2.size); have hc3 := (bcell A3).1; have hd3 := (bcell A3).2)))
  have F3 := (A3.block (w.heap.size + 1) z1).trans F1
  have y0 : w3.cell? ⟨w.heap.size + 1, 0, none⟩ = some (.int .i64 0) := by rw [Lib.cell_of_heap F3]; rfl
  have y1 : w3.cell? ⟨w.heap.size + 1, 1, none⟩ = some (.int .i64 0) := by rw [Lib.cell_of_heap F3]; rfl
  have BW : Below w.heap.size w w3 := B0.trans ((B1.trans (A3.mono B1.size)).mono B0.size)
  clear qO qV qS c0 c1 c2 c3 c4 g0 g1 f0 f1 hc1 hc2 hc3 hd1 hd2 hd3 hb1 hb2 hb3 A1 A2 A3 I0 I1 V0 V1 ID VD F1 X0
  go_wp2
  refine bodyPost_ret (results_one2 rfl _ _ (w.heap.size + 1) (.int .i64 ov) (.int .i64 (vc + sc)) _ rfl ?_ ?_ Tryz.underlying58 rfl infoCoI) rfl ?_
  · go_simp
  · go_simp
  · have q1 : w.heap.size ≤ w.heap.size + 1 := by omega
    exact ⟨rfl, (BW.setCell q1 _).setCell q1 _⟩

/-- What CostOf answers. -/
def CoAns (o s : Int) (w : World) (e : Ending) (w' : World) : Prop := e = .returned (coV o s) ∧ Below w.heap.size w w'

end Go.Proofs.YtghfpcjgionbaaaGreat
