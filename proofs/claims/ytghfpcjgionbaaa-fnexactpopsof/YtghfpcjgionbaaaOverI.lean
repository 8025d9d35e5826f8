/- What impl.overOf, impl.valuesCost, impl.isSpanSplit and impl.spansCost answer. -/
import Derived.Test.YtghfpcjgionbaaaNextI
namespace Go.Proofs.Ytghfpcjgionbaaa
open Go.RowKit

set_option maxHeartbeats 8000000 in
set_option maxRecDepth 20000 in
theorem iOver_any (p : Pc) (l : Pl) (a : Option Addr) (c : Nat) (vs : List Int) (wd : Int) (w : World) (hF : PcFew p) (hm0 : vs.length ≤ 1048576) (hp : PcIn w p l) (hv : KidsAt w a vs) (h1 : Right p) (h2 : ValOk p vs) :
    Calls Try.prog 103 #[pcV p l, .slice a vs.length c, .int .i64 wd] w fun e w' => e = .returned (.int .i64 (costOver p vs wd)) ∧ Below w.heap.size w w' := by
  show Calls _ _ #[.agg #[.int .i64 p.indent, .slice l.a1 p.rules.length l.c1, .slice l.a2 p.chunks.length l.c2, .slice l.a3 p.spans.length l.c3, .slice l.a4 p.ties.length l.c4], _, _] _ _
  have hcl := hF.chunks
  have hc1 := h1.chunks.least
  have hc80 := h1.chunks.most
  obtain ⟨T, hT⟩ : ∃ T, T = costOver p vs wd := ⟨_, rfl⟩
  rw [← hT]
  obtain ⟨W0, hW0, X0, B0, S0⟩ := boxed w p l 29
  have hX : w.heap.size < W0.heap.size := by omega
  have I0 := hp.below B0 (Nat.le_refl _)
  have V0 := hv.below B0 (Nat.le_refl _)
  by_cases hw1 : wd < 0
  · have HT := hidOf (show ovr 0 (linesFrom p vs 0) = T by rw [hT, lines_zero (by omega)]; unfold costOver; rw [show wid wd = 0 by unfold wid; omega])
    have hw2 : ¬ (100000 : Int) < 0 := by omega
    clear hT
    go_enter Try.func103, Try.ntmps103
    go_wp2
    rw [← hW0]
    clear hW0 hp hv
    go_loopw [7, 8] (fun m i wr => ∃ (k : Nat) (ov : Int), k ≤ p.chunks.length ∧ i = .int .i64 k ∧ m = .int .i64 ov ∧ 0 ≤ ov ∧ ov ≤ k * 83886260 ∧ Hid (ov + ovr 0 (linesFrom p vs k) = T) ∧ Below W0.heap.size W0 wr) (fun _ i _ => p.chunks.length - (intOf i).toNat)
    case atStart => exact ⟨0, 0, Nat.zero_le _, rfl, rfl, by omega, by omega, hidOf (by rw [HT.out]; omega), Below.refl _ _⟩
    case round =>
      obtain ⟨k, ov, hk, rfl, rfl, hov0, hov1, HI, hb⟩ := hrel
      have BW := B0.trans (hb.mono B0.size)
      obtain ⟨-, c0, c1, c2, c3, c4⟩ := X0.below hb hX
      by_cases hlt : k < p.chunks.length
      · have hM : (k : Int) < (p.chunks.length : Int) := by omega
        go_wp2_with fail
        refine (next_any p l a c vs k _ hF hm0 (I0.below hb (Nat.le_refl _)) (V0.below hb (Nat.le_refl _)) h1 h2 hlt).mono ?_
        rintro e w3 ⟨n, rfl, hsg, hb3⟩
        have A3 := hb.trans (hb3.mono hb.size)
        have hn1 := hsg.lt
        have hn2 := hsg.le
        have h0 := HI.out
        rw [lines_seg hsg, ovr] at h0
        clear hb3 c0 c1 c2 c3 c4 hsg
        obtain ⟨-, c0, c1, c2, c3, c4⟩ := X0.below A3 hX
        go_wp2_with fail
        obtain ⟨L, hL⟩ : ∃ L, L = (lineOf p k n).size := ⟨_, rfl⟩
        have hLs : L ≤ 83886260 := by rw [hL]; exact lineOf_size h1 hF hlt
        refine (len_any p l k n _ hF (I0.below A3 (Nat.le_refl _)) h1 hn1 hn2).mono ?_
        rw [← hL] at h0 ⊢
        rintro e w4 ⟨rfl, hb4⟩
        have A4 := A3.trans (hb4.mono A3.size)
        clear hb4 c0 c1 c2 c3 c4 hL
        by_cases hgo : (L : Int) - 0 < 0
        · have HE := hidOf (show ov + ovr 0 (linesFrom p vs n) = T by rw [← h0]; omega)
          clear h0
          go_wp2
          go_roundw
          case rel => exact ⟨n, ov, hn2, by go_num, by go_num, hov0, by omega, HE, A4⟩
          case measure => simp [intOf]; omega
        · have HE := hidOf (show (ov + ((L : Int) - 0)) + ovr 0 (linesFrom p vs n) = T by rw [← h0]; omega)
          have hge : 0 ≤ (L : Int) - 0 := by omega
          clear h0
          go_wp2
          go_roundw
          case rel => exact ⟨n, ov + ((L : Int) - 0), hn2, by go_num, by go_num, by omega, by omega, HE, A4⟩
          case measure => simp [intOf]; omega
      · have hM : ¬ (k : Int) < (p.chunks.length : Int) := by omega
        go_wp2
        go_ret
        have h := HI.out
        rw [lines_end (by omega), ovr] at h
        exact ⟨ret_int (by omega), BW⟩
  by_cases hw2 : wd ≤ 100000
  · have HT := hidOf (show ovr wd (linesFrom p vs 0) = T by rw [hT, lines_zero (by omega)]; unfold costOver; rw [show wid wd = wd by unfold wid; omega])
    have hw3 : 0 ≤ wd := by omega
    clear hT
    go_enter Try.func103, Try.ntmps103
    go_wp2
    rw [← hW0]
    clear hW0 hp hv
    go_loopw [7, 8] (fun m i wr => ∃ (k : Nat) (ov : Int), k ≤ p.chunks.length ∧ i = .int .i64 k ∧ m = .int .i64 ov ∧ 0 ≤ ov ∧ ov ≤ k * 83886260 ∧ Hid (ov + ovr wd (linesFrom p vs k) = T) ∧ Below W0.heap.size W0 wr) (fun _ i _ => p.chunks.length - (intOf i).toNat)
    case atStart => exact ⟨0, 0, Nat.zero_le _, rfl, rfl, by omega, by omega, hidOf (by rw [HT.out]; omega), Below.refl _ _⟩
    case round =>
      obtain ⟨k, ov, hk, rfl, rfl, hov0, hov1, HI, hb⟩ := hrel
      have BW := B0.trans (hb.mono B0.size)
      obtain ⟨-, c0, c1, c2, c3, c4⟩ := X0.below hb hX
      by_cases hlt : k < p.chunks.length
      · have hM : (k : Int) < (p.chunks.length : Int) := by omega
        go_wp2_with fail
        refine (next_any p l a c vs k _ hF hm0 (I0.below hb (Nat.le_refl _)) (V0.below hb (Nat.le_refl _)) h1 h2 hlt).mono ?_
        rintro e w3 ⟨n, rfl, hsg, hb3⟩
        have A3 := hb.trans (hb3.mono hb.size)
        have hn1 := hsg.lt
        have hn2 := hsg.le
        have h0 := HI.out
        rw [lines_seg hsg, ovr] at h0
        clear hb3 c0 c1 c2 c3 c4 hsg
        obtain ⟨-, c0, c1, c2, c3, c4⟩ := X0.below A3 hX
        go_wp2_with fail
        obtain ⟨L, hL⟩ : ∃ L, L = (lineOf p k n).size := ⟨_, rfl⟩
        have hLs : L ≤ 83886260 := by rw [hL]; exact lineOf_size h1 hF hlt
        refine (len_any p l k n _ hF (I0.below A3 (Nat.le_refl _)) h1 hn1 hn2).mono ?_
        rw [← hL] at h0 ⊢
        rintro e w4 ⟨rfl, hb4⟩
        have A4 := A3.trans (hb4.mono A3.size)
        clear hb4 c0 c1 c2 c3 c4 hL
        by_cases hgo : (L : Int) - wd < 0
        · have HE := hidOf (show ov + ovr wd (linesFrom p vs n) = T by rw [← h0]; omega)
          clear h0
          go_wp2
          go_roundw
          case rel => exact ⟨n, ov, hn2, by go_num, by go_num, hov0, by omega, HE, A4⟩
          case measure => simp [intOf]; omega
        · have HE := hidOf (show (ov + ((L : Int) - wd)) + ovr wd (linesFrom p vs n) = T by rw [← h0]; omega)
          have hge : 0 ≤ (L : Int) - wd := by omega
          clear h0
          go_wp2
          go_roundw
          case rel => exact ⟨n, ov + ((L : Int) - wd), hn2, by go_num, by go_num, by omega, by omega, HE, A4⟩
          case measure => simp [intOf]; omega
      · have hM : ¬ (k : Int) < (p.chunks.length : Int) := by omega
        go_wp2
        go_ret
        have h := HI.out
        rw [lines_end (by omega), ovr] at h
        exact ⟨ret_int (by omega), BW⟩
  · have HT := hidOf (show ovr 100000 (linesFrom p vs 0) = T by rw [hT, lines_zero (by omega)]; unfold costOver; rw [show wid wd = 100000 by unfold wid; omega])
    have hw3 : ¬ wd < 0 := by omega
    clear hT
    go_enter Try.func103, Try.ntmps103
    go_wp2
    rw [← hW0]
    clear hW0 hp hv
    go_loopw [7, 8] (fun m i wr => ∃ (k : Nat) (ov : Int), k ≤ p.chunks.length ∧ i = .int .i64 k ∧ m = .int .i64 ov ∧ 0 ≤ ov ∧ ov ≤ k * 83886260 ∧ Hid (ov + ovr 100000 (linesFrom p vs k) = T) ∧ Below W0.heap.size W0 wr) (fun _ i _ => p.chunks.length - (intOf i).toNat)
    case atStart => exact ⟨0, 0, Nat.zero_le _, rfl, rfl, by omega, by omega, hidOf (by rw [HT.out]; omega), Below.refl _ _⟩
    case round =>
      obtain ⟨k, ov, hk, rfl, rfl, hov0, hov1, HI, hb⟩ := hrel
      have BW := B0.trans (hb.mono B0.size)
      obtain ⟨-, c0, c1, c2, c3, c4⟩ := X0.below hb hX
      by_cases hlt : k < p.chunks.length
      · have hM : (k : Int) < (p.chunks.length : Int) := by omega
        go_wp2_with fail
        refine (next_any p l a c vs k _ hF hm0 (I0.below hb (Nat.le_refl _)) (V0.below hb (Nat.le_refl _)) h1 h2 hlt).mono ?_
        rintro e w3 ⟨n, rfl, hsg, hb3⟩
        have A3 := hb.trans (hb3.mono hb.size)
        have hn1 := hsg.lt
        have hn2 := hsg.le
        have h0 := HI.out
        rw [lines_seg hsg, ovr] at h0
        clear hb3 c0 c1 c2 c3 c4 hsg
        obtain ⟨-, c0, c1, c2, c3, c4⟩ := X0.below A3 hX
        go_wp2_with fail
        obtain ⟨L, hL⟩ : ∃ L, L = (lineOf p k n).size := ⟨_, rfl⟩
        have hLs : L ≤ 83886260 := by rw [hL]; exact lineOf_size h1 hF hlt
        refine (len_any p l k n _ hF (I0.below A3 (Nat.le_refl _)) h1 hn1 hn2).mono ?_
        rw [← hL] at h0 ⊢
        rintro e w4 ⟨rfl, hb4⟩
        have A4 := A3.trans (hb4.mono A3.size)
        clear hb4 c0 c1 c2 c3 c4 hL
        by_cases hgo : (L : Int) - 100000 < 0
        · have HE := hidOf (show ov + ovr 100000 (linesFrom p vs n) = T by rw [← h0]; omega)
          clear h0
          go_wp2
          go_roundw
          case rel => exact ⟨n, ov, hn2, by go_num, by go_num, hov0, by omega, HE, A4⟩
          case measure => simp [intOf]; omega
        · have HE := hidOf (show (ov + ((L : Int) - 100000)) + ovr 100000 (linesFrom p vs n) = T by rw [← h0]; omega)
          have hge : 0 ≤ (L : Int) - 100000 := by omega
          clear h0
          go_wp2
          go_roundw
          case rel => exact ⟨n, ov + ((L : Int) - 100000), hn2, by go_num, by go_num, by omega, by omega, HE, A4⟩
          case measure => simp [intOf]; omega
      · have hM : ¬ (k : Int) < (p.chunks.length : Int) := by omega
        go_wp2
        go_ret
        have h := HI.out
        rw [lines_end (by omega), ovr] at h
        exact ⟨ret_int (by omega), BW⟩
end Go.Proofs.Ytghfpcjgionbaaa
