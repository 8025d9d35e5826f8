/- What Bound answers, on both sides. -/
import Derived.Test.YtokfemlcamnaaaaBndI
import Derived.Test.YtokfemlcamnaaaaBndS
import Derived.Test.YtokfemlcamnaaaaValP
import Derived.Test.YtokfemlcamnaaaaOkI3
import Derived.Test.YtokfemlcamnaaaaOkS2
namespace Go.Proofs.Ytokfemlcamnaaaa
open Go.RowKit

set_option maxHeartbeats 8000000 in
theorem sFirst_any (p : Pc) (l : Pl) (a : Option Addr) (c : Nat) (vs : List Int) (w : World) (hn0 : p.rules.length ≤ 1048576) (hm0 : vs.length ≤ 1048576) (hR : NoLeast p.rules) (hp : RowsAt 2 ruCells w l.a1 p.rules) (hv : KidsAt w a vs) :
    Calls Try.prog 135 #[pcV p l, .slice a vs.length c] w fun e w' => Tells (PreV p.rules vs) w e w' := by
  show Calls _ _ #[.agg #[.int .i64 p.indent, .slice l.a1 p.rules.length l.c1, .slice l.a2 p.chunks.length l.c2, .slice l.a3 p.spans.length l.c3, .slice l.a4 p.ties.length l.c4], _] _ _
  have hm1 := hm0
  clear hm0
  unfold KidsAt at hv
  by_cases hl : vs.length ≤ p.rules.length
  · obtain ⟨n, hn⟩ : ∃ n, n = vs.length := ⟨_, rfl⟩
    rw [← hn] at hv hm1 hl ⊢
    have HN := hidOf hn
    have HL := hidOf hl
    have HR := hidOf hR
    clear hn hR
    have hne : ¬ (n : Int) > (p.rules.length : Int) := by omega
    obtain ⟨W0, hW0, X0, B0, S0⟩ := boxed w p l 29
    have hX : w.heap.size < W0.heap.size := by omega
    have c1 := X0.c1
    have R0 := hp.below B0 (Nat.le_refl _)
    unfold RowsAt at R0
    go_enter Try.func135, Try.ntmps135
    go_wp2
    rw [← hW0]
    clear hW0 S0 hp X0
    go_loopw [5] (fun i wr => ∃ k : Nat, k ≤ n ∧ i = .int .i64 k ∧ Below W0.heap.size W0 wr ∧ Hid (∀ (j : Nat) (z : Int) (y : Ru), j < k → vs[j]? = some z → p.rules[j]? = some y → 0 ≤ z ∧ z < y.values)) (fun i _ => n - (intOf i).toNat)
    case atStart => exact ⟨0, Nat.zero_le _, rfl, Below.refl _ _, hidOf fun j z y h => by omega⟩
    case round =>
      obtain ⟨k, hk, rfl, hb, HA⟩ := hrel
      have BW := B0.trans (hb.mono B0.size)
      have d1 := (hb.cell (p := ⟨w.heap.size, 1, none⟩) hX).trans c1
      by_cases hlt : k < n
      · obtain ⟨y, ey⟩ : ∃ y, p.rules[k]? = some y := ⟨_, List.getElem?_eq_getElem (by omega)⟩
        obtain ⟨z, ez⟩ : ∃ z, vs[k]? = some z := ⟨_, List.getElem?_eq_getElem (by rw [← HN.out]; exact hlt)⟩
        obtain ⟨b1, o1, ea, hb1, hc1⟩ := R0 (by omega)
        obtain ⟨b2, o2, eb, hb2, hc2⟩ := hv (by omega)
        have hrr := HR.out k y ey
        obtain ⟨p0, p1⟩ := ruC (w := wr) (fun j hj => by rw [hb.cell hb1]; exact hc1 k y ey j hj)
        have p2 := (BW.cell (p := ⟨b2, o2 + k, none⟩) hb2).trans (hc2 k z ez)
        rw [ea] at d1
        rw [ea, eb]
        have EY := hidOf ey
        have EZ := hidOf ez
        clear ey ez hc1 hc2 R0 hv ea eb
        have hA : (0 : Int) ≤ (k : Int) := by omega
        have hB : (k : Int) < (n : Int) := by omega
        have hB2 : (k : Int) < (p.rules.length : Int) := by omega
        have hwv : IntKind.i64.wrap (y.values - 1) = y.values - 1 := IntWalk.i64_in _ ⟨by omega, by omega⟩
        have q0 := fun W => sIn_any z 0 (y.values - 1) W
        by_cases h1 : 0 ≤ z ∧ z ≤ y.values - 1
        · rw [inB_yes h1.1 h1.2] at q0
          have H1 := hidOf h1
          clear h1
          go_wp2
          go_quiet ((go_at_call 88; exact Calls.quiet_of_same (q0 _)))
          go_wp2
          go_roundw
          case rel => exact ⟨k + 1, by omega, by go_num, bel_drewN hb _, hidOf (fun j z' y' hj hz hy => by
            by_cases e : j = k
            · subst e
              have e1 := EZ.out
              have e2 := EY.out
              rw [hz] at e1
              rw [hy] at e2
              cases e1
              cases e2
              have := H1.out
              omega
            · exact HA.out j z' y' (by omega) hz hy)⟩
          case measure => simp [intOf]; omega
        · rw [inB_no h1] at q0
          have H1 := hidOf h1
          clear h1
          go_wp2
          go_quiet ((go_at_call 88; exact Calls.quiet_of_same (q0 _)))
          go_wp2
          go_ret
          exact tells_no (fun h => by
            have h2 := h.2 k z y EZ.out EY.out
            have := H1.out
            omega) (bel_drewN BW _)
      · go_wp2
        go_ret
        exact tells_yes ⟨by have := HL.out; have := HN.out; omega, fun j z y hz hy => HA.out j z y (by have := (List.getElem?_eq_some_iff.1 hz).1; have := HN.out; omega) hz hy⟩ BW
  · have HB : ∀ o1 : Obj, Below w.heap.size w (w.alloc o1) := fun o1 => (Below.refl _ _).alloc (Nat.le_refl _) _
    have hne : (vs.length : Int) > (p.rules.length : Int) := by omega
    have HL := hidOf hl
    clear hl hp hv
    go_enter Try.func135, Try.ntmps135
    go_wp2
    go_ret
    exact tells_no (fun h => HL.out h.1) (HB _)

/-- The first rules alone. -/
def firstP (p : Pc) (n : Nat) : Pc := ⟨0, p.rules.take n, [], [], []⟩
theorem first_ok {p : Pc} {vs : List Int} (hl : vs.length ≤ p.rules.length) : ValOk (firstP p vs.length) vs ↔ PreV p.rules vs := by
  constructor
  · intro h
    refine ⟨hl, fun j z y hz hy => ?_⟩
    have hj := (List.getElem?_eq_some_iff.1 hz).1
    have := h.all j z y hz (by show (p.rules.take vs.length)[j]? = some y; rw [List.getElem?_take_of_lt hj]; exact hy)
    omega
  · intro h
    refine ⟨by show vs.length = (p.rules.take vs.length).length; rw [List.length_take]; omega, fun j z y hz hy => ?_⟩
    have hj := (List.getElem?_eq_some_iff.1 hz).1
    have hy' : (p.rules.take vs.length)[j]? = some y := hy
    rw [List.getElem?_take_of_lt hj] at hy'
    have := h.2 j z y hz hy'
    omega
theorem rows_take {α : Type} {s : Nat} {cells : α → List Value} {w : World} {a : Option Addr} {xs : List α} (h : RowsAt s cells w a xs) (n : Nat) : RowsAt s cells w a (xs.take n) := by
  intro hn
  obtain ⟨b, off, ha, hlt, hc⟩ := h (by rw [List.length_take] at hn; omega)
  exact ⟨b, off, ha, hlt, fun k x hx j hj => hc k x (by
    rw [List.getElem?_take] at hx
    split at hx
    · exact hx
    · cases hx) j hj⟩
set_option maxHeartbeats 8000000 in
theorem iBegin_any (p : Pc) (l : Pl) (a : Option Addr) (c : Nat) (vs : List Int) (w : World) (hm0 : vs.length ≤ 1048576) (hcr : p.rules.length ≤ l.c1) (hR : NoLeast p.rules) (hp : RowsAt 2 ruCells w l.a1 p.rules) (hv : KidsAt w a vs) :
    Calls Try.prog 136 #[pcV p l, .slice a vs.length c] w fun e w' => Tells (PreV p.rules vs) w e w' := by
  show Calls _ _ #[.agg #[.int .i64 p.indent, .slice l.a1 p.rules.length l.c1, .slice l.a2 p.chunks.length l.c2, .slice l.a3 p.spans.length l.c3, .slice l.a4 p.ties.length l.c4], _] _ _
  obtain ⟨W0, hW0, X0, B0, S0⟩ := boxed w p l 29
  have c1 := X0.c1
  have hX : w.heap.size < W0.heap.size := by omega
  have V0 := hv.below B0 (Nat.le_refl _)
  by_cases hl : vs.length ≤ p.rules.length
  · have hg : decide ((vs.length : Int) ≤ (p.rules.length : Int)) = true := by simp; omega
    have hln : (firstP p vs.length).rules.length = vs.length := by show (p.rules.take vs.length).length = _; rw [List.length_take]; omega
    have q := iVal_any (firstP p vs.length) ⟨l.a1, l.c1, none, 0, none, 0, none, 0⟩ a c vs W0 (by rw [hln]; exact hm0) hm0 (fun j y hy => by
      have hy' : (p.rules.take vs.length)[j]? = some y := hy
      rw [List.getElem?_take] at hy'
      split at hy'
      · exact hR j y hy'
      · cases hy') (rows_take (hp.below B0 (Nat.le_refl _)) _) V0
    unfold pcV at q
    rw [hln] at q
    simp only [firstP, List.length_nil] at q
    have hA : (0 : Int) ≤ (vs.length : Int) := by omega
    have hB : (vs.length : Int) ≤ (l.c1 : Int) := by omega
    have HI := hidOf (first_ok hl)
    go_enter Try.func136, Try.ntmps136
    go_wp2_with fail
    rw [← hW0]
    refine q.mono ?_
    rintro e w1 ⟨b, rfl, hb, hb1⟩
    clear q
    go_wp2
    go_ret
    exact ⟨b, rfl, hb.trans HI.out, B0.trans (hb1.mono B0.size)⟩
  · have hg : decide ((vs.length : Int) ≤ (p.rules.length : Int)) = false := by simp; omega
    have HL := hidOf hl
    clear hl
    go_enter Try.func136, Try.ntmps136
    go_wp2
    rw [← hW0]
    go_ret
    exact tells_no (fun h => HL.out h.1) B0

set_option maxHeartbeats 4000000 in
theorem sBound_no (p : Pc) (l : Pl) (a : Option Addr) (c : Nat) (vs : List Int) (w : World) (hF : PcFew p) (hp : PcIn w p l) (h1 : ¬ Right p) :
    Calls Try.prog 73 #[pcV p l, .slice a vs.length c] w fun e w' => e = .returned (.int .i64 0) ∧ Below w.heap.size w w' := by
  show Calls _ _ #[.agg #[.int .i64 p.indent, .slice l.a1 p.rules.length l.c1, .slice l.a2 p.chunks.length l.c2, .slice l.a3 p.spans.length l.c3, .slice l.a4 p.ties.length l.c4], _] _ _
  obtain ⟨W0, hW0, X0, B0, S0⟩ := boxed w p l 29
  have hX : w.heap.size < W0.heap.size := by omega
  have I0 := hp.below B0 (Nat.le_refl _)
  clear S0 hp
  obtain ⟨-, c0, c1, c2, c3, c4⟩ := X0
  go_enter Try.func73, Try.ntmps73
  go_wp2_with fail
  rw [← hW0]
  clear hW0
  refine (sOk_any p l _ hF I0).mono ?_
  rintro e w1 hq
  obtain ⟨rfl, A1⟩ := hq.no h1
  clear hq c0 c1 c2 c3 c4
  go_wp2
  go_ret
  exact ⟨rfl, B0.trans (A1.mono B0.size)⟩

set_option maxHeartbeats 4000000 in
theorem sBound_out (p : Pc) (l : Pl) (a : Option Addr) (c : Nat) (vs : List Int) (w : World) (hF : PcFew p) (hm0 : vs.length ≤ 1048576) (hp : PcIn w p l) (hv : KidsAt w a vs) (h1 : Right p) (h2 : ¬ PreV p.rules vs) :
    Calls Try.prog 73 #[pcV p l, .slice a vs.length c] w fun e w' => e = .returned (.int .i64 0) ∧ Below w.heap.size w w' := by
  show Calls _ _ #[.agg #[.int .i64 p.indent, .slice l.a1 p.rules.length l.c1, .slice l.a2 p.chunks.length l.c2, .slice l.a3 p.spans.length l.c3, .slice l.a4 p.ties.length l.c4], _] _ _
  obtain ⟨W0, hW0, X0, B0, S0⟩ := boxed w p l 29
  have hX : w.heap.size < W0.heap.size := by omega
  have I0 := hp.below B0 (Nat.le_refl _)
  have V0 := hv.below B0 (Nat.le_refl _)
  have X1 := X0
  clear S0 hp
  obtain ⟨-, c0, c1, c2, c3, c4⟩ := X0
  go_enter Try.func73, Try.ntmps73
  go_wp2_with fail
  rw [← hW0]
  clear hW0
  refine (sOk_any p l _ hF I0).mono ?_
  rintro e w1 hq
  obtain ⟨rfl, A1⟩ := hq.yes h1
  clear hq c0 c1 c2 c3 c4
  obtain ⟨-, c0, c1, c2, c3, c4⟩ := X1.below A1 hX
  go_wp2_with fail
  refine (sFirst_any p l a c vs _ hF.rules hm0 (noLeast_right h1.rules) (I0.rules.below A1 (Nat.le_refl _)) (V0.below A1 (Nat.le_refl _))).mono ?_
  rintro e w2 hq
  obtain ⟨rfl, hb2⟩ := hq.no h2
  have A2 := A1.trans (hb2.mono A1.size)
  clear hq c0 c1 c2 c3 c4
  go_wp2
  go_ret
  exact ⟨rfl, B0.trans (A2.mono B0.size)⟩

set_option maxHeartbeats 4000000 in
theorem sBound_yes (p : Pc) (l : Pl) (a : Option Addr) (c : Nat) (vs : List Int) (w : World) (hF : PcFew p) (hm0 : vs.length ≤ 1048576) (hp : PcIn w p l) (hv : KidsAt w a vs) (h1 : Right p) (h2 : PreV p.rules vs) :
    Calls Try.prog 73 #[pcV p l, .slice a vs.length c] w fun e w' => e = .returned (.int .i64 (costSum p vs)) ∧ Below w.heap.size w w' := by
  show Calls _ _ #[.agg #[.int .i64 p.indent, .slice l.a1 p.rules.length l.c1, .slice l.a2 p.chunks.length l.c2, .slice l.a3 p.spans.length l.c3, .slice l.a4 p.ties.length l.c4], _] _ _
  obtain ⟨W0, hW0, X0, B0, S0⟩ := boxed w p l 29
  have hX : w.heap.size < W0.heap.size := by omega
  have I0 := hp.below B0 (Nat.le_refl _)
  have V0 := hv.below B0 (Nat.le_refl _)
  have X1 := X0
  clear S0 hp
  obtain ⟨-, c0, c1, c2, c3, c4⟩ := X0
  go_enter Try.func73, Try.ntmps73
  go_wp2_with fail
  rw [← hW0]
  clear hW0
  refine (sOk_any p l _ hF I0).mono ?_
  rintro e w1 hq
  obtain ⟨rfl, A1⟩ := hq.yes h1
  clear hq c0 c1 c2 c3 c4
  obtain ⟨-, c0, c1, c2, c3, c4⟩ := X1.below A1 hX
  go_wp2_with fail
  refine (sFirst_any p l a c vs _ hF.rules hm0 (noLeast_right h1.rules) (I0.rules.below A1 (Nat.le_refl _)) (V0.below A1 (Nat.le_refl _))).mono ?_
  rintro e w2 hq
  obtain ⟨rfl, hb2⟩ := hq.yes h2
  have A2 := A1.trans (hb2.mono A1.size)
  clear hq c0 c1 c2 c3 c4
  obtain ⟨-, c0, c1, c2, c3, c4⟩ := X1.below A2 hX
  go_wp2_with fail
  refine (sBnd_any p l a c vs _ hF (I0.below A2 (Nat.le_refl _)) (V0.below A2 (Nat.le_refl _)) h1 h2).mono ?_
  rintro e w3 ⟨rfl, hb3⟩
  go_wp2
  go_ret
  exact ⟨rfl, B0.trans ((A2.trans (hb3.mono A2.size)).mono B0.size)⟩

set_option maxHeartbeats 4000000 in
theorem iBound_no (p : Pc) (l : Pl) (a : Option Addr) (c : Nat) (vs : List Int) (w : World) (hF : PcFew p) (hp : PcIn w p l) (h1 : ¬ Right p) :
    Calls Try.prog 74 #[pcV p l, .slice a vs.length c] w fun e w' => e = .returned (.int .i64 0) ∧ Below w.heap.size w w' := by
  show Calls _ _ #[.agg #[.int .i64 p.indent, .slice l.a1 p.rules.length l.c1, .slice l.a2 p.chunks.length l.c2, .slice l.a3 p.spans.length l.c3, .slice l.a4 p.ties.length l.c4], _] _ _
  obtain ⟨W0, hW0, X0, B0, S0⟩ := boxed w p l 29
  have hX : w.heap.size < W0.heap.size := by omega
  have I0 := hp.below B0 (Nat.le_refl _)
  clear S0 hp
  obtain ⟨-, c0, c1, c2, c3, c4⟩ := X0
  go_enter Try.func74, Try.ntmps74
  go_wp2_with fail
  rw [← hW0]
  clear hW0
  refine (iOk_any p l _ hF I0).mono ?_
  rintro e w1 hq
  obtain ⟨rfl, A1⟩ := hq.no h1
  clear hq c0 c1 c2 c3 c4
  go_wp2
  go_ret
  exact ⟨rfl, B0.trans (A1.mono B0.size)⟩

set_option maxHeartbeats 4000000 in
theorem iBound_out (p : Pc) (l : Pl) (a : Option Addr) (c : Nat) (vs : List Int) (w : World) (hF : PcFew p) (hm0 : vs.length ≤ 1048576) (hcr : p.rules.length ≤ l.c1) (hp : PcIn w p l) (hv : KidsAt w a vs) (h1 : Right p) (h2 : ¬ PreV p.rules vs) :
    Calls Try.prog 74 #[pcV p l, .slice a vs.length c] w fun e w' => e = .returned (.int .i64 0) ∧ Below w.heap.size w w' := by
  show Calls _ _ #[.agg #[.int .i64 p.indent, .slice l.a1 p.rules.length l.c1, .slice l.a2 p.chunks.length l.c2, .slice l.a3 p.spans.length l.c3, .slice l.a4 p.ties.length l.c4], _] _ _
  obtain ⟨W0, hW0, X0, B0, S0⟩ := boxed w p l 29
  have hX : w.heap.size < W0.heap.size := by omega
  have I0 := hp.below B0 (Nat.le_refl _)
  have V0 := hv.below B0 (Nat.le_refl _)
  have X1 := X0
  clear S0 hp
  obtain ⟨-, c0, c1, c2, c3, c4⟩ := X0
  go_enter Try.func74, Try.ntmps74
  go_wp2_with fail
  rw [← hW0]
  clear hW0
  refine (iOk_any p l _ hF I0).mono ?_
  rintro e w1 hq
  obtain ⟨rfl, A1⟩ := hq.yes h1
  clear hq c0 c1 c2 c3 c4
  obtain ⟨-, c0, c1, c2, c3, c4⟩ := X1.below A1 hX
  go_wp2_with fail
  refine (iBegin_any p l a c vs _ hm0 hcr (noLeast_right h1.rules) (I0.rules.below A1 (Nat.le_refl _)) (V0.below A1 (Nat.le_refl _))).mono ?_
  rintro e w2 hq
  obtain ⟨rfl, hb2⟩ := hq.no h2
  have A2 := A1.trans (hb2.mono A1.size)
  clear hq c0 c1 c2 c3 c4
  go_wp2
  go_ret
  exact ⟨rfl, B0.trans (A2.mono B0.size)⟩

set_option maxHeartbeats 4000000 in
theorem iBound_yes (p : Pc) (l : Pl) (a : Option Addr) (c : Nat) (vs : List Int) (w : World) (hF : PcFew p) (hm0 : vs.length ≤ 1048576) (hcr : p.rules.length ≤ l.c1) (hcc : p.chunks.length ≤ l.c2) (hp : PcIn w p l) (hv : KidsAt w a vs) (h1 : Right p) (h2 : PreV p.rules vs) :
    Calls Try.prog 74 #[pcV p l, .slice a vs.length c] w fun e w' => e = .returned (.int .i64 (costSum p vs)) ∧ Below w.heap.size w w' := by
  show Calls _ _ #[.agg #[.int .i64 p.indent, .slice l.a1 p.rules.length l.c1, .slice l.a2 p.chunks.length l.c2, .slice l.a3 p.spans.length l.c3, .slice l.a4 p.ties.length l.c4], _] _ _
  obtain ⟨W0, hW0, X0, B0, S0⟩ := boxed w p l 29
  have hX : w.heap.size < W0.heap.size := by omega
  have I0 := hp.below B0 (Nat.le_refl _)
  have V0 := hv.below B0 (Nat.le_refl _)
  have X1 := X0
  clear S0 hp
  obtain ⟨-, c0, c1, c2, c3, c4⟩ := X0
  go_enter Try.func74, Try.ntmps74
  go_wp2_with fail
  rw [← hW0]
  clear hW0
  refine (iOk_any p l _ hF I0).mono ?_
  rintro e w1 hq
  obtain ⟨rfl, A1⟩ := hq.yes h1
  clear hq c0 c1 c2 c3 c4
  obtain ⟨-, c0, c1, c2, c3, c4⟩ := X1.below A1 hX
  go_wp2_with fail
  refine (iBegin_any p l a c vs _ hm0 hcr (noLeast_right h1.rules) (I0.rules.below A1 (Nat.le_refl _)) (V0.below A1 (Nat.le_refl _))).mono ?_
  rintro e w2 hq
  obtain ⟨rfl, hb2⟩ := hq.yes h2
  have A2 := A1.trans (hb2.mono A1.size)
  clear hq c0 c1 c2 c3 c4
  obtain ⟨-, c0, c1, c2, c3, c4⟩ := X1.below A2 hX
  go_wp2_with fail
  refine (iBnd_any p l a c vs _ hF hcc (I0.below A2 (Nat.le_refl _)) (V0.below A2 (Nat.le_refl _)) h1 h2).mono ?_
  rintro e w3 ⟨rfl, hb3⟩
  go_wp2
  go_ret
  exact ⟨rfl, B0.trans ((A2.trans (hb3.mono A2.size)).mono B0.size)⟩

/-- Both sides' answer, whatever comes. -/
theorem bnd_key (p : Pc) (vs : List Int) (hF : PcFew p) (hm0 : vs.length ≤ 1048576) : ∃ z : Int,
    (∀ (l : Pl) (a : Option Addr) (c : Nat) (w : World), PcIn w p l → KidsAt w a vs → Calls Try.prog 73 #[pcV p l, .slice a vs.length c] w fun e w' => e = .returned (.int .i64 z) ∧ Below w.heap.size w w') ∧
    (∀ (l : Pl) (a : Option Addr) (c : Nat) (w : World), p.rules.length ≤ l.c1 → p.chunks.length ≤ l.c2 → PcIn w p l → KidsAt w a vs → Calls Try.prog 74 #[pcV p l, .slice a vs.length c] w fun e w' => e = .returned (.int .i64 z) ∧ Below w.heap.size w w') := by
  by_cases h1 : Right p
  · by_cases h2 : PreV p.rules vs
    · exact ⟨costSum p vs, fun l a c w hp hv => sBound_yes p l a c vs w hF hm0 hp hv h1 h2, fun l a c w hcr hcc hp hv => iBound_yes p l a c vs w hF hm0 hcr hcc hp hv h1 h2⟩
    · exact ⟨0, fun l a c w hp hv => sBound_out p l a c vs w hF hm0 hp hv h1 h2, fun l a c w hcr _ hp hv => iBound_out p l a c vs w hF hm0 hcr hp hv h1 h2⟩
  · exact ⟨0, fun l a c w hp hv => sBound_no p l a c vs w hF hp h1, fun l a c w _ _ hp hv => iBound_no p l a c vs w hF hp h1⟩
end Go.Proofs.Ytokfemlcamnaaaa
