/- What impl.PopsOf answers: how many states are popped, as the closure counts them. -/
import Derived.Test.YtghfpcjgionbaaaSeI
import Derived.Test.YtghfpcjgionbaaaKat
import Derived.Test.YtghfpcjgionbaaaKav
namespace Go.Proofs.Ytghfpcjgionbaaa
open Go.RowKit

/-- The world in which so many are counted. -/
def Fk (w : World) (pb k : Nat) : World := w.setCell ⟨pb, 0, none⟩ (.int .i64 k)
theorem fk_size (w : World) (pb k : Nat) : (Fk w pb k).heap.size = w.heap.size := by unfold Fk; simp [World.setCell]
theorem fk_row {w : World} {pb : Nat} (k : Nat) (hrow : w.heap[pb]? = some (.cells #[.int .i64 0] 3 (0, 0))) : (Fk w pb k).heap[pb]? = some (.cells #[.int .i64 k] 3 (0, 0)) := heap_setCell_same w pb 0 _ _ (.int .i64 k) hrow
theorem fk_other {w : World} {pb b : Nat} (k : Nat) (h : b ≠ pb) : (Fk w pb k).heap[b]? = w.heap[b]? := heap_setCell_other w ⟨pb, 0, none⟩ b _ h
/-- None is counted yet. -/
theorem fk_in {w W : World} {pb : Nat} (hb : Below w.heap.size w W) (hrow : w.heap[pb]? = some (.cells #[.int .i64 0] 3 (0, 0))) : Below (Fk w pb 0).heap.size (Fk w pb 0) W := by
  rw [fk_size]
  refine ⟨hb.os, hb.tape, hb.output, by rw [fk_size]; exact hb.size, fun b h => (hb.block b h).trans ?_⟩
  by_cases e : b = pb
  · rw [e, fk_row 0 hrow, hrow]
    rfl
  · exact (fk_other 0 e).symm
section
variable {w : World} {pb k sb : Nat} {p : Pc} {l : Pl} {wd : Int} {W : World} {a : Option Addr} {c : Nat} {qs : List Sp} {ba : Option Addr} {bc : Nat} {bs : List Int}
theorem Sr.out (h : Sr (Fk w pb k) sb p l wd W a c qs ba bc bs) : Below w.heap.size (Fk w pb k) W := by
  have := h.bel
  rwa [fk_size] at this
theorem Sr.count (h : Sr (Fk w pb k) sb p l wd W a c qs ba bc bs) (hpb : pb < w.heap.size) (hrow : w.heap[pb]? = some (.cells #[.int .i64 0] 3 (0, 0))) : W.heap[pb]? = some (.cells #[.int .i64 k] 3 (0, 0)) := (h.out.block pb hpb).trans (fk_row k hrow)
theorem far_low {w : World} {B e s n pb : Nat} {v : Value} {xs : List Value} (h : w.ownsRow B e s v n xs) (hpb : pb < B) : v.ownBlock = none ∨ v.ownBlock ≠ some pb := by
  rcases h.2 with ⟨rfl, _⟩ | ⟨g, cap, cur, rfl, hg, _⟩
  · exact .inl rfl
  · refine .inr (fun e => ?_)
    have e' : g = pb := by injection e
    omega
theorem own_none {w : World} {B e s n : Nat} {v : Value} {xs : List Value} (_ : w.ownsRow B e s v n xs) : v.ownBlock = none ∨ v.ownBlock ≠ none := by
  cases hv : v.ownBlock with
  | none => exact .inl rfl
  | some g => exact .inr (fun e => by cases e)
/-- One more is counted. -/
theorem Sr.tick (h : Sr (Fk w pb k) sb p l wd W a c qs ba bc bs) (hpb : pb < w.heap.size) (hrow : w.heap[pb]? = some (.cells #[.int .i64 0] 3 (0, 0))) : Sr (Fk w pb (k + 1)) sb p l wd (W.setCell ⟨pb, 0, none⟩ (.int .i64 ((k + 1 : Nat) : Int))) a c qs ba bc bs := by
  have hpk : pb < (Fk w pb k).heap.size := by rw [fk_size]; exact hpb
  have hs : (Fk w pb (k + 1)).heap.size = (Fk w pb k).heap.size := by rw [fk_size, fk_size]
  have G : Gr2 W (W.setCell ⟨pb, 0, none⟩ (.int .i64 ((k + 1 : Nat) : Int))) none pb := (Gr2.ofB (Below.refl _ W) none pb).setH 0 _
  refine ⟨⟨(heap_setCell_other W ⟨pb, 0, none⟩ sb _ (by have := h.low; show sb ≠ pb; omega)).trans h.hv.row⟩, ⟨?_, fun q hq => ?_, h.own.apart⟩, ?_, ?_, by rw [hs]; exact h.low⟩
  · rw [hs]; exact G.own h.own.row (own_none h.own.row) (far_low h.own.row hpk)
  · rw [hs]; exact G.own (h.own.each q hq) (own_none (h.own.each q hq)) (far_low (h.own.each q hq) hpk)
  · rw [hs]; exact G.own h.best (own_none h.best) (far_low h.best hpk)
  · rw [hs]
    refine ⟨h.bel.os, h.bel.tape, h.bel.output, by rw [hs]; simpa [World.setCell] using h.bel.size, fun b hb => ?_⟩
    by_cases e : b = pb
    · rw [e, fk_row (k + 1) hrow]
      exact heap_setCell_same W pb 0 _ _ (.int .i64 ((k + 1 : Nat) : Int)) (h.count hpb hrow)
    · rw [fk_other (k + 1) e]
      exact (heap_setCell_other W ⟨pb, 0, none⟩ b _ e).trans ((h.bel.block b hb).trans (fk_other k e))
end
set_option maxHeartbeats 1600000 in
theorem iPop_any (pb k : Nat) (w : World) (hr : w.heap[pb]? = some (.cells #[.int .i64 k] 3 (0, 0))) (hk : k ≤ 13200) : Calls Try.prog 53 #[.pointer (some ⟨pb, 0, none⟩)] w fun e w' => e = .returned (.tuple #[]) ∧ w' = w.setCell ⟨pb, 0, none⟩ (.int .i64 ((k + 1 : Nat) : Int)) := by
  have hl := (Array.getElem?_eq_some_iff.1 hr).1
  have c0 : w.cell? ⟨pb, 0, none⟩ = some (.int .i64 k) := cell_of_row w pb 0 _ _ _ hr
  have f0 := frozen_of_row w pb 0 _ _ hr
  clear hr
  go_enter Try.func53, Try.ntmps53
  go_wp2
  go_end0
  exact ⟨rfl, rfl⟩
/-- What is answered, and what is counted. -/
def TpAns (pb n : Nat) (w : World) (e : Ending) (w' : World) : Prop := ∃ a m c s, e = .returned (.tuple #[.slice a m c, .int .i64 s]) ∧ Below w.heap.size (Fk w pb n) w'

set_option maxHeartbeats 8000000 in
set_option maxRecDepth 20000 in
theorem iTp_yes (p : Pc) (l : Pl) (wd bud : Int) (pb : Nat) (w : World) (hbd : -9223372036854775808 ≤ bud ∧ bud ≤ 9223372036854775807) (hF : PcFew p) (hcap : p.chunks.length ≤ l.c2) (hpb : pb < w.heap.size) (hrow : w.heap[pb]? = some (.cells #[.int .i64 0] 3 (0, 0))) (hp : ∀ k, PcIn (Fk w pb k) p l) (h1 : Right p) :
    Calls Try.prog 30 #[pcV p l, .int .i64 wd, .int .i64 bud, .func (.func 53) #[] #[.pointer (some ⟨pb, 0, none⟩)]] w fun e w' => TpAns pb (popsOf p wd bud) w e w' := by
  show Calls _ _ #[.agg #[.int .i64 p.indent, .slice l.a1 p.rules.length l.c1, .slice l.a2 p.chunks.length l.c2, .slice l.a3 p.spans.length l.c3, .slice l.a4 p.ties.length l.c4], _, _, _] _ _
  obtain ⟨W0, hW0, X0, B0, S0⟩ := boxed w p l 29
  have hX : w.heap.size < W0.heap.size := by omega
  have qO := iOk_any p l W0 hF ((hp 0).below (fk_in B0 hrow) (Nat.le_refl _))
  have qN := fun W (hb : Below w.heap.size w W) => iNew_any p l wd (Fk w pb 0) W hF hcap (hp 0) h1 (fk_in hb hrow)
  unfold pcV at qO qN
  obtain ⟨RR, hRR⟩ : ∃ RR, RR = popsOf p wd bud := ⟨_, rfl⟩
  rw [← hRR]
  have HRR := hidOf hRR
  clear hRR S0
  have X1 := X0
  obtain ⟨-, c0, c1, c2, c3, c4⟩ := X0
  go_enter Try.func30, Try.ntmps30
  go_wp2
  rw [← hW0]
  clear hW0
  refine wp_scope_jumps 0 (fun a' w' => ∃ x0 x1 x2 x3 x4 x5 x6 x7 x8 x9 x11 x12 x13 x14 x15 x16 x17 x18 x19 x20 x21 x22 x23 x24 x25 x26 x27 x28 x29 x30 x31 x32 x33 x34 x35 x36 x37 x38 x39 x40 sb a c qs ba bc bs k, a' = { tmps := #[x0, x1, x2, x3, x4, x5, x6, x7, x8, x9, .pointer (some ⟨sb, 0, none⟩), x11, x12, x13, x14, x15, x16, x17, x18, x19, x20, x21, x22, x23, x24, x25, x26, x27, x28, x29, x30, x31, x32, x33, x34, x35, x36, x37, x38, x39, x40], defers := [] } ∧ Sr (Fk w pb k) sb p l wd w' a c qs ba bc bs ∧ RR = k) (fun _ _ => 0) rfl ?_ ?_
  case refine_2 =>
    rintro a' w' ⟨x0, x1, x2, x3, x4, x5, x6, x7, x8, x9, x11, x12, x13, x14, x15, x16, x17, x18, x19, x20, x21, x22, x23, x24, x25, x26, x27, x28, x29, x30, x31, x32, x33, x34, x35, x36, x37, x38, x39, x40, sb, a, c, qs, ba, bc, bs, k, rfl, X, E⟩
    obtain ⟨hl, -, -, -, -, -, -, c8, -, -⟩ := X.cells
    have HX := hidOf X
    have HER := hidOf E
    clear X E qO qN c0 c1 c2 c3 c4
    go_wp2
    simp only [Exit.jump]
    go_ret2
    rw [HER.out]
    exact ⟨_, _, _, _, rfl, HX.out.out⟩
  case refine_1 =>
    go_wp2_with fail
    refine qO.mono ?_
    rintro e w1 hq
    obtain ⟨rfl, b1⟩ := hq.yes h1
    clear hq qO c0 c1 c2 c3 c4
    obtain ⟨-, c0, c1, c2, c3, c4⟩ := X1.below b1 hX
    have B1 := B0.trans (b1.mono B0.size)
    go_wp2_with fail
    refine (qN _ B1).mono ?_
    rintro e w2 ⟨sb, a2, c2', q2, ba2, bc2, rfl, S2, E2, b2⟩
    clear c0 c1 c2 c3 c4 qN X1
    have HS2 := hidOf S2
    have HE2 := hidOf E2
    have HL2 := hidOf (left_start h1)
    have HI2 := hidOf (srch_start (wd := wd) (allR_ties h1))
    clear S2 E2 b2
    go_wp2
    go_loopw [11] (fun v wr => ∃ (k : Nat) (a : Option Addr) (c : Nat) (qs : List Sp) (ba : Option Addr) (bc : Nat) (bs : List Int), v = .int .i64 k ∧ k ≤ 13200 ∧ Hid (Sr (Fk w pb k) sb p l wd wr a c qs ba bc bs) ∧ Hid (SInv p wd (qs.map Sp.st) bs) ∧ Hid (leftOf p (qs.map Sp.st) + k ≤ 2 * cntOf p - 1) ∧ Hid (k ≤ bud.toNat) ∧ Hid (k + popsN p wd (bud.toNat - k) (qs.map Sp.st) bs = RR)) (fun v _ => 14000 - (intOf v).toNat)
    case atStart => exact ⟨0, a2, c2', q2, ba2, bc2, allV p, rfl, by omega, HS2, hidOf (by rw [HE2.out]; exact HI2.out), hidOf (by rw [HE2.out]; have := HL2.out; omega), hidOf (Nat.zero_le _), hidOf (by rw [HE2.out, HRR.out, Nat.zero_add]; rfl)⟩
    case round =>
      clear HS2 HE2
      obtain ⟨k, a, c, qs, ba, bc, bs, rfl, hk, HS, HI, HL, HKB, HR⟩ := hrel
      have X := HS.out
      obtain ⟨hl, -, -, -, -, -, -, c8, -, -⟩ := X.cells
      by_cases h0 : qs.length = 0
      · have qE := isEmpty_any (srOf p l wd ba bc bs) sb a qs.length c true wr (by rw [h0]; rfl) X.hv
        have hqs : qs = [] := List.eq_nil_of_length_eq_zero h0
        have ER := hidOf (show RR = k by rw [← HR.out, hqs]; show k + popsN p wd _ [] bs = k; rw [popsN_none, Nat.add_zero])
        clear h0 hqs
        go_wp2_with fail
        refine qE.mono ?_
        rintro e wr ⟨rfl, rfl⟩
        clear qE
        go_wp2
        simp only [Exit.jump]
        go_ret2
        rw [ER.out]
        exact ⟨_, _, _, _, rfl, X.out⟩
      · have qE := isEmpty_any (srOf p l wd ba bc bs) sb a qs.length c false wr (by rw [beq_eq_false_iff_ne]; omega) X.hv
        have hne : qs.map Sp.st ≠ [] := fun e => h0 (by have := congrArg List.length e; simpa using this)
        go_wp2_with fail
        refine qE.mono ?_
        rintro e wr ⟨rfl, rfl⟩
        clear qE
        by_cases hkb : (k : Int) ≥ bud
        · have ER := hidOf (show RR = k by rw [← HR.out, show bud.toNat - k = 0 by omega]; rfl)
          have HX := hidOf X
          clear X
          go_wp2
          go_step3
          refine ⟨rfl, _, _, _, _, _, _, _, _, _, _, _, _, _, _, _, _, _, _, _, _, _, _, _, _, _, _, _, _, _, _, _, _, _, _, _, _, _, _, _, _, sb, a, c, qs, ba, bc, bs, k, rfl, HX.out, ER.out⟩
        · have hkb' : ¬ (k : Int) ≥ bud := hkb
          have hl1 := HL.out
          have qT := iTry_any X hF hcap (hp k) h1 hne HI.out (by omega)
          have HN := hidOf (HI.out.next h1 hne)
          have HLN := hidOf (show leftOf p (stepH p wd (qs.map Sp.st) bs) + ((k + 1 : Nat) : Int) ≤ 2 * cntOf p - 1 by have := left_next (wd := wd) h1 HI.out hne; omega)
          have HRN := hidOf (show k + 1 + popsN p wd (bud.toNat - (k + 1)) (stepH p wd (qs.map Sp.st) bs) (stepB p wd (qs.map Sp.st) bs) = RR by
            have := HR.out
            rw [show bud.toNat - k = bud.toNat - (k + 1) + 1 by omega, popsN_one hne] at this
            omega)
          have hk2 : k + 1 ≤ 13200 := by
            have h5 := len_left h1 (qs.map Sp.st)
            have h6 := left_le h1
            omega
          have HKB2 := hidOf (show k + 1 ≤ bud.toNat by omega)
          clear hl1 c8 X
          go_wp2_with fail
          refine qT.mono ?_
          rintro e w3 ⟨rfl, a3, c3, q3, ba3, bc3, S3, E3⟩
          have qL := iPop_any pb k w3 (S3.count hpb hrow) hk
          have HS3 := hidOf (S3.tick hpb hrow)
          have HE3 := hidOf E3
          clear qT S3 E3
          go_wp2_with fail
          refine qL.mono ?_
          rintro e w4 ⟨rfl, rfl⟩
          clear qL
          go_wp2
          go_roundw
          case rel => exact ⟨k + 1, a3, c3, q3, ba3, bc3, _, by go_num, hk2, HS3, hidOf (by rw [HE3.out]; exact HN.out), hidOf (by rw [HE3.out]; exact HLN.out), HKB2, hidOf (by rw [HE3.out]; exact HRN.out)⟩
          case measure => simp [intOf]; omega


set_option maxHeartbeats 4000000 in
set_option maxRecDepth 20000 in
theorem iTp_no (p : Pc) (l : Pl) (wd bud : Int) (pb : Nat) (w : World) (hF : PcFew p) (hrow : w.heap[pb]? = some (.cells #[.int .i64 0] 3 (0, 0))) (hp : PcIn w p l) (h1 : ¬ Right p) :
    Calls Try.prog 30 #[pcV p l, .int .i64 wd, .int .i64 bud, .func (.func 53) #[] #[.pointer (some ⟨pb, 0, none⟩)]] w fun e w' => TpAns pb 0 w e w' := by
  show Calls _ _ #[.agg #[.int .i64 p.indent, .slice l.a1 p.rules.length l.c1, .slice l.a2 p.chunks.length l.c2, .slice l.a3 p.spans.length l.c3, .slice l.a4 p.ties.length l.c4], _, _, _] _ _
  obtain ⟨W0, hW0, X0, B0, S0⟩ := boxed w p l 29
  have qO := iOk_any p l W0 hF (hp.below B0 (Nat.le_refl _))
  unfold pcV at qO
  clear S0
  obtain ⟨-, c0, c1, c2, c3, c4⟩ := X0
  go_enter Try.func30, Try.ntmps30
  go_wp2
  rw [← hW0]
  clear hW0
  go_step3
  go_wp2_with fail
  refine qO.mono ?_
  rintro e w1 hq
  obtain ⟨rfl, b1⟩ := hq.no h1
  have B1 := B0.trans (b1.mono B0.size)
  have HB := hidOf (fk_in (B1.alloc B1.size (.cells #[] 3)) hrow)
  clear hq qO c0 c1 c2 c3 c4
  go_wp2
  rw [Exit.noGoto_ret]
  go_ret2
  exact ⟨_, _, _, _, rfl, by have := HB.out; rwa [fk_size] at this⟩

set_option maxHeartbeats 4000000 in
set_option maxRecDepth 20000 in
theorem iPops_any (p : Pc) (l : Pl) (wd bud : Int) (w : World) (hbd : -9223372036854775808 ≤ bud ∧ bud ≤ 9223372036854775807) (hF : PcFew p) (hcap : p.chunks.length ≤ l.c2) (hp : PcIn w p l) (n : Nat) (hn : (Right p ∧ n = popsOf p wd bud) ∨ (¬ Right p ∧ n = 0)) :
    Calls Try.prog 23 #[pcV p l, .int .i64 wd, .int .i64 bud] w fun e w' => NumAns n w e w' := by
  have qT : ∀ (pb : Nat) (W : World), Below w.heap.size w W → w.heap.size ≤ pb → pb < W.heap.size → W.heap[pb]? = some (.cells #[.int .i64 0] 3 (0, 0)) →
      Calls Try.prog 30 #[pcV p l, .int .i64 wd, .int .i64 bud, .func (.func 53) #[] #[.pointer (some ⟨pb, 0, none⟩)]] W fun e w' => TpAns pb n W e w' := by
    intro pb W hb hlo hpb hrow
    rcases hn with ⟨h1, rfl⟩ | ⟨h1, rfl⟩
    · refine iTp_yes p l wd bud pb W hbd hF hcap hpb hrow (fun k => hp.below ?_ (Nat.le_refl _)) h1
      exact hb.setCell hlo _
    · exact iTp_no p l wd bud pb W hF hrow (hp.below hb (Nat.le_refl _)) h1
  show Calls _ _ #[.agg #[.int .i64 p.indent, .slice l.a1 p.rules.length l.c1, .slice l.a2 p.chunks.length l.c2, .slice l.a3 p.spans.length l.c3, .slice l.a4 p.ties.length l.c4], _, _] _ _
  obtain ⟨W0, hW0, X0, B0, S0⟩ := boxed w p l 29
  unfold pcV at qT
  have hX : w.heap.size < W0.heap.size := by omega
  obtain ⟨W1, hW1⟩ : ∃ W1, W1 = W0.alloc (.cells #[.int .i64 0] 3) := ⟨_, rfl⟩
  have b1 : Below W0.heap.size W0 W1 := by rw [hW1]; exact (Below.refl _ _).alloc (Nat.le_refl _) _
  have R1 : W1.heap[w.heap.size + 1]? = some (.cells #[.int .i64 0] 3 (0, 0)) := by rw [hW1, ← S0]; exact heap_alloc_new W0 _
  have B1 : Below w.heap.size w W1 := B0.trans (b1.mono B0.size)
  have q := qT (w.heap.size + 1) W1 B1 (by omega) (Array.getElem?_eq_some_iff.1 R1).1 R1
  obtain ⟨-, c0, c1, c2, c3, c4⟩ := X0.below b1 hX
  have HR := hidOf R1
  clear hn qT S0 R1 hX
  go_enter Try.func23, Try.ntmps23
  go_upto_region 2 with fail
  rw [← hW0, ← hW1]
  clear hW0 hW1
  go_wp2_with fail
  refine q.mono ?_
  rintro e w2 ⟨a, m, c, s, rfl, hb2⟩
  have F2 : w2.heap[w.heap.size + 1]? = some (.cells #[.int .i64 n] 3 (0, 0)) := (hb2.block _ (Array.getElem?_eq_some_iff.1 HR.out).1).trans (fk_row n HR.out)
  have hl2 := (Array.getElem?_eq_some_iff.1 F2).1
  have f0 : w2.cell? ⟨w.heap.size + 1, 0, none⟩ = some (.int .i64 n) := cell_of_row w2 _ 0 _ _ _ F2
  have HB : Hid (Below w.heap.size w w2) := hidOf ((B1.setCell (by show w.heap.size ≤ w.heap.size + 1; omega) (.int .i64 n)).trans (hb2.mono B1.size))
  clear q c0 c1 c2 c3 c4 F2 hb2
  go_wp2
  go_ret
  exact ⟨rfl, HB.out⟩
/-- Both sides' answer, whatever comes. -/
theorem pops_key (p : Pc) (wd bud : Int) (hbd : -9223372036854775808 ≤ bud ∧ bud ≤ 9223372036854775807) (hF : PcFew p) : ∃ u : Int, (∀ (l : Pl) (W : World), PcIn W p l → Calls Try.prog 21 #[pcV p l, .int .i64 wd, .int .i64 bud] W fun e w' => NumAns u W e w') ∧ (∀ (l : Pl) (W : World), p.chunks.length ≤ l.c2 → PcIn W p l → Calls Try.prog 23 #[pcV p l, .int .i64 wd, .int .i64 bud] W fun e w' => NumAns u W e w') := by
  by_cases h1 : Right p
  · exact ⟨(popsOf p wd bud : Nat), fun l W hP => sPops_yes p l wd bud W hbd hF hP h1, fun l W hc hP => iPops_any p l wd bud W hbd hF hc hP _ (.inl ⟨h1, rfl⟩)⟩
  · exact ⟨0, fun l W hP => sPops_no p l wd bud W hF hP h1, fun l W hc hP => iPops_any p l wd bud W hbd hF hc hP 0 (.inr ⟨h1, rfl⟩)⟩
theorem lawPops (p : Pc) (l : Pl) (wd bud : Int) (w : World) (hbd : -9223372036854775808 ≤ bud ∧ bud ≤ 9223372036854775807) (hok : PcOk p) (hp : PcIn w p l) :
    Calls Try.prog 4 #[pcV p l, .int .i64 wd, .int .i64 bud] w fun e w' => e = .returned (.bool true) ∧ Below w.heap.size w w' := lawPops_of p l wd bud w hok hp (pops_key p wd bud hbd)
theorem wf_in {n : Int} (h : (Lit.int .i64 n).wf = true) : -9223372036854775808 ≤ n ∧ n ≤ 9223372036854775807 := by
  have h1 := h
  simp only [Lit.wf, Bool.and_eq_true, decide_eq_true_eq] at h1
  exact ⟨h1.1, h1.2⟩
end Go.Proofs.Ytghfpcjgionbaaa
