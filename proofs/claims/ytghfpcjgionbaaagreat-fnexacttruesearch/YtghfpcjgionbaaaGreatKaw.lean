/- The law on Search: two answers alike, the arguments as they were, and what is answered owns its memory. -/
import Derived.Test.YtghfpcjgionbaaaGreatKaa
import Derived.Test.YtghfpcjgionbaaaGreatKau
import Derived.Test.YtghfpcjgionbaaaGreatMkPc
import Derived.Test.YtghfpcjgionbaaaGreatTopPc
import Derived.Deep.RegionHeld3
import Derived.Test.YtghfpcjgionbaaaGreatProg
import Derived.Test.YtghfpcjgionbaaaGreatRowLib
import Derived.Deep.Slices
import Derived.ProofKit
import Derived.Test.YtghfpcjgionbaaaGreatPcLib
namespace Go.Proofs.YtghfpcjgionbaaaGreat
open Go.RowKit


set_option maxHeartbeats 8000000 in
theorem lawSearch (p : Pc) (l : Pl) (wd bud : Int) (w : World) (hbd : -9223372036854775808 ≤ bud ∧ bud ≤ 9223372036854775807) (hok : PcOk p) (hp : PcIn w p l) :
    Calls Tryz.prog 3 #[pcV p l, .int .i64 wd, .int .i64 bud] w fun e w' => e = .returned (.bool true) ∧ Below w.heap.size w w' := by
  show Calls _ _ #[.agg #[.int .i64 p.indent, .slice l.a1 p.rules.length l.c1, .slice l.a2 p.chunks.length l.c2, .slice l.a3 p.spans.length l.c3, .slice l.a4 p.ties.length l.c4], _, _] _ _
  have hbd1 := hbd.1
  have hbd2 := hbd.2
  go_enter Tryz.func3, Tryz.ntmps3
  go_wp2_with fail
  obtain ⟨W0, hW0, X0, B0, S0⟩ := boxed w p l 27
  rw [← hW0]
  have I0 := hp.below B0 (Nat.le_refl _)
  have hX : w.heap.size < W0.heap.size := by omega
  clear hW0 S0 hp
  refine (szPc_any p l _ hok I0).mono ?_
  rintro e w1 ⟨r, rfl, hr, A1⟩
  rcases hr with rfl | ⟨hr0, hF⟩
  · go_wp2
    go_ret
    exact ⟨rfl, B0.trans (A1.mono B0.size)⟩
  obtain ⟨-, c0, c1, c2, c3, c4⟩ := X0.below A1 hX
  go_wp2_with fail
  refine (toPc_any p l _ hF (I0.below A1 (Nat.le_refl _))).mono ?_
  rintro e w2 ⟨g1, g2, g3, g4, rfl, O2, hb2⟩
  have A2 := A1.trans (hb2.mono A1.size)
  clear c0 c1 c2 c3 c4
  obtain ⟨ks, s, hk8, qS, qI⟩ := search_key p wd bud hbd hF
  have hkl : ks.length ≤ 1048576 := by omega
  have hss : (s != s) = false := by simp
  clear hb2 hk8
  go_wp2_with fail
  refine (qS _ _ O2.is).mono ?_
  rintro e w3 ⟨hb3, a0, d0, rfl, ho0⟩
  have A3 := A2.trans (hb3.mono A2.size)
  dsimp only at ho0
  have L0 := hidOf (fun q h => (ho0.lt q h).2)
  clear O2 hb3
  obtain ⟨-, c0, c1, c2, c3, c4⟩ := X0.below A3 hX
  go_wp2_with fail
  refine (toPc_any p l _ hF (I0.below A3 (Nat.le_refl _))).mono ?_
  rintro e w4 ⟨k1, k2, k3, k4, rfl, O4, hb4⟩
  have A4 := A3.trans (hb4.mono A3.size)
  have ho0 := owns_below ho0 hb4
  clear hb4 c0 c1 c2 c3 c4
  go_wp2_with fail
  obtain ⟨W4, hW4, X4, hb5, S4⟩ := boxed w4 p (plOf p k1 k2 k3 k4) 37
  rw [← hW4]
  have A5 := A4.trans (hb5.mono A4.size)
  have O5 := O4.below hb5
  have ho0 := owns_below ho0 hb5
  have hX4 : w4.heap.size < W4.heap.size := by omega
  clear hW4
  refine (qI _ _ (Nat.le_refl _) O5.is).mono ?_
  rintro e w6 ⟨hb6, a1, d1, rfl, ho1⟩
  dsimp only at ho1
  have A6 := A5.trans (hb6.mono A5.size)
  have O6 := O5.below hb6
  have ho0 := owns_below ho0 hb6
  have E6 := hb6
  have L1 := hidOf (fun q h => (ho1.lt q h).1)
  clear hb6 O5 hb5
  go_wp2_with fail
  refine (eqInts_same a1 a0 d1 d0 ks _ (by omega) (.of_own ho1) (.of_own ho0)).mono ?_
  rintro e w7 ⟨rfl, hb7⟩
  have A7 := A6.trans (hb7.mono A6.size)
  have E7 := E6.trans (hb7.mono E6.size)
  have O7 := O6.below hb7
  have ho0 := owns_below ho0 hb7
  have ho1 := owns_below ho1 hb7
  clear hb7 O6 E6
  obtain ⟨-, c0, c1, c2, c3, c4⟩ := X0.below A7 hX
  obtain ⟨-, b0, b1', b2', b3, b4⟩ := X4.below E7 hX4
  have hz0 : w.heap.size < w7.heap.size := by have := A7.size; omega
  have hz4 : w4.heap.size < w7.heap.size := by have := E7.size; omega
  have Dr := (Below.refl w7.heap.size w7).drew
  have IA := (I0.below A7 (Nat.le_refl _)).below Dr (Nat.le_refl _)
  have IX := O7.is.below Dr (Nat.le_refl _)
  go_wp2
  go_region_held3 (fun W => (W.cell? ⟨w4.heap.size, 0, none⟩ = some (.int .i64 p.indent) ∧ W.cell? ⟨w4.heap.size, 1, none⟩ = some (.slice (some ⟨k1, 0, none⟩) p.rules.length p.rules.length) ∧ W.cell? ⟨w4.heap.size, 2, none⟩ = some (.slice (some ⟨k2, 0, none⟩) p.chunks.length p.chunks.length) ∧ W.cell? ⟨w4.heap.size, 3, none⟩ = some (.slice (some ⟨k3, 0, none⟩) p.spans.length p.spans.length) ∧ W.cell? ⟨w4.heap.size, 4, none⟩ = some (.slice (some ⟨k4, 0, none⟩) p.ties.length p.ties.length)) ∧ W.cell? ⟨w.heap.size, 0, none⟩ = some (.int .i64 p.indent) ∧ W.cell? ⟨w.heap.size, 1, none⟩ = some (.slice l.a1 p.rules.length l.c1) ∧ W.cell? ⟨w.heap.size, 2, none⟩ = some (.slice l.a2 p.chunks.length l.c2) ∧ W.cell? ⟨w.heap.size, 3, none⟩ = some (.slice l.a3 p.spans.length l.c3) ∧ W.cell? ⟨w.heap.size, 4, none⟩ = some (.slice l.a4 p.ties.length l.c4)) (first | trivial | go_keep)
    ((first
    | (go_at_call 8; refine (toPc_any p l _ hF IA).mono ?_; rintro e w8 ⟨m1, m2, m3, m4, rfl, O8, hb8⟩; have hc8 := bcelld hb8; have hz8 : w.heap.size < w8.heap.size := Nat.lt_of_lt_of_le hz0 hb8.size; have hy8 : w4.heap.size < w8.heap.size := Nat.lt_of_lt_of_le hz4 hb8.size)
    | (go_at_call 11; refine (eqPc_same p _ _ _ hF (IX.below hb8 (Nat.le_refl _)) O8.is).mono ?_; rintro e w9 ⟨rfl, hb9⟩; have hc9 := (bcell hb9).1)))
  have A8 := A7.drew.trans (hb8.mono A7.size)
  have A9 := A8.trans (hb9.mono A8.size)
  have E8 := E7.drew.trans (hb8.mono E7.size)
  have E9 := E8.trans (hb9.mono E8.size)
  have O9 := ((O7.below Dr).below hb8).below hb9
  have ho0 := owns_below (owns_below (owns_below ho0 Dr) hb8) hb9
  have ho1 := owns_below (owns_below (owns_below ho1 Dr) hb8) hb9
  clear c0 c1 c2 c3 c4 b0 b1' b2' b3 b4 hc8 hc9 hz0 hz4 hz8 hy8 IA IX hb8 hb9 O8 A8 E8 Dr E7 O7
  obtain ⟨-, b0, b1', b2', b3, b4⟩ := X4.below E9 hX4
  have j1 := O9.b1
  have j2 := O9.b2
  have j3 := O9.b3
  have j4 := O9.b4
  have j5 := (O4.ties.lt k4 rfl).2
  have j6 := A3.size
  go_wp2_with fail
  refine (markPc_any _ p k1 k2 k3 k4 _ hF O9).mono ?_
  rintro e w10 ⟨r10, hr10, rfl, T10⟩
  have A10 := T10.below A9 A9.size (by omega) (by omega) (by omega) (by omega)
  have ho0 := own_turned T10 ho0 (fun e => by have := L0.out _ e; omega) (fun e => by have := L0.out _ e; omega) (fun e => by have := L0.out _ e; omega) (fun e => by have := L0.out _ e; omega)
  have ho1 := own_turned T10 ho1 (fun e => by have := L1.out _ e; omega) (fun e => by have := L1.out _ e; omega) (fun e => by have := L1.out _ e; omega) (fun e => by have := L1.out _ e; omega)
  clear b0 b1' b2' b3 b4 T10 O9 O4 X4 E9 A9 A7
  go_wp2_with fail
  refine (eqInts_same a1 a0 d1 d0 ks _ (by omega) (.of_own ho1) (.of_own ho0)).mono ?_
  rintro e w11 ⟨rfl, hb11⟩
  have A11 := A10.trans (hb11.mono A10.size)
  have ho0 := owns_below ho0 hb11
  have ho1 := owns_below ho1 hb11
  have n01 : (Value.slice a0 ks.length d0).ownBlock = none ∨ (Value.slice a0 ks.length d0).ownBlock ≠ (Value.slice a1 ks.length d1).ownBlock := by
    cases hv : (Value.slice a0 ks.length d0).ownBlock with
    | none => exact .inl rfl
    | some q =>
      right
      intro he
      have h1 := L0.out q hv
      have h2 := L1.out q he.symm
      have := A4.size
      omega
  clear hb11 A10
  go_wp2_with fail
  refine (markInts_any a1 _ ks.length d1 1 _ _ hkl (by omega) ho1).mono ?_
  rintro e w12 ⟨rfl, ho1m, hg12⟩
  have A12 : Below W0.heap.size W0 w12 := A11.grown hg12 A11.size (fun k hk => by have := L1.out k hk; have := A4.size; omega)
  have ho0 := World.ownsRow.kept ho0 hg12 n01
  clear hg12 ho1 A11 n01
  go_wp2_with fail
  refine (heldInts_any a1 _ ks.length d1 1 _ hkl (by omega) ho1m).mono ?_
  rintro e w13 ⟨rfl, hb13⟩
  have A13 := A12.trans (hb13.mono A12.size)
  have ho0 := owns_below ho0 hb13
  have ho1 := owns_below ho1m hb13
  have hq : ((1 : Int) + (ks.length : Int) != 1 + (ks.length : Int)) = false := by simp
  clear hb13 ho1m A12
  obtain ⟨-, c0, c1, c2, c3, c4⟩ := X0.below A13 hX
  go_wp2_with fail
  refine (toPc_any p l _ hF (I0.below A13 (Nat.le_refl _))).mono ?_
  rintro e w14 ⟨y1, y2, y3, y4, rfl, O14, hb14⟩
  have A14 := A13.trans (hb14.mono A13.size)
  have ho0 := owns_below ho0 hb14
  have ho1 := owns_below ho1 hb14
  clear hb14 c0 c1 c2 c3 c4
  go_wp2_with fail
  refine (qI _ _ (Nat.le_refl _) O14.is).mono ?_
  rintro e w15 ⟨hb15, a2, d2, rfl, ho2⟩
  dsimp only at ho2
  have A15 := A14.trans (hb15.mono A14.size)
  have ho0 := owns_below ho0 hb15
  have ho1 := owns_below ho1 hb15
  clear hb15 O14
  go_wp2_with fail
  refine (eqInts_same a2 a0 d2 d0 ks _ (by omega) (.of_own ho2) (.of_own ho0)).mono ?_
  rintro e w16 ⟨rfl, hb16⟩
  have A16 := A15.trans (hb16.mono A15.size)
  have ho1 := owns_below ho1 hb16
  clear hb16 ho2 ho0
  go_wp2_with fail
  refine (heldInts_any a1 _ ks.length d1 1 _ hkl (by omega) ho1).mono ?_
  rintro e w17 ⟨rfl, hb17⟩
  go_wp2
  go_ret
  have A17 := A16.trans (hb17.mono A16.size)
  exact ⟨rfl, B0.trans (A17.mono B0.size)⟩
end Go.Proofs.YtghfpcjgionbaaaGreat
/- A list of flat structs that came in: what its cells hold, said once for all of them. -/
namespace Go.Proofs.YtghfpcjgionbaaaGreat
open Go.RowKit Go.Deep

theorem plain_addr {w : World} {a : Addr} {v : Value} (h : w.cell? a = some v) : ∃ b o, a = ⟨b, o, none⟩ ∧ b < w.heap.size := by
  obtain ⟨b, off, sp⟩ := a
  have hsp : sp = none := by
    cases sp with
    | none => rfl
    | some y =>
      rw [World.cell?] at h
      split at h <;> simp at h
  subst hsp
  refine ⟨b, off, rfl, ?_⟩
  rcases Nat.lt_or_ge b w.heap.size with h' | h'
  · exact h'
  · rw [World.cell?] at h
    simp [Array.getElem?_eq_none h'] at h
theorem add_plain (b o j : Nat) : (⟨b, o, none⟩ : Addr).add j = ⟨b, o + j, none⟩ := by unfold Addr.add; split <;> simp_all

theorem open_rows {α : Type} [Inhabited α] {s : Nat} {cells : α → List Value} {Q : α → Prop} (hs : ∀ x, (cells x).length = s) (hs0 : 0 < s) {H : Type} {enc : TypeId × Value → H} {w : World} {base : Nat} {spare : Nat → Bool} {held : Bool} {fuel : Nat} {cs : List Value} {x : DataW H × List MemPlace} {t e : TypeId}
    (ht : Tryz.prog.underlying t = some (.slice e)) (ce : Tryz.prog.cellsOf e = s)
    (one : ∀ (n : Nat) (cs' : List Value) (y : DataW H × List MemPlace), cs'.length = s → DataW.trod enc Tryz.prog w base spare held n e cs' = some y → ∃ q : α, Q q ∧ ∀ j, j < s → cs'[j]? = (cells q)[j]?)
    (h : DataW.trod enc Tryz.prog w base spare held fuel t cs = some x) :
    ∃ (a : Option Addr) (len cap : Nat) (xs : List α), cs = [.slice a len cap] ∧ len ≤ maxLen ∧ xs.length = len ∧ (∀ y ∈ xs, Q y) ∧ RowsAt s cells w a xs := by
  rcases open_slice ht h with h0 | ⟨a, len, cap, m, n, D, Pl, rfl, hb, hl, hm, hmm, rfl, hx⟩
  · exact ⟨none, 0, 0, [], h0.1, Nat.zero_le _, rfl, (fun y hy => by cases hy), rowsAt_nil⟩
  have hlm : len ≤ m := by rw [hmm]; split <;> omega
  have each : ∀ i, i < len → ∃ q : α, Q q ∧ ∀ j, j < s → w.cell? ((a.add (i * s)).add j) = (cells q)[j]? := by
    intro i hi
    obtain ⟨cs', h1, h2⟩ := hx i (by omega)
    rw [ce] at h1
    obtain ⟨_, hlen, hcell⟩ := World.cells?_some h1
    obtain ⟨q, hq, hc⟩ := one _ cs' _ hlen h2
    exact ⟨q, hq, fun j hj => by rw [hcell j hj]; exact hc j hj⟩
  obtain ⟨q, hq⟩ := choose_lt each
  refine ⟨some a, len, cap, (List.range len).map q, rfl, Nat.le_trans hl hm, by simp, ?_, fun hn => ?_⟩
  · intro y hy
    obtain ⟨i, hi, rfl⟩ := List.mem_map.1 hy
    exact (hq i (List.mem_range.1 hi)).1
  · have hn' : 0 < len := by simpa using hn
    have hc0 := (hq 0 hn').2 0 hs0
    rw [add_add] at hc0
    have e0 : a.add (0 * s + 0) = a := by simp [Addr.add]
    rw [e0] at hc0
    have h00 : 0 < (cells (q 0)).length := by rw [hs]; exact hs0
    rw [List.getElem?_eq_getElem h00] at hc0
    obtain ⟨b, o, rfl, hlt⟩ := plain_addr hc0
    refine ⟨b, o, rfl, hlt, fun k y hy j hj => ?_⟩
    have hk : k < len := by have := (List.getElem?_eq_some_iff.1 hy).1; simpa using this
    have hyk : q k = y := by simpa [List.getElem?_map, List.getElem?_range hk] using hy
    have hc := (hq k hk).2 j hj
    rw [hyk, add_add, add_plain, ← Nat.add_assoc] at hc
    exact hc
end Go.Proofs.YtghfpcjgionbaaaGreat
/- A piece of the laws' own that came in: what it holds. -/
namespace Go.Proofs.YtghfpcjgionbaaaGreat
open Go.RowKit Go.Deep

theorem ci : Tryz.prog.cellsOf 3 = 1 := by kernel_rfl
theorem cb : Tryz.prog.cellsOf 4 = 1 := by kernel_rfl
theorem cst : Tryz.prog.cellsOf 9 = 1 := by kernel_rfl
theorem csp : Tryz.prog.cellsOf 97 = 4 := by kernel_rfl
theorem c42 : Tryz.prog.cellsOf 22 = 1 := by kernel_rfl
theorem c43 : Tryz.prog.cellsOf 23 = 1 := by kernel_rfl
theorem c44 : Tryz.prog.cellsOf 24 = 1 := by kernel_rfl
theorem c45 : Tryz.prog.cellsOf 25 = 1 := by kernel_rfl

section
variable {H : Type} {enc : TypeId × Value → H} {w : World} {base : Nat} {spare : Nat → Bool} {held : Bool} {fuel : Nat} {cs : List Value} {x : DataW H × List MemPlace}

set_option maxRecDepth 100000 in
theorem open_rule (hl : cs.length = 2) (h : DataW.trod enc Tryz.prog w base spare held fuel 114 cs = some x) : ∃ q : Ru, True ∧ ∀ j, j < 2 → cs[j]? = (ruCells q)[j]? := by
  obtain ⟨xs, k, hk, hxy, _, hxl, hf⟩ := DataW.trod_struct Tryz.underlying114 h
  match xs, hxl, cs, hl with
  | [y0, y1], _, [v0, v1], _ =>
    have g0 := hf 0 _ rfl
    have g1 := hf 1 _ rfl
    simp [ci] at g0 g1
    obtain ⟨z0, e0, _⟩ := DataW.trod_int Tryz.underlying3 g0
    obtain ⟨z1, e1, _⟩ := DataW.trod_int Tryz.underlying3 g1
    refine ⟨⟨z0, z1⟩, trivial, fun j hj => ?_⟩
    match j, hj with
    | 0, _ => simpa [ruCells] using e0
    | 1, _ => simpa [ruCells] using e1

set_option maxRecDepth 100000 in
theorem open_tie (hl : cs.length = 2) (h : DataW.trod enc Tryz.prog w base spare held fuel 119 cs = some x) : ∃ q : Ti, True ∧ ∀ j, j < 2 → cs[j]? = (tiCells q)[j]? := by
  obtain ⟨xs, k, hk, hxy, _, hxl, hf⟩ := DataW.trod_struct Tryz.underlying119 h
  match xs, hxl, cs, hl with
  | [y0, y1], _, [v0, v1], _ =>
    have g0 := hf 0 _ rfl
    have g1 := hf 1 _ rfl
    simp [ci] at g0 g1
    obtain ⟨z0, e0, _⟩ := DataW.trod_int Tryz.underlying3 g0
    obtain ⟨z1, e1, _⟩ := DataW.trod_int Tryz.underlying3 g1
    refine ⟨⟨z0, z1⟩, trivial, fun j hj => ?_⟩
    match j, hj with
    | 0, _ => simpa [tiCells] using e0
    | 1, _ => simpa [tiCells] using e1

set_option maxRecDepth 100000 in
theorem open_span (hl : cs.length = 3) (h : DataW.trod enc Tryz.prog w base spare held fuel 117 cs = some x) : ∃ q : Sn, True ∧ ∀ j, j < 3 → cs[j]? = (snCells q)[j]? := by
  obtain ⟨xs, k, hk, hxy, _, hxl, hf⟩ := DataW.trod_struct Tryz.underlying117 h
  match xs, hxl, cs, hl with
  | [y0, y1, y2], _, [v0, v1, v2], _ =>
    have g0 := hf 0 _ rfl
    have g1 := hf 1 _ rfl
    have g2 := hf 2 _ rfl
    simp [ci] at g0 g1 g2
    obtain ⟨z0, e0, _⟩ := DataW.trod_int Tryz.underlying3 g0
    obtain ⟨z1, e1, _⟩ := DataW.trod_int Tryz.underlying3 g1
    obtain ⟨z2, e2, _⟩ := DataW.trod_int Tryz.underlying3 g2
    refine ⟨⟨z0, z1, z2⟩, trivial, fun j hj => ?_⟩
    match j, hj with
    | 0, _ => simpa [snCells] using e0
    | 1, _ => simpa [snCells] using e1
    | 2, _ => simpa [snCells] using e2

set_option maxRecDepth 100000 in
theorem open_chunk (hl : cs.length = 5) (h : DataW.trod enc Tryz.prog w base spare held fuel 99 cs = some x) : ∃ q : Ch, q.text.size ≤ maxLen ∧ ∀ j, j < 5 → cs[j]? = (chCells q)[j]? := by
  obtain ⟨xs, k, hk, hxy, _, hxl, hf⟩ := DataW.trod_struct Tryz.underlying99 h
  match xs, hxl, cs, hl with
  | [y0, y1], _, [v0, v1, v2, v3, v4], _ =>
    have g0 := hf 0 _ rfl
    have g1 := hf 1 _ rfl
    simp [cst, csp] at g0 g1
    obtain ⟨z0, e0, _, hsz⟩ := DataW.trod_string Tryz.underlying9 g0
    obtain ⟨zs, k2, hk2, hxy2, _, hzl, hf2⟩ := DataW.trod_struct Tryz.underlying97 g1
    match zs, hzl with
    | [u0, u1, u2, u3], _ =>
      have f0 := hf2 0 _ rfl
      have f1 := hf2 1 _ rfl
      have f2 := hf2 2 _ rfl
      have f3 := hf2 3 _ rfl
      simp [ci, cb] at f0 f1 f2 f3
      obtain ⟨z1, e1, _⟩ := DataW.trod_int Tryz.underlying3 f0
      obtain ⟨z2, e2, _⟩ := DataW.trod_int Tryz.underlying3 f1
      obtain ⟨z3, e3, _⟩ := DataW.trod_bool Tryz.underlying4 f2
      obtain ⟨z4, e4, _⟩ := DataW.trod_int Tryz.underlying3 f3
      refine ⟨⟨z0, z1, z2, z3, z4⟩, hsz, fun j hj => ?_⟩
      match j, hj with
      | 0, _ => simpa [chCells] using e0
      | 1, _ => simpa [chCells] using e1
      | 2, _ => simpa [chCells] using e2
      | 3, _ => simpa [chCells] using e3
      | 4, _ => simpa [chCells] using e4

set_option maxRecDepth 100000 in
theorem open_piece (hl : cs.length = 5) (h : DataW.trod enc Tryz.prog w base spare held fuel 27 cs = some x) : ∃ (p : Pc) (l : Pl), PcOk p ∧ PcIn w p l ∧ Value.agg cs.toArray = pcV p l := by
  obtain ⟨xs, k, hk, hxy, _, hxl, hf⟩ := DataW.trod_struct Tryz.underlying27 h
  match xs, hxl, cs, hl with
  | [y0, y1, y2, y3, y4], _, [v0, v1, v2, v3, v4], _ =>
    have g0 := hf 0 _ rfl
    have g1 := hf 1 _ rfl
    have g2 := hf 2 _ rfl
    have g3 := hf 3 _ rfl
    have g4 := hf 4 _ rfl
    simp [ci, c42, c43, c44, c45] at g0 g1 g2 g3 g4
    haveI : Inhabited Ru := ⟨⟨0, 0⟩⟩
    haveI : Inhabited Ti := ⟨⟨0, 0⟩⟩
    haveI : Inhabited Sn := ⟨⟨0, 0, 0⟩⟩
    haveI : Inhabited Ch := ⟨⟨ByteArray.empty, 0, 0, false, 0⟩⟩
    obtain ⟨z0, e0, _⟩ := DataW.trod_int Tryz.underlying3 g0
    obtain ⟨a1, n1, c1, x1, e1, l1, m1, -, r1⟩ := open_rows (Q := fun _ => True) ruCells_len (by omega) Tryz.underlying22 (by kernel_rfl) (fun n cs' y hl h => open_rule hl h) g1
    obtain ⟨a2, n2, c2, x2, e2, l2, m2, q2, r2⟩ := open_rows (Q := fun q : Ch => q.text.size ≤ maxLen) chCells_len (by omega) Tryz.underlying23 (by kernel_rfl) (fun n cs' y hl h => open_chunk hl h) g2
    obtain ⟨a3, n3, c3, x3, e3, l3, m3, -, r3⟩ := open_rows (Q := fun _ => True) snCells_len (by omega) Tryz.underlying24 (by kernel_rfl) (fun n cs' y hl h => open_span hl h) g3
    obtain ⟨a4, n4, c4, x4, e4, l4, m4, -, r4⟩ := open_rows (Q := fun _ => True) tiCells_len (by omega) Tryz.underlying25 (by kernel_rfl) (fun n cs' y hl h => open_tie hl h) g4
    subst m1 m2 m3 m4
    simp at e0 e1 e2 e3 e4
    subst e0 e1 e2 e3 e4
    unfold maxLen at *
    exact ⟨⟨z0, x1, x2, x3, x4⟩, ⟨a1, c1, a2, c2, a3, c3, a4, c4⟩, ⟨by show x1.length ≤ _; omega, by show x2.length ≤ _; omega, fun y hy => by have := q2 y hy; omega, by show x3.length ≤ _; omega, by show x4.length ≤ _; omega⟩, ⟨r1, r2, r3, r4⟩, rfl⟩
end
end Go.Proofs.YtghfpcjgionbaaaGreat
