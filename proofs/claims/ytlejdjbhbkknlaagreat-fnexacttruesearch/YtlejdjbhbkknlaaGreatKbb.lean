/- The law on TrueSearch: both answers alike, the arguments as they were. -/
import Derived.Test.YtlejdjbhbkknlaaGreatKba
import Derived.Test.YtlejdjbhbkknlaaGreatTsS
import Derived.Test.YtlejdjbhbkknlaaGreatKaz
import Derived.Deep.RegionHeld3
import Derived.Test.YtlejdjbhbkknlaaGreatProg
import Derived.Test.YtlejdjbhbkknlaaGreatRowLib
import Derived.Deep.Slices
import Derived.ProofKit
import Derived.Test.YtlejdjbhbkknlaaGreatPcLib
namespace Go.Proofs.YtlejdjbhbkknlaaGreat
open Go.RowKit

theorem wf_in {n : Int} (h : (Lit.int .i64 n).wf = true) : -9223372036854775808 ≤ n ∧ n ≤ 9223372036854775807 := by
  have h1 := h
  simp only [Lit.wf, Bool.and_eq_true, decide_eq_true_eq] at h1
  exact ⟨h1.1, h1.2⟩

set_option maxHeartbeats 8000000 in
theorem lawTrueSearch (p : Pc) (l : Pl) (wd bud : Int) (w : World) (hbd : -9223372036854775808 ≤ bud ∧ bud ≤ 9223372036854775807) (hok : PcOk p) (hp : PcIn w p l) :
    Calls Tryz.prog 3 #[pcV p l, .int .i64 wd, .int .i64 bud] w fun e w' => e = .returned (.bool true) ∧ Below w.heap.size w w' := by
  show Calls _ _ #[.agg #[.int .i64 p.indent, .slice l.a1 p.rules.length l.c1, .slice l.a2 p.chunks.length l.c2, .slice l.a3 p.spans.length l.c3, .slice l.a4 p.ties.length l.c4], _, _] _ _
  have hbd1 := hbd.1
  have hbd2 := hbd.2
  go_enter Tryz.func3, Tryz.ntmps3
  go_wp2_with fail
  obtain ⟨W0, hW0, X0, B0, S0⟩ := boxed w p l 27
  rw [← hW0]
  have I0 := hp.below B0 (Nat.le_refl _)
  have hX : w.heap.size < W0.heap.size := by omega
  clear hW0 S0 hp
  refine (szPc_any p l _ hok I0).mono ?_
  rintro e w1 ⟨r, rfl, hr, A1⟩
  rcases hr with rfl | ⟨hr0, hF⟩
  · go_wp2
    go_ret
    exact ⟨rfl, B0.trans (A1.mono B0.size)⟩
  obtain ⟨-, c0, c1, c2, c3, c4⟩ := X0.below A1 hX
  go_wp2_with fail
  refine (toPc_any p l _ hF (I0.below A1 (Nat.le_refl _))).mono ?_
  rintro e w2 ⟨g1, g2, g3, g4, rfl, O2, hb2⟩
  have A2 := A1.trans (hb2.mono A1.size)
  clear c0 c1 c2 c3 c4
  clear hb2
  go_wp2_with fail
  refine (sTrue_any p _ wd bud _ hbd hF O2.is).mono ?_
  rintro e w3 ⟨rfl, hb3⟩
  have A3 := A2.trans (hb3.mono A2.size)
  clear O2 hb3
  obtain ⟨-, c0, c1, c2, c3, c4⟩ := X0.below A3 hX
  go_wp2_with fail
  refine (toPc_any p l _ hF (I0.below A3 (Nat.le_refl _))).mono ?_
  rintro e w4 ⟨k1, k2, k3, k4, rfl, O4, hb4⟩
  have A4 := A3.trans (hb4.mono A3.size)
  clear hb4 c0 c1 c2 c3 c4
  go_wp2_with fail
  obtain ⟨W4, hW4, X4, hb5, S4⟩ := boxed w4 p (plOf p k1 k2 k3 k4) 35
  rw [← hW4]
  have A5 := A4.trans (hb5.mono A4.size)
  have O5 := O4.below hb5
  have hX4 : w4.heap.size < W4.heap.size := by omega
  clear hW4
  refine (iTrue_any p _ wd bud _ hbd hF (Nat.le_refl _) O5.is).mono ?_
  rintro e w7 ⟨rfl, hb6⟩
  have A7 := A5.trans (hb6.mono A5.size)
  have O7 := O5.below hb6
  have E7 := hb6
  clear hb6 O5 hb5
  obtain ⟨-, c0, c1, c2, c3, c4⟩ := X0.below A7 hX
  obtain ⟨-, b0, b1', b2', b3, b4⟩ := X4.below E7 hX4
  have hz0 : w.heap.size < w7.heap.size := by have := A7.size; omega
  have hz4 : w4.heap.size < w7.heap.size := by have := E7.size; omega
  have Dr := (Below.refl w7.heap.size w7).drew
  have IA := (I0.below A7 (Nat.le_refl _)).below Dr (Nat.le_refl _)
  have IX := O7.is.below Dr (Nat.le_refl _)
  go_wp2
  go_region_held3 (fun W => (W.cell? ⟨w4.heap.size, 0, none⟩ = some (.int .i64 p.indent) ∧ W.cell? ⟨w4.heap.size, 1, none⟩ = some (.slice (some ⟨k1, 0, none⟩) p.rules.length p.rules.length) ∧ W.cell? ⟨w4.heap.size, 2, none⟩ = some (.slice (some ⟨k2, 0, none⟩) p.chunks.length p.chunks.length) ∧ W.cell? ⟨w4.heap.size, 3, none⟩ = some (.slice (some ⟨k3, 0, none⟩) p.spans.length p.spans.length) ∧ W.cell? ⟨w4.heap.size, 4, none⟩ = some (.slice (some ⟨k4, 0, none⟩) p.ties.length p.ties.length)) ∧ W.cell? ⟨w.heap.size, 0, none⟩ = some (.int .i64 p.indent) ∧ W.cell? ⟨w.heap.size, 1, none⟩ = some (.slice l.a1 p.rules.length l.c1) ∧ W.cell? ⟨w.heap.size, 2, none⟩ = some (.slice l.a2 p.chunks.length l.c2) ∧ W.cell? ⟨w.heap.size, 3, none⟩ = some (.slice l.a3 p.spans.length l.c3) ∧ W.cell? ⟨w.heap.size, 4, none⟩ = some (.slice l.a4 p.ties.length l.c4)) (first | trivial | go_keep)
    ((first
    | (go_at_call 6; refine (toPc_any p l _ hF IA).mono ?_; rintro e w8 ⟨m1, m2, m3, m4, rfl, O8, hb8⟩; have hc8 := bcelld hb8; have hz8 : w.heap.size < w8.heap.size := Nat.lt_of_lt_of_le hz0 hb8.size; have hy8 : w4.heap.size < w8.heap.size := Nat.lt_of_lt_of_le hz4 hb8.size)
    | (go_at_call 8; refine (eqPc_same p _ _ _ hF (IX.below hb8 (Nat.le_refl _)) O8.is).mono ?_; rintro e w9 ⟨rfl, hb9⟩; have hc9 := (bcell hb9).1)))
  have A8 := A7.drew.trans (hb8.mono A7.size)
  have A9 := A8.trans (hb9.mono A8.size)
  go_wp2
  go_ret
  exact ⟨rfl, B0.trans (A9.mono B0.size)⟩
end Go.Proofs.YtlejdjbhbkknlaaGreat
/- A list of flat structs that came in: what its cells hold, said once for all of them. -/
namespace Go.Proofs.YtlejdjbhbkknlaaGreat
open Go.RowKit Go.Deep

theorem plain_addr {w : World} {a : Addr} {v : Value} (h : w.cell? a = some v) : ∃ b o, a = ⟨b, o, none⟩ ∧ b < w.heap.size := by
  obtain ⟨b, off, sp⟩ := a
  have hsp : sp = none := by
    cases sp with
    | none => rfl
    | some y =>
      rw [World.cell?] at h
      split at h <;> simp at h
  subst hsp
  refine ⟨b, off, rfl, ?_⟩
  rcases Nat.lt_or_ge b w.heap.size with h' | h'
  · exact h'
  · rw [World.cell?] at h
    simp [Array.getElem?_eq_none h'] at h
theorem add_plain (b o j : Nat) : (⟨b, o, none⟩ : Addr).add j = ⟨b, o + j, none⟩ := by unfold Addr.add; split <;> simp_all

theorem open_rows {α : Type} [Inhabited α] {s : Nat} {cells : α → List Value} {Q : α → Prop} (hs : ∀ x, (cells x).length = s) (hs0 : 0 < s) {H : Type} {enc : TypeId × Value → H} {w : World} {base : Nat} {spare : Nat → Bool} {held : Bool} {fuel : Nat} {cs : List Value} {x : DataW H × List MemPlace} {t e : TypeId}
    (ht : Tryz.prog.underlying t = some (.slice e)) (ce : Tryz.prog.cellsOf e = s)
    (one : ∀ (n : Nat) (cs' : List Value) (y : DataW H × List MemPlace), cs'.length = s → DataW.trod enc Tryz.prog w base spare held n e cs' = some y → ∃ q : α, Q q ∧ ∀ j, j < s → cs'[j]? = (cells q)[j]?)
    (h : DataW.trod enc Tryz.prog w base spare held fuel t cs = some x) :
    ∃ (a : Option Addr) (len cap : Nat) (xs : List α), cs = [.slice a len cap] ∧ len ≤ maxLen ∧ xs.length = len ∧ (∀ y ∈ xs, Q y) ∧ RowsAt s cells w a xs := by
  rcases open_slice ht h with h0 | ⟨a, len, cap, m, n, D, Pl, rfl, hb, hl, hm, hmm, rfl, hx⟩
  · exact ⟨none, 0, 0, [], h0.1, Nat.zero_le _, rfl, (fun y hy => by cases hy), rowsAt_nil⟩
  have hlm : len ≤ m := by rw [hmm]; split <;> omega
  have each : ∀ i, i < len → ∃ q : α, Q q ∧ ∀ j, j < s → w.cell? ((a.add (i * s)).add j) = (cells q)[j]? := by
    intro i hi
    obtain ⟨cs', h1, h2⟩ := hx i (by omega)
    rw [ce] at h1
    obtain ⟨_, hlen, hcell⟩ := World.cells?_some h1
    obtain ⟨q, hq, hc⟩ := one _ cs' _ hlen h2
    exact ⟨q, hq, fun j hj => by rw [hcell j hj]; exact hc j hj⟩
  obtain ⟨q, hq⟩ := choose_lt each
  refine ⟨some a, len, cap, (List.range len).map q, rfl, Nat.le_trans hl hm, by simp, ?_, fun hn => ?_⟩
  · intro y hy
    obtain ⟨i, hi, rfl⟩ := List.mem_map.1 hy
    exact (hq i (List.mem_range.1 hi)).1
  · have hn' : 0 < len := by simpa using hn
    have hc0 := (hq 0 hn').2 0 hs0
    rw [add_add] at hc0
    have e0 : a.add (0 * s + 0) = a := by simp [Addr.add]
    rw [e0] at hc0
    have h00 : 0 < (cells (q 0)).length := by rw [hs]; exact hs0
    rw [List.getElem?_eq_getElem h00] at hc0
    obtain ⟨b, o, rfl, hlt⟩ := plain_addr hc0
    refine ⟨b, o, rfl, hlt, fun k y hy j hj => ?_⟩
    have hk : k < len := by have := (List.getElem?_eq_some_iff.1 hy).1; simpa using this
    have hyk : q k = y := by simpa [List.getElem?_map, List.getElem?_range hk] using hy
    have hc := (hq k hk).2 j hj
    rw [hyk, add_add, add_plain, ← Nat.add_assoc] at hc
    exact hc
end Go.Proofs.YtlejdjbhbkknlaaGreat
/- A piece of the laws' own that came in: what it holds. -/
namespace Go.Proofs.YtlejdjbhbkknlaaGreat
open Go.RowKit Go.Deep

theorem ci : Tryz.prog.cellsOf 3 = 1 := by kernel_rfl
theorem cb : Tryz.prog.cellsOf 4 = 1 := by kernel_rfl
theorem cst : Tryz.prog.cellsOf 9 = 1 := by kernel_rfl
theorem csp : Tryz.prog.cellsOf 70 = 4 := by kernel_rfl
theorem c42 : Tryz.prog.cellsOf 22 = 1 := by kernel_rfl
theorem c43 : Tryz.prog.cellsOf 23 = 1 := by kernel_rfl
theorem c44 : Tryz.prog.cellsOf 24 = 1 := by kernel_rfl
theorem c45 : Tryz.prog.cellsOf 25 = 1 := by kernel_rfl

section
variable {H : Type} {enc : TypeId × Value → H} {w : World} {base : Nat} {spare : Nat → Bool} {held : Bool} {fuel : Nat} {cs : List Value} {x : DataW H × List MemPlace}

set_option maxRecDepth 100000 in
theorem open_rule (hl : cs.length = 2) (h : DataW.trod enc Tryz.prog w base spare held fuel 87 cs = some x) : ∃ q : Ru, True ∧ ∀ j, j < 2 → cs[j]? = (ruCells q)[j]? := by
  obtain ⟨xs, k, hk, hxy, _, hxl, hf⟩ := DataW.trod_struct Tryz.underlying87 h
  match xs, hxl, cs, hl with
  | [y0, y1], _, [v0, v1], _ =>
    have g0 := hf 0 _ rfl
    have g1 := hf 1 _ rfl
    simp [ci] at g0 g1
    obtain ⟨z0, e0, _⟩ := DataW.trod_int Tryz.underlying3 g0
    obtain ⟨z1, e1, _⟩ := DataW.trod_int Tryz.underlying3 g1
    refine ⟨⟨z0, z1⟩, trivial, fun j hj => ?_⟩
    match j, hj with
    | 0, _ => simpa [ruCells] using e0
    | 1, _ => simpa [ruCells] using e1

set_option maxRecDepth 100000 in
theorem open_tie (hl : cs.length = 2) (h : DataW.trod enc Tryz.prog w base spare held fuel 97 cs = some x) : ∃ q : Ti, True ∧ ∀ j, j < 2 → cs[j]? = (tiCells q)[j]? := by
  obtain ⟨xs, k, hk, hxy, _, hxl, hf⟩ := DataW.trod_struct Tryz.underlying97 h
  match xs, hxl, cs, hl with
  | [y0, y1], _, [v0, v1], _ =>
    have g0 := hf 0 _ rfl
    have g1 := hf 1 _ rfl
    simp [ci] at g0 g1
    obtain ⟨z0, e0, _⟩ := DataW.trod_int Tryz.underlying3 g0
    obtain ⟨z1, e1, _⟩ := DataW.trod_int Tryz.underlying3 g1
    refine ⟨⟨z0, z1⟩, trivial, fun j hj => ?_⟩
    match j, hj with
    | 0, _ => simpa [tiCells] using e0
    | 1, _ => simpa [tiCells] using e1

set_option maxRecDepth 100000 in
theorem open_span (hl : cs.length = 3) (h : DataW.trod enc Tryz.prog w base spare held fuel 95 cs = some x) : ∃ q : Sn, True ∧ ∀ j, j < 3 → cs[j]? = (snCells q)[j]? := by
  obtain ⟨xs, k, hk, hxy, _, hxl, hf⟩ := DataW.trod_struct Tryz.underlying95 h
  match xs, hxl, cs, hl with
  | [y0, y1, y2], _, [v0, v1, v2], _ =>
    have g0 := hf 0 _ rfl
    have g1 := hf 1 _ rfl
    have g2 := hf 2 _ rfl
    simp [ci] at g0 g1 g2
    obtain ⟨z0, e0, _⟩ := DataW.trod_int Tryz.underlying3 g0
    obtain ⟨z1, e1, _⟩ := DataW.trod_int Tryz.underlying3 g1
    obtain ⟨z2, e2, _⟩ := DataW.trod_int Tryz.underlying3 g2
    refine ⟨⟨z0, z1, z2⟩, trivial, fun j hj => ?_⟩
    match j, hj with
    | 0, _ => simpa [snCells] using e0
    | 1, _ => simpa [snCells] using e1
    | 2, _ => simpa [snCells] using e2

set_option maxRecDepth 100000 in
theorem open_chunk (hl : cs.length = 5) (h : DataW.trod enc Tryz.prog w base spare held fuel 72 cs = some x) : ∃ q : Ch, q.text.size ≤ maxLen ∧ ∀ j, j < 5 → cs[j]? = (chCells q)[j]? := by
  obtain ⟨xs, k, hk, hxy, _, hxl, hf⟩ := DataW.trod_struct Tryz.underlying72 h
  match xs, hxl, cs, hl with
  | [y0, y1], _, [v0, v1, v2, v3, v4], _ =>
    have g0 := hf 0 _ rfl
    have g1 := hf 1 _ rfl
    simp [cst, csp] at g0 g1
    obtain ⟨z0, e0, _, hsz⟩ := DataW.trod_string Tryz.underlying9 g0
    obtain ⟨zs, k2, hk2, hxy2, _, hzl, hf2⟩ := DataW.trod_struct Tryz.underlying70 g1
    match zs, hzl with
    | [u0, u1, u2, u3], _ =>
      have f0 := hf2 0 _ rfl
      have f1 := hf2 1 _ rfl
      have f2 := hf2 2 _ rfl
      have f3 := hf2 3 _ rfl
      simp [ci, cb] at f0 f1 f2 f3
      obtain ⟨z1, e1, _⟩ := DataW.trod_int Tryz.underlying3 f0
      obtain ⟨z2, e2, _⟩ := DataW.trod_int Tryz.underlying3 f1
      obtain ⟨z3, e3, _⟩ := DataW.trod_bool Tryz.underlying4 f2
      obtain ⟨z4, e4, _⟩ := DataW.trod_int Tryz.underlying3 f3
      refine ⟨⟨z0, z1, z2, z3, z4⟩, hsz, fun j hj => ?_⟩
      match j, hj with
      | 0, _ => simpa [chCells] using e0
      | 1, _ => simpa [chCells] using e1
      | 2, _ => simpa [chCells] using e2
      | 3, _ => simpa [chCells] using e3
      | 4, _ => simpa [chCells] using e4

set_option maxRecDepth 100000 in
theorem open_piece (hl : cs.length = 5) (h : DataW.trod enc Tryz.prog w base spare held fuel 27 cs = some x) : ∃ (p : Pc) (l : Pl), PcOk p ∧ PcIn w p l ∧ Value.agg cs.toArray = pcV p l := by
  obtain ⟨xs, k, hk, hxy, _, hxl, hf⟩ := DataW.trod_struct Tryz.underlying27 h
  match xs, hxl, cs, hl with
  | [y0, y1, y2, y3, y4], _, [v0, v1, v2, v3, v4], _ =>
    have g0 := hf 0 _ rfl
    have g1 := hf 1 _ rfl
    have g2 := hf 2 _ rfl
    have g3 := hf 3 _ rfl
    have g4 := hf 4 _ rfl
    simp [ci, c42, c43, c44, c45] at g0 g1 g2 g3 g4
    haveI : Inhabited Ru := ⟨⟨0, 0⟩⟩
    haveI : Inhabited Ti := ⟨⟨0, 0⟩⟩
    haveI : Inhabited Sn := ⟨⟨0, 0, 0⟩⟩
    haveI : Inhabited Ch := ⟨⟨ByteArray.empty, 0, 0, false, 0⟩⟩
    obtain ⟨z0, e0, _⟩ := DataW.trod_int Tryz.underlying3 g0
    obtain ⟨a1, n1, c1, x1, e1, l1, m1, -, r1⟩ := open_rows (Q := fun _ => True) ruCells_len (by omega) Tryz.underlying22 (by kernel_rfl) (fun n cs' y hl h => open_rule hl h) g1
    obtain ⟨a2, n2, c2, x2, e2, l2, m2, q2, r2⟩ := open_rows (Q := fun q : Ch => q.text.size ≤ maxLen) chCells_len (by omega) Tryz.underlying23 (by kernel_rfl) (fun n cs' y hl h => open_chunk hl h) g2
    obtain ⟨a3, n3, c3, x3, e3, l3, m3, -, r3⟩ := open_rows (Q := fun _ => True) snCells_len (by omega) Tryz.underlying24 (by kernel_rfl) (fun n cs' y hl h => open_span hl h) g3
    obtain ⟨a4, n4, c4, x4, e4, l4, m4, -, r4⟩ := open_rows (Q := fun _ => True) tiCells_len (by omega) Tryz.underlying25 (by kernel_rfl) (fun n cs' y hl h => open_tie hl h) g4
    subst m1 m2 m3 m4
    simp at e0 e1 e2 e3 e4
    subst e0 e1 e2 e3 e4
    unfold maxLen at *
    exact ⟨⟨z0, x1, x2, x3, x4⟩, ⟨a1, c1, a2, c2, a3, c3, a4, c4⟩, ⟨by show x1.length ≤ _; omega, by show x2.length ≤ _; omega, fun y hy => by have := q2 y hy; omega, by show x3.length ≤ _; omega, by show x4.length ≤ _; omega⟩, ⟨r1, r2, r3, r4⟩, rfl⟩
end
end Go.Proofs.YtlejdjbhbkknlaaGreat
