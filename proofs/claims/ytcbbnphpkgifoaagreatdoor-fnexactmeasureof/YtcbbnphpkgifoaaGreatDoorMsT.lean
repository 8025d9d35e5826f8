/- What spec.MeasureOf answers: the walk. -/
import Derived.Test.YtcbbnphpkgifoaaGreatDoorKap
import Derived.Test.YtcbbnphpkgifoaaGreatDoorKaz
import Derived.Deep.CutBlock
namespace Go.Proofs.YtcbbnphpkgifoaaGreatDoor
open Go.RowKit
set_option maxHeartbeats 8000000
set_option maxRecDepth 100000
theorem arr89 (t : Array Value) (h : t.size = 89) : ∃ x0 x1 x2 x3 x4 x5 x6 x7 x8 x9 x10 x11 x12 x13 x14 x15 x16 x17 x18 x19 x20 x21 x22 x23 x24 x25 x26 x27 x28 x29 x30 x31 x32 x33 x34 x35 x36 x37 x38 x39 x40 x41 x42 x43 x44 x45 x46 x47 x48 x49 x50 x51 x52 x53 x54 x55 x56 x57 x58 x59 x60 x61 x62 x63 x64 x65 x66 x67 x68 x69 x70 x71 x72 x73 x74 x75 x76 x77 x78 x79 x80 x81 x82 x83 x84 x85 x86 x87 x88, t = #[x0, x1, x2, x3, x4, x5, x6, x7, x8, x9, x10, x11, x12, x13, x14, x15, x16, x17, x18, x19, x20, x21, x22, x23, x24, x25, x26, x27, x28, x29, x30, x31, x32, x33, x34, x35, x36, x37, x38, x39, x40, x41, x42, x43, x44, x45, x46, x47, x48, x49, x50, x51, x52, x53, x54, x55, x56, x57, x58, x59, x60, x61, x62, x63, x64, x65, x66, x67, x68, x69, x70, x71, x72, x73, x74, x75, x76, x77, x78, x79, x80, x81, x82, x83, x84, x85, x86, x87, x88] := by
 obtain ⟨l⟩ := t
 match l, h with
 | x0 :: x1 :: x2 :: x3 :: x4 :: x5 :: x6 :: x7 :: x8 :: x9 :: x10 :: x11 :: x12 :: x13 :: x14 :: x15 :: x16 :: x17 :: x18 :: x19 :: x20 :: x21 :: x22 :: x23 :: x24 :: x25 :: x26 :: x27 :: x28 :: x29 :: x30 :: x31 :: x32 :: x33 :: x34 :: x35 :: x36 :: x37 :: x38 :: x39 :: x40 :: x41 :: x42 :: x43 :: x44 :: x45 :: x46 :: x47 :: x48 :: x49 :: x50 :: x51 :: x52 :: x53 :: x54 :: x55 :: x56 :: x57 :: x58 :: x59 :: x60 :: x61 :: x62 :: x63 :: x64 :: x65 :: x66 :: x67 :: x68 :: x69 :: x70 :: x71 :: x72 :: x73 :: x74 :: x75 :: x76 :: x77 :: x78 :: x79 :: x80 :: x81 :: x82 :: x83 :: x84 :: x85 :: x86 :: x87 :: x88 :: [], _ => exact ⟨_, _, _, _, _, _, _, _, _, _, _, _, _, _, _, _, _, _, _, _, _, _, _, _, _, _, _, _, _, _, _, _, _, _, _, _, _, _, _, _, _, _, _, _, _, _, _, _, _, _, _, _, _, _, _, _, _, _, _, _, _, _, _, _, _, _, _, _, _, _, _, _, _, _, _, _, _, _, _, _, _, _, _, _, _, _, _, _, _, rfl⟩
structure Mw (w1 : World) (bp : Nat) (wr : World) (a b c d : Int) (s n : Nat) : Prop where
 row : wr.heap[bp]? = some (.cells #[.int .i64 a, .int .i64 b, .int .i64 c, .int .i64 s, .int .i64 d, .int .i64 n] 28 (0, 0))
 low : w1.heap.size ≤ bp
 bel : Below w1.heap.size w1 wr
section
variable {w1 wr : World} {bp : Nat} {a b c d : Int} {s n : Nat}
theorem Mw.lt (h : Mw w1 bp wr a b c d s n) : bp < wr.heap.size := (Array.getElem?_eq_some_iff.1 h.row).1
theorem Mw.cells (h : Mw w1 bp wr a b c d s n) : wr.cell? ⟨bp, 0, none⟩ = some (.int .i64 a) ∧ wr.cell? ⟨bp, 1, none⟩ = some (.int .i64 b) ∧ wr.cell? ⟨bp, 2, none⟩ = some (.int .i64 c) ∧ wr.cell? ⟨bp, 3, none⟩ = some (.int .i64 s) ∧ wr.cell? ⟨bp, 4, none⟩ = some (.int .i64 d) ∧ wr.cell? ⟨bp, 5, none⟩ = some (.int .i64 n) :=
 ⟨cell_of_row _ bp 0 _ _ _ h.row, cell_of_row _ bp 1 _ _ _ h.row, cell_of_row _ bp 2 _ _ _ h.row, cell_of_row _ bp 3 _ _ _ h.row, cell_of_row _ bp 4 _ _ _ h.row, cell_of_row _ bp 5 _ _ _ h.row⟩
theorem Mw.frozen (h : Mw w1 bp wr a b c d s n) (j : Nat) : wr.frozen? ⟨bp, j, none⟩ = false := frozen_of_row _ bp j _ _ h.row
theorem Mw.more (h : Mw w1 bp wr a b c d s n) (v : Nat) (e : v = n + 1) : Mw w1 bp (wr.setCell ⟨bp, 5, none⟩ (.int .i64 v)) a b c d s (n + 1) := by
 subst e
 exact ⟨heap_setCell_same wr bp 5 _ _ (.int .i64 ((n + 1 : Nat) : Int)) h.row, h.low, h.bel.setCell h.low _⟩
theorem Mw.step (h : Mw w1 bp wr a b c d s n) (v : Nat) (e : v = s + 1) : Mw w1 bp (wr.setCell ⟨bp, 3, none⟩ (.int .i64 v)) a b c d (s + 1) n := by
 subst e
 exact ⟨heap_setCell_same wr bp 3 _ _ (.int .i64 ((s + 1 : Nat) : Int)) h.row, h.low, h.bel.setCell h.low _⟩
end
def putMs (X : World) (bp : Nat) (a b c s d n : Int) : World := (((((X.setCell ⟨bp, 0, none⟩ (.int .i64 a)).setCell ⟨bp, 1, none⟩ (.int .i64 b)).setCell ⟨bp, 2, none⟩ (.int .i64 c)).setCell ⟨bp, 3, none⟩ (.int .i64 s)).setCell ⟨bp, 4, none⟩ (.int .i64 d)).setCell ⟨bp, 5, none⟩ (.int .i64 n)
theorem putMs_row {X : World} {bp : Nat} {cs : Array Value} (h : X.heap[bp]? = some (.cells cs 28 (0, 0))) (h6 : cs.size = 6) (a b c s d n : Int) : (putMs X bp a b c s d n).heap[bp]? = some (.cells #[.int .i64 a, .int .i64 b, .int .i64 c, .int .i64 s, .int .i64 d, .int .i64 n] 28 (0, 0)) := by
 obtain ⟨x0, x1, x2, x3, x4, x5, rfl⟩ : ∃ x0 x1 x2 x3 x4 x5, cs = #[x0, x1, x2, x3, x4, x5] := by
  obtain ⟨l⟩ := cs
  match l, h6 with
  | x0 :: x1 :: x2 :: x3 :: x4 :: x5 :: [], _ => exact ⟨_, _, _, _, _, _, rfl⟩
 exact heap_setCell_same _ bp 5 _ _ _ (heap_setCell_same _ bp 4 _ _ _ (heap_setCell_same _ bp 3 _ _ _ (heap_setCell_same _ bp 2 _ _ _ (heap_setCell_same _ bp 1 _ _ _ (heap_setCell_same X bp 0 _ _ _ h)))))
theorem putMs_other (X : World) {bp k : Nat} (a b c s d n : Int) (hk : k ≠ bp) : (putMs X bp a b c s d n).heap[k]? = X.heap[k]? := by
 unfold putMs
 rw [heap_setCell_other _ _ k _ hk, heap_setCell_other _ _ k _ hk, heap_setCell_other _ _ k _ hk, heap_setCell_other _ _ k _ hk, heap_setCell_other _ _ k _ hk, heap_setCell_other _ _ k _ hk]
theorem putMs_bel {w1 X : World} {bp : Nat} (h : Below w1.heap.size w1 X) (hl : w1.heap.size ≤ bp) (a b c s d n : Int) : Below w1.heap.size w1 (putMs X bp a b c s d n) :=
 (((((h.setCell hl _).setCell hl _).setCell hl _).setCell hl _).setCell hl _).setCell hl _
def mtPost (t : ByteArray) (B g m nc : Nat) (a b : Int) (kl : Nat) (ka : Option Addr) (kc : Nat) (ns : List Nd) : Nat → Value → Value → World → Prop
 | 0 => fun v _ _ => v = .string t
 | 1 => fun v _ _ => ∃ (la : Option Addr) (n lc : Nat), v = .slice la n lc ∧ (n : Int) = a
 | 2 => fun v _ _ => v = .int .i64 a
 | 3 => fun v _ _ => v = .string t
 | 4 => fun v _ _ => v = .int .i64 b
 | 5 => fun v _ _ => v = .slice (some ⟨g, 0, none⟩) (m + 1) nc
 | 6 => fun v _ _ => v = .slice (some ⟨g, 0, none⟩) (m + 1) nc
 | 7 => fun v _ _ => v = .int .i64 ((m : Int) + 1)
 | 8 => fun v _ _ => v = .int .i64 m
 | 9 => fun v _ _ => v = .pointer (some ⟨g, m * 4, none⟩)
 | 10 => fun v _ _ => v = .pointer (some ⟨g, m * 4 + 2, none⟩)
 | 11 => fun v _ _ => v = .slice ka kl kc
 | 12 => fun v _ _ => v = .int .i64 kl
 | 13 => fun v _ _ => v = .slice (some ⟨g, 0, none⟩) (m + 1) nc
 | 14 => fun v _ _ => v = .slice (some ⟨g, 0, none⟩) (m + 1) nc
 | 15 => fun v _ _ => v = .int .i64 ((m : Int) + 1)
 | 16 => fun v _ _ => v = .int .i64 m
 | 17 => fun v _ _ => ∃ d : Int, v = .int .i64 d ∧ Hid (DeepV ns d)
 | 18 => fun v _ _ => ∃ d : Int, v = .agg #[.int .i64 a, .int .i64 b, .int .i64 kl, .int .i64 0, .int .i64 d, .int .i64 0] ∧ Hid (DeepV ns d)
 | 19 => fun v _ X => ∃ bp : Nat, v = .pointer (some ⟨bp, 0, none⟩) ∧ B ≤ bp ∧ ∃ cs : Array Value, cs.size = 6 ∧ X.heap[bp]? = some (.cells cs 28 (0, 0))
 | 20 => fun _ u X => ∃ (bp : Nat) (d : Int), u = .pointer (some ⟨bp, 0, none⟩) ∧ B ≤ bp ∧ X.heap[bp]? = some (.cells #[.int .i64 a, .int .i64 b, .int .i64 kl, .int .i64 0, .int .i64 d, .int .i64 0] 28 (0, 0)) ∧ Hid (DeepV ns d)
 | _ => fun _ _ _ => True
theorem mtPost_stab (t : ByteArray) (B g m nc : Nat) (a b : Int) (kl : Nat) (ka : Option Addr) (kc : Nat) (ns : List Nd) : ∀ k v x (X X' : World), mtPost t B g m nc a b kl ka kc ns k v x X → Below X.heap.size X X' → mtPost t B g m nc a b kl ka kc ns k v x X'
 | 0, _, _, _, _, h, _ => h
 | 1, _, _, _, _, h, _ => h
 | 2, _, _, _, _, h, _ => h
 | 3, _, _, _, _, h, _ => h
 | 4, _, _, _, _, h, _ => h
 | 5, _, _, _, _, h, _ => h
 | 6, _, _, _, _, h, _ => h
 | 7, _, _, _, _, h, _ => h
 | 8, _, _, _, _, h, _ => h
 | 9, _, _, _, _, h, _ => h
 | 10, _, _, _, _, h, _ => h
 | 11, _, _, _, _, h, _ => h
 | 12, _, _, _, _, h, _ => h
 | 13, _, _, _, _, h, _ => h
 | 14, _, _, _, _, h, _ => h
 | 15, _, _, _, _, h, _ => h
 | 16, _, _, _, _, h, _ => h
 | 17, _, _, _, _, h, _ => h
 | 18, _, _, _, _, h, _ => h
 | 19, _, _, _, _, ⟨bp, h1, h2, cs, h3, h4⟩, hb => ⟨bp, h1, h2, cs, h3, (hb.block bp (Array.getElem?_eq_some_iff.1 h4).1).trans h4⟩
 | 20, _, _, _, _, ⟨bp, d, h1, h2, h3, h4⟩, hb => ⟨bp, d, h1, h2, (hb.block bp (Array.getElem?_eq_some_iff.1 h3).1).trans h3, h4⟩
 | _ + 21, _, _, _, _, _, _ => trivial
theorem mtPost_mute (t : ByteArray) (B g m nc : Nat) (a b : Int) (kl : Nat) (ka : Option Addr) (kc : Nat) (ns : List Nd) : ∀ k u x y X, k ∉ [20] → mtPost t B g m nc a b kl ka kc ns k u x X → mtPost t B g m nc a b kl ka kc ns k u y X
 | 0, _, _, _, _, _, h => h
 | 1, _, _, _, _, _, h => h
 | 2, _, _, _, _, _, h => h
 | 3, _, _, _, _, _, h => h
 | 4, _, _, _, _, _, h => h
 | 5, _, _, _, _, _, h => h
 | 6, _, _, _, _, _, h => h
 | 7, _, _, _, _, _, h => h
 | 8, _, _, _, _, _, h => h
 | 9, _, _, _, _, _, h => h
 | 10, _, _, _, _, _, h => h
 | 11, _, _, _, _, _, h => h
 | 12, _, _, _, _, _, h => h
 | 13, _, _, _, _, _, h => h
 | 14, _, _, _, _, _, h => h
 | 15, _, _, _, _, _, h => h
 | 16, _, _, _, _, _, h => h
 | 17, _, _, _, _, _, h => h
 | 18, _, _, _, _, _, h => h
 | 19, _, _, _, _, _, h => h
 | 20, _, _, _, _, h, _ => absurd (List.mem_singleton.2 rfl) h
 | _ + 21, _, _, _, _, _, _ => trivial
theorem mtPost_store (t : ByteArray) (B g m nc : Nat) (a b : Int) (kl : Nat) (ka : Option Addr) (kc : Nat) (ns : List Nd) {X X2 : World} {bp : Nat} {d : Int} (hrow : X2.heap[bp]? = some (.cells #[.int .i64 a, .int .i64 b, .int .i64 kl, .int .i64 0, .int .i64 d, .int .i64 0] 28 (0, 0))) (hoth : ∀ k, k ≠ bp → X2.heap[k]? = X.heap[k]?) (hlo : B ≤ bp) (hd : Hid (DeepV ns d)) : ∀ k v, mtPost t B g m nc a b kl ka kc ns k v (.pointer (some ⟨bp, 0, none⟩)) X → mtPost t B g m nc a b kl ka kc ns k v (.pointer (some ⟨bp, 0, none⟩)) X2
 | 0, _, h => h
 | 1, _, h => h
 | 2, _, h => h
 | 3, _, h => h
 | 4, _, h => h
 | 5, _, h => h
 | 6, _, h => h
 | 7, _, h => h
 | 8, _, h => h
 | 9, _, h => h
 | 10, _, h => h
 | 11, _, h => h
 | 12, _, h => h
 | 13, _, h => h
 | 14, _, h => h
 | 15, _, h => h
 | 16, _, h => h
 | 17, _, h => h
 | 18, _, h => h
 | 19, _, ⟨bq, h1, h2, cq, h3, h4⟩ => by
  by_cases e : bq = bp
  ·exact ⟨bq, h1, h2, _, rfl, by rw [e]; exact hrow⟩
  ·exact ⟨bq, h1, h2, cq, h3, (hoth bq e).trans h4⟩
 | 20, _, _ => ⟨bp, d, rfl, hlo, hrow, hd⟩
 | _ + 21, _, _ => trivial
theorem sMeas_any (t : ByteArray) (w : World) (hs : t.size ≤ 4194304) : Calls Tryz.prog 19 #[.string t] w fun e w' => MsAns t w e w' := by
 obtain ⟨W0, hW0⟩ : ∃ W0, W0 = w.alloc (.cells #[.int .i64 0, .int .i64 0, .int .i64 0, .int .i64 0, .int .i64 0, .int .i64 0] 28) := ⟨_, rfl⟩
 have B0 : Below w.heap.size w W0 := by rw [hW0]; exact (Below.refl _ _).alloc (Nat.le_refl _) _
 have F0 : W0.heap[w.heap.size]? = some (.cells #[.int .i64 0, .int .i64 0, .int .i64 0, .int .i64 0, .int .i64 0, .int .i64 0] 28 (0, 0)) := by rw [hW0]; exact heap_alloc_new w _
 have z0 : w.heap.size < W0.heap.size := by rw [hW0]; simp
 have qR := sRead_any t W0 hs
 go_enter Tryz.func19, Tryz.ntmps19
 go_wp2_with fail
 rw [← hW0]
 clear hW0
 refine qR.mono ?_
 clear qR
 rintro e w1 ⟨na, nc, qs, pl, b, rfl, hN, hb1, hR, hq, -⟩
 have F1 := (hb1.block w.heap.size z0).trans F0
 have B1 := B0.trans (hb1.mono B0.size)
 have z1 : w.heap.size < w1.heap.size := Nat.lt_of_lt_of_le z0 hb1.size
 clear F0 B0 hb1 z0
 cases b with
 | false =>
  have r0 := cell_of_row _ w.heap.size 0 _ _ _ F1
  have r1 := cell_of_row _ w.heap.size 1 _ _ _ F1
  have r2 := cell_of_row _ w.heap.size 2 _ _ _ F1
  have r3 := cell_of_row _ w.heap.size 3 _ _ _ F1
  have r4 := cell_of_row _ w.heap.size 4 _ _ _ F1
  have r5 := cell_of_row _ w.heap.size 5 _ _ _ F1
  have y0 := frozen_of_row _ w.heap.size 0 _ _ F1
  have y1 := frozen_of_row _ w.heap.size 1 _ _ F1
  have y2 := frozen_of_row _ w.heap.size 2 _ _ F1
  have y3 := frozen_of_row _ w.heap.size 3 _ _ F1
  have y4 := frozen_of_row _ w.heap.size 4 _ _ F1
  have y5 := frozen_of_row _ w.heap.size 5 _ _ F1
  have HF := hidOf F1
  have HR := hidOf hR
  clear F1 hR hq hN
  go_wp2
  have R0 := heap_setCell_same w1 w.heap.size 0 _ _ (.int .i64 0) HF.out
  have R1 := heap_setCell_same _ w.heap.size 1 _ _ (.int .i64 0) R0
  have R2 := heap_setCell_same _ w.heap.size 2 _ _ (.int .i64 0) R1
  have R3 := heap_setCell_same _ w.heap.size 3 _ _ (.int .i64 0) R2
  have R4 := heap_setCell_same _ w.heap.size 4 _ _ (.int .i64 0) R3
  have R5 := heap_setCell_same _ w.heap.size 5 _ _ (.int .i64 0) R4
  refine bodyPost_ret (results_one6 rfl _ _ w.heap.size (.int .i64 0) (.int .i64 0) (.int .i64 0) (.int .i64 0) (.int .i64 0) (.int .i64 0) _ rfl (by simpa using R5) Tryz.underlying28 rfl infoMs) rfl ?_
  exact ⟨0, 0, 0, 0, 0, 0, rfl, .inr ⟨(fun h => by have := HR.out.2 h; cases this), rfl, rfl, rfl, rfl, rfl, rfl⟩, (((((B1.setCell (Nat.le_refl _) _).setCell (Nat.le_refl _) _).setCell (Nat.le_refl _) _).setCell (Nat.le_refl _) _).setCell (Nat.le_refl _) _).setCell (Nat.le_refl _) _⟩
 | true =>
  have hOk := hR.1 rfl
  have hq := hq rfl
  have hTS : TreeP (nodesOf t) ∧ ∀ x ∈ nodesOf t, SafeNd x := by
   obtain ⟨_, k, s, hf, hT⟩ := hOk
   rw [nodesOf_yes hf]
   exact ⟨hT, fun x hx => iv_file (sgs_of t) k s hf x hx⟩
  have HOk := hidOf hOk
  obtain ⟨ns, hns⟩ : ∃ ns, ns = nodesOf t := ⟨_, rfl⟩
  have HNS := hidOf hns
  rw [← hns] at hq hTS
  have hl : qs.length = ns.length := by rw [← hq, List.length_map]
  have hleast := hTS.1.least
  have hmost := hTS.1.most
  obtain ⟨g, rfl, hg, hC⟩ := nds_c hN (by omega)
  rw [hq] at hC
  have hDp : ∀ W, Below w1.heap.size w1 W → Calls Tryz.prog 53 #[.slice (some ⟨g, 0, none⟩) ns.length nc, .int .i64 ((ns.length - 1 : Nat) : Int)] W fun e w' => ∃ d : Int, e = .returned (.int .i64 d) ∧ Hid (DeepV ns d) ∧ Below W.heap.size W w' := fun W hb => by
   have q := sDeepV (k := ns.length - 1) (hN.below hb) (fun q hqm => hTS.2 q.nd (by rw [← hq]; exact List.mem_map_of_mem hqm)) (by omega) (by omega) (by rw [hq, show ns.length - 1 + 1 = ns.length by omega]; exact hTS.1.deep)
   rw [hl, hq, show ns.length - 1 + 1 = ns.length by omega] at q
   refine q.mono ?_
   rintro e w' ⟨d, he, ⟨es, n, h1, h2, h3⟩, hb'⟩
   exact ⟨d, he, hidOf ⟨es, n, h1, h2, h3⟩, hb'⟩
  obtain ⟨x, hx, hk22⟩ := hTS.1.last
  obtain ⟨m, hm⟩ : ∃ m, ns.length = m + 1 := ⟨ns.length - 1, by omega⟩
  have hm3 : m ≤ 299 := by omega
  rw [show ns.length - 1 = m by omega] at hx hDp
  rw [hl]
  rw [hm] at hDp ⊢
  obtain ⟨ka, kc, -, q2, -⟩ := hC m x hx
  have HLast := hidOf (show lastK ns = x.kids.length by unfold lastK; rw [show ns.length - 1 = m by omega, hx])
  have HK := hidOf (msK hTS.1)
  have HX := hidOf hx
  obtain ⟨kl, hkl⟩ : ∃ kl, kl = x.kids.length := ⟨_, rfl⟩
  rw [← hkl] at q2 HLast
  have HL := hidOf (fun W => sLines_any t W hs)
  have HWd := hidOf (fun W => sWide_any t W hs)
  obtain ⟨wd, hwd⟩ : ∃ wd : Int, wd = (widest (lns t) : Int) := ⟨_, rfl⟩
  rw [← hwd] at HWd
  have HWD := hidOf hwd
  obtain ⟨la, hla⟩ : ∃ la : Int, la = ((lns t).length : Int) := ⟨_, rfl⟩
  have HLA := hidOf hla
  have HDp := hidOf hDp
  have HC := hidOf hC
  have HM := hidOf hm
  have hA : (0 : Int) ≤ (m : Int) := by omega
  have hws : IntKind.i64.wrap (m : Int) = (m : Int) := IntWalk.i64_in _ ⟨by omega, by omega⟩
  have hB : (m : Int) < (m : Int) + 1 := by omega
  have HF1 := hidOf F1
  have HB1 := hidOf B1
  have hdr : Below w1.heap.size w1 w1.drew := (Below.refl _ _).drew
  clear hDp hC hN hq hR hOk F1 B1 hns hTS hl hleast hmost hx hm hkl hk22 hwd hla
  go_upto_region 4 with fail
  refine wp_region_slot (by kernel_rfl) 6 19 [20] (fun X => Below w1.heap.size w1 X) (fun X X' => Below X.heap.size X X') (mtPost t w1.heap.size g m nc la wd kl ka kc ns) hdr (by kernel_rfl) ⟨_, rfl, rfl⟩ (by kernel_rfl) (mtPost_mute t w1.heap.size g m nc la wd kl ka kc ns) (fun k v x X X' h _ hb => mtPost_stab t w1.heap.size g m nc la wd kl ka kc ns k v x X X' h hb) ?_ ?_
  case refine_1 =>
   intro kk oo hk aa X hI hsz hfix hdep
   match kk, hk with
   | 0, hk =>
    cases hk
    refine .inl ⟨wanted_none rfl, fun K hK => ?_⟩
    have e0 : aa.tmps.getD 0 undef = .string t := hfix 0 (by kernel_rfl)
    refine wp_value (v := .string t) (w' := X) ?_ (hK _ _ (by simp) hI (.inl (Below.refl _ _)) rfl)
    clear hfix hdep hK hk hsz hI
    go_simp
   | 1, hk =>
    cases hk
    refine .inl ⟨wanted_none rfl, fun K hK => ?_⟩
    have e18 : aa.tmps.getD 18 undef = .string t := hdep 0 _ rfl (by kernel_rfl)
    refine wp_calls 14 #[.string t] ?_ (HL.out X) ?_
    ·clear hfix hdep hK hk hsz
     go_simp
     try rfl
    ·rintro e X2 ⟨A, v, rfl, ho⟩
     obtain ⟨aa2, lc2, rfl⟩ := owns_slice ho
     exact ⟨_, rfl, hK _ _ (by simp) (hI.trans (A.mono hI.size)) (.inl A) ⟨aa2, _, lc2, rfl, HLA.out.symm⟩⟩
   | 2, hk =>
    cases hk
    refine .inl ⟨wanted_none rfl, fun K hK => ?_⟩
    obtain ⟨aa2, n2, lc2, e19, en⟩ : ∃ (la2 : Option Addr) (n lc : Nat), aa.tmps.getD 19 undef = .slice la2 n lc ∧ (n : Int) = la := hdep 1 _ rfl (by kernel_rfl)
    refine wp_value (v := .int .i64 la) (w' := X) ?_ (hK _ _ (by simp) hI (.inl (Below.refl _ _)) rfl)
    clear hfix hdep hK hk hsz hI
    go_simp
   | 3, hk =>
    cases hk
    refine .inl ⟨wanted_none rfl, fun K hK => ?_⟩
    have e0 : aa.tmps.getD 0 undef = .string t := hfix 0 (by kernel_rfl)
    refine wp_value (v := .string t) (w' := X) ?_ (hK _ _ (by simp) hI (.inl (Below.refl _ _)) rfl)
    clear hfix hdep hK hk hsz hI
    go_simp
   | 4, hk =>
    cases hk
    refine .inl ⟨wanted_none rfl, fun K hK => ?_⟩
    have e21 : aa.tmps.getD 21 undef = .string t := hdep 3 _ rfl (by kernel_rfl)
    refine wp_calls 15 #[.string t] ?_ (HWd.out X) ?_
    ·clear hfix hdep hK hk hsz
     go_simp
     try rfl
    ·rintro e X2 ⟨rfl, A⟩
     exact ⟨_, rfl, hK _ _ (by simp) (hI.trans (A.mono hI.size)) (.inl A) rfl⟩
   | 5, hk =>
    cases hk
    refine .inl ⟨wanted_none rfl, fun K hK => ?_⟩
    have e3 : aa.tmps.getD 3 undef = .slice (some ⟨g, 0, none⟩) (m + 1) nc := hfix 3 (by kernel_rfl)
    refine wp_value (v := .slice (some ⟨g, 0, none⟩) (m + 1) nc) (w' := X) ?_ (hK _ _ (by simp) hI (.inl (Below.refl _ _)) rfl)
    clear hfix hdep hK hk hsz hI
    go_simp
   | 6, hk =>
    cases hk
    refine .inl ⟨wanted_none rfl, fun K hK => ?_⟩
    have e3 : aa.tmps.getD 3 undef = .slice (some ⟨g, 0, none⟩) (m + 1) nc := hfix 3 (by kernel_rfl)
    refine wp_value (v := .slice (some ⟨g, 0, none⟩) (m + 1) nc) (w' := X) ?_ (hK _ _ (by simp) hI (.inl (Below.refl _ _)) rfl)
    clear hfix hdep hK hk hsz hI
    go_simp
   | 7, hk =>
    cases hk
    refine .inl ⟨wanted_none rfl, fun K hK => ?_⟩
    have e24 : aa.tmps.getD 24 undef = .slice (some ⟨g, 0, none⟩) (m + 1) nc := hdep 6 _ rfl (by kernel_rfl)
    refine wp_value (v := .int .i64 ((m : Int) + 1)) (w' := X) ?_ (hK _ _ (by simp) hI (.inl (Below.refl _ _)) rfl)
    clear hfix hdep hK hk hsz hI
    go_simp
   | 8, hk =>
    cases hk
    refine .inl ⟨wanted_none rfl, fun K hK => ?_⟩
    have e25 : aa.tmps.getD 25 undef = .int .i64 ((m : Int) + 1) := hdep 7 _ rfl (by kernel_rfl)
    refine wp_value (v := .int .i64 m) (w' := X) ?_ (hK _ _ (by simp) hI (.inl (Below.refl _ _)) rfl)
    clear hfix hdep hK hk hsz hI
    go_simp
   | 9, hk =>
    cases hk
    refine .inl ⟨wanted_none rfl, fun K hK => ?_⟩
    have e23 : aa.tmps.getD 23 undef = .slice (some ⟨g, 0, none⟩) (m + 1) nc := hdep 5 _ rfl (by kernel_rfl)
    have e26 : aa.tmps.getD 26 undef = .int .i64 m := hdep 8 _ rfl (by kernel_rfl)
    refine wp_value (v := .pointer (some ⟨g, m * 4, none⟩)) (w' := X) ?_ (hK _ _ (by simp) hI (.inl (Below.refl _ _)) rfl)
    clear hfix hdep hK hk hsz hI
    go_simp
   | 10, hk =>
    cases hk
    refine .inl ⟨wanted_none rfl, fun K hK => ?_⟩
    have e27 : aa.tmps.getD 27 undef = .pointer (some ⟨g, m * 4, none⟩) := hdep 9 _ rfl (by kernel_rfl)
    refine wp_value (v := .pointer (some ⟨g, m * 4 + 2, none⟩)) (w' := X) ?_ (hK _ _ (by simp) hI (.inl (Below.refl _ _)) rfl)
    clear hfix hdep hK hk hsz hI
    go_simp
   | 11, hk =>
    cases hk
    refine .inl ⟨wanted_none rfl, fun K hK => ?_⟩
    have e28 : aa.tmps.getD 28 undef = .pointer (some ⟨g, m * 4 + 2, none⟩) := hdep 10 _ rfl (by kernel_rfl)
    have cc := (hI.cell (p := ⟨g, m * 4 + 2, none⟩) hg).trans q2
    refine wp_value (v := .slice ka kl kc) (w' := X) ?_ (hK _ _ (by simp) hI (.inl (Below.refl _ _)) rfl)
    clear hfix hdep hK hk hsz hI
    go_simp
   | 12, hk =>
    cases hk
    refine .inl ⟨wanted_none rfl, fun K hK => ?_⟩
    have e29 : aa.tmps.getD 29 undef = .slice ka kl kc := hdep 11 _ rfl (by kernel_rfl)
    refine wp_value (v := .int .i64 kl) (w' := X) ?_ (hK _ _ (by simp) hI (.inl (Below.refl _ _)) rfl)
    clear hfix hdep hK hk hsz hI
    go_simp
   | 13, hk =>
    cases hk
    refine .inl ⟨wanted_none rfl, fun K hK => ?_⟩
    have e3 : aa.tmps.getD 3 undef = .slice (some ⟨g, 0, none⟩) (m + 1) nc := hfix 3 (by kernel_rfl)
    refine wp_value (v := .slice (some ⟨g, 0, none⟩) (m + 1) nc) (w' := X) ?_ (hK _ _ (by simp) hI (.inl (Below.refl _ _)) rfl)
    clear hfix hdep hK hk hsz hI
    go_simp
   | 14, hk =>
    cases hk
    refine .inl ⟨wanted_none rfl, fun K hK => ?_⟩
    have e3 : aa.tmps.getD 3 undef = .slice (some ⟨g, 0, none⟩) (m + 1) nc := hfix 3 (by kernel_rfl)
    refine wp_value (v := .slice (some ⟨g, 0, none⟩) (m + 1) nc) (w' := X) ?_ (hK _ _ (by simp) hI (.inl (Below.refl _ _)) rfl)
    clear hfix hdep hK hk hsz hI
    go_simp
   | 15, hk =>
    cases hk
    refine .inl ⟨wanted_none rfl, fun K hK => ?_⟩
    have e32 : aa.tmps.getD 32 undef = .slice (some ⟨g, 0, none⟩) (m + 1) nc := hdep 14 _ rfl (by kernel_rfl)
    refine wp_value (v := .int .i64 ((m : Int) + 1)) (w' := X) ?_ (hK _ _ (by simp) hI (.inl (Below.refl _ _)) rfl)
    clear hfix hdep hK hk hsz hI
    go_simp
   | 16, hk =>
    cases hk
    refine .inl ⟨wanted_none rfl, fun K hK => ?_⟩
    have e33 : aa.tmps.getD 33 undef = .int .i64 ((m : Int) + 1) := hdep 15 _ rfl (by kernel_rfl)
    refine wp_value (v := .int .i64 m) (w' := X) ?_ (hK _ _ (by simp) hI (.inl (Below.refl _ _)) rfl)
    clear hfix hdep hK hk hsz hI
    go_simp
   | 17, hk =>
    cases hk
    refine .inl ⟨wanted_none rfl, fun K hK => ?_⟩
    have e31 : aa.tmps.getD 31 undef = .slice (some ⟨g, 0, none⟩) (m + 1) nc := hdep 13 _ rfl (by kernel_rfl)
    have e34 : aa.tmps.getD 34 undef = .int .i64 m := hdep 16 _ rfl (by kernel_rfl)
    refine wp_calls 53 #[.slice (some ⟨g, 0, none⟩) (m + 1) nc, .int .i64 m] ?_ (HDp.out X hI) ?_
    ·clear hfix hdep hK hk hsz
     go_simp
     try rfl
    ·rintro e X2 ⟨d, rfl, hd, A⟩
     exact ⟨_, rfl, hK _ _ (by simp) (hI.trans (A.mono hI.size)) (.inl A) ⟨d, rfl, hd⟩⟩
   | 18, hk =>
    cases hk
    refine .inl ⟨wanted_none rfl, fun K hK => ?_⟩
    have e20 : aa.tmps.getD 20 undef = .int .i64 la := hdep 2 _ rfl (by kernel_rfl)
    have e22 : aa.tmps.getD 22 undef = .int .i64 wd := hdep 4 _ rfl (by kernel_rfl)
    have e30 : aa.tmps.getD 30 undef = .int .i64 kl := hdep 12 _ rfl (by kernel_rfl)
    obtain ⟨d, e35, hd⟩ : ∃ d : Int, aa.tmps.getD 35 undef = .int .i64 d ∧ Hid (DeepV ns d) := hdep 17 _ rfl (by kernel_rfl)
    rw [Array.getD_eq_getD_getElem?] at e20 e22 e30 e35
    refine wp_value (v := .agg #[.int .i64 la, .int .i64 wd, .int .i64 kl, .int .i64 0, .int .i64 d, .int .i64 0]) (w' := X) ?_ (hK _ _ (by simp) hI (.inl (Below.refl _ _)) ⟨d, rfl, hd⟩)
    clear hfix hdep hK hk hsz hI
    go_simp
   | 19, hk =>
    cases hk
    refine .inl ⟨wanted_none rfl, fun K hK => ?_⟩
    refine wp_value (v := .pointer (some ⟨X.heap.size, 0, none⟩)) (w' := X.alloc (.cells #[.int .i64 0, .int .i64 0, .int .i64 0, .int .i64 0, .int .i64 0, .int .i64 0] 28)) ?_ (hK _ _ (by simp) (hI.alloc hI.size _) (.inl ((Below.refl _ _).alloc (Nat.le_refl _) _)) ⟨X.heap.size, rfl, hI.size, _, rfl, heap_alloc_new X _⟩)
    clear hfix hdep hK hk hsz hI
    go_simp
   | 20, hk =>
    cases hk
    refine .inl ⟨wanted_none rfl, fun K hK => ?_⟩
    obtain ⟨d, e36, hd⟩ : ∃ d : Int, aa.tmps.getD 36 undef = .agg #[.int .i64 la, .int .i64 wd, .int .i64 kl, .int .i64 0, .int .i64 d, .int .i64 0] ∧ Hid (DeepV ns d) := hdep 18 _ rfl (by kernel_rfl)
    obtain ⟨bp, e6, hlo, cs, hc6, hr⟩ : ∃ bp : Nat, aa.tmps.getD 6 undef = .pointer (some ⟨bp, 0, none⟩) ∧ w1.heap.size ≤ bp ∧ ∃ cs : Array Value, cs.size = 6 ∧ X.heap[bp]? = some (.cells cs 28 (0, 0)) := hdep 19 _ rfl (by kernel_rfl)
    have hrow := putMs_row hr hc6 la wd kl 0 d 0
    have hst := mtPost_store t w1.heap.size g m nc la wd kl ka kc ns hrow (fun k hk => putMs_other X la wd kl 0 d 0 hk) hlo hd
    refine wp_skip (w' := putMs X bp la wd kl 0 d 0) ?_ (hK _ _ (fun _ => rfl) (putMs_bel hI hlo _ _ _ _ _ _) (.inr (by rw [e6]; exact hst)) ⟨bp, d, e6, hlo, hrow, hd⟩)
    have r0 := cell_of_row X _ 0 _ _ _ hr
    have r1 := cell_of_row X _ 1 _ _ _ hr
    have r2 := cell_of_row X _ 2 _ _ _ hr
    have r3 := cell_of_row X _ 3 _ _ _ hr
    have r4 := cell_of_row X _ 4 _ _ _ hr
    have r5 := cell_of_row X _ 5 _ _ _ hr
    have rf0 := frozen_of_row X _ 0 _ _ hr
    have rf1 := frozen_of_row X _ 1 _ _ hr
    have rf2 := frozen_of_row X _ 2 _ _ hr
    have rf3 := frozen_of_row X _ 3 _ _ hr
    have rf4 := frozen_of_row X _ 4 _ _ hr
    have rf5 := frozen_of_row X _ 5 _ _ hr
    rw [Array.getElem?_eq_getElem (by omega)] at r0 r1 r2 r3 r4 r5
    clear hfix hdep hK hk hsz hI hst hrow hr
    unfold putMs
    go_simp
   | k + 21, hk => cases hk
  case refine_2 =>
   intro aa X hI hd hsz hfix hpost
   have e2 : aa.tmps.getD 2 undef = .pointer (some ⟨w.heap.size, 0, none⟩) := hfix 2 (by kernel_rfl)
   have e3 : aa.tmps.getD 3 undef = .slice (some ⟨g, 0, none⟩) (m + 1) nc := hfix 3 (by kernel_rfl)
   obtain ⟨bp, d, e6, hlo, hrow, hdv⟩ : ∃ (bp : Nat) (d : Int), aa.tmps.getD 6 undef = .pointer (some ⟨bp, 0, none⟩) ∧ w1.heap.size ≤ bp ∧ X.heap[bp]? = some (.cells #[.int .i64 la, .int .i64 wd, .int .i64 kl, .int .i64 0, .int .i64 d, .int .i64 0] 28 (0, 0)) ∧ Hid (DeepV ns d) := hpost 20 _ rfl
   have HW0 := hidOf (show Mw w1 bp X la wd kl d 0 0 from ⟨hrow, hlo, hI⟩)
   clear hfix hpost hrow hI
   obtain ⟨tm, df⟩ := aa
   obtain ⟨x0, x1, x2, x3, x4, x5, x6, x7, x8, x9, x10, x11, x12, x13, x14, x15, x16, x17, x18, x19, x20, x21, x22, x23, x24, x25, x26, x27, x28, x29, x30, x31, x32, x33, x34, x35, x36, x37, x38, x39, x40, x41, x42, x43, x44, x45, x46, x47, x48, x49, x50, x51, x52, x53, x54, x55, x56, x57, x58, x59, x60, x61, x62, x63, x64, x65, x66, x67, x68, x69, x70, x71, x72, x73, x74, x75, x76, x77, x78, x79, x80, x81, x82, x83, x84, x85, x86, x87, x88, rfl⟩ := arr89 tm hsz
   have hdf : df = [] := hd
   subst hdf
   have f2 : x2 = .pointer (some ⟨w.heap.size, 0, none⟩) := e2
   have f3 : x3 = .slice (some ⟨g, 0, none⟩) (m + 1) nc := e3
   have f6 : x6 = .pointer (some ⟨bp, 0, none⟩) := e6
   subst f2 f3 f6
   clear e2 e3 e6 hsz hd
   go_wp2
   go_loopw [7] (fun v wr => ∃ i : Nat, v = .int .i64 i ∧ i ≤ m + 1 ∧ Hid (Mw w1 bp wr la wd kl d (stepN ns (ns.take i)) (noteN (ns.take i)))) (fun v _ => m + 1 - (intOf v).toNat)
   case atStart => exact ⟨0, rfl, Nat.zero_le _, HW0⟩
   case round =>
    clear HW0
    obtain ⟨i, rfl, hi, HW⟩ := hrel
    have hsn := stepN_le ns (ns.take i) (fun y hy => by
     obtain ⟨j, hj⟩ := List.getElem?_of_mem (List.mem_of_mem_take hy)
     have := (HK.out j y hj).1
     omega)
    have hnn := noteN_le (ns.take i)
    rw [List.length_take] at hsn hnn
    by_cases hlt : i < m + 1
    ·obtain ⟨y, hy⟩ : ∃ y, ns[i]? = some y := ⟨_, List.getElem?_eq_getElem (by have := HM.out; omega)⟩
     obtain ⟨ya, yc, p0, p2, pk⟩ := HC.out i y hy
     obtain ⟨hy12, hyk⟩ := HK.out i y hy
     have HY := hidOf hy
     have HSN := hidOf (stepN_at (ns := ns) hy)
     have HNN := hidOf (noteN_at hy)
     have M := HW.out
     have hbl := M.bel.size
     have c0 := (M.bel.cell (p := ⟨g, i * 4, none⟩) hg).trans p0
     have p00 := p0
     obtain ⟨s, hs0⟩ : ∃ s, s = stepN ns (ns.take i) := ⟨_, rfl⟩
     obtain ⟨n, hn0⟩ : ∃ n, n = noteN (ns.take i) := ⟨_, rfl⟩
     rw [← hs0] at M HSN hsn
     rw [← hn0] at M HNN hnn
     have HYK := hidOf hyk
     have HPK := hidOf pk
     have hiA : (0 : Int) ≤ (i : Int) := by omega
     have hiB : (i : Int) < (m : Int) + 1 := by omega
     have HP2 := hidOf p2
     have HC0 := hidOf p0
     clear hy hs0 hn0 hyk pk HW p0 p2 p00
     obtain ⟨-, -, -, k3, -, k5⟩ := M.cells
     have z3 := M.frozen 3
     have z5 := M.frozen 5
     have hbl2 := M.lt
     have HNX2 := hidOf (show i + 1 ≤ m + 1 by omega)
     by_cases h18 : y.kind = 18
     ·have HE18 := hidOf h18
      have hb19 : (y.kind == 19) = false := by rw [beq_eq_false_iff_ne]; omega
      have hb18 : (y.kind == 18) = true := by rw [beq_iff_eq]; exact h18
      have HN2 := hidOf (show noteN (ns.take (i + 1)) = n by rw [HNN.out, if_neg (by omega), Nat.add_zero])
      have HS2 := hidOf (show stepN ns (ns.take (i + 1)) = s + stepK ns y.kids by rw [HSN.out, if_pos h18])
      obtain ⟨yk, hyk0⟩ : ∃ yk, yk = y.kind := ⟨_, rfl⟩
      rw [← hyk0] at c0 hb18 hb19
      have HYE := hidOf hyk0
      have HM0 := hidOf M
      clear hyk0 h18 M
      go_wp2
      go_loopw [8] (fun v wr' => ∃ (k s' : Nat), v = .int .i64 k ∧ k ≤ y.kids.length ∧ s' ≤ s + k ∧ Hid (s' = s + stepK ns (y.kids.take k)) ∧ Hid (Mw w1 bp wr' la wd kl d s' n)) (fun v _ => y.kids.length - (intOf v).toNat)
      case atStart => exact ⟨0, s, rfl, Nat.zero_le _, Nat.le_refl _, hidOf rfl, HM0⟩
      case round =>
       clear k3 k5 z3 z5 hbl2 c0 HM0 hbl
       obtain ⟨k, s', rfl, hk, hs', HSK, HW⟩ := hrel
       have M := HW.out
       have hbl := M.bel.size
       have c0 := (M.bel.cell (p := ⟨g, i * 4, none⟩) hg).trans HC0.out
       have c2 := (M.bel.cell (p := ⟨g, i * 4 + 2, none⟩) hg).trans HP2.out
       rw [← HYE.out] at c0
       obtain ⟨-, -, -, k3, -, k5⟩ := M.cells
       have z3 := M.frozen 3
       have hbl2 := M.lt
       by_cases hkl : k < y.kids.length
       ·have hkA : (0 : Int) ≤ (k : Int) := by omega
        have hkB : (k : Int) < (y.kids.length : Int) := by omega
        obtain ⟨z, hz⟩ : ∃ z, y.kids[k]? = some z := ⟨_, List.getElem?_eq_getElem hkl⟩
        obtain ⟨kz, yy, rfl, hkz, hyy, hkd, -⟩ := HYK.out k z hz
        obtain ⟨kb, off, rfl, hkbl, hck⟩ := HPK.out (by omega)
        obtain ⟨ya2, yc2, q0, -, -⟩ := HC.out kz yy hyy
        have ck := (M.bel.cell (p := ⟨kb, off + k, none⟩) hkbl).trans (hck k _ hz)
        have cz := (M.bel.cell (p := ⟨g, kz * 4, none⟩) hg).trans q0
        have hzA : (0 : Int) ≤ (kz : Int) := by omega
        have hzB : (kz : Int) < (m : Int) + 1 := by have := HM.out; omega
        have HST := hidOf (stepK_at (ns := ns) hz)
        have HKD := hidOf hkd
        obtain ⟨zk, hzk⟩ : ∃ zk, zk = yy.kind := ⟨_, rfl⟩
        rw [← hzk] at cz
        have HZK := hidOf hzk
        clear hz hyy hkd hck q0 hzk HW
        by_cases hz19 : zk = 19
        ·have hbz : (zk != 19) = false := by simp [hz19]
         have HSK2 := hidOf (show s' = s + stepK ns (y.kids.take (k + 1)) by rw [HST.out, HKD.out, ← HZK.out, if_pos hz19, Nat.add_zero]; exact HSK.out)
         have HMX := hidOf M
         clear hz19 M
         go_wp2
         go_roundw
         case rel => exact ⟨k + 1, s', by go_num, by omega, by omega, HSK2, HMX⟩
         case measure => simp [intOf]; omega
        ·have hbz : (zk != 19) = true := by simp [hz19]
         have HSK2 := hidOf (show s' + 1 = s + stepK ns (y.kids.take (k + 1)) by rw [HST.out, HKD.out, ← HZK.out, if_neg hz19, ← Nat.add_assoc, ← HSK.out])
         have HMX := hidOf (M.step (s' + 1) rfl)
         have hnat : ((s' + 1 : Nat) : Int) = (s' : Int) + 1 := by omega
         rw [hnat] at HMX
         clear hz19 M hnat
         go_wp2
         go_roundw
         case rel => exact ⟨k + 1, s' + 1, by go_num, by omega, by omega, HSK2, HMX⟩
         case measure => simp [intOf]; omega
       ·have hkB : ¬ (k : Int) < (y.kids.length : Int) := by omega
        have HMX := hidOf (show Mw w1 bp wr la wd kl d (stepN ns (ns.take (i + 1))) (noteN (ns.take (i + 1))) by
         rw [HN2.out, HS2.out, show s + stepK ns y.kids = s' by rw [HSK.out, List.take_of_length_le (by omega)]]
         exact M)
        clear M HW
        go_wp2
        go_roundw
        case rel => exact ⟨i + 1, by go_num, HNX2.out, HMX⟩
        case measure => simp [intOf]; omega
     ·have hb18 : (y.kind == 18) = false := by rw [beq_eq_false_iff_ne]; exact h18
      have HS2 := hidOf (show stepN ns (ns.take (i + 1)) = s by rw [HSN.out, if_neg h18, Nat.add_zero])
      have h19 : ∃ b : Bool, (y.kind == 19) = b := ⟨_, rfl⟩
      obtain ⟨b19, hb19⟩ := h19
      have HN2 := hidOf (show noteN (ns.take (i + 1)) = n + (if b19 = true then 1 else 0) by rw [HNN.out, ← hb19]; simp)
      obtain ⟨yk, hyk0⟩ : ∃ yk, yk = y.kind := ⟨_, rfl⟩
      rw [← hyk0] at c0 hb18 hb19
      have HYE := hidOf hyk0
      have HMS := hidOf (fun (n' : Nat) W (h : Mw w1 bp W la wd kl d s n') (e : n' = n + (if b19 = true then 1 else 0)) => show Mw w1 bp W la wd kl d (stepN ns (ns.take (i + 1))) (noteN (ns.take (i + 1))) by rw [HS2.out, HN2.out, ← e]; exact h)
      clear hyk0 h18
      cases b19 with
      | true =>
       have HMX := hidOf (HMS.out (n + 1) _ (M.more (n + 1) rfl) rfl)
       have hnat : ((n + 1 : Nat) : Int) = (n : Int) + 1 := by omega
       rw [hnat] at HMX
       clear M hnat HMS
       go_wp2
       go_loopw [8] (fun v wr' => v = .int .i64 0 ∧ Hid (Mw w1 bp wr' la wd kl d (stepN ns (ns.take (i + 1))) (noteN (ns.take (i + 1))))) (fun _ _ => 0)
       case atStart => exact ⟨rfl, HMX⟩
       case round =>
        clear k3 k5 z3 z5 hbl2 c0 HMX hbl
        obtain ⟨rfl, HMX⟩ := hrel
        have hbl := HMX.out.bel.size
        have c0 := (HMX.out.bel.cell (p := ⟨g, i * 4, none⟩) hg).trans HC0.out
        have c2 := (HMX.out.bel.cell (p := ⟨g, i * 4 + 2, none⟩) hg).trans HP2.out
        rw [← HYE.out] at c0
        obtain ⟨yl, hyl⟩ : ∃ yl, yl = y.kids.length := ⟨_, rfl⟩
        rw [← hyl] at c2
        clear hyl
        by_cases h0 : yl = 0
        ·have hkB : ¬ (0 : Int) < (yl : Int) := by omega
         clear h0
         go_wp2
         go_roundw
         case rel => exact ⟨i + 1, by go_num, HNX2.out, HMX⟩
         case measure => simp [intOf]; omega
        ·have hkB : (0 : Int) < (yl : Int) := by omega
         clear h0
         go_wp2
         go_roundw
         case rel => exact ⟨i + 1, by go_num, HNX2.out, HMX⟩
         case measure => simp [intOf]; omega
      | false =>
       have HMX := hidOf (HMS.out n _ M rfl)
       clear M HMS
       go_wp2
       go_loopw [8] (fun v wr' => v = .int .i64 0 ∧ Hid (Mw w1 bp wr' la wd kl d (stepN ns (ns.take (i + 1))) (noteN (ns.take (i + 1))))) (fun _ _ => 0)
       case atStart => exact ⟨rfl, HMX⟩
       case round =>
        clear k3 k5 z3 z5 hbl2 c0 HMX hbl
        obtain ⟨rfl, HMX⟩ := hrel
        have hbl := HMX.out.bel.size
        have c0 := (HMX.out.bel.cell (p := ⟨g, i * 4, none⟩) hg).trans HC0.out
        have c2 := (HMX.out.bel.cell (p := ⟨g, i * 4 + 2, none⟩) hg).trans HP2.out
        rw [← HYE.out] at c0
        obtain ⟨yl, hyl⟩ : ∃ yl, yl = y.kids.length := ⟨_, rfl⟩
        rw [← hyl] at c2
        clear hyl
        by_cases h0 : yl = 0
        ·have hkB : ¬ (0 : Int) < (yl : Int) := by omega
         clear h0
         go_wp2
         go_roundw
         case rel => exact ⟨i + 1, by go_num, HNX2.out, HMX⟩
         case measure => simp [intOf]; omega
        ·have hkB : (0 : Int) < (yl : Int) := by omega
         clear h0
         go_wp2
         go_roundw
         case rel => exact ⟨i + 1, by go_num, HNX2.out, HMX⟩
         case measure => simp [intOf]; omega
    ·have he : i = m + 1 := by omega
     have HE := hidOf he
     have M := HW.out
     have hbl := M.bel.size
     have hS := hidOf (show stepN ns (ns.take i) = stepN ns ns by rw [List.take_of_length_le (by have := HM.out; omega)])
     have hNn := hidOf (show noteN (ns.take i) = noteN ns by rw [List.take_of_length_le (by have := HM.out; omega)])
     rw [hS.out, hNn.out] at M
     obtain ⟨s, hs0⟩ : ∃ s, s = stepN ns ns := ⟨_, rfl⟩
     obtain ⟨n, hn0⟩ : ∃ n, n = noteN ns := ⟨_, rfl⟩
     rw [← hs0, ← hn0] at M
     have HS0 := hidOf hs0
     have HN0 := hidOf hn0
     obtain ⟨k0, k1, k2, k3, k4, k5⟩ := M.cells
     have FR := (M.bel.block w.heap.size z1).trans HF1.out
     have hRl : w.heap.size < wr.heap.size := Nat.lt_of_lt_of_le z1 hbl
     have r0 := cell_of_row _ w.heap.size 0 _ _ _ FR
     have r1 := cell_of_row _ w.heap.size 1 _ _ _ FR
     have r2 := cell_of_row _ w.heap.size 2 _ _ _ FR
     have r3 := cell_of_row _ w.heap.size 3 _ _ _ FR
     have r4 := cell_of_row _ w.heap.size 4 _ _ _ FR
     have r5 := cell_of_row _ w.heap.size 5 _ _ _ FR
     have y0 := frozen_of_row _ w.heap.size 0 _ _ FR
     have y1 := frozen_of_row _ w.heap.size 1 _ _ FR
     have y2 := frozen_of_row _ w.heap.size 2 _ _ FR
     have y3 := frozen_of_row _ w.heap.size 3 _ _ FR
     have y4 := frozen_of_row _ w.heap.size 4 _ _ FR
     have y5 := frozen_of_row _ w.heap.size 5 _ _ FR
     have HRow := hidOf (putMs_row FR rfl la wd kl s d n)
     have HBel := hidOf (putMs_bel (HB1.out.trans (M.bel.mono HB1.out.size)) (Nat.le_refl _) la wd kl s d n)
     have hiB : ¬ (i : Int) < (m : Int) + 1 := by omega
     clear he hs0 hn0 FR M HW hsn hnn hlt
     go_wp2
     refine bodyPost_ret (results_one6 rfl _ _ w.heap.size (.int .i64 la) (.int .i64 wd) (.int .i64 kl) (.int .i64 s) (.int .i64 d) (.int .i64 n) _ rfl (by exact HRow.out) Tryz.underlying28 rfl infoMs) rfl ?_
     exact ⟨la, wd, kl, s, d, n, rfl, .inl ⟨HOk.out, HLA.out, HWD.out, by rw [← HNS.out, HLast.out], by rw [← HNS.out, ← HS0.out], by rw [← HNS.out]; exact hdv.out, by rw [← HNS.out, ← HN0.out]⟩, HBel.out⟩
end Go.Proofs.YtcbbnphpkgifoaaGreatDoor
