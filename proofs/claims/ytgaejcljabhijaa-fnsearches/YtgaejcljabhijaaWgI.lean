/- How the program's search weighs a list of all values. -/
import Derived.Test.YtgaejcljabhijaaKak
import Derived.Test.YtgaejcljabhijaaKaa
import Derived.Test.YtgaejcljabhijaaKaj
import Derived.BigRegion
import Derived.Deep.CutBlock
namespace Go.Proofs.Ytgaejcljabhijaa
open Go.RowKit

/-- The best one behind it. -/
def bestB (p : Pc) (wd : Int) (vs bs : List Int) : List Int := if aheadB p wd vs bs = true then vs else bs

theorem arr46 {xs : Array Value} (h : xs.size = 46) : ∃ x0 x1 x2 x3 x4 x5 x6 x7 x8 x9 x10 x11 x12 x13 x14 x15 x16 x17 x18 x19 x20 x21 x22 x23 x24 x25 x26 x27 x28 x29 x30 x31 x32 x33 x34 x35 x36 x37 x38 x39 x40 x41 x42 x43 x44 x45, xs = #[x0, x1, x2, x3, x4, x5, x6, x7, x8, x9, x10, x11, x12, x13, x14, x15, x16, x17, x18, x19, x20, x21, x22, x23, x24, x25, x26, x27, x28, x29, x30, x31, x32, x33, x34, x35, x36, x37, x38, x39, x40, x41, x42, x43, x44, x45] := by
  obtain ⟨xs⟩ := xs
  match xs, (show xs.length = 46 from h) with
  | x0 :: x1 :: x2 :: x3 :: x4 :: x5 :: x6 :: x7 :: x8 :: x9 :: x10 :: x11 :: x12 :: x13 :: x14 :: x15 :: x16 :: x17 :: x18 :: x19 :: x20 :: x21 :: x22 :: x23 :: x24 :: x25 :: x26 :: x27 :: x28 :: x29 :: x30 :: x31 :: x32 :: x33 :: x34 :: x35 :: x36 :: x37 :: x38 :: x39 :: x40 :: x41 :: x42 :: x43 :: x44 :: x45 :: [], _ => exact ⟨x0, x1, x2, x3, x4, x5, x6, x7, x8, x9, x10, x11, x12, x13, x14, x15, x16, x17, x18, x19, x20, x21, x22, x23, x24, x25, x26, x27, x28, x29, x30, x31, x32, x33, x34, x35, x36, x37, x38, x39, x40, x41, x42, x43, x44, x45, rfl⟩
theorem wanted_off {ops : Array Oper} {o oj : Oper} {a : Act} {j d : Nat} {b : Bool} (hg : o.guard = some (j, b)) (hj : ops[j]? = some oj) (hd : oj.dst = some d) (hv : a.tmps.getD d undef = undef) : Region.wanted o (yielded ops a.tmps) = false := by
  unfold Region.wanted yielded
  rw [hg]
  dsimp only
  rw [hj]
  simp only [Option.bind_some, hd]
  cases h : a.tmps[d]? with
  | none => rfl
  | some x =>
    have e : x = undef := by simpa [h] using hv
    rw [e]
    rfl
/-- What holds while a list is weighed. -/
structure Wv (w0 : World) (sb : Nat) (p : Pc) (l : Pl) (wd : Int) (W : World) (a : Option Addr) (c : Nat) (ps : List Sp) (ba : Option Addr) (bc : Nat) (bs : List Int) (cb : Nat) (o1 s1 : Int) (va : Option Addr) (vc : Nat) (vs : List Int) : Prop where
  sr : Sr w0 sb p l wd W a c ps ba bc bs
  box : W.heap[cb]? = some (.cells #[.int .i64 o1, .int .i64 s1] 37 (0, 0))
  own : W.ownsRow w0.heap.size 3 1 (.slice va vs.length vc) vs.length (intVals vs)
theorem Wv.below {w0 : World} {sb : Nat} {p : Pc} {l : Pl} {wd : Int} {W W' : World} {a : Option Addr} {c : Nat} {ps : List Sp} {ba : Option Addr} {bc : Nat} {bs : List Int} {cb : Nat} {o1 s1 : Int} {va : Option Addr} {vc : Nat} {vs : List Int} (h : Wv w0 sb p l wd W a c ps ba bc bs cb o1 s1 va vc vs) (hb : Below W.heap.size W W') : Wv w0 sb p l wd W' a c ps ba bc bs cb o1 s1 va vc vs :=
  ⟨h.sr.more hb, (hb.block cb (Array.getElem?_eq_some_iff.1 h.box).1).trans h.box, owns_below h.own hb⟩
/-- The best one is another one. -/
theorem Sr.take {w0 : World} {sb : Nat} {p : Pc} {l : Pl} {wd : Int} {W : World} {a : Option Addr} {c : Nat} {ps : List Sp} {ba : Option Addr} {bc : Nat} {bs : List Int} {va : Option Addr} {vc : Nat} {vs : List Int} (h : Sr w0 sb p l wd W a c ps ba bc bs) (ho : W.ownsRow w0.heap.size 3 1 (.slice va vs.length vc) vs.length (intVals vs)) :
    Sr w0 sb p l wd (((W.setCell ⟨sb, 8, none⟩ (.slice va vs.length vc)).setCell ⟨sb, 9, none⟩ (.int .i64 (costOver p vs wd))).setCell ⟨sb, 10, none⟩ (.int .i64 (costSum p vs))) a c ps va vc vs := by
  have G : W.grownBy (((W.setCell ⟨sb, 8, none⟩ (.slice va vs.length vc)).setCell ⟨sb, 9, none⟩ (.int .i64 (costOver p vs wd))).setCell ⟨sb, 10, none⟩ (.int .i64 (costSum p vs))) (some sb) := grownBy_trans (grownBy_trans (grown_set W ⟨sb, 8, none⟩ _) (grown_set _ ⟨sb, 9, none⟩ _)) (grown_set _ ⟨sb, 10, none⟩ _)
  refine ⟨⟨heap_setCell_same _ sb 10 _ _ _ (heap_setCell_same _ sb 9 _ _ _ (heap_setCell_same W sb 8 _ _ _ h.hv.row))⟩, h.own.other G (h.hv.far h.own.row (srOf p l wd ba bc bs).ns) (fun q hq => h.hv.far (h.own.each q hq) (srOf p l wd ba bc bs).ni), ho.kept G (h.hv.far ho (srOf p l wd ba bc bs).ni), ?_, h.low⟩
  exact ((h.bel.setCell (p := ⟨sb, 8, none⟩) h.low _).setCell (p := ⟨sb, 9, none⟩) h.low _).setCell (p := ⟨sb, 10, none⟩) h.low _
def wgPostA (sb : Nat) (o1 : Int) (s1 : Int) (o2 : Int) (s2 : Int) : Nat → Value → World → Prop
  | 0 => fun v _ => v = .agg #[.int .i64 o1, .int .i64 s1]
  | 1 => fun v _ => v = .pointer (some ⟨sb, 0, none⟩)
  | 2 => fun v _ => v = .pointer (some ⟨sb, 0, none⟩)
  | 3 => fun v _ => v = .pointer (some ⟨sb, 9, none⟩)
  | 4 => fun v _ => v = .agg #[.int .i64 o2, .int .i64 s2]
  | 5 => fun v _ => v = .bool true
  | 6 => fun v _ => v = .bool true
  | 7 => fun v _ => v = undef
  | 8 => fun v _ => v = undef
  | 9 => fun v _ => v = undef
  | 10 => fun v _ => v = undef
  | 11 => fun v _ => v = undef
  | 12 => fun v _ => v = undef
  | 13 => fun v _ => v = undef
  | 14 => fun v _ => v = undef
  | 15 => fun v _ => v = undef
  | 16 => fun v _ => v = undef
  | 17 => fun v _ => v = undef
  | 18 => fun v _ => v = undef
  | 19 => fun v _ => v = undef
  | 20 => fun v _ => v = undef
  | 21 => fun v _ => v = undef
  | 22 => fun v _ => v = .bool true
  | _ => fun _ _ => True
theorem wgPostA_stab {sb : Nat} {o1 : Int} {s1 : Int} {o2 : Int} {s2 : Int} (k : Nat) (v : Value) (W W' : World) (h : wgPostA sb o1 s1 o2 s2 k v W) : wgPostA sb o1 s1 o2 s2 k v W' := by
  unfold wgPostA at h ⊢
  split at h <;> exact h
def wgPostB (sb : Nat) (o1 : Int) (s1 : Int) (o2 : Int) (s2 : Int) : Nat → Value → World → Prop
  | 0 => fun v _ => v = .agg #[.int .i64 o1, .int .i64 s1]
  | 1 => fun v _ => v = .pointer (some ⟨sb, 0, none⟩)
  | 2 => fun v _ => v = .pointer (some ⟨sb, 0, none⟩)
  | 3 => fun v _ => v = .pointer (some ⟨sb, 9, none⟩)
  | 4 => fun v _ => v = .agg #[.int .i64 o2, .int .i64 s2]
  | 5 => fun v _ => v = .bool false
  | 6 => fun v _ => v = .bool false
  | 7 => fun v _ => v = .agg #[.int .i64 o1, .int .i64 s1]
  | 8 => fun v _ => v = .pointer (some ⟨sb, 0, none⟩)
  | 9 => fun v _ => v = .pointer (some ⟨sb, 0, none⟩)
  | 10 => fun v _ => v = .pointer (some ⟨sb, 9, none⟩)
  | 11 => fun v _ => v = .agg #[.int .i64 o2, .int .i64 s2]
  | 12 => fun v _ => v = .bool false
  | 13 => fun v _ => v = .bool false
  | 14 => fun v _ => v = undef
  | 15 => fun v _ => v = undef
  | 16 => fun v _ => v = undef
  | 17 => fun v _ => v = undef
  | 18 => fun v _ => v = undef
  | 19 => fun v _ => v = undef
  | 20 => fun v _ => v = undef
  | 21 => fun v _ => v = .bool false
  | 22 => fun v _ => v = .bool false
  | _ => fun _ _ => True
theorem wgPostB_stab {sb : Nat} {o1 : Int} {s1 : Int} {o2 : Int} {s2 : Int} (k : Nat) (v : Value) (W W' : World) (h : wgPostB sb o1 s1 o2 s2 k v W) : wgPostB sb o1 s1 o2 s2 k v W' := by
  unfold wgPostB at h ⊢
  split at h <;> exact h
def wgPostC (sb : Nat) (o1 : Int) (s1 : Int) (o2 : Int) (s2 : Int) (va : Option Addr) (vs : List Int) (vc : Nat) (ba : Option Addr) (bs : List Int) (bc : Nat) (cm : Int) (b3 : Bool) : Nat → Value → World → Prop
  | 0 => fun v _ => v = .agg #[.int .i64 o1, .int .i64 s1]
  | 1 => fun v _ => v = .pointer (some ⟨sb, 0, none⟩)
  | 2 => fun v _ => v = .pointer (some ⟨sb, 0, none⟩)
  | 3 => fun v _ => v = .pointer (some ⟨sb, 9, none⟩)
  | 4 => fun v _ => v = .agg #[.int .i64 o2, .int .i64 s2]
  | 5 => fun v _ => v = .bool false
  | 6 => fun v _ => v = .bool false
  | 7 => fun v _ => v = .agg #[.int .i64 o1, .int .i64 s1]
  | 8 => fun v _ => v = .pointer (some ⟨sb, 0, none⟩)
  | 9 => fun v _ => v = .pointer (some ⟨sb, 0, none⟩)
  | 10 => fun v _ => v = .pointer (some ⟨sb, 9, none⟩)
  | 11 => fun v _ => v = .agg #[.int .i64 o2, .int .i64 s2]
  | 12 => fun v _ => v = .bool true
  | 13 => fun v _ => v = .bool true
  | 14 => fun v _ => v = .slice va vs.length vc
  | 15 => fun v _ => v = .pointer (some ⟨sb, 0, none⟩)
  | 16 => fun v _ => v = .pointer (some ⟨sb, 0, none⟩)
  | 17 => fun v _ => v = .pointer (some ⟨sb, 8, none⟩)
  | 18 => fun v _ => v = .slice ba bs.length bc
  | 19 => fun v _ => v = .int .i64 cm
  | 20 => fun v _ => v = .bool b3
  | 21 => fun v _ => v = .bool b3
  | 22 => fun v _ => v = .bool b3
  | _ => fun _ _ => True
theorem wgPostC_stab {sb : Nat} {o1 : Int} {s1 : Int} {o2 : Int} {s2 : Int} {va : Option Addr} {vs : List Int} {vc : Nat} {ba : Option Addr} {bs : List Int} {bc : Nat} {cm : Int} {b3 : Bool} (k : Nat) (v : Value) (W W' : World) (h : wgPostC sb o1 s1 o2 s2 va vs vc ba bs bc cm b3 k v W) : wgPostC sb o1 s1 o2 s2 va vs vc ba bs bc cm b3 k v W' := by
  unfold wgPostC at h ⊢
  split at h <;> exact h
/-- A variable of two cells stays. -/
theorem box_kept {w w1 : World} {x y : Value} {t : Nat} (hb : Below (w.alloc (.cells #[x, y] t)).drew.heap.size (w.alloc (.cells #[x, y] t)).drew w1) : w1.heap[w.heap.size]? = some (.cells #[x, y] t (0, 0)) ∧ w1.cell? ⟨w.heap.size, 0, none⟩ = some x ∧ w1.cell? ⟨w.heap.size, 1, none⟩ = some y ∧ w1.frozen? ⟨w.heap.size, 0, none⟩ = false ∧ w1.frozen? ⟨w.heap.size, 1, none⟩ = false := by
  have R : w1.heap[w.heap.size]? = some (.cells #[x, y] t (0, 0)) := (hb.block w.heap.size (by simp)).trans (heap_alloc_new w _)
  exact ⟨R, cell_of_row w1 _ 0 _ _ _ R, cell_of_row w1 _ 1 _ _ _ R, frozen_of_row w1 _ 0 _ _ R, frozen_of_row w1 _ 1 _ _ R⟩

set_option maxHeartbeats 8000000 in
set_option maxRecDepth 20000 in
theorem iWeigh_any {w0 : World} {sb : Nat} {p : Pc} {l : Pl} {wd : Int} {w : World} {a : Option Addr} {c : Nat} {ps : List Sp} {ba : Option Addr} {bc : Nat} {bs : List Int} (va : Option Addr) (vc : Nat) (vs : List Int) (h : Sr w0 sb p l wd w a c ps ba bc bs) (hF : PcFew p) (hcap : p.chunks.length ≤ l.c2) (hp : PcIn w0 p l) (h1 : Right p) (h2 : ValOk p vs) (hbl : bs.length ≤ 1048576)
    (ho : w.ownsRow w0.heap.size 3 1 (.slice va vs.length vc) vs.length (intVals vs)) :
    Calls Try.prog 111 #[.pointer (some ⟨sb, 0, none⟩), .slice va vs.length vc] w fun e w' => e = .returned (.tuple #[]) ∧ ∃ ba' bc', Sr w0 sb p l wd w' a c ps ba' bc' (bestB p wd vs bs) := by
  have hvl : vs.length ≤ 1048576 := by rw [h2.len]; have := h1.rules.1; omega
  have qC : ∀ W, Below w.heap.size w W → Calls Try.prog 65 #[.agg #[.int .i64 p.indent, .slice l.a1 p.rules.length l.c1, .slice l.a2 p.chunks.length l.c2, .slice l.a3 p.spans.length l.c3, .slice l.a4 p.ties.length l.c4], .slice va vs.length vc, .int .i64 wd] W fun e w' => e = .returned (.agg #[.int .i64 (costOver p vs wd), .int .i64 (costSum p vs)]) ∧ Below W.heap.size W w' := fun W hb => iCostR_any p l va vc vs wd W hF hvl hcap ((h.pc hp).below hb (Nat.le_refl _)) ((KidsAt.of_own ho).below hb (Nat.le_refl _)) h1 h2
  obtain ⟨o1, ho1⟩ : ∃ o1, o1 = costOver p vs wd := ⟨_, rfl⟩
  obtain ⟨s1, hs1⟩ : ∃ s1, s1 = costSum p vs := ⟨_, rfl⟩
  rw [← ho1, ← hs1] at qC
  have HO1 := hidOf ho1
  have HS1 := hidOf hs1
  clear ho1 hs1
  obtain ⟨hl, c0, c1, c2, c3, c4, c5, -, -, -⟩ := h.cells
  have hD0 : Below w.heap.size w w.drew := (Below.refl w.heap.size w).drew
  have hD1 : ∀ ob : Obj, Below w.heap.size w (w.alloc ob).drew := fun ob => ((Below.refl w.heap.size w).alloc (Nat.le_refl _) ob).drew
  have hal : ∀ (ob : Obj) (b k : Nat), b < w.heap.size → (w.alloc ob).cell? ⟨b, k, none⟩ = w.cell? ⟨b, k, none⟩ := fun ob b k h => ((Below.refl w.heap.size w).alloc (Nat.le_refl _) ob).cell (p := ⟨b, k, none⟩) h
  go_enter Try.func111, Try.ntmps111
  have hne : w.heap.size ≠ sb := by omega
  have hne' : sb ≠ w.heap.size := by omega
  go_upto_region 0 with fail
  go_cut [4] from 5 (fun v wx => ∃ cb, v = .pointer (some ⟨cb, 0, none⟩) ∧ Below w.heap.size w wx ∧ wx.heap[cb]? = some (.cells #[.int .i64 o1, .int .i64 s1] 37 (0, 0)) ∧ w.heap.size ≤ cb)
  case first =>
    go_region_held3 (fun W => W.cell? ⟨sb, 0, none⟩ = some (.int .i64 p.indent) ∧ W.cell? ⟨sb, 1, none⟩ = some (.slice l.a1 p.rules.length l.c1) ∧ W.cell? ⟨sb, 2, none⟩ = some (.slice l.a2 p.chunks.length l.c2) ∧ W.cell? ⟨sb, 3, none⟩ = some (.slice l.a3 p.spans.length l.c3) ∧ W.cell? ⟨sb, 4, none⟩ = some (.slice l.a4 p.ties.length l.c4) ∧ W.cell? ⟨sb, 5, none⟩ = some (.int .i64 wd)) (first | trivial | go_keep)
      ((go_at_call 65; first
      | (refine (qC _ hD0).mono ?_; rintro e w1 ⟨rfl, hb1⟩; have A1 : Below w.heap.size w w1 := hD0.trans hb1; have hne1 : w1.heap.size ≠ sb := (by have := A1.size; omega); have hne2 : sb ≠ w1.heap.size := hne1.symm; have hl1 : sb < w1.heap.size := (by have := A1.size; omega); have hc1 := (bcell A1).1; have hd1 := (bcell A1).2)
      | (refine (qC _ (hD1 _)).mono ?_; rintro e w1 ⟨rfl, hb1⟩; have A1 : Below w.heap.size w w1 := (hD1 _).trans (hb1.mono (hD1 _).size); have hc1 := (bcell A1).1; have hd1 := (bcell A1).2; obtain ⟨hx, hx0, hx1, hx2, hx3⟩ := box_kept hb1)))
    all_goals go_wp2_with fail
    all_goals go_meet
    all_goals first | exact ⟨w1.heap.size, rfl, A1.alloc A1.size _, heap_alloc_new w1 _, A1.size⟩ | exact ⟨w.heap.size, rfl, (A1.setCell (p := ⟨w.heap.size, 0, none⟩) (Nat.le_refl _) _).setCell (p := ⟨w.heap.size, 1, none⟩) (Nat.le_refl _) _, heap_setCell_same _ _ 1 _ _ _ (heap_setCell_same _ _ 0 _ _ _ hx), Nat.le_refl _⟩
  case rest =>
    obtain ⟨cb, rfl, bc0, R0, hcb⟩ := hcut
    clear c0 c1 c2 c3 c4 c5 hD0 hD1 hal hne hne' qC
    have I0 : Wv w0 sb p l wd wc a c ps ba bc bs cb o1 s1 va vc vs := ⟨h.more bc0, R0, owns_below ho bc0⟩
    obtain ⟨o2, ho2⟩ : ∃ o2, o2 = costOver p bs wd := ⟨_, rfl⟩
    obtain ⟨s2, hs2⟩ : ∃ s2, s2 = costSum p bs := ⟨_, rfl⟩
    have HO2 := hidOf ho2
    have HS2 := hidOf hs2
    have hsb : sb < wc.heap.size := Nat.lt_of_lt_of_le hl bc0.size
    have hcs : cb ≠ sb := by omega
    have qL : ∀ W, Calls Try.prog 67 #[.agg #[.int .i64 o1, .int .i64 s1], .agg #[.int .i64 o2, .int .i64 s2]] W fun e w' => e = .returned (.bool (lessC o1 s1 o2 s2)) ∧ Below W.heap.size W w' := fun W => iLess_any o1 s1 o2 s2 W
    have qK : ∀ W, KidsAt W va vs → KidsAt W ba bs → Calls Try.prog 122 #[.slice va vs.length vc, .slice ba bs.length bc] W fun e w' => e = .returned (.int .i64 (cmpL vs bs)) ∧ w' = W := fun W k1 k2 => iCmp_any va ba vc bc vs bs W hvl hbl k1 k2
    have hEQ := coEq o1 s1 o2 s2
    obtain ⟨b1, hb1⟩ : ∃ b1, b1 = lessC o1 s1 o2 s2 := ⟨_, rfl⟩
    obtain ⟨b2, hb2⟩ : ∃ b2, b2 = decide (o1 = o2 ∧ s1 = s2) := ⟨_, rfl⟩
    obtain ⟨cm, hcm⟩ : ∃ cm, cm = cmpL vs bs := ⟨_, rfl⟩
    obtain ⟨b3, hb3⟩ : ∃ b3, b3 = decide (cm < 0) := ⟨_, rfl⟩
    have HA : Hid (aheadB p wd vs bs = (b1 || (b2 && b3))) := hidOf (by
      unfold aheadB lessV
      rw [← HO1.out, ← HS1.out, ← ho2, ← hs2, ← hb1, ← hcm, ← hb3, hb2]
      congr 1
      rw [Bool.eq_iff_iff]
      simp [and_assoc])
    rw [← hb1] at qL
    rw [← hb2] at hEQ
    rw [← hcm] at qK
    have HB3 : decide (cm < 0) = b3 := hb3.symm
    clear hb1 hb2 hcm hb3 ho2 hs2 ho h
    have yes : ∀ W, Wv w0 sb p l wd W a c ps ba bc bs cb o1 s1 va vc vs → aheadB p wd vs bs = true → ∃ ba' bc', Sr w0 sb p l wd (((W.setCell ⟨sb, 8, none⟩ (.slice va vs.length vc)).setCell ⟨sb, 9, none⟩ (.int .i64 o1)).setCell ⟨sb, 10, none⟩ (.int .i64 s1)) a c ps ba' bc' (bestB p wd vs bs) := fun W hI h => ⟨va, vc, by
      unfold bestB
      rw [if_pos h, HO1.out, HS1.out]
      exact hI.sr.take hI.own⟩
    have HY := hidOf yes
    have HN : Hid (∀ W, Wv w0 sb p l wd W a c ps ba bc bs cb o1 s1 va vc vs → aheadB p wd vs bs = false → ∃ ba' bc', Sr w0 sb p l wd W a c ps ba' bc' (bestB p wd vs bs)) := hidOf (fun W hI h => ⟨ba, bc, by
      unfold bestB
      rw [if_neg (by rw [h]; exact Bool.false_ne_true)]
      exact hI.sr⟩)
    clear yes
    go_upto_region 1 with fail
    cases b1 with
    | true =>
      refine wp_region_guards (by kernel_rfl) (fun W => Wv w0 sb p l wd W a c ps ba bc bs cb o1 s1 va vc vs) (fun W W' => Below W.heap.size W W') (wgPostA sb o1 s1 o2 s2) (I0.below (Below.refl _ _).drew) (by kernel_rfl) (fun k v W W' h _ _ => wgPostA_stab k v W W' h) ?_ ?_
      case refine_1 =>
        intro kk oo hk aa W hI hsz hfix hdep
        clear I0 R0
        match kk, hk with
        | 0, hk =>
          cases hk
          refine .inl ⟨wanted_none rfl, fun K hK => ?_⟩
          have e4 : aa.tmps.getD 4 undef = .pointer (some ⟨cb, 0, none⟩) := hfix 4 (by kernel_rfl)
          have d0 := cell_of_row W cb 0 _ _ _ hI.box
          have d1 := cell_of_row W cb 1 _ _ _ hI.box
          simp only [List.getElem?_toArray, List.getElem?_cons_zero, List.getElem?_cons_succ] at d0 d1
          refine wp_value (v := .agg #[.int .i64 o1, .int .i64 s1]) (w' := W) ?_ (hK _ _ (by simp) hI (Below.refl _ _) rfl)
          clear hfix hdep hK hk hsz hI
          go_simp
        | 1, hk =>
          cases hk
          refine .inl ⟨wanted_none rfl, fun K hK => ?_⟩
          have e0 : aa.tmps.getD 0 undef = .pointer (some ⟨sb, 0, none⟩) := hfix 0 (by kernel_rfl)
          refine wp_value (v := .pointer (some ⟨sb, 0, none⟩)) (w' := W) ?_ (hK _ _ (by simp) hI (Below.refl _ _) rfl)
          clear hfix hdep hK hk hsz hI
          go_simp
        | 2, hk =>
          cases hk
          refine .inl ⟨wanted_none rfl, fun K hK => ?_⟩
          have e16 : aa.tmps.getD 16 undef = .pointer (some ⟨sb, 0, none⟩) := hdep 1 _ rfl (by kernel_rfl)
          refine wp_value (v := .pointer (some ⟨sb, 0, none⟩)) (w' := W) ?_ (hK _ _ (by simp) hI (Below.refl _ _) rfl)
          clear hfix hdep hK hk hsz hI
          go_simp
        | 3, hk =>
          cases hk
          refine .inl ⟨wanted_none rfl, fun K hK => ?_⟩
          have e17 : aa.tmps.getD 17 undef = .pointer (some ⟨sb, 0, none⟩) := hdep 2 _ rfl (by kernel_rfl)
          refine wp_value (v := .pointer (some ⟨sb, 9, none⟩)) (w' := W) ?_ (hK _ _ (by simp) hI (Below.refl _ _) rfl)
          clear hfix hdep hK hk hsz hI
          go_simp
        | 4, hk =>
          cases hk
          refine .inl ⟨wanted_none rfl, fun K hK => ?_⟩
          have e18 : aa.tmps.getD 18 undef = .pointer (some ⟨sb, 9, none⟩) := hdep 3 _ rfl (by kernel_rfl)
          obtain ⟨-, -, -, -, -, -, -, d8, d9, d10⟩ := hI.sr.cells
          rw [← HO2.out] at d9
          rw [← HS2.out] at d10
          refine wp_value (v := .agg #[.int .i64 o2, .int .i64 s2]) (w' := W) ?_ (hK _ _ (by simp) hI (Below.refl _ _) rfl)
          clear hfix hdep hK hk hsz hI
          go_simp
        | 5, hk =>
          cases hk
          refine .inl ⟨wanted_none rfl, fun K hK => ?_⟩
          have e15 : aa.tmps.getD 15 undef = .agg #[.int .i64 o1, .int .i64 s1] := hdep 0 _ rfl (by kernel_rfl)
          have e19 : aa.tmps.getD 19 undef = .agg #[.int .i64 o2, .int .i64 s2] := hdep 4 _ rfl (by kernel_rfl)
          have hcon := qL W
          refine wp_calls 67 #[.agg #[.int .i64 o1, .int .i64 s1], .agg #[.int .i64 o2, .int .i64 s2]] ?_ hcon ?_
          · clear hfix hdep hK hk hsz hcon
            go_simp
            try rfl
          · rintro e W2 ⟨rfl, A⟩
            exact ⟨_, rfl, hK _ _ (by simp) (hI.below A) A rfl⟩
        | 6, hk =>
          cases hk
          refine .inl ⟨wanted_none rfl, fun K hK => ?_⟩
          have e20 : aa.tmps.getD 20 undef = .bool true := hdep 5 _ rfl (by kernel_rfl)
          refine wp_value (v := .bool true) (w' := W) ?_ (hK _ _ (by simp) hI (Below.refl _ _) rfl)
          clear hfix hdep hK hk hsz hI
          go_simp
        | 7, hk =>
          cases hk
          exact .inr ⟨(wanted_is (c := true) (b := false) rfl rfl rfl (hdep 6 _ rfl (by kernel_rfl))).trans rfl, rfl⟩
        | 8, hk =>
          cases hk
          exact .inr ⟨(wanted_is (c := true) (b := false) rfl rfl rfl (hdep 6 _ rfl (by kernel_rfl))).trans rfl, rfl⟩
        | 9, hk =>
          cases hk
          exact .inr ⟨(wanted_is (c := true) (b := false) rfl rfl rfl (hdep 6 _ rfl (by kernel_rfl))).trans rfl, rfl⟩
        | 10, hk =>
          cases hk
          exact .inr ⟨(wanted_is (c := true) (b := false) rfl rfl rfl (hdep 6 _ rfl (by kernel_rfl))).trans rfl, rfl⟩
        | 11, hk =>
          cases hk
          exact .inr ⟨(wanted_is (c := true) (b := false) rfl rfl rfl (hdep 6 _ rfl (by kernel_rfl))).trans rfl, rfl⟩
        | 12, hk =>
          cases hk
          exact .inr ⟨(wanted_is (c := true) (b := false) rfl rfl rfl (hdep 6 _ rfl (by kernel_rfl))).trans rfl, rfl⟩
        | 13, hk =>
          cases hk
          exact .inr ⟨(wanted_is (c := true) (b := false) rfl rfl rfl (hdep 6 _ rfl (by kernel_rfl))).trans rfl, rfl⟩
        | 14, hk =>
          cases hk
          exact .inr ⟨wanted_off rfl rfl rfl (hdep 13 _ rfl (by kernel_rfl)), rfl⟩
        | 15, hk =>
          cases hk
          exact .inr ⟨wanted_off rfl rfl rfl (hdep 13 _ rfl (by kernel_rfl)), rfl⟩
        | 16, hk =>
          cases hk
          exact .inr ⟨wanted_off rfl rfl rfl (hdep 13 _ rfl (by kernel_rfl)), rfl⟩
        | 17, hk =>
          cases hk
          exact .inr ⟨wanted_off rfl rfl rfl (hdep 13 _ rfl (by kernel_rfl)), rfl⟩
        | 18, hk =>
          cases hk
          exact .inr ⟨wanted_off rfl rfl rfl (hdep 13 _ rfl (by kernel_rfl)), rfl⟩
        | 19, hk =>
          cases hk
          exact .inr ⟨wanted_off rfl rfl rfl (hdep 13 _ rfl (by kernel_rfl)), rfl⟩
        | 20, hk =>
          cases hk
          exact .inr ⟨wanted_off rfl rfl rfl (hdep 13 _ rfl (by kernel_rfl)), rfl⟩
        | 21, hk =>
          cases hk
          exact .inr ⟨(wanted_is (c := true) (b := false) rfl rfl rfl (hdep 6 _ rfl (by kernel_rfl))).trans rfl, rfl⟩
        | 22, hk =>
          cases hk
          refine .inl ⟨wanted_none rfl, fun K hK => ?_⟩
          have e21 : aa.tmps.getD 21 undef = .bool true := hdep 6 _ rfl (by kernel_rfl)
          have e36 : aa.tmps.getD 36 undef = undef := hdep 21 _ rfl (by kernel_rfl)
          refine wp_value (v := .bool true) (w' := W) ?_ (hK _ _ (by simp) hI (Below.refl _ _) rfl)
          clear hfix hdep hK hk hsz hI
          go_simp
        | k + 23, hk => cases hk
      case refine_2 =>
        intro aa W hI hd hsz hfix hpost
        have e0 : aa.tmps.getD 0 undef = .pointer (some ⟨sb, 0, none⟩) := hfix 0 (by kernel_rfl)
        have e1 : aa.tmps.getD 1 undef = .slice va vs.length vc := hfix 1 (by kernel_rfl)
        have e4 : aa.tmps.getD 4 undef = .pointer (some ⟨cb, 0, none⟩) := hfix 4 (by kernel_rfl)
        have e37 : aa.tmps.getD 37 undef = .bool true := hpost 22 _ rfl
        clear hfix hpost I0 R0 qL qK hEQ
        obtain ⟨tm, df⟩ := aa
        obtain ⟨x0, x1, x2, x3, x4, x5, x6, x7, x8, x9, x10, x11, x12, x13, x14, x15, x16, x17, x18, x19, x20, x21, x22, x23, x24, x25, x26, x27, x28, x29, x30, x31, x32, x33, x34, x35, x36, x37, x38, x39, x40, x41, x42, x43, x44, x45, rfl⟩ := arr46 (xs := tm) hsz
        have hdf : df = [] := hd
        subst hdf
        have f0 : x0 = .pointer (some ⟨sb, 0, none⟩) := e0
        have f1 : x1 = .slice va vs.length vc := e1
        have f4 : x4 = .pointer (some ⟨cb, 0, none⟩) := e4
        have f37 : x37 = .bool true := e37
        subst f0 f1 f4 f37
        clear e0 e1 e4 e37 hsz hd
        have HYI := hidOf (HY.out _ (hI.below (Below.refl _ _).drew) (by rw [HA.out]; rfl))
        have d0 := cell_of_row W cb 0 _ _ _ hI.box
        have d1 := cell_of_row W cb 1 _ _ _ hI.box
        simp only [List.getElem?_toArray, List.getElem?_cons_zero, List.getElem?_cons_succ] at d0 d1
        obtain ⟨hls, -, -, -, -, -, -, d8, d9, d10⟩ := hI.sr.cells
        have hf8 := frozen_of_row W sb 8 _ _ hI.sr.hv.row
        have hf9 := frozen_of_row W sb 9 _ _ hI.sr.hv.row
        have hf10 := frozen_of_row W sb 10 _ _ hI.sr.hv.row
        clear hI
        go_wp2
        go_region
        all_goals go_wp2
        all_goals go_end0
        all_goals exact ⟨rfl, HYI.out⟩
    | false =>
      cases b2 with
      | false =>
        refine wp_region_guards (by kernel_rfl) (fun W => Wv w0 sb p l wd W a c ps ba bc bs cb o1 s1 va vc vs) (fun W W' => Below W.heap.size W W') (wgPostB sb o1 s1 o2 s2) (I0.below (Below.refl _ _).drew) (by kernel_rfl) (fun k v W W' h _ _ => wgPostB_stab k v W W' h) ?_ ?_
        case refine_1 =>
          intro kk oo hk aa W hI hsz hfix hdep
          clear I0 R0
          match kk, hk with
          | 0, hk =>
            cases hk
            refine .inl ⟨wanted_none rfl, fun K hK => ?_⟩
            have e4 : aa.tmps.getD 4 undef = .pointer (some ⟨cb, 0, none⟩) := hfix 4 (by kernel_rfl)
            have d0 := cell_of_row W cb 0 _ _ _ hI.box
            have d1 := cell_of_row W cb 1 _ _ _ hI.box
            simp only [List.getElem?_toArray, List.getElem?_cons_zero, List.getElem?_cons_succ] at d0 d1
            refine wp_value (v := .agg #[.int .i64 o1, .int .i64 s1]) (w' := W) ?_ (hK _ _ (by simp) hI (Below.refl _ _) rfl)
            clear hfix hdep hK hk hsz hI
            go_simp
          | 1, hk =>
            cases hk
            refine .inl ⟨wanted_none rfl, fun K hK => ?_⟩
            have e0 : aa.tmps.getD 0 undef = .pointer (some ⟨sb, 0, none⟩) := hfix 0 (by kernel_rfl)
            refine wp_value (v := .pointer (some ⟨sb, 0, none⟩)) (w' := W) ?_ (hK _ _ (by simp) hI (Below.refl _ _) rfl)
            clear hfix hdep hK hk hsz hI
            go_simp
          | 2, hk =>
            cases hk
            refine .inl ⟨wanted_none rfl, fun K hK => ?_⟩
            have e16 : aa.tmps.getD 16 undef = .pointer (some ⟨sb, 0, none⟩) := hdep 1 _ rfl (by kernel_rfl)
            refine wp_value (v := .pointer (some ⟨sb, 0, none⟩)) (w' := W) ?_ (hK _ _ (by simp) hI (Below.refl _ _) rfl)
            clear hfix hdep hK hk hsz hI
            go_simp
          | 3, hk =>
            cases hk
            refine .inl ⟨wanted_none rfl, fun K hK => ?_⟩
            have e17 : aa.tmps.getD 17 undef = .pointer (some ⟨sb, 0, none⟩) := hdep 2 _ rfl (by kernel_rfl)
            refine wp_value (v := .pointer (some ⟨sb, 9, none⟩)) (w' := W) ?_ (hK _ _ (by simp) hI (Below.refl _ _) rfl)
            clear hfix hdep hK hk hsz hI
            go_simp
          | 4, hk =>
            cases hk
            refine .inl ⟨wanted_none rfl, fun K hK => ?_⟩
            have e18 : aa.tmps.getD 18 undef = .pointer (some ⟨sb, 9, none⟩) := hdep 3 _ rfl (by kernel_rfl)
            obtain ⟨-, -, -, -, -, -, -, d8, d9, d10⟩ := hI.sr.cells
            rw [← HO2.out] at d9
            rw [← HS2.out] at d10
            refine wp_value (v := .agg #[.int .i64 o2, .int .i64 s2]) (w' := W) ?_ (hK _ _ (by simp) hI (Below.refl _ _) rfl)
            clear hfix hdep hK hk hsz hI
            go_simp
          | 5, hk =>
            cases hk
            refine .inl ⟨wanted_none rfl, fun K hK => ?_⟩
            have e15 : aa.tmps.getD 15 undef = .agg #[.int .i64 o1, .int .i64 s1] := hdep 0 _ rfl (by kernel_rfl)
            have e19 : aa.tmps.getD 19 undef = .agg #[.int .i64 o2, .int .i64 s2] := hdep 4 _ rfl (by kernel_rfl)
            have hcon := qL W
            refine wp_calls 67 #[.agg #[.int .i64 o1, .int .i64 s1], .agg #[.int .i64 o2, .int .i64 s2]] ?_ hcon ?_
            · clear hfix hdep hK hk hsz hcon
              go_simp
              try rfl
            · rintro e W2 ⟨rfl, A⟩
              exact ⟨_, rfl, hK _ _ (by simp) (hI.below A) A rfl⟩
          | 6, hk =>
            cases hk
            refine .inl ⟨wanted_none rfl, fun K hK => ?_⟩
            have e20 : aa.tmps.getD 20 undef = .bool false := hdep 5 _ rfl (by kernel_rfl)
            refine wp_value (v := .bool false) (w' := W) ?_ (hK _ _ (by simp) hI (Below.refl _ _) rfl)
            clear hfix hdep hK hk hsz hI
            go_simp
          | 7, hk =>
            cases hk
            refine .inl ⟨?hg, fun K hK => ?_⟩
            case hg => exact wanted_is (c := false) (b := false) rfl rfl rfl (hdep 6 _ rfl (by kernel_rfl))
            have e4 : aa.tmps.getD 4 undef = .pointer (some ⟨cb, 0, none⟩) := hfix 4 (by kernel_rfl)
            have d0 := cell_of_row W cb 0 _ _ _ hI.box
            have d1 := cell_of_row W cb 1 _ _ _ hI.box
            simp only [List.getElem?_toArray, List.getElem?_cons_zero, List.getElem?_cons_succ] at d0 d1
            refine wp_value (v := .agg #[.int .i64 o1, .int .i64 s1]) (w' := W) ?_ (hK _ _ (by simp) hI (Below.refl _ _) rfl)
            clear hfix hdep hK hk hsz hI
            go_simp
          | 8, hk =>
            cases hk
            refine .inl ⟨?hg, fun K hK => ?_⟩
            case hg => exact wanted_is (c := false) (b := false) rfl rfl rfl (hdep 6 _ rfl (by kernel_rfl))
            have e0 : aa.tmps.getD 0 undef = .pointer (some ⟨sb, 0, none⟩) := hfix 0 (by kernel_rfl)
            refine wp_value (v := .pointer (some ⟨sb, 0, none⟩)) (w' := W) ?_ (hK _ _ (by simp) hI (Below.refl _ _) rfl)
            clear hfix hdep hK hk hsz hI
            go_simp
          | 9, hk =>
            cases hk
            refine .inl ⟨?hg, fun K hK => ?_⟩
            case hg => exact wanted_is (c := false) (b := false) rfl rfl rfl (hdep 6 _ rfl (by kernel_rfl))
            have e23 : aa.tmps.getD 23 undef = .pointer (some ⟨sb, 0, none⟩) := hdep 8 _ rfl (by kernel_rfl)
            refine wp_value (v := .pointer (some ⟨sb, 0, none⟩)) (w' := W) ?_ (hK _ _ (by simp) hI (Below.refl _ _) rfl)
            clear hfix hdep hK hk hsz hI
            go_simp
          | 10, hk =>
            cases hk
            refine .inl ⟨?hg, fun K hK => ?_⟩
            case hg => exact wanted_is (c := false) (b := false) rfl rfl rfl (hdep 6 _ rfl (by kernel_rfl))
            have e24 : aa.tmps.getD 24 undef = .pointer (some ⟨sb, 0, none⟩) := hdep 9 _ rfl (by kernel_rfl)
            refine wp_value (v := .pointer (some ⟨sb, 9, none⟩)) (w' := W) ?_ (hK _ _ (by simp) hI (Below.refl _ _) rfl)
            clear hfix hdep hK hk hsz hI
            go_simp
          | 11, hk =>
            cases hk
            refine .inl ⟨?hg, fun K hK => ?_⟩
            case hg => exact wanted_is (c := false) (b := false) rfl rfl rfl (hdep 6 _ rfl (by kernel_rfl))
            have e25 : aa.tmps.getD 25 undef = .pointer (some ⟨sb, 9, none⟩) := hdep 10 _ rfl (by kernel_rfl)
            obtain ⟨-, -, -, -, -, -, -, d8, d9, d10⟩ := hI.sr.cells
            rw [← HO2.out] at d9
            rw [← HS2.out] at d10
            refine wp_value (v := .agg #[.int .i64 o2, .int .i64 s2]) (w' := W) ?_ (hK _ _ (by simp) hI (Below.refl _ _) rfl)
            clear hfix hdep hK hk hsz hI
            go_simp
          | 12, hk =>
            cases hk
            refine .inl ⟨?hg, fun K hK => ?_⟩
            case hg => exact wanted_is (c := false) (b := false) rfl rfl rfl (hdep 6 _ rfl (by kernel_rfl))
            have e22 : aa.tmps.getD 22 undef = .agg #[.int .i64 o1, .int .i64 s1] := hdep 7 _ rfl (by kernel_rfl)
            have e26 : aa.tmps.getD 26 undef = .agg #[.int .i64 o2, .int .i64 s2] := hdep 11 _ rfl (by kernel_rfl)
            refine wp_value (v := .bool false) (w' := W) ?_ (hK _ _ (by simp) hI (Below.refl _ _) rfl)
            clear hfix hdep hK hk hsz hI
            go_simp
          | 13, hk =>
            cases hk
            refine .inl ⟨?hg, fun K hK => ?_⟩
            case hg => exact wanted_is (c := false) (b := false) rfl rfl rfl (hdep 6 _ rfl (by kernel_rfl))
            have e27 : aa.tmps.getD 27 undef = .bool false := hdep 12 _ rfl (by kernel_rfl)
            refine wp_value (v := .bool false) (w' := W) ?_ (hK _ _ (by simp) hI (Below.refl _ _) rfl)
            clear hfix hdep hK hk hsz hI
            go_simp
          | 14, hk =>
            cases hk
            exact .inr ⟨(wanted_is (c := false) (b := true) rfl rfl rfl (hdep 13 _ rfl (by kernel_rfl))).trans rfl, rfl⟩
          | 15, hk =>
            cases hk
            exact .inr ⟨(wanted_is (c := false) (b := true) rfl rfl rfl (hdep 13 _ rfl (by kernel_rfl))).trans rfl, rfl⟩
          | 16, hk =>
            cases hk
            exact .inr ⟨(wanted_is (c := false) (b := true) rfl rfl rfl (hdep 13 _ rfl (by kernel_rfl))).trans rfl, rfl⟩
          | 17, hk =>
            cases hk
            exact .inr ⟨(wanted_is (c := false) (b := true) rfl rfl rfl (hdep 13 _ rfl (by kernel_rfl))).trans rfl, rfl⟩
          | 18, hk =>
            cases hk
            exact .inr ⟨(wanted_is (c := false) (b := true) rfl rfl rfl (hdep 13 _ rfl (by kernel_rfl))).trans rfl, rfl⟩
          | 19, hk =>
            cases hk
            exact .inr ⟨(wanted_is (c := false) (b := true) rfl rfl rfl (hdep 13 _ rfl (by kernel_rfl))).trans rfl, rfl⟩
          | 20, hk =>
            cases hk
            exact .inr ⟨(wanted_is (c := false) (b := true) rfl rfl rfl (hdep 13 _ rfl (by kernel_rfl))).trans rfl, rfl⟩
          | 21, hk =>
            cases hk
            refine .inl ⟨?hg, fun K hK => ?_⟩
            case hg => exact wanted_is (c := false) (b := false) rfl rfl rfl (hdep 6 _ rfl (by kernel_rfl))
            have e28 : aa.tmps.getD 28 undef = .bool false := hdep 13 _ rfl (by kernel_rfl)
            have e35 : aa.tmps.getD 35 undef = undef := hdep 20 _ rfl (by kernel_rfl)
            refine wp_value (v := .bool false) (w' := W) ?_ (hK _ _ (by simp) hI (Below.refl _ _) rfl)
            clear hfix hdep hK hk hsz hI
            go_simp
          | 22, hk =>
            cases hk
            refine .inl ⟨wanted_none rfl, fun K hK => ?_⟩
            have e21 : aa.tmps.getD 21 undef = .bool false := hdep 6 _ rfl (by kernel_rfl)
            have e36 : aa.tmps.getD 36 undef = .bool false := hdep 21 _ rfl (by kernel_rfl)
            refine wp_value (v := .bool false) (w' := W) ?_ (hK _ _ (by simp) hI (Below.refl _ _) rfl)
            clear hfix hdep hK hk hsz hI
            go_simp
          | k + 23, hk => cases hk
        case refine_2 =>
          intro aa W hI hd hsz hfix hpost
          have e0 : aa.tmps.getD 0 undef = .pointer (some ⟨sb, 0, none⟩) := hfix 0 (by kernel_rfl)
          have e1 : aa.tmps.getD 1 undef = .slice va vs.length vc := hfix 1 (by kernel_rfl)
          have e4 : aa.tmps.getD 4 undef = .pointer (some ⟨cb, 0, none⟩) := hfix 4 (by kernel_rfl)
          have e37 : aa.tmps.getD 37 undef = .bool false := hpost 22 _ rfl
          clear hfix hpost I0 R0 qL qK hEQ
          obtain ⟨tm, df⟩ := aa
          obtain ⟨x0, x1, x2, x3, x4, x5, x6, x7, x8, x9, x10, x11, x12, x13, x14, x15, x16, x17, x18, x19, x20, x21, x22, x23, x24, x25, x26, x27, x28, x29, x30, x31, x32, x33, x34, x35, x36, x37, x38, x39, x40, x41, x42, x43, x44, x45, rfl⟩ := arr46 (xs := tm) hsz
          have hdf : df = [] := hd
          subst hdf
          have f0 : x0 = .pointer (some ⟨sb, 0, none⟩) := e0
          have f1 : x1 = .slice va vs.length vc := e1
          have f4 : x4 = .pointer (some ⟨cb, 0, none⟩) := e4
          have f37 : x37 = .bool false := e37
          subst f0 f1 f4 f37
          clear e0 e1 e4 e37 hsz hd
          have HNI := hidOf (HN.out _ hI (by rw [HA.out]; rfl))
          clear hI
          go_wp2
          go_end0
          exact ⟨rfl, HNI.out⟩
      | true =>
        refine wp_region_guards (by kernel_rfl) (fun W => Wv w0 sb p l wd W a c ps ba bc bs cb o1 s1 va vc vs) (fun W W' => Below W.heap.size W W') (wgPostC sb o1 s1 o2 s2 va vs vc ba bs bc cm b3) (I0.below (Below.refl _ _).drew) (by kernel_rfl) (fun k v W W' h _ _ => wgPostC_stab k v W W' h) ?_ ?_
        case refine_1 =>
          intro kk oo hk aa W hI hsz hfix hdep
          clear I0 R0
          match kk, hk with
          | 0, hk =>
            cases hk
            refine .inl ⟨wanted_none rfl, fun K hK => ?_⟩
            have e4 : aa.tmps.getD 4 undef = .pointer (some ⟨cb, 0, none⟩) := hfix 4 (by kernel_rfl)
            have d0 := cell_of_row W cb 0 _ _ _ hI.box
            have d1 := cell_of_row W cb 1 _ _ _ hI.box
            simp only [List.getElem?_toArray, List.getElem?_cons_zero, List.getElem?_cons_succ] at d0 d1
            refine wp_value (v := .agg #[.int .i64 o1, .int .i64 s1]) (w' := W) ?_ (hK _ _ (by simp) hI (Below.refl _ _) rfl)
            clear hfix hdep hK hk hsz hI
            go_simp
          | 1, hk =>
            cases hk
            refine .inl ⟨wanted_none rfl, fun K hK => ?_⟩
            have e0 : aa.tmps.getD 0 undef = .pointer (some ⟨sb, 0, none⟩) := hfix 0 (by kernel_rfl)
            refine wp_value (v := .pointer (some ⟨sb, 0, none⟩)) (w' := W) ?_ (hK _ _ (by simp) hI (Below.refl _ _) rfl)
            clear hfix hdep hK hk hsz hI
            go_simp
          | 2, hk =>
            cases hk
            refine .inl ⟨wanted_none rfl, fun K hK => ?_⟩
            have e16 : aa.tmps.getD 16 undef = .pointer (some ⟨sb, 0, none⟩) := hdep 1 _ rfl (by kernel_rfl)
            refine wp_value (v := .pointer (some ⟨sb, 0, none⟩)) (w' := W) ?_ (hK _ _ (by simp) hI (Below.refl _ _) rfl)
            clear hfix hdep hK hk hsz hI
            go_simp
          | 3, hk =>
            cases hk
            refine .inl ⟨wanted_none rfl, fun K hK => ?_⟩
            have e17 : aa.tmps.getD 17 undef = .pointer (some ⟨sb, 0, none⟩) := hdep 2 _ rfl (by kernel_rfl)
            refine wp_value (v := .pointer (some ⟨sb, 9, none⟩)) (w' := W) ?_ (hK _ _ (by simp) hI (Below.refl _ _) rfl)
            clear hfix hdep hK hk hsz hI
            go_simp
          | 4, hk =>
            cases hk
            refine .inl ⟨wanted_none rfl, fun K hK => ?_⟩
            have e18 : aa.tmps.getD 18 undef = .pointer (some ⟨sb, 9, none⟩) := hdep 3 _ rfl (by kernel_rfl)
            obtain ⟨-, -, -, -, -, -, -, d8, d9, d10⟩ := hI.sr.cells
            rw [← HO2.out] at d9
            rw [← HS2.out] at d10
            refine wp_value (v := .agg #[.int .i64 o2, .int .i64 s2]) (w' := W) ?_ (hK _ _ (by simp) hI (Below.refl _ _) rfl)
            clear hfix hdep hK hk hsz hI
            go_simp
          | 5, hk =>
            cases hk
            refine .inl ⟨wanted_none rfl, fun K hK => ?_⟩
            have e15 : aa.tmps.getD 15 undef = .agg #[.int .i64 o1, .int .i64 s1] := hdep 0 _ rfl (by kernel_rfl)
            have e19 : aa.tmps.getD 19 undef = .agg #[.int .i64 o2, .int .i64 s2] := hdep 4 _ rfl (by kernel_rfl)
            have hcon := qL W
            refine wp_calls 67 #[.agg #[.int .i64 o1, .int .i64 s1], .agg #[.int .i64 o2, .int .i64 s2]] ?_ hcon ?_
            · clear hfix hdep hK hk hsz hcon
              go_simp
              try rfl
            · rintro e W2 ⟨rfl, A⟩
              exact ⟨_, rfl, hK _ _ (by simp) (hI.below A) A rfl⟩
          | 6, hk =>
            cases hk
            refine .inl ⟨wanted_none rfl, fun K hK => ?_⟩
            have e20 : aa.tmps.getD 20 undef = .bool false := hdep 5 _ rfl (by kernel_rfl)
            refine wp_value (v := .bool false) (w' := W) ?_ (hK _ _ (by simp) hI (Below.refl _ _) rfl)
            clear hfix hdep hK hk hsz hI
            go_simp
          | 7, hk =>
            cases hk
            refine .inl ⟨?hg, fun K hK => ?_⟩
            case hg => exact wanted_is (c := false) (b := false) rfl rfl rfl (hdep 6 _ rfl (by kernel_rfl))
            have e4 : aa.tmps.getD 4 undef = .pointer (some ⟨cb, 0, none⟩) := hfix 4 (by kernel_rfl)
            have d0 := cell_of_row W cb 0 _ _ _ hI.box
            have d1 := cell_of_row W cb 1 _ _ _ hI.box
            simp only [List.getElem?_toArray, List.getElem?_cons_zero, List.getElem?_cons_succ] at d0 d1
            refine wp_value (v := .agg #[.int .i64 o1, .int .i64 s1]) (w' := W) ?_ (hK _ _ (by simp) hI (Below.refl _ _) rfl)
            clear hfix hdep hK hk hsz hI
            go_simp
          | 8, hk =>
            cases hk
            refine .inl ⟨?hg, fun K hK => ?_⟩
            case hg => exact wanted_is (c := false) (b := false) rfl rfl rfl (hdep 6 _ rfl (by kernel_rfl))
            have e0 : aa.tmps.getD 0 undef = .pointer (some ⟨sb, 0, none⟩) := hfix 0 (by kernel_rfl)
            refine wp_value (v := .pointer (some ⟨sb, 0, none⟩)) (w' := W) ?_ (hK _ _ (by simp) hI (Below.refl _ _) rfl)
            clear hfix hdep hK hk hsz hI
            go_simp
          | 9, hk =>
            cases hk
            refine .inl ⟨?hg, fun K hK => ?_⟩
            case hg => exact wanted_is (c := false) (b := false) rfl rfl rfl (hdep 6 _ rfl (by kernel_rfl))
            have e23 : aa.tmps.getD 23 undef = .pointer (some ⟨sb, 0, none⟩) := hdep 8 _ rfl (by kernel_rfl)
            refine wp_value (v := .pointer (some ⟨sb, 0, none⟩)) (w' := W) ?_ (hK _ _ (by simp) hI (Below.refl _ _) rfl)
            clear hfix hdep hK hk hsz hI
            go_simp
          | 10, hk =>
            cases hk
            refine .inl ⟨?hg, fun K hK => ?_⟩
            case hg => exact wanted_is (c := false) (b := false) rfl rfl rfl (hdep 6 _ rfl (by kernel_rfl))
            have e24 : aa.tmps.getD 24 undef = .pointer (some ⟨sb, 0, none⟩) := hdep 9 _ rfl (by kernel_rfl)
            refine wp_value (v := .pointer (some ⟨sb, 9, none⟩)) (w' := W) ?_ (hK _ _ (by simp) hI (Below.refl _ _) rfl)
            clear hfix hdep hK hk hsz hI
            go_simp
          | 11, hk =>
            cases hk
            refine .inl ⟨?hg, fun K hK => ?_⟩
            case hg => exact wanted_is (c := false) (b := false) rfl rfl rfl (hdep 6 _ rfl (by kernel_rfl))
            have e25 : aa.tmps.getD 25 undef = .pointer (some ⟨sb, 9, none⟩) := hdep 10 _ rfl (by kernel_rfl)
            obtain ⟨-, -, -, -, -, -, -, d8, d9, d10⟩ := hI.sr.cells
            rw [← HO2.out] at d9
            rw [← HS2.out] at d10
            refine wp_value (v := .agg #[.int .i64 o2, .int .i64 s2]) (w' := W) ?_ (hK _ _ (by simp) hI (Below.refl _ _) rfl)
            clear hfix hdep hK hk hsz hI
            go_simp
          | 12, hk =>
            cases hk
            refine .inl ⟨?hg, fun K hK => ?_⟩
            case hg => exact wanted_is (c := false) (b := false) rfl rfl rfl (hdep 6 _ rfl (by kernel_rfl))
            have e22 : aa.tmps.getD 22 undef = .agg #[.int .i64 o1, .int .i64 s1] := hdep 7 _ rfl (by kernel_rfl)
            have e26 : aa.tmps.getD 26 undef = .agg #[.int .i64 o2, .int .i64 s2] := hdep 11 _ rfl (by kernel_rfl)
            refine wp_value (v := .bool true) (w' := W) ?_ (hK _ _ (by simp) hI (Below.refl _ _) rfl)
            clear hfix hdep hK hk hsz hI
            go_simp
          | 13, hk =>
            cases hk
            refine .inl ⟨?hg, fun K hK => ?_⟩
            case hg => exact wanted_is (c := false) (b := false) rfl rfl rfl (hdep 6 _ rfl (by kernel_rfl))
            have e27 : aa.tmps.getD 27 undef = .bool true := hdep 12 _ rfl (by kernel_rfl)
            refine wp_value (v := .bool true) (w' := W) ?_ (hK _ _ (by simp) hI (Below.refl _ _) rfl)
            clear hfix hdep hK hk hsz hI
            go_simp
          | 14, hk =>
            cases hk
            refine .inl ⟨?hg, fun K hK => ?_⟩
            case hg => exact wanted_is (c := true) (b := true) rfl rfl rfl (hdep 13 _ rfl (by kernel_rfl))
            have e1 : aa.tmps.getD 1 undef = .slice va vs.length vc := hfix 1 (by kernel_rfl)
            refine wp_value (v := .slice va vs.length vc) (w' := W) ?_ (hK _ _ (by simp) hI (Below.refl _ _) rfl)
            clear hfix hdep hK hk hsz hI
            go_simp
          | 15, hk =>
            cases hk
            refine .inl ⟨?hg, fun K hK => ?_⟩
            case hg => exact wanted_is (c := true) (b := true) rfl rfl rfl (hdep 13 _ rfl (by kernel_rfl))
            have e0 : aa.tmps.getD 0 undef = .pointer (some ⟨sb, 0, none⟩) := hfix 0 (by kernel_rfl)
            refine wp_value (v := .pointer (some ⟨sb, 0, none⟩)) (w' := W) ?_ (hK _ _ (by simp) hI (Below.refl _ _) rfl)
            clear hfix hdep hK hk hsz hI
            go_simp
          | 16, hk =>
            cases hk
            refine .inl ⟨?hg, fun K hK => ?_⟩
            case hg => exact wanted_is (c := true) (b := true) rfl rfl rfl (hdep 13 _ rfl (by kernel_rfl))
            have e30 : aa.tmps.getD 30 undef = .pointer (some ⟨sb, 0, none⟩) := hdep 15 _ rfl (by kernel_rfl)
            refine wp_value (v := .pointer (some ⟨sb, 0, none⟩)) (w' := W) ?_ (hK _ _ (by simp) hI (Below.refl _ _) rfl)
            clear hfix hdep hK hk hsz hI
            go_simp
          | 17, hk =>
            cases hk
            refine .inl ⟨?hg, fun K hK => ?_⟩
            case hg => exact wanted_is (c := true) (b := true) rfl rfl rfl (hdep 13 _ rfl (by kernel_rfl))
            have e31 : aa.tmps.getD 31 undef = .pointer (some ⟨sb, 0, none⟩) := hdep 16 _ rfl (by kernel_rfl)
            refine wp_value (v := .pointer (some ⟨sb, 8, none⟩)) (w' := W) ?_ (hK _ _ (by simp) hI (Below.refl _ _) rfl)
            clear hfix hdep hK hk hsz hI
            go_simp
          | 18, hk =>
            cases hk
            refine .inl ⟨?hg, fun K hK => ?_⟩
            case hg => exact wanted_is (c := true) (b := true) rfl rfl rfl (hdep 13 _ rfl (by kernel_rfl))
            have e32 : aa.tmps.getD 32 undef = .pointer (some ⟨sb, 8, none⟩) := hdep 17 _ rfl (by kernel_rfl)
            obtain ⟨-, -, -, -, -, -, -, d8, d9, d10⟩ := hI.sr.cells
            rw [← HO2.out] at d9
            rw [← HS2.out] at d10
            refine wp_value (v := .slice ba bs.length bc) (w' := W) ?_ (hK _ _ (by simp) hI (Below.refl _ _) rfl)
            clear hfix hdep hK hk hsz hI
            go_simp
          | 19, hk =>
            cases hk
            refine .inl ⟨?hg, fun K hK => ?_⟩
            case hg => exact wanted_is (c := true) (b := true) rfl rfl rfl (hdep 13 _ rfl (by kernel_rfl))
            have e29 : aa.tmps.getD 29 undef = .slice va vs.length vc := hdep 14 _ rfl (by kernel_rfl)
            have e33 : aa.tmps.getD 33 undef = .slice ba bs.length bc := hdep 18 _ rfl (by kernel_rfl)
            have hcon := qK W (.of_own hI.own) (.of_own hI.sr.best)
            refine wp_calls 122 #[.slice va vs.length vc, .slice ba bs.length bc] ?_ hcon ?_
            · clear hfix hdep hK hk hsz hcon
              go_simp
              try rfl
            · rintro e W2 ⟨rfl, rfl⟩
              exact ⟨_, rfl, hK _ _ (by simp) hI (Below.refl _ _) rfl⟩
          | 20, hk =>
            cases hk
            refine .inl ⟨?hg, fun K hK => ?_⟩
            case hg => exact wanted_is (c := true) (b := true) rfl rfl rfl (hdep 13 _ rfl (by kernel_rfl))
            have e34 : aa.tmps.getD 34 undef = .int .i64 cm := hdep 19 _ rfl (by kernel_rfl)
            refine wp_value (v := .bool b3) (w' := W) ?_ (hK _ _ (by simp) hI (Below.refl _ _) rfl)
            clear hfix hdep hK hk hsz hI
            go_simp
          | 21, hk =>
            cases hk
            refine .inl ⟨?hg, fun K hK => ?_⟩
            case hg => exact wanted_is (c := false) (b := false) rfl rfl rfl (hdep 6 _ rfl (by kernel_rfl))
            have e28 : aa.tmps.getD 28 undef = .bool true := hdep 13 _ rfl (by kernel_rfl)
            have e35 : aa.tmps.getD 35 undef = .bool b3 := hdep 20 _ rfl (by kernel_rfl)
            refine wp_value (v := .bool b3) (w' := W) ?_ (hK _ _ (by simp) hI (Below.refl _ _) rfl)
            clear hfix hdep hK hk hsz hI
            go_simp
          | 22, hk =>
            cases hk
            refine .inl ⟨wanted_none rfl, fun K hK => ?_⟩
            have e21 : aa.tmps.getD 21 undef = .bool false := hdep 6 _ rfl (by kernel_rfl)
            have e36 : aa.tmps.getD 36 undef = .bool b3 := hdep 21 _ rfl (by kernel_rfl)
            refine wp_value (v := .bool b3) (w' := W) ?_ (hK _ _ (by simp) hI (Below.refl _ _) rfl)
            clear hfix hdep hK hk hsz hI
            go_simp
          | k + 23, hk => cases hk
        case refine_2 =>
          intro aa W hI hd hsz hfix hpost
          have e0 : aa.tmps.getD 0 undef = .pointer (some ⟨sb, 0, none⟩) := hfix 0 (by kernel_rfl)
          have e1 : aa.tmps.getD 1 undef = .slice va vs.length vc := hfix 1 (by kernel_rfl)
          have e4 : aa.tmps.getD 4 undef = .pointer (some ⟨cb, 0, none⟩) := hfix 4 (by kernel_rfl)
          have e37 : aa.tmps.getD 37 undef = .bool b3 := hpost 22 _ rfl
          clear hfix hpost I0 R0 qL qK hEQ
          obtain ⟨tm, df⟩ := aa
          obtain ⟨x0, x1, x2, x3, x4, x5, x6, x7, x8, x9, x10, x11, x12, x13, x14, x15, x16, x17, x18, x19, x20, x21, x22, x23, x24, x25, x26, x27, x28, x29, x30, x31, x32, x33, x34, x35, x36, x37, x38, x39, x40, x41, x42, x43, x44, x45, rfl⟩ := arr46 (xs := tm) hsz
          have hdf : df = [] := hd
          subst hdf
          have f0 : x0 = .pointer (some ⟨sb, 0, none⟩) := e0
          have f1 : x1 = .slice va vs.length vc := e1
          have f4 : x4 = .pointer (some ⟨cb, 0, none⟩) := e4
          have f37 : x37 = .bool b3 := e37
          subst f0 f1 f4 f37
          clear e0 e1 e4 e37 hsz hd
          cases b3 with
          | true =>
            have HYI := hidOf (HY.out _ (hI.below (Below.refl _ _).drew) (by rw [HA.out]; rfl))
            have d0 := cell_of_row W cb 0 _ _ _ hI.box
            have d1 := cell_of_row W cb 1 _ _ _ hI.box
            simp only [List.getElem?_toArray, List.getElem?_cons_zero, List.getElem?_cons_succ] at d0 d1
            obtain ⟨hls, -, -, -, -, -, -, d8, d9, d10⟩ := hI.sr.cells
            have hf8 := frozen_of_row W sb 8 _ _ hI.sr.hv.row
            have hf9 := frozen_of_row W sb 9 _ _ hI.sr.hv.row
            have hf10 := frozen_of_row W sb 10 _ _ hI.sr.hv.row
            clear hI
            go_wp2
            go_region
            all_goals go_wp2
            all_goals go_end0
            all_goals exact ⟨rfl, HYI.out⟩
          | false =>
            have HNI := hidOf (HN.out _ hI (by rw [HA.out]; rfl))
            clear hI
            go_wp2
            go_end0
            exact ⟨rfl, HNI.out⟩
end Go.Proofs.Ytgaejcljabhijaa
