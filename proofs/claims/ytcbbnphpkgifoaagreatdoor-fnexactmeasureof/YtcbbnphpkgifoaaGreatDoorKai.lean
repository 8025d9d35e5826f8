/- Marks, names, what is wanted, one more node: the specification's reader. -/
import Derived.Test.YtcbbnphpkgifoaaGreatDoorKah
import Derived.Test.YtcbbnphpkgifoaaGreatDoorKac
import Derived.Test.YtcbbnphpkgifoaaGreatDoorRdI5
namespace Go.Proofs.YtcbbnphpkgifoaaGreatDoor
open Go.RowKit
set_option maxHeartbeats 2000000
set_option maxRecDepth 100000
def VNs : Option Nat → Ending → World → Prop := fun o e _ => ∃ k : Int, e = .returned (.int .i64 k) ∧ ∀ a, o = some a → k = (a : Int)
def VUs : Option Unit → Ending → World → Prop := fun _ e _ => e = .returned (.tuple #[])
def VTs : Option ByteArray → Ending → World → Prop := fun o e _ => ∃ u : ByteArray, e = .returned (.string u) ∧ ∀ a, o = some a → u = a
theorem drewN_below (w : World) (m : Nat) : Below w.heap.size w (w.drewN m) := below_drewN w m
section
variable {B g : Nat} {xs : List Sg} {A : Nat → Prop} {w : World} {t : Option Ps}
theorem sMarkY {s : Ps} {u : ByteArray} (h : SR B g xs A w (some s)) (hX : xs.length ≤ 3000) (hq : isP xs (some s) 4 u = true) : Calls Tryz.prog 97 #[.pointer (some ⟨g, 0, none⟩), .string u] w fun e w' =>
  e = .returned (.bool true) ∧ SR B g xs A w' (some s.next) ∧ Fr B w w' := by
 have qI := sIs h 4 u (by decide)
 rw [hq] at qI
 have hl : s.p < xs.length := by
  unfold isP at hq
  simp only [Bool.and_eq_true, beq_iff_eq] at hq
  exact knd_lt hq.1 (by decide)
 go_enter Tryz.func97, Tryz.ntmps97
 go_wp2_with fail
 refine qI.mono ?_
 rintro e w1 ⟨rfl, m, hm⟩
 have B1 : Below w.heap.size w w1 := by rw [hm]; exact drewN_below w m
 have S1 := h.below B1
 have F1 := Fr.ofB B1 h.base
 clear hm
 obtain ⟨h1, hd⟩ := S1
 have P1 := h1.setP (s.p + 1) hl
 obtain ⟨sa, sc, na, nc, -, c1, -, -, -, hz⟩ := h1.cells
 have z1 := hz 1
 have e1 : ((s.p : Int) + 1) = ((s.p + 1 : Nat) : Int) := by omega
 rw [← e1] at P1
 have HP := hidOf P1
 have HF := hidOf F1
 have HD := hidOf hd
 clear qI hq h h1 hz P1 F1 e1 hd B1
 go_wp2
 go_ret
 exact ⟨rfl, ⟨HP.out.1, HD.out⟩, HF.out.trans HP.out.2⟩
theorem sMarkN {u : ByteArray} (h : SR B g xs A w t) (hq : isP xs t 4 u = false) : Calls Tryz.prog 97 #[.pointer (some ⟨g, 0, none⟩), .string u] w fun e w' =>
  e = .returned (.bool false) ∧ Below w.heap.size w w' := by
 have qI := sIs h 4 u (by decide)
 rw [hq] at qI
 go_enter Tryz.func97, Tryz.ntmps97
 go_wp2_with fail
 refine qI.mono ?_
 rintro e w1 ⟨rfl, m, hm⟩
 have B1 : Below w.heap.size w w1 := by rw [hm]; exact drewN_below w m
 clear qI hq h hm
 go_wp2
 go_ret
 exact ⟨rfl, B1⟩
def MarkT (xs : List Sg) (u : ByteArray) : Prop := ∀ p, txt xs p = u → knd xs p = 4
theorem isP_mark {u : ByteArray} {s : Ps} (hm : MarkT xs u) : isP xs (some s) 4 u = decide (txt xs s.p = u) := by
 unfold isP
 by_cases h : txt xs s.p = u
 ·simp [h, hm _ h]
 ·simp [h]
theorem sWants {u : ByteArray} {o : Option (Unit × Ps)} (h : SR B g xs A w t) (hX : xs.length ≤ 3000) (hm : MarkT xs u) (hr : Told (wantP xs u) t o) : Calls Tryz.prog 96 #[.pointer (some ⟨g, 0, none⟩), .string u] w (PostS B g xs A w VUs o) := by
 have hno : ∀ (t : Option Ps), SR B g xs A w t → isP xs t 4 u = false → o = none → Calls Tryz.prog 96 #[.pointer (some ⟨g, 0, none⟩), .string u] w (PostS B g xs A w VUs o) := by
  intro t h hq ho
  subst ho
  have qN := sMarkN h hq
  go_enter Tryz.func96, Tryz.ntmps96
  go_wp2_with fail
  refine qN.mono ?_
  rintro e w1 ⟨rfl, B1⟩
  obtain ⟨bd, s, h1, hd⟩ := (h.below B1).any
  have P1 := h1.setB
  obtain ⟨sa, sc, na, nc, -, -, c2, -, -, hz⟩ := h1.cells
  have z2 := hz 2
  have HP := hidOf P1
  have HF := hidOf (Fr.ofB (B := B) B1 h.base)
  have HD := hidOf hd
  clear qN hq h h1 hz P1 hd B1
  go_wp2
  go_end0
  exact ⟨rfl, ⟨s, HP.out.1, HD.out⟩, HF.out.trans HP.out.2⟩
 match t, h, hr with
 | none, h, hr => exact hno none h rfl hr
 | some s, h, hr =>
  by_cases he : txt xs s.p = u
  ·obtain rfl : some ((), s.next) = o := by
    have hr2 : wantP xs u s = some o := hr
    unfold wantP at hr2
    rw [if_pos he] at hr2
    injection hr2
   have qY := sMarkY h hX (by rw [isP_mark hm]; exact decide_eq_true he)
   clear hno hr
   go_enter Tryz.func96, Tryz.ntmps96
   go_wp2_with fail
   refine qY.mono ?_
   rintro e w1 ⟨rfl, S1, F1⟩
   have HS := hidOf S1
   have HF := hidOf F1
   clear qY he h S1 F1
   go_wp2
   go_end0
   exact ⟨rfl, HS.out, HF.out⟩
  ·refine hno (some s) h (by rw [isP_mark hm]; exact decide_eq_false he) ?_
   have hr2 : wantP xs u s = some o := hr
   unfold wantP at hr2
   rw [if_neg he] at hr2
   injection hr2 with hr2
   exact hr2.symm
end
set_option maxHeartbeats 4000000
set_option maxRecDepth 100000
def kdP (xs : List Sg) (t : Option Ps) (k : Int) : Bool :=
 match t with
 | none => false
 | some s => (knd xs s.p == k) && (!(k == 1) || !kw (txt xs s.p))
def textP (xs : List Sg) (k : Int) (s : Ps) : Rs ByteArray := if kdP xs (some s) k = true then yes (txt xs s.p) s.next else some none
section
variable {B g : Nat} {xs : List Sg} {A : Nat → Prop} {w : World} {t : Option Ps}
theorem sWordY {s : Ps} {u : ByteArray} (h : SR B g xs A w (some s)) (hX : xs.length ≤ 3000) (hq : isP xs (some s) 1 u = true) : Calls Tryz.prog 94 #[.pointer (some ⟨g, 0, none⟩), .string u] w fun e w' =>
  e = .returned (.bool true) ∧ SR B g xs A w' (some s.next) ∧ Fr B w w' := by
 have qI := sIs h 1 u (by decide)
 rw [hq] at qI
 have hl : s.p < xs.length := by
  unfold isP at hq
  simp only [Bool.and_eq_true, beq_iff_eq] at hq
  exact knd_lt hq.1 (by decide)
 go_enter Tryz.func94, Tryz.ntmps94
 go_wp2_with fail
 refine qI.mono ?_
 rintro e w1 ⟨rfl, m, hm⟩
 have B1 : Below w.heap.size w w1 := by rw [hm]; exact drewN_below w m
 have S1 := h.below B1
 have F1 := Fr.ofB B1 h.base
 clear hm
 obtain ⟨h1, hd⟩ := S1
 have P1 := h1.setP (s.p + 1) hl
 obtain ⟨sa, sc, na, nc, -, c1, -, -, -, hz⟩ := h1.cells
 have z1 := hz 1
 have e1 : ((s.p : Int) + 1) = ((s.p + 1 : Nat) : Int) := by omega
 rw [← e1] at P1
 have HP := hidOf P1
 have HF := hidOf F1
 have HD := hidOf hd
 clear qI hq h h1 hz P1 F1 e1 hd B1
 go_wp2
 go_ret
 exact ⟨rfl, ⟨HP.out.1, HD.out⟩, HF.out.trans HP.out.2⟩
theorem sWordN {u : ByteArray} (h : SR B g xs A w t) (hq : isP xs t 1 u = false) : Calls Tryz.prog 94 #[.pointer (some ⟨g, 0, none⟩), .string u] w fun e w' =>
  e = .returned (.bool false) ∧ Below w.heap.size w w' := by
 have qI := sIs h 1 u (by decide)
 rw [hq] at qI
 go_enter Tryz.func94, Tryz.ntmps94
 go_wp2_with fail
 refine qI.mono ?_
 rintro e w1 ⟨rfl, m, hm⟩
 have B1 : Below w.heap.size w w1 := by rw [hm]; exact drewN_below w m
 clear qI hq h hm
 go_wp2
 go_ret
 exact ⟨rfl, B1⟩
theorem sKind1 (h : SR B g xs A w t) : Calls Tryz.prog 92 #[.pointer (some ⟨g, 0, none⟩), .int .i64 1] w fun e w' => e = .returned (.bool (kdP xs t 1)) ∧ ∃ m, w' = w.drewN m := by
 match t, h with
 | none, ⟨s, h, _⟩ =>
  obtain ⟨sa, sc, na, nc, -, -, c2, -, -, -⟩ := h.cells
  have hg := h.lt
  clear h
  go_enter Tryz.func92, Tryz.ntmps92
  go_wp2
  go_quiet (fail)
  go_wp2
  go_ret
  exact ⟨rfl, _, rfl⟩
 | some s, ⟨h, _⟩ =>
  obtain ⟨sa, sc, na, nc, c0, c1, c2, -, -, -⟩ := h.cells
  have hg := h.lt
  have hp := h.pos
  by_cases hl : s.p < xs.length
  ·obtain ⟨b, sc1, pl, hb, X0, d0, d1, d2, d3⟩ := h.sign s.p hl
   have hA1 : (0 : Int) ≤ (s.p : Int) := by omega
   have hB1 : (s.p : Int) < (xs.length : Int) := by omega
   have hd1 : decide ((s.p : Int) < (xs.length : Int)) = true := by simp; omega
   have qK := fun W => sKey_any (txt xs s.p) W
   clear h c0
   have HI := hidOf (show kdP xs (some s) 1 = ((knd xs s.p == 1) && (!((1 : Int) == 1) || !kw (txt xs s.p))) from rfl)
   obtain ⟨k0, hk0⟩ : ∃ k, k = knd xs s.p := ⟨_, rfl⟩
   obtain ⟨u0, hu0⟩ : ∃ u, u = txt xs s.p := ⟨_, rfl⟩
   obtain ⟨b0, hb0⟩ : ∃ b, b = blk xs s.p := ⟨_, rfl⟩
   rw [← hk0] at d0 HI
   rw [← hu0] at d1 HI qK
   rw [← hb0] at d3
   clear hk0 hu0 hb0
   by_cases hq : k0 = 1
   ·subst hq
    have HI2 := hidOf (show kdP xs (some s) 1 = !kw u0 by rw [HI.out]; rfl)
    clear HI
    go_enter Tryz.func92, Tryz.ntmps92
    go_wp2
    go_quiet ((go_at_call 137; exact Calls.quiet_of_same (qK _)))
    go_wp2
    go_ret
    exact ⟨ret_bool HI2.out.symm, _, rfl⟩
   ·have hqk : (k0 == 1) = false := by rw [beq_eq_false_iff_ne]; exact hq
    clear hq
    go_enter Tryz.func92, Tryz.ntmps92
    go_wp2
    go_quiet (fail)
    go_wp2
    go_ret
    exact ⟨ret_bool (by rw [HI.out, hqk]; rfl), _, rfl⟩
  ·have hd1 : decide ((s.p : Int) < (xs.length : Int)) = false := by simp; omega
   have hd2 : decide (s.p < xs.length) = false := by simp; omega
   have HI := hidOf (show false = kdP xs (some s) 1 by unfold kdP; simp only [knd_past (show xs.length ≤ s.p by omega)]; rw [show ((0 : Int) == 1) = false from by rw [beq_eq_false_iff_ne]; decide]; rfl)
   clear h hl
   go_enter Tryz.func92, Tryz.ntmps92
   go_wp2
   go_quiet (fail)
   go_wp2
   go_ret
   exact ⟨ret_bool HI.out, _, rfl⟩
theorem sKind2 (h : SR B g xs A w t) : Calls Tryz.prog 92 #[.pointer (some ⟨g, 0, none⟩), .int .i64 2] w fun e w' => e = .returned (.bool (kdP xs t 2)) ∧ ∃ m, w' = w.drewN m := by
 match t, h with
 | none, ⟨s, h, _⟩ =>
  obtain ⟨sa, sc, na, nc, -, -, c2, -, -, -⟩ := h.cells
  have hg := h.lt
  clear h
  go_enter Tryz.func92, Tryz.ntmps92
  go_wp2
  go_quiet (fail)
  go_wp2
  go_ret
  exact ⟨rfl, _, rfl⟩
 | some s, ⟨h, _⟩ =>
  obtain ⟨sa, sc, na, nc, c0, c1, c2, -, -, -⟩ := h.cells
  have hg := h.lt
  have hp := h.pos
  by_cases hl : s.p < xs.length
  ·obtain ⟨b, sc1, pl, hb, X0, d0, d1, d2, d3⟩ := h.sign s.p hl
   have hA1 : (0 : Int) ≤ (s.p : Int) := by omega
   have hB1 : (s.p : Int) < (xs.length : Int) := by omega
   have hd1 : decide ((s.p : Int) < (xs.length : Int)) = true := by simp; omega
   have qK := fun W => sKey_any (txt xs s.p) W
   clear h c0
   have HI := hidOf (show kdP xs (some s) 2 = ((knd xs s.p == 2) && (!((2 : Int) == 1) || !kw (txt xs s.p))) from rfl)
   obtain ⟨k0, hk0⟩ : ∃ k, k = knd xs s.p := ⟨_, rfl⟩
   obtain ⟨u0, hu0⟩ : ∃ u, u = txt xs s.p := ⟨_, rfl⟩
   obtain ⟨b0, hb0⟩ : ∃ b, b = blk xs s.p := ⟨_, rfl⟩
   rw [← hk0] at d0 HI
   rw [← hu0] at d1 HI qK
   rw [← hb0] at d3
   clear hk0 hu0 hb0
   by_cases hq : k0 = 2
   ·subst hq
    have HI2 := hidOf (show kdP xs (some s) 2 = true by rw [HI.out]; rfl)
    clear HI
    go_enter Tryz.func92, Tryz.ntmps92
    go_wp2
    go_quiet ((go_at_call 137; exact Calls.quiet_of_same (qK _)))
    go_wp2
    go_ret
    exact ⟨ret_bool HI2.out.symm, _, rfl⟩
   ·have hqk : (k0 == 2) = false := by rw [beq_eq_false_iff_ne]; exact hq
    clear hq
    go_enter Tryz.func92, Tryz.ntmps92
    go_wp2
    go_quiet (fail)
    go_wp2
    go_ret
    exact ⟨ret_bool (by rw [HI.out, hqk]; rfl), _, rfl⟩
  ·have hd1 : decide ((s.p : Int) < (xs.length : Int)) = false := by simp; omega
   have hd2 : decide (s.p < xs.length) = false := by simp; omega
   have HI := hidOf (show false = kdP xs (some s) 2 by unfold kdP; simp only [knd_past (show xs.length ≤ s.p by omega)]; rw [show ((0 : Int) == 2) = false from by rw [beq_eq_false_iff_ne]; decide]; rfl)
   clear h hl
   go_enter Tryz.func92, Tryz.ntmps92
   go_wp2
   go_quiet (fail)
   go_wp2
   go_ret
   exact ⟨ret_bool HI.out, _, rfl⟩
theorem sKind3 (h : SR B g xs A w t) : Calls Tryz.prog 92 #[.pointer (some ⟨g, 0, none⟩), .int .i64 3] w fun e w' => e = .returned (.bool (kdP xs t 3)) ∧ ∃ m, w' = w.drewN m := by
 match t, h with
 | none, ⟨s, h, _⟩ =>
  obtain ⟨sa, sc, na, nc, -, -, c2, -, -, -⟩ := h.cells
  have hg := h.lt
  clear h
  go_enter Tryz.func92, Tryz.ntmps92
  go_wp2
  go_quiet (fail)
  go_wp2
  go_ret
  exact ⟨rfl, _, rfl⟩
 | some s, ⟨h, _⟩ =>
  obtain ⟨sa, sc, na, nc, c0, c1, c2, -, -, -⟩ := h.cells
  have hg := h.lt
  have hp := h.pos
  by_cases hl : s.p < xs.length
  ·obtain ⟨b, sc1, pl, hb, X0, d0, d1, d2, d3⟩ := h.sign s.p hl
   have hA1 : (0 : Int) ≤ (s.p : Int) := by omega
   have hB1 : (s.p : Int) < (xs.length : Int) := by omega
   have hd1 : decide ((s.p : Int) < (xs.length : Int)) = true := by simp; omega
   have qK := fun W => sKey_any (txt xs s.p) W
   clear h c0
   have HI := hidOf (show kdP xs (some s) 3 = ((knd xs s.p == 3) && (!((3 : Int) == 1) || !kw (txt xs s.p))) from rfl)
   obtain ⟨k0, hk0⟩ : ∃ k, k = knd xs s.p := ⟨_, rfl⟩
   obtain ⟨u0, hu0⟩ : ∃ u, u = txt xs s.p := ⟨_, rfl⟩
   obtain ⟨b0, hb0⟩ : ∃ b, b = blk xs s.p := ⟨_, rfl⟩
   rw [← hk0] at d0 HI
   rw [← hu0] at d1 HI qK
   rw [← hb0] at d3
   clear hk0 hu0 hb0
   by_cases hq : k0 = 3
   ·subst hq
    have HI2 := hidOf (show kdP xs (some s) 3 = true by rw [HI.out]; rfl)
    clear HI
    go_enter Tryz.func92, Tryz.ntmps92
    go_wp2
    go_quiet ((go_at_call 137; exact Calls.quiet_of_same (qK _)))
    go_wp2
    go_ret
    exact ⟨ret_bool HI2.out.symm, _, rfl⟩
   ·have hqk : (k0 == 3) = false := by rw [beq_eq_false_iff_ne]; exact hq
    clear hq
    go_enter Tryz.func92, Tryz.ntmps92
    go_wp2
    go_quiet (fail)
    go_wp2
    go_ret
    exact ⟨ret_bool (by rw [HI.out, hqk]; rfl), _, rfl⟩
  ·have hd1 : decide ((s.p : Int) < (xs.length : Int)) = false := by simp; omega
   have hd2 : decide (s.p < xs.length) = false := by simp; omega
   have HI := hidOf (show false = kdP xs (some s) 3 by unfold kdP; simp only [knd_past (show xs.length ≤ s.p by omega)]; rw [show ((0 : Int) == 3) = false from by rw [beq_eq_false_iff_ne]; decide]; rfl)
   clear h hl
   go_enter Tryz.func92, Tryz.ntmps92
   go_wp2
   go_quiet (fail)
   go_wp2
   go_ret
   exact ⟨ret_bool HI.out, _, rfl⟩
theorem sKind5 (h : SR B g xs A w t) : Calls Tryz.prog 92 #[.pointer (some ⟨g, 0, none⟩), .int .i64 5] w fun e w' => e = .returned (.bool (kdP xs t 5)) ∧ ∃ m, w' = w.drewN m := by
 match t, h with
 | none, ⟨s, h, _⟩ =>
  obtain ⟨sa, sc, na, nc, -, -, c2, -, -, -⟩ := h.cells
  have hg := h.lt
  clear h
  go_enter Tryz.func92, Tryz.ntmps92
  go_wp2
  go_quiet (fail)
  go_wp2
  go_ret
  exact ⟨rfl, _, rfl⟩
 | some s, ⟨h, _⟩ =>
  obtain ⟨sa, sc, na, nc, c0, c1, c2, -, -, -⟩ := h.cells
  have hg := h.lt
  have hp := h.pos
  by_cases hl : s.p < xs.length
  ·obtain ⟨b, sc1, pl, hb, X0, d0, d1, d2, d3⟩ := h.sign s.p hl
   have hA1 : (0 : Int) ≤ (s.p : Int) := by omega
   have hB1 : (s.p : Int) < (xs.length : Int) := by omega
   have hd1 : decide ((s.p : Int) < (xs.length : Int)) = true := by simp; omega
   have qK := fun W => sKey_any (txt xs s.p) W
   clear h c0
   have HI := hidOf (show kdP xs (some s) 5 = ((knd xs s.p == 5) && (!((5 : Int) == 1) || !kw (txt xs s.p))) from rfl)
   obtain ⟨k0, hk0⟩ : ∃ k, k = knd xs s.p := ⟨_, rfl⟩
   obtain ⟨u0, hu0⟩ : ∃ u, u = txt xs s.p := ⟨_, rfl⟩
   obtain ⟨b0, hb0⟩ : ∃ b, b = blk xs s.p := ⟨_, rfl⟩
   rw [← hk0] at d0 HI
   rw [← hu0] at d1 HI qK
   rw [← hb0] at d3
   clear hk0 hu0 hb0
   by_cases hq : k0 = 5
   ·subst hq
    have HI2 := hidOf (show kdP xs (some s) 5 = true by rw [HI.out]; rfl)
    clear HI
    go_enter Tryz.func92, Tryz.ntmps92
    go_wp2
    go_quiet ((go_at_call 137; exact Calls.quiet_of_same (qK _)))
    go_wp2
    go_ret
    exact ⟨ret_bool HI2.out.symm, _, rfl⟩
   ·have hqk : (k0 == 5) = false := by rw [beq_eq_false_iff_ne]; exact hq
    clear hq
    go_enter Tryz.func92, Tryz.ntmps92
    go_wp2
    go_quiet (fail)
    go_wp2
    go_ret
    exact ⟨ret_bool (by rw [HI.out, hqk]; rfl), _, rfl⟩
  ·have hd1 : decide ((s.p : Int) < (xs.length : Int)) = false := by simp; omega
   have hd2 : decide (s.p < xs.length) = false := by simp; omega
   have HI := hidOf (show false = kdP xs (some s) 5 by unfold kdP; simp only [knd_past (show xs.length ≤ s.p by omega)]; rw [show ((0 : Int) == 5) = false from by rw [beq_eq_false_iff_ne]; decide]; rfl)
   clear h hl
   go_enter Tryz.func92, Tryz.ntmps92
   go_wp2
   go_quiet (fail)
   go_wp2
   go_ret
   exact ⟨ret_bool HI.out, _, rfl⟩
theorem sKind (h : SR B g xs A w t) (k : Int) (hk : k = 1 ∨ k = 2 ∨ k = 3 ∨ k = 5) : Calls Tryz.prog 92 #[.pointer (some ⟨g, 0, none⟩), .int .i64 k] w fun e w' => e = .returned (.bool (kdP xs t k)) ∧ ∃ m, w' = w.drewN m := by
 rcases hk with rfl | rfl | rfl | rfl
 ·exact sKind1 h
 ·exact sKind2 h
 ·exact sKind3 h
 ·exact sKind5 h
end
end Go.Proofs.YtcbbnphpkgifoaaGreatDoor
