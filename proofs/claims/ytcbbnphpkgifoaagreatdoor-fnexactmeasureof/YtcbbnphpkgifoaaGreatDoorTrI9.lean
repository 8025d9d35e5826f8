/- Kids of a node: the program's kidsOk. By tools/rd/gti9.py. -/
import Derived.Test.YtcbbnphpkgifoaaGreatDoorTrI7
import Derived.Test.YtcbbnphpkgifoaaGreatDoorKar
import Derived.Test.YtcbbnphpkgifoaaGreatDoorKas
import Derived.BigQuiet
import Derived.Deep.QuietTactic
import Derived.Deep.CutRange
namespace Go.Proofs.YtcbbnphpkgifoaaGreatDoor
open Go.RowKit
set_option maxHeartbeats 12000000
set_option maxRecDepth 100000
theorem arr52 (t : Array Value) (h : t.size = 52) : ∃ x0 x1 x2 x3 x4 x5 x6 x7 x8 x9 x10 x11 x12 x13 x14 x15 x16 x17 x18 x19 x20 x21 x22 x23 x24 x25 x26 x27 x28 x29 x30 x31 x32 x33 x34 x35 x36 x37 x38 x39 x40 x41 x42 x43 x44 x45 x46 x47 x48 x49 x50 x51, t = #[x0, x1, x2, x3, x4, x5, x6, x7, x8, x9, x10, x11, x12, x13, x14, x15, x16, x17, x18, x19, x20, x21, x22, x23, x24, x25, x26, x27, x28, x29, x30, x31, x32, x33, x34, x35, x36, x37, x38, x39, x40, x41, x42, x43, x44, x45, x46, x47, x48, x49, x50, x51] := by
 obtain ⟨l⟩ := t
 match l, h with
 | x0 :: x1 :: x2 :: x3 :: x4 :: x5 :: x6 :: x7 :: x8 :: x9 :: x10 :: x11 :: x12 :: x13 :: x14 :: x15 :: x16 :: x17 :: x18 :: x19 :: x20 :: x21 :: x22 :: x23 :: x24 :: x25 :: x26 :: x27 :: x28 :: x29 :: x30 :: x31 :: x32 :: x33 :: x34 :: x35 :: x36 :: x37 :: x38 :: x39 :: x40 :: x41 :: x42 :: x43 :: x44 :: x45 :: x46 :: x47 :: x48 :: x49 :: x50 :: x51 :: [], _ => exact ⟨_, _, _, _, _, _, _, _, _, _, _, _, _, _, _, _, _, _, _, _, _, _, _, _, _, _, _, _, _, _, _, _, _, _, _, _, _, _, _, _, _, _, _, _, _, _, _, _, _, _, _, _, rfl⟩
def kdOff (b0 nn c m : Nat) (k2 : Int) (t2 : ByteArray) (a2 : Option Addr) (n2 c2 : Nat) (l2 _b1 : Bool) : Nat → Value → World → Prop
 | 0 => fun v _ => v = .slice (some ⟨b0, 0, none⟩) nn c
 | 1 => fun v _ => v = .slice (some ⟨b0, 0, none⟩) nn c
 | 2 => fun v _ => v = .int .i64 (m : Int)
 | 3 => fun v _ => v = .pointer (some ⟨b0, m * 4, none⟩)
 | 4 => fun v _ => v = .agg #[.int .i64 k2, .string t2, .slice a2 n2 c2, .bool l2]
 | 5 => fun v _ => v = .bool false
 | 6 => fun v _ => v = .bool true
 | 7 => fun v _ => v = .bool true
 | 19 => fun v _ => v = .bool true
 | _ => fun _ _ => True
theorem kdOff_stab (b0 nn c m : Nat) (k2 : Int) (t2 : ByteArray) (a2 : Option Addr) (n2 c2 : Nat) (l2 b1 : Bool) (i : Nat) (v : Value) (W W' : World) (h : kdOff b0 nn c m k2 t2 a2 n2 c2 l2 b1 i v W) : kdOff b0 nn c m k2 t2 a2 n2 c2 l2 b1 i v W' := by
 unfold kdOff at h ⊢
 split at h <;> first | exact h | trivial
def kdOn (b0 nn c m : Nat) (k2 : Int) (t2 : ByteArray) (a2 : Option Addr) (n2 c2 : Nat) (l2 _b1 : Bool) (FV : Value) (j nk r : Nat) (b2 : Bool) : Nat → Value → World → Prop
 | 0 => fun v _ => v = .slice (some ⟨b0, 0, none⟩) nn c
 | 1 => fun v _ => v = .slice (some ⟨b0, 0, none⟩) nn c
 | 2 => fun v _ => v = .int .i64 (m : Int)
 | 3 => fun v _ => v = .pointer (some ⟨b0, m * 4, none⟩)
 | 4 => fun v _ => v = .agg #[.int .i64 k2, .string t2, .slice a2 n2 c2, .bool l2]
 | 5 => fun v _ => v = .bool true
 | 6 => fun v _ => v = .bool false
 | 7 => fun v _ => v = .bool false
 | 8 => fun v _ => v = .slice (some ⟨b0, 0, none⟩) nn c
 | 9 => fun v _ => v = .slice (some ⟨b0, 0, none⟩) nn c
 | 10 => fun v _ => v = .int .i64 (m : Int)
 | 11 => fun v _ => v = .pointer (some ⟨b0, m * 4, none⟩)
 | 12 => fun v _ => v = .agg #[.int .i64 k2, .string t2, .slice a2 n2 c2, .bool l2]
 | 13 => fun v _ => v = FV
 | 14 => fun v _ => v = .int .i64 (j : Int)
 | 15 => fun v _ => v = .int .i64 (nk : Int)
 | 16 => fun v _ => v = .int .i64 (r : Int)
 | 17 => fun v _ => v = .bool b2
 | 18 => fun v _ => v = .bool (!b2)
 | 19 => fun v _ => v = .bool (!b2)
 | _ => fun _ _ => True
theorem kdOn_stab (b0 nn c m : Nat) (k2 : Int) (t2 : ByteArray) (a2 : Option Addr) (n2 c2 : Nat) (l2 b1 : Bool) (FV : Value) (j nk r : Nat) (b2 : Bool) (i : Nat) (v : Value) (W W' : World) (h : kdOn b0 nn c m k2 t2 a2 n2 c2 l2 b1 FV j nk r b2 i v W) : kdOn b0 nn c m k2 t2 a2 n2 c2 l2 b1 FV j nk r b2 i v W' := by
 unfold kdOn at h ⊢
 split at h <;> first | exact h | trivial
theorem MleafForm (v : Value) (w : World) : (method 323 225 v "loop.example/g00459/impl.countOk").run Tryz.prog w = .ok (315, v) w := by kernel_rfl
theorem MvaluesForm (v : Value) (w : World) : (method 323 227 v "loop.example/g00459/impl.countOk").run Tryz.prog w = .ok (316, v) w := by kernel_rfl
theorem MnamesForm (v : Value) (w : World) : (method 323 229 v "loop.example/g00459/impl.countOk").run Tryz.prog w = .ok (317, v) w := by kernel_rfl
theorem McascadeForm (v : Value) (w : World) : (method 323 230 v "loop.example/g00459/impl.countOk").run Tryz.prog w = .ok (318, v) w := by kernel_rfl
theorem MbranchForm (v : Value) (w : World) : (method 323 232 v "loop.example/g00459/impl.countOk").run Tryz.prog w = .ok (319, v) w := by kernel_rfl
theorem MbodyForm (v : Value) (w : World) : (method 323 234 v "loop.example/g00459/impl.countOk").run Tryz.prog w = .ok (320, v) w := by kernel_rfl
theorem roleK_range (k : Int) (i n : Nat) : 1 ≤ roleK k i n ∧ roleK k i n ≤ 7 := by
 unfold roleK
 repeat' split
 all_goals omega
theorem iRoleAny {k : Int} {i n : Nat} (w : World) (hn : n ≤ 12) (hi : i < n) (hc : cI k n = true) : Calls Tryz.prog 206 #[formV k, .int .i64 (i : Int), .int .i64 (n : Int)] w fun e w' => e = .returned (.int .i64 ((roleK k i n : Nat) : Int)) ∧ Below w.heap.size w w' := by
 by_cases h : 1 ≤ k ∧ k ≤ 22
 ·rcases kind_cases h with rfl | rfl | rfl | rfl | rfl | rfl | rfl | rfl | rfl | rfl | rfl | rfl | rfl | rfl | rfl | rfl | rfl | rfl | rfl | rfl | rfl | rfl
  ·exfalso; simp [cI] at hc; omega
  ·exfalso; simp [cI] at hc; omega
  ·exfalso; simp [cI] at hc; omega
  ·exact iRole4 i n w hn hi
  ·exact iRole5 i n w hn hi
  ·exact iRole6 i n w hn hi
  ·exact iRole7 i n w hn hi
  ·exact iRole8 i n w hn hi
  ·exact iRole9 i n w hn hi
  ·exact iRole10 i n w hn hi
  ·exact iRole11 i n w hn hi
  ·exact iRole12 i n w hn hi
  ·exact iRole13 i n w hn hi
  ·exact iRole14 i n w hn hi
  ·exact iRole15 i n w hn hi
  ·exact iRole16 i n w hn hi
  ·exact iRole17 i n w hn hi
  ·exact iRole18 i n w hn hi
  ·exfalso; simp [cI] at hc; omega
  ·exact iRole20 i n w hn hi
  ·exact iRole21 i n w hn hi
  ·exact iRole22 i n w hn hi
 ·rw [cI_no h] at hc
  cases hc
def KidsP (ns : List Nd) (x : Nd) : Prop := (1 ≤ x.kind ∧ x.kind ≤ 22) ∧ CntK x.kind x.kids.length ∧ ∀ (i : Nat) (z : Int) (y : Nd), x.kids[i]? = some z → ns[z.toNat]? = some y → CallK ns y ∧ RoleP ns y (roleK x.kind i x.kids.length)
theorem iKids {w : World} {B : Nat} {a : Option Addr} {c k : Nat} {qs : List Np} {q : Np} (h : Nds w B a c qs) (h1 : qs[k]? = some q) (hS : SafeNd q.nd) (h12 : q.nd.kids.length ≤ 12) (hpl : PlK q.nd.kids k q.nd.kids.length) :
  Calls Tryz.prog 159 #[.slice a qs.length c, agN q] w (TelB (KidsP (qs.map Np.nd) q.nd) w) := by
 have hkl : k < qs.length := (List.getElem?_eq_some_iff.1 h1).1
 obtain ⟨P, hP⟩ : ∃ P, P = KidsP (qs.map Np.nd) q.nd := ⟨_, rfl⟩
 have HP := hidOf (show P ↔ KidsP (qs.map Np.nd) q.nd by rw [hP])
 rw [← hP]
 have HK := hidOf (fun (i : Nat) (z : Int) (hz : q.nd.kids[i]? = some z) => h.kid h1 hz)
 have HCI := hidOf (cI_iff (k := q.nd.kind) h12 hS.casc)
 have HPL := hidOf hpl
 unfold agN
 obtain ⟨⟨kd, tx, ks, bl⟩, ka, kc⟩ := q
 simp only at HP HK HCI HPL h12 ⊢
 obtain ⟨FV, hFV⟩ : ∃ FV, FV = formV kd := ⟨_, rfl⟩
 have qF := fun W => iForm kd W
 rw [← hFV] at qF
 have HFV := hidOf hFV
 obtain ⟨W0, hW0⟩ : ∃ W0, W0 = w.alloc (.cells #[.int .i64 kd, .string tx, .slice ka ks.length kc, .bool bl] 59) := ⟨_, rfl⟩
 have hB0 : Below w.heap.size w W0 := by rw [hW0]; exact below_new _ _
 have x0 : W0.cell? ⟨w.heap.size, 0, none⟩ = some (.int .i64 kd) := by rw [hW0, World.cell?_alloc_new]; rfl
 have x2 : W0.cell? ⟨w.heap.size, 2, none⟩ = some (.slice ka ks.length kc) := by rw [hW0, World.cell?_alloc_new]; rfl
 obtain ⟨nk, hnk⟩ : ∃ nk, nk = ks.length := ⟨_, rfl⟩
 rw [← hnk] at x2 h12 HCI hW0 ⊢
 have HNK := hidOf hnk
 have HW := hidOf hW0
 have HN := hidOf h
 clear hP hpl hFV hW0 hnk hS h1
 obtain ⟨bc, hbc⟩ : ∃ bc, bc = cI kd nk := ⟨_, rfl⟩
 have HBC := hidOf hbc
 clear hbc
 go_enter Tryz.func159, Tryz.ntmps159
 go_wp2
 rw [← HW.out]
 go_quiet ((go_at_call 203; exact Calls.quiet_of_same (qF _)))
 go_upto_region 2 with fail
 go_cut [22] from 15 to 22 (fun v wx => v = .bool (!bc) ∧ Below W0.heap.size W0 wx)
 case first =>
  by_cases hkd : 1 ≤ kd ∧ kd ≤ 22
  ·rcases kind_cases hkd with rfl | rfl | rfl | rfl | rfl | rfl | rfl | rfl | rfl | rfl | rfl | rfl | rfl | rfl | rfl | rfl | rfl | rfl | rfl | rfl | rfl | rfl
   ·have hF : FV = .iface 225 (.agg #[]) := HFV.out
    subst hF
    clear hkd
    have hm := MleafForm
    have q9 := iCnt1 nk h12 (W0.drewN nq)
    rw [show cI 1 nk = bc from HBC.out.symm] at q9
    go_wp2_with fail
    refine q9.mono ?_
    rintro e w5 ⟨rfl, hb5⟩
    clear q9
    go_wp2_with fail
    go_meet
    exact ⟨rfl, (below_drewN W0 nq).trans hb5⟩
   ·have hF : FV = .iface 225 (.agg #[]) := HFV.out
    subst hF
    clear hkd
    have hm := MleafForm
    have q9 := iCnt2 nk h12 (W0.drewN nq)
    rw [show cI 2 nk = bc from HBC.out.symm] at q9
    go_wp2_with fail
    refine q9.mono ?_
    rintro e w5 ⟨rfl, hb5⟩
    clear q9
    go_wp2_with fail
    go_meet
    exact ⟨rfl, (below_drewN W0 nq).trans hb5⟩
   ·have hF : FV = .iface 225 (.agg #[]) := HFV.out
    subst hF
    clear hkd
    have hm := MleafForm
    have q9 := iCnt3 nk h12 (W0.drewN nq)
    rw [show cI 3 nk = bc from HBC.out.symm] at q9
    go_wp2_with fail
    refine q9.mono ?_
    rintro e w5 ⟨rfl, hb5⟩
    clear q9
    go_wp2_with fail
    go_meet
    exact ⟨rfl, (below_drewN W0 nq).trans hb5⟩
   ·have hF : FV = .iface 227 (.agg #[.int .i64 0, .int .i64 12]) := HFV.out
    subst hF
    clear hkd
    have hm := MvaluesForm
    have q9 := iCnt4 nk h12 (W0.drewN nq)
    rw [show cI 4 nk = bc from HBC.out.symm] at q9
    go_wp2_with fail
    refine q9.mono ?_
    rintro e w5 ⟨rfl, hb5⟩
    clear q9
    go_wp2_with fail
    go_meet
    exact ⟨rfl, (below_drewN W0 nq).trans hb5⟩
   ·have hF : FV = .iface 227 (.agg #[.int .i64 1, .int .i64 12]) := HFV.out
    subst hF
    clear hkd
    have hm := MvaluesForm
    have q9 := iCnt5 nk h12 (W0.drewN nq)
    rw [show cI 5 nk = bc from HBC.out.symm] at q9
    go_wp2_with fail
    refine q9.mono ?_
    rintro e w5 ⟨rfl, hb5⟩
    clear q9
    go_wp2_with fail
    go_meet
    exact ⟨rfl, (below_drewN W0 nq).trans hb5⟩
   ·have hF : FV = .iface 227 (.agg #[.int .i64 1, .int .i64 1]) := HFV.out
    subst hF
    clear hkd
    have hm := MvaluesForm
    have q9 := iCnt6 nk h12 (W0.drewN nq)
    rw [show cI 6 nk = bc from HBC.out.symm] at q9
    go_wp2_with fail
    refine q9.mono ?_
    rintro e w5 ⟨rfl, hb5⟩
    clear q9
    go_wp2_with fail
    go_meet
    exact ⟨rfl, (below_drewN W0 nq).trans hb5⟩
   ·have hF : FV = .iface 227 (.agg #[.int .i64 2, .int .i64 12]) := HFV.out
    subst hF
    clear hkd
    have hm := MvaluesForm
    have q9 := iCnt7 nk h12 (W0.drewN nq)
    rw [show cI 7 nk = bc from HBC.out.symm] at q9
    go_wp2_with fail
    refine q9.mono ?_
    rintro e w5 ⟨rfl, hb5⟩
    clear q9
    go_wp2_with fail
    go_meet
    exact ⟨rfl, (below_drewN W0 nq).trans hb5⟩
   ·have hF : FV = .iface 227 (.agg #[.int .i64 3, .int .i64 3]) := HFV.out
    subst hF
    clear hkd
    have hm := MvaluesForm
    have q9 := iCnt8 nk h12 (W0.drewN nq)
    rw [show cI 8 nk = bc from HBC.out.symm] at q9
    go_wp2_with fail
    refine q9.mono ?_
    rintro e w5 ⟨rfl, hb5⟩
    clear q9
    go_wp2_with fail
    go_meet
    exact ⟨rfl, (below_drewN W0 nq).trans hb5⟩
   ·have hF : FV = .iface 229 (.agg #[.int .i64 1]) := HFV.out
    subst hF
    clear hkd
    have hm := MnamesForm
    have q9 := iCnt9 nk h12 (W0.drewN nq)
    rw [show cI 9 nk = bc from HBC.out.symm] at q9
    go_wp2_with fail
    refine q9.mono ?_
    rintro e w5 ⟨rfl, hb5⟩
    clear q9
    go_wp2_with fail
    go_meet
    exact ⟨rfl, (below_drewN W0 nq).trans hb5⟩
   ·have hF : FV = .iface 230 (.agg #[]) := HFV.out
    subst hF
    clear hkd
    have hm := McascadeForm
    have q9 := iCnt10 nk h12 (W0.drewN nq)
    rw [show cI 10 nk = bc from HBC.out.symm] at q9
    go_wp2_with fail
    refine q9.mono ?_
    rintro e w5 ⟨rfl, hb5⟩
    clear q9
    go_wp2_with fail
    go_meet
    exact ⟨rfl, (below_drewN W0 nq).trans hb5⟩
   ·have hF : FV = .iface 227 (.agg #[.int .i64 1, .int .i64 1]) := HFV.out
    subst hF
    clear hkd
    have hm := MvaluesForm
    have q9 := iCnt11 nk h12 (W0.drewN nq)
    rw [show cI 11 nk = bc from HBC.out.symm] at q9
    go_wp2_with fail
    refine q9.mono ?_
    rintro e w5 ⟨rfl, hb5⟩
    clear q9
    go_wp2_with fail
    go_meet
    exact ⟨rfl, (below_drewN W0 nq).trans hb5⟩
   ·have hF : FV = .iface 227 (.agg #[.int .i64 0, .int .i64 1]) := HFV.out
    subst hF
    clear hkd
    have hm := MvaluesForm
    have q9 := iCnt12 nk h12 (W0.drewN nq)
    rw [show cI 12 nk = bc from HBC.out.symm] at q9
    go_wp2_with fail
    refine q9.mono ?_
    rintro e w5 ⟨rfl, hb5⟩
    clear q9
    go_wp2_with fail
    go_meet
    exact ⟨rfl, (below_drewN W0 nq).trans hb5⟩
   ·have hF : FV = .iface 227 (.agg #[.int .i64 1, .int .i64 1]) := HFV.out
    subst hF
    clear hkd
    have hm := MvaluesForm
    have q9 := iCnt13 nk h12 (W0.drewN nq)
    rw [show cI 13 nk = bc from HBC.out.symm] at q9
    go_wp2_with fail
    refine q9.mono ?_
    rintro e w5 ⟨rfl, hb5⟩
    clear q9
    go_wp2_with fail
    go_meet
    exact ⟨rfl, (below_drewN W0 nq).trans hb5⟩
   ·have hF : FV = .iface 227 (.agg #[.int .i64 1, .int .i64 1]) := HFV.out
    subst hF
    clear hkd
    have hm := MvaluesForm
    have q9 := iCnt14 nk h12 (W0.drewN nq)
    rw [show cI 14 nk = bc from HBC.out.symm] at q9
    go_wp2_with fail
    refine q9.mono ?_
    rintro e w5 ⟨rfl, hb5⟩
    clear q9
    go_wp2_with fail
    go_meet
    exact ⟨rfl, (below_drewN W0 nq).trans hb5⟩
   ·have hF : FV = .iface 227 (.agg #[.int .i64 0, .int .i64 1]) := HFV.out
    subst hF
    clear hkd
    have hm := MvaluesForm
    have q9 := iCnt15 nk h12 (W0.drewN nq)
    rw [show cI 15 nk = bc from HBC.out.symm] at q9
    go_wp2_with fail
    refine q9.mono ?_
    rintro e w5 ⟨rfl, hb5⟩
    clear q9
    go_wp2_with fail
    go_meet
    exact ⟨rfl, (below_drewN W0 nq).trans hb5⟩
   ·have hF : FV = .iface 232 (.agg #[.int .i64 3]) := HFV.out
    subst hF
    clear hkd
    have hm := MbranchForm
    have q9 := iCnt16 nk h12 (W0.drewN nq)
    rw [show cI 16 nk = bc from HBC.out.symm] at q9
    go_wp2_with fail
    refine q9.mono ?_
    rintro e w5 ⟨rfl, hb5⟩
    clear q9
    go_wp2_with fail
    go_meet
    exact ⟨rfl, (below_drewN W0 nq).trans hb5⟩
   ·have hF : FV = .iface 232 (.agg #[.int .i64 2]) := HFV.out
    subst hF
    clear hkd
    have hm := MbranchForm
    have q9 := iCnt17 nk h12 (W0.drewN nq)
    rw [show cI 17 nk = bc from HBC.out.symm] at q9
    go_wp2_with fail
    refine q9.mono ?_
    rintro e w5 ⟨rfl, hb5⟩
    clear q9
    go_wp2_with fail
    go_meet
    exact ⟨rfl, (below_drewN W0 nq).trans hb5⟩
   ·have hF : FV = .iface 234 (.agg #[.int .i64 5]) := HFV.out
    subst hF
    clear hkd
    have hm := MbodyForm
    have q9 := iCnt18 nk h12 (W0.drewN nq)
    rw [show cI 18 nk = bc from HBC.out.symm] at q9
    go_wp2_with fail
    refine q9.mono ?_
    rintro e w5 ⟨rfl, hb5⟩
    clear q9
    go_wp2_with fail
    go_meet
    exact ⟨rfl, (below_drewN W0 nq).trans hb5⟩
   ·have hF : FV = .iface 225 (.agg #[]) := HFV.out
    subst hF
    clear hkd
    have hm := MleafForm
    have q9 := iCnt19 nk h12 (W0.drewN nq)
    rw [show cI 19 nk = bc from HBC.out.symm] at q9
    go_wp2_with fail
    refine q9.mono ?_
    rintro e w5 ⟨rfl, hb5⟩
    clear q9
    go_wp2_with fail
    go_meet
    exact ⟨rfl, (below_drewN W0 nq).trans hb5⟩
   ·have hF : FV = .iface 229 (.agg #[.int .i64 4]) := HFV.out
    subst hF
    clear hkd
    have hm := MnamesForm
    have q9 := iCnt20 nk h12 (W0.drewN nq)
    rw [show cI 20 nk = bc from HBC.out.symm] at q9
    go_wp2_with fail
    refine q9.mono ?_
    rintro e w5 ⟨rfl, hb5⟩
    clear q9
    go_wp2_with fail
    go_meet
    exact ⟨rfl, (below_drewN W0 nq).trans hb5⟩
   ·have hF : FV = .iface 234 (.agg #[.int .i64 6]) := HFV.out
    subst hF
    clear hkd
    have hm := MbodyForm
    have q9 := iCnt21 nk h12 (W0.drewN nq)
    rw [show cI 21 nk = bc from HBC.out.symm] at q9
    go_wp2_with fail
    refine q9.mono ?_
    rintro e w5 ⟨rfl, hb5⟩
    clear q9
    go_wp2_with fail
    go_meet
    exact ⟨rfl, (below_drewN W0 nq).trans hb5⟩
   ·have hF : FV = .iface 234 (.agg #[.int .i64 7]) := HFV.out
    subst hF
    clear hkd
    have hm := MbodyForm
    have q9 := iCnt22 nk h12 (W0.drewN nq)
    rw [show cI 22 nk = bc from HBC.out.symm] at q9
    go_wp2_with fail
    refine q9.mono ?_
    rintro e w5 ⟨rfl, hb5⟩
    clear q9
    go_wp2_with fail
    go_meet
    exact ⟨rfl, (below_drewN W0 nq).trans hb5⟩
  ·have hF : FV = .nilIface := HFV.out.trans (formV_no hkd)
   subst hF
   have hb := hidOf (HBC.out.trans (cI_no hkd))
   clear hkd
   go_wp2_with fail
   go_meet
   exact ⟨by rw [hb.out]; rfl, below_drewN W0 nq⟩
 case rest =>
  obtain ⟨rfl, hbx⟩ := hcut
  have hs0 : W0.heap.size = w.heap.size + 1 := by rw [HW.out]; simp
  have hBc := hB0.trans (hbx.mono (by omega))
  have y2 : wc.cell? ⟨w.heap.size, 2, none⟩ = some (.slice ka nk kc) := (hbx.cell (by show w.heap.size < _; omega)).trans x2
  have HBX := hidOf hbx
  clear hbx x0 x2 hs0
  cases bc
  ·have HF := hidOf (show ¬ P from fun hp => by
    have h3 := HP.out.1 hp
    have h4 := HCI.out.2 ⟨h3.1, by rw [HNK.out]; exact h3.2.1⟩
    rw [← HBC.out] at h4
    cases h4)
   go_wp2
   go_ret
   exact telB_no HF.out hBc
  ·go_wp2
   go_loopw [26] (fun i wr => ∃ j : Nat, j ≤ nk ∧ i = .int .i64 (j : Int) ∧ Hid (∀ (i' : Nat) (z : Int) (y : Nd), i' < j → ks[i']? = some z → (qs.map Np.nd)[z.toNat]? = some y → CallK (qs.map Np.nd) y ∧ RoleP (qs.map Np.nd) y (roleK kd i' nk)) ∧ Below w.heap.size w wr) (fun i _ => nk - (intOf i).toNat)
   case atStart => exact ⟨0, Nat.zero_le _, rfl, hidOf (fun i' z y h => by omega), hBc⟩
   case round =>
    obtain ⟨j, hj, rfl, HF, hb⟩ := hrel
    clear y2
    by_cases hlt : j < nk
    ·obtain ⟨z, ez⟩ : ∃ z, ks[j]? = some z := ⟨_, List.getElem?_eq_getElem (by rw [← HNK.out]; exact hlt)⟩
     obtain ⟨bk, rfl, hbk, ck⟩ := HK.out j z ez
     have hz := HPL.out.1 j z (by rw [← HNK.out]; exact hlt) ez
     obtain ⟨m, rfl⟩ := Int.eq_ofNat_of_zero_le hz.1
     obtain ⟨q2, hq2⟩ : ∃ q2, qs[m]? = some q2 := ⟨_, List.getElem?_eq_getElem (by omega)⟩
     obtain ⟨b0, rfl, hb0, d0, d1, d2, d3⟩ := h.node hq2
     have ckw : wr.cell? ⟨bk, j, none⟩ = some (.int .i64 (m : Int)) := (hb.cell hbk).trans ck
     obtain ⟨b1, hb1⟩ := tel_bool (CallK (qs.map Np.nd) q2.nd)
     obtain ⟨r, hr⟩ : ∃ r, r = roleK kd j nk := ⟨_, rfl⟩
     have hrr : 1 ≤ r ∧ r ≤ 7 := by rw [hr]; exact roleK_range _ _ _
     obtain ⟨b2, hb2⟩ := tel_bool (RoleP (qs.map Np.nd) q2.nd r)
     have hbW : ∀ W, Below wr.heap.size wr W → Below w.heap.size w W := fun W hI => hb.trans (hI.mono hb.size)
     have hmem := List.mem_of_getElem? hq2
     have hy2 : (qs.map Np.nd)[((m : Int)).toNat]? = some q2.nd := by rw [Int.toNat_natCast, List.getElem?_map, hq2]; rfl
     have q1 := fun (W : World) (hI : Below wr.heap.size wr W) => (iCalled (h.below (hbW W hI)) hmem).mono (fun e w' t => t.is hb1)
     have q22 := fun (W : World) => iRoleAny (k := kd) (i := j) (n := nk) W h12 hlt HBC.out.symm
     rw [← HFV.out, ← hr] at q22
     have q3 := fun (hC1 : b1 = true) (W : World) (hI : Below wr.heap.size wr W) => (iFills r hrr (h.below (hbW W hI)) hmem (hb1.1 hC1)).mono (fun e w' t => t.is hb2)
     have HC4 := hidOf (fun (W : World) (hI : Below wr.heap.size wr W) => And.intro (((hbW W hI).cell hb0).trans d0) (And.intro (((hbW W hI).cell hb0).trans d1) (And.intro (((hbW W hI).cell hb0).trans d2) (((hbW W hI).cell hb0).trans d3))))
     have HNX0 := hidOf (fun (h5 : b1 = true) (h6 : b2 = true) (i2 : Nat) (z2 : Int) (y2 : Nd) (h2 : i2 < j + 1) (hz2 : ks[i2]? = some z2) (hy : (qs.map Np.nd)[z2.toNat]? = some y2) => show CallK (qs.map Np.nd) y2 ∧ RoleP (qs.map Np.nd) y2 (roleK kd i2 nk) by
      by_cases e : i2 = j
      ·subst e
       rw [ez] at hz2
       cases hz2
       rw [hy2] at hy
       cases hy
       rw [← hr]
       exact ⟨hb1.1 h5, hb2.1 h6⟩
      ·exact HF.out i2 z2 y2 (by omega) hz2 hy)
     have HNO0 := hidOf (fun (h5 : b1 = false ∨ b2 = false) (hp : P) => show False by
      have h7 := (HP.out.1 hp).2.2 j (m : Int) q2.nd ez hy2
      simp only at h7
      rw [← HNK.out, ← hr] at h7
      rcases h5 with h5 | h5
      ·have := hb1.2 h7.1; rw [h5] at this; cases this
      ·have := hb2.2 h7.2; rw [h5] at this; cases this)
     obtain ⟨⟨k2, t2, ks2, l2⟩, a2, c2⟩ := q2
     simp only [agN] at q1 q3 HC4
     obtain ⟨n2, hn2⟩ : ∃ n2, n2 = ks2.length := ⟨_, rfl⟩
     obtain ⟨nn, hnn⟩ : ∃ nn, nn = qs.length := ⟨_, rfl⟩
     rw [← hn2, ← hnn] at q1 q3
     rw [← hn2] at HC4
     rw [← hnn]
     have Q1 := hidOf q1
     have Q2 := hidOf q22
     have Q3' := hidOf q3
     have hA1 : (0 : Int) ≤ (j : Int) := by omega
     have hA2 : (j : Int) < (nk : Int) := by omega
     have hA3 : (0 : Int) ≤ (m : Int) := by omega
     have hA4 : (m : Int) < (nn : Int) := by omega
     clear q1 q22 q3 ez hq2 hb1 hb2 hr hrr hy2 hz d0 d1 d2 d3 ck hn2 hnn hmem hbW
     cases b1
     ·have HNO := hidOf (HNO0.out (.inl rfl))
      go_wp2
      refine wp_region_guards (by kernel_rfl) (fun W => Below wr.heap.size wr W) (fun W W' => Below W.heap.size W W') (kdOff b0 nn c m k2 t2 a2 n2 c2 l2 false) ((Below.refl _ wr).drew) (by kernel_rfl) (fun i v W W' h _ _ => kdOff_stab b0 nn c m k2 t2 a2 n2 c2 l2 false i v W W' h) ?_ ?_
      case refine_1 =>
       intro kk oo hk aa W hI hsz hfix hdep
       match kk, hk with
       | 0, hk =>
        cases hk
        refine .inl ⟨wanted_none rfl, fun K hK => ?_⟩
        have e0 : aa.tmps.getD 0 undef = .slice (some ⟨b0, 0, none⟩) nn c := hfix 0 (by kernel_rfl)
        refine wp_value (v := .slice (some ⟨b0, 0, none⟩) nn c) (w' := W) ?_ (hK _ _ (by simp) hI (Below.refl _ _) rfl)
        clear hfix hdep hK hk hsz hI
        go_simp
       | 1, hk =>
        cases hk
        refine .inl ⟨wanted_none rfl, fun K hK => ?_⟩
        have e0 : aa.tmps.getD 0 undef = .slice (some ⟨b0, 0, none⟩) nn c := hfix 0 (by kernel_rfl)
        refine wp_value (v := .slice (some ⟨b0, 0, none⟩) nn c) (w' := W) ?_ (hK _ _ (by simp) hI (Below.refl _ _) rfl)
        clear hfix hdep hK hk hsz hI
        go_simp
       | 2, hk =>
        cases hk
        refine .inl ⟨wanted_none rfl, fun K hK => ?_⟩
        have e8 : aa.tmps.getD 8 undef = .int .i64 (m : Int) := hfix 8 (by kernel_rfl)
        refine wp_value (v := .int .i64 (m : Int)) (w' := W) ?_ (hK _ _ (by simp) hI (Below.refl _ _) rfl)
        clear hfix hdep hK hk hsz hI
        go_simp
       | 3, hk =>
        cases hk
        refine .inl ⟨wanted_none rfl, fun K hK => ?_⟩
        have e32 : aa.tmps.getD 32 undef = .slice (some ⟨b0, 0, none⟩) nn c := hdep 1 _ rfl (by kernel_rfl)
        have e33 : aa.tmps.getD 33 undef = .int .i64 (m : Int) := hdep 2 _ rfl (by kernel_rfl)
        refine wp_value (v := .pointer (some ⟨b0, m * 4, none⟩)) (w' := W) ?_ (hK _ _ (by simp) hI (Below.refl _ _) rfl)
        clear hfix hdep hK hk hsz hI
        go_simp
       | 4, hk =>
        cases hk
        refine .inl ⟨wanted_none rfl, fun K hK => ?_⟩
        have e34 : aa.tmps.getD 34 undef = .pointer (some ⟨b0, m * 4, none⟩) := hdep 3 _ rfl (by kernel_rfl)
        obtain ⟨y0, y1, y2, y3⟩ := HC4.out W hI
        refine wp_value (v := .agg #[.int .i64 k2, .string t2, .slice a2 n2 c2, .bool l2]) (w' := W) ?_ (hK _ _ (by simp) hI (Below.refl _ _) rfl)
        clear hfix hdep hK hk hsz hI
        go_simp
       | 5, hk =>
        cases hk
        refine .inl ⟨wanted_none rfl, fun K hK => ?_⟩
        have e31 : aa.tmps.getD 31 undef = .slice (some ⟨b0, 0, none⟩) nn c := hdep 0 _ rfl (by kernel_rfl)
        have e35 : aa.tmps.getD 35 undef = .agg #[.int .i64 k2, .string t2, .slice a2 n2 c2, .bool l2] := hdep 4 _ rfl (by kernel_rfl)
        have hcon := Q1.out W hI
        refine wp_calls 204 #[.slice (some ⟨b0, 0, none⟩) nn c, .agg #[.int .i64 k2, .string t2, .slice a2 n2 c2, .bool l2]] ?_ hcon ?_
        ·clear hfix hdep hK hk hsz hcon hI
         go_simp
         try rfl
        ·rintro e W2 ⟨rfl, A⟩
         exact ⟨_, rfl, hK _ _ (by simp) (hI.trans (A.mono hI.size)) A rfl⟩
       | 6, hk =>
        cases hk
        refine .inl ⟨wanted_none rfl, fun K hK => ?_⟩
        have e36 : aa.tmps.getD 36 undef = .bool false := hdep 5 _ rfl (by kernel_rfl)
        refine wp_value (v := .bool true) (w' := W) ?_ (hK _ _ (by simp) hI (Below.refl _ _) rfl)
        clear hfix hdep hK hk hsz hI
        go_simp
       | 7, hk =>
        cases hk
        refine .inl ⟨wanted_none rfl, fun K hK => ?_⟩
        have e37 : aa.tmps.getD 37 undef = .bool true := hdep 6 _ rfl (by kernel_rfl)
        refine wp_value (v := .bool true) (w' := W) ?_ (hK _ _ (by simp) hI (Below.refl _ _) rfl)
        clear hfix hdep hK hk hsz hI
        go_simp
       | 8, hk =>
        cases hk
        exact .inr ⟨(wanted_is (c := true) (b := false) rfl rfl rfl (hdep 7 _ rfl (by kernel_rfl))).trans rfl, trivial⟩
       | 9, hk =>
        cases hk
        exact .inr ⟨(wanted_is (c := true) (b := false) rfl rfl rfl (hdep 7 _ rfl (by kernel_rfl))).trans rfl, trivial⟩
       | 10, hk =>
        cases hk
        exact .inr ⟨(wanted_is (c := true) (b := false) rfl rfl rfl (hdep 7 _ rfl (by kernel_rfl))).trans rfl, trivial⟩
       | 11, hk =>
        cases hk
        exact .inr ⟨(wanted_is (c := true) (b := false) rfl rfl rfl (hdep 7 _ rfl (by kernel_rfl))).trans rfl, trivial⟩
       | 12, hk =>
        cases hk
        exact .inr ⟨(wanted_is (c := true) (b := false) rfl rfl rfl (hdep 7 _ rfl (by kernel_rfl))).trans rfl, trivial⟩
       | 13, hk =>
        cases hk
        exact .inr ⟨(wanted_is (c := true) (b := false) rfl rfl rfl (hdep 7 _ rfl (by kernel_rfl))).trans rfl, trivial⟩
       | 14, hk =>
        cases hk
        exact .inr ⟨(wanted_is (c := true) (b := false) rfl rfl rfl (hdep 7 _ rfl (by kernel_rfl))).trans rfl, trivial⟩
       | 15, hk =>
        cases hk
        exact .inr ⟨(wanted_is (c := true) (b := false) rfl rfl rfl (hdep 7 _ rfl (by kernel_rfl))).trans rfl, trivial⟩
       | 16, hk =>
        cases hk
        exact .inr ⟨(wanted_is (c := true) (b := false) rfl rfl rfl (hdep 7 _ rfl (by kernel_rfl))).trans rfl, trivial⟩
       | 17, hk =>
        cases hk
        exact .inr ⟨(wanted_is (c := true) (b := false) rfl rfl rfl (hdep 7 _ rfl (by kernel_rfl))).trans rfl, trivial⟩
       | 18, hk =>
        cases hk
        exact .inr ⟨(wanted_is (c := true) (b := false) rfl rfl rfl (hdep 7 _ rfl (by kernel_rfl))).trans rfl, trivial⟩
       | 19, hk =>
        cases hk
        refine .inl ⟨wanted_none rfl, fun K hK => ?_⟩
        have e38 : aa.tmps.getD 38 undef = .bool true := hdep 7 _ rfl (by kernel_rfl)
        refine wp_value (v := .bool true) (w' := W) ?_ (hK _ _ (by simp) hI (Below.refl _ _) rfl)
        clear hfix hdep hK hk hsz hI
        go_simp
      case refine_2 =>
       intro aa W hI hd hsz hfix hpost
       have e50 : aa.tmps.getD 50 undef = .bool true := hpost 19 _ rfl
       have e0 : aa.tmps.getD 0 undef = .slice (some ⟨b0, 0, none⟩) nn c := hfix 0 (by kernel_rfl)
       have e1 : aa.tmps.getD 1 undef = .agg #[.int .i64 kd, .string tx, .slice (some ⟨bk, 0, none⟩) nk kc, .bool bl] := hfix 1 (by kernel_rfl)
       have e2 : aa.tmps.getD 2 undef = undef := hfix 2 (by kernel_rfl)
       have e3 : aa.tmps.getD 3 undef = .pointer (some ⟨w.heap.size, 0, none⟩) := hfix 3 (by kernel_rfl)
       have e5 : aa.tmps.getD 5 undef = FV := hfix 5 (by kernel_rfl)
       have e6 : aa.tmps.getD 6 undef = .int .i64 (nk : Int) := hfix 6 (by kernel_rfl)
       have e9 : aa.tmps.getD 9 undef = .pointer (some ⟨w.heap.size, 0, none⟩) := hfix 9 (by kernel_rfl)
       have e10 : aa.tmps.getD 10 undef = .int .i64 kd := hfix 10 (by kernel_rfl)
       have e11 : aa.tmps.getD 11 undef = FV := hfix 11 (by kernel_rfl)
       have e12 : aa.tmps.getD 12 undef = .pointer (some ⟨w.heap.size, 2, none⟩) := hfix 12 (by kernel_rfl)
       have e13 : aa.tmps.getD 13 undef = .slice (some ⟨bk, 0, none⟩) nk kc := hfix 13 (by kernel_rfl)
       have e14 : aa.tmps.getD 14 undef = .int .i64 (nk : Int) := hfix 14 (by kernel_rfl)
       have e15 : aa.tmps.getD 15 undef = u15 := hfix 15 (by kernel_rfl)
       have e16 : aa.tmps.getD 16 undef = u16 := hfix 16 (by kernel_rfl)
       have e17 : aa.tmps.getD 17 undef = u17 := hfix 17 (by kernel_rfl)
       have e18 : aa.tmps.getD 18 undef = u18 := hfix 18 (by kernel_rfl)
       have e19 : aa.tmps.getD 19 undef = u19 := hfix 19 (by kernel_rfl)
       have e20 : aa.tmps.getD 20 undef = u20 := hfix 20 (by kernel_rfl)
       have e21 : aa.tmps.getD 21 undef = u21 := hfix 21 (by kernel_rfl)
       have e22 : aa.tmps.getD 22 undef = .bool (!true) := hfix 22 (by kernel_rfl)
       have e23 : aa.tmps.getD 23 undef = .pointer (some ⟨w.heap.size, 2, none⟩) := hfix 23 (by kernel_rfl)
       have e24 : aa.tmps.getD 24 undef = .slice (some ⟨bk, 0, none⟩) nk kc := hfix 24 (by kernel_rfl)
       have e25 : aa.tmps.getD 25 undef = .int .i64 (nk : Int) := hfix 25 (by kernel_rfl)
       have e26 : aa.tmps.getD 26 undef = .int .i64 (j : Int) := hfix 26 (by kernel_rfl)
       clear hfix hpost
       obtain ⟨tm, df⟩ := aa
       obtain ⟨x0, x1, x2, x3, x4, x5, x6, x7, x8, x9, x10, x11, x12, x13, x14, x15, x16, x17, x18, x19, x20, x21, x22, x23, x24, x25, x26, x27, x28, x29, x30, x31, x32, x33, x34, x35, x36, x37, x38, x39, x40, x41, x42, x43, x44, x45, x46, x47, x48, x49, x50, x51, rfl⟩ := arr52 tm hsz
       have hdf : df = [] := hd
       subst hdf
       have f0 : x0 = .slice (some ⟨b0, 0, none⟩) nn c := e0
       have f1 : x1 = .agg #[.int .i64 kd, .string tx, .slice (some ⟨bk, 0, none⟩) nk kc, .bool bl] := e1
       have f2 : x2 = undef := e2
       have f3 : x3 = .pointer (some ⟨w.heap.size, 0, none⟩) := e3
       have f5 : x5 = FV := e5
       have f6 : x6 = .int .i64 (nk : Int) := e6
       have f9 : x9 = .pointer (some ⟨w.heap.size, 0, none⟩) := e9
       have f10 : x10 = .int .i64 kd := e10
       have f11 : x11 = FV := e11
       have f12 : x12 = .pointer (some ⟨w.heap.size, 2, none⟩) := e12
       have f13 : x13 = .slice (some ⟨bk, 0, none⟩) nk kc := e13
       have f14 : x14 = .int .i64 (nk : Int) := e14
       have f15 : x15 = u15 := e15
       have f16 : x16 = u16 := e16
       have f17 : x17 = u17 := e17
       have f18 : x18 = u18 := e18
       have f19 : x19 = u19 := e19
       have f20 : x20 = u20 := e20
       have f21 : x21 = u21 := e21
       have f22 : x22 = .bool (!true) := e22
       have f23 : x23 = .pointer (some ⟨w.heap.size, 2, none⟩) := e23
       have f24 : x24 = .slice (some ⟨bk, 0, none⟩) nk kc := e24
       have f25 : x25 = .int .i64 (nk : Int) := e25
       have f26 : x26 = .int .i64 (j : Int) := e26
       have f50 : x50 = .bool true := e50
       subst f0 f1 f2 f3 f5 f6 f9 f10 f11 f12 f13 f14 f15 f16 f17 f18 f19 f20 f21 f22 f23 f24 f25 f26 f50
       clear e0 e1 e2 e3 e5 e6 e9 e10 e11 e12 e13 e14 e15 e16 e17 e18 e19 e20 e21 e22 e23 e24 e25 e26 e50 hsz hd
       have HBW := hidOf (hb.trans (hI.mono hb.size))
       clear hI
       go_wp2
       go_ret
       exact telB_no HNO.out HBW.out
     ·have Q3 := hidOf (Q3'.out rfl)
      by_cases hbv : b2 = true
      ·have HB2 := hidOf hbv
       have HNX := hidOf (HNX0.out rfl hbv)
       clear hbv
       go_wp2
       refine wp_region_guards (by kernel_rfl) (fun W => Below wr.heap.size wr W) (fun W W' => Below W.heap.size W W') (kdOn b0 nn c m k2 t2 a2 n2 c2 l2 true FV j nk r b2) ((Below.refl _ wr).drew) (by kernel_rfl) (fun i v W W' h _ _ => kdOn_stab b0 nn c m k2 t2 a2 n2 c2 l2 true FV j nk r b2 i v W W' h) ?_ ?_
       case refine_1 =>
        intro kk oo hk aa W hI hsz hfix hdep
        match kk, hk with
        | 0, hk =>
         cases hk
         refine .inl ⟨wanted_none rfl, fun K hK => ?_⟩
         have e0 : aa.tmps.getD 0 undef = .slice (some ⟨b0, 0, none⟩) nn c := hfix 0 (by kernel_rfl)
         refine wp_value (v := .slice (some ⟨b0, 0, none⟩) nn c) (w' := W) ?_ (hK _ _ (by simp) hI (Below.refl _ _) rfl)
         clear hfix hdep hK hk hsz hI
         go_simp
        | 1, hk =>
         cases hk
         refine .inl ⟨wanted_none rfl, fun K hK => ?_⟩
         have e0 : aa.tmps.getD 0 undef = .slice (some ⟨b0, 0, none⟩) nn c := hfix 0 (by kernel_rfl)
         refine wp_value (v := .slice (some ⟨b0, 0, none⟩) nn c) (w' := W) ?_ (hK _ _ (by simp) hI (Below.refl _ _) rfl)
         clear hfix hdep hK hk hsz hI
         go_simp
        | 2, hk =>
         cases hk
         refine .inl ⟨wanted_none rfl, fun K hK => ?_⟩
         have e8 : aa.tmps.getD 8 undef = .int .i64 (m : Int) := hfix 8 (by kernel_rfl)
         refine wp_value (v := .int .i64 (m : Int)) (w' := W) ?_ (hK _ _ (by simp) hI (Below.refl _ _) rfl)
         clear hfix hdep hK hk hsz hI
         go_simp
        | 3, hk =>
         cases hk
         refine .inl ⟨wanted_none rfl, fun K hK => ?_⟩
         have e32 : aa.tmps.getD 32 undef = .slice (some ⟨b0, 0, none⟩) nn c := hdep 1 _ rfl (by kernel_rfl)
         have e33 : aa.tmps.getD 33 undef = .int .i64 (m : Int) := hdep 2 _ rfl (by kernel_rfl)
         refine wp_value (v := .pointer (some ⟨b0, m * 4, none⟩)) (w' := W) ?_ (hK _ _ (by simp) hI (Below.refl _ _) rfl)
         clear hfix hdep hK hk hsz hI
         go_simp
        | 4, hk =>
         cases hk
         refine .inl ⟨wanted_none rfl, fun K hK => ?_⟩
         have e34 : aa.tmps.getD 34 undef = .pointer (some ⟨b0, m * 4, none⟩) := hdep 3 _ rfl (by kernel_rfl)
         obtain ⟨y0, y1, y2, y3⟩ := HC4.out W hI
         refine wp_value (v := .agg #[.int .i64 k2, .string t2, .slice a2 n2 c2, .bool l2]) (w' := W) ?_ (hK _ _ (by simp) hI (Below.refl _ _) rfl)
         clear hfix hdep hK hk hsz hI
         go_simp
        | 5, hk =>
         cases hk
         refine .inl ⟨wanted_none rfl, fun K hK => ?_⟩
         have e31 : aa.tmps.getD 31 undef = .slice (some ⟨b0, 0, none⟩) nn c := hdep 0 _ rfl (by kernel_rfl)
         have e35 : aa.tmps.getD 35 undef = .agg #[.int .i64 k2, .string t2, .slice a2 n2 c2, .bool l2] := hdep 4 _ rfl (by kernel_rfl)
         have hcon := Q1.out W hI
         refine wp_calls 204 #[.slice (some ⟨b0, 0, none⟩) nn c, .agg #[.int .i64 k2, .string t2, .slice a2 n2 c2, .bool l2]] ?_ hcon ?_
         ·clear hfix hdep hK hk hsz hcon hI
          go_simp
          try rfl
         ·rintro e W2 ⟨rfl, A⟩
          exact ⟨_, rfl, hK _ _ (by simp) (hI.trans (A.mono hI.size)) A rfl⟩
        | 6, hk =>
         cases hk
         refine .inl ⟨wanted_none rfl, fun K hK => ?_⟩
         have e36 : aa.tmps.getD 36 undef = .bool true := hdep 5 _ rfl (by kernel_rfl)
         refine wp_value (v := .bool false) (w' := W) ?_ (hK _ _ (by simp) hI (Below.refl _ _) rfl)
         clear hfix hdep hK hk hsz hI
         go_simp
        | 7, hk =>
         cases hk
         refine .inl ⟨wanted_none rfl, fun K hK => ?_⟩
         have e37 : aa.tmps.getD 37 undef = .bool false := hdep 6 _ rfl (by kernel_rfl)
         refine wp_value (v := .bool false) (w' := W) ?_ (hK _ _ (by simp) hI (Below.refl _ _) rfl)
         clear hfix hdep hK hk hsz hI
         go_simp
        | 8, hk =>
         cases hk
         refine .inl ⟨(wanted_is (c := false) (b := false) rfl rfl rfl (hdep 7 _ rfl (by kernel_rfl))).trans rfl, fun K hK => ?_⟩
         have e0 : aa.tmps.getD 0 undef = .slice (some ⟨b0, 0, none⟩) nn c := hfix 0 (by kernel_rfl)
         refine wp_value (v := .slice (some ⟨b0, 0, none⟩) nn c) (w' := W) ?_ (hK _ _ (by simp) hI (Below.refl _ _) rfl)
         clear hfix hdep hK hk hsz hI
         go_simp
        | 9, hk =>
         cases hk
         refine .inl ⟨(wanted_is (c := false) (b := false) rfl rfl rfl (hdep 7 _ rfl (by kernel_rfl))).trans rfl, fun K hK => ?_⟩
         have e0 : aa.tmps.getD 0 undef = .slice (some ⟨b0, 0, none⟩) nn c := hfix 0 (by kernel_rfl)
         refine wp_value (v := .slice (some ⟨b0, 0, none⟩) nn c) (w' := W) ?_ (hK _ _ (by simp) hI (Below.refl _ _) rfl)
         clear hfix hdep hK hk hsz hI
         go_simp
        | 10, hk =>
         cases hk
         refine .inl ⟨(wanted_is (c := false) (b := false) rfl rfl rfl (hdep 7 _ rfl (by kernel_rfl))).trans rfl, fun K hK => ?_⟩
         have e8 : aa.tmps.getD 8 undef = .int .i64 (m : Int) := hfix 8 (by kernel_rfl)
         refine wp_value (v := .int .i64 (m : Int)) (w' := W) ?_ (hK _ _ (by simp) hI (Below.refl _ _) rfl)
         clear hfix hdep hK hk hsz hI
         go_simp
        | 11, hk =>
         cases hk
         refine .inl ⟨(wanted_is (c := false) (b := false) rfl rfl rfl (hdep 7 _ rfl (by kernel_rfl))).trans rfl, fun K hK => ?_⟩
         have e40 : aa.tmps.getD 40 undef = .slice (some ⟨b0, 0, none⟩) nn c := hdep 9 _ rfl (by kernel_rfl)
         have e41 : aa.tmps.getD 41 undef = .int .i64 (m : Int) := hdep 10 _ rfl (by kernel_rfl)
         refine wp_value (v := .pointer (some ⟨b0, m * 4, none⟩)) (w' := W) ?_ (hK _ _ (by simp) hI (Below.refl _ _) rfl)
         clear hfix hdep hK hk hsz hI
         go_simp
        | 12, hk =>
         cases hk
         refine .inl ⟨(wanted_is (c := false) (b := false) rfl rfl rfl (hdep 7 _ rfl (by kernel_rfl))).trans rfl, fun K hK => ?_⟩
         have e42 : aa.tmps.getD 42 undef = .pointer (some ⟨b0, m * 4, none⟩) := hdep 11 _ rfl (by kernel_rfl)
         obtain ⟨y0, y1, y2, y3⟩ := HC4.out W hI
         refine wp_value (v := .agg #[.int .i64 k2, .string t2, .slice a2 n2 c2, .bool l2]) (w' := W) ?_ (hK _ _ (by simp) hI (Below.refl _ _) rfl)
         clear hfix hdep hK hk hsz hI
         go_simp
        | 13, hk =>
         cases hk
         refine .inl ⟨(wanted_is (c := false) (b := false) rfl rfl rfl (hdep 7 _ rfl (by kernel_rfl))).trans rfl, fun K hK => ?_⟩
         have e5 : aa.tmps.getD 5 undef = FV := hfix 5 (by kernel_rfl)
         refine wp_value (v := FV) (w' := W) ?_ (hK _ _ (by simp) hI (Below.refl _ _) rfl)
         clear hfix hdep hK hk hsz hI
         go_simp
        | 14, hk =>
         cases hk
         refine .inl ⟨(wanted_is (c := false) (b := false) rfl rfl rfl (hdep 7 _ rfl (by kernel_rfl))).trans rfl, fun K hK => ?_⟩
         have e7 : aa.tmps.getD 7 undef = .int .i64 (j : Int) := hfix 7 (by kernel_rfl)
         refine wp_value (v := .int .i64 (j : Int)) (w' := W) ?_ (hK _ _ (by simp) hI (Below.refl _ _) rfl)
         clear hfix hdep hK hk hsz hI
         go_simp
        | 15, hk =>
         cases hk
         refine .inl ⟨(wanted_is (c := false) (b := false) rfl rfl rfl (hdep 7 _ rfl (by kernel_rfl))).trans rfl, fun K hK => ?_⟩
         have e6 : aa.tmps.getD 6 undef = .int .i64 (nk : Int) := hfix 6 (by kernel_rfl)
         refine wp_value (v := .int .i64 (nk : Int)) (w' := W) ?_ (hK _ _ (by simp) hI (Below.refl _ _) rfl)
         clear hfix hdep hK hk hsz hI
         go_simp
        | 16, hk =>
         cases hk
         refine .inl ⟨(wanted_is (c := false) (b := false) rfl rfl rfl (hdep 7 _ rfl (by kernel_rfl))).trans rfl, fun K hK => ?_⟩
         have e44 : aa.tmps.getD 44 undef = FV := hdep 13 _ rfl (by kernel_rfl)
         have e45 : aa.tmps.getD 45 undef = .int .i64 (j : Int) := hdep 14 _ rfl (by kernel_rfl)
         have e46 : aa.tmps.getD 46 undef = .int .i64 (nk : Int) := hdep 15 _ rfl (by kernel_rfl)
         have hcon := Q2.out W
         refine wp_calls 206 #[FV, .int .i64 (j : Int), .int .i64 (nk : Int)] ?_ hcon ?_
         ·clear hfix hdep hK hk hsz hcon hI
          go_simp
          try rfl
         ·rintro e W2 ⟨rfl, A⟩
          exact ⟨_, rfl, hK _ _ (by simp) (hI.trans (A.mono hI.size)) A rfl⟩
        | 17, hk =>
         cases hk
         refine .inl ⟨(wanted_is (c := false) (b := false) rfl rfl rfl (hdep 7 _ rfl (by kernel_rfl))).trans rfl, fun K hK => ?_⟩
         have e39 : aa.tmps.getD 39 undef = .slice (some ⟨b0, 0, none⟩) nn c := hdep 8 _ rfl (by kernel_rfl)
         have e43 : aa.tmps.getD 43 undef = .agg #[.int .i64 k2, .string t2, .slice a2 n2 c2, .bool l2] := hdep 12 _ rfl (by kernel_rfl)
         have e47 : aa.tmps.getD 47 undef = .int .i64 (r : Int) := hdep 16 _ rfl (by kernel_rfl)
         have hcon := Q3.out W hI
         refine wp_calls 205 #[.slice (some ⟨b0, 0, none⟩) nn c, .agg #[.int .i64 k2, .string t2, .slice a2 n2 c2, .bool l2], .int .i64 (r : Int)] ?_ hcon ?_
         ·clear hfix hdep hK hk hsz hcon hI
          go_simp
          try rfl
         ·rintro e W2 ⟨rfl, A⟩
          exact ⟨_, rfl, hK _ _ (by simp) (hI.trans (A.mono hI.size)) A rfl⟩
        | 18, hk =>
         cases hk
         refine .inl ⟨(wanted_is (c := false) (b := false) rfl rfl rfl (hdep 7 _ rfl (by kernel_rfl))).trans rfl, fun K hK => ?_⟩
         have e48 : aa.tmps.getD 48 undef = .bool b2 := hdep 17 _ rfl (by kernel_rfl)
         refine wp_value (v := .bool (!b2)) (w' := W) ?_ (hK _ _ (by simp) hI (Below.refl _ _) rfl)
         clear hfix hdep hK hk hsz hI
         go_simp
        | 19, hk =>
         cases hk
         refine .inl ⟨wanted_none rfl, fun K hK => ?_⟩
         have e38 : aa.tmps.getD 38 undef = .bool false := hdep 7 _ rfl (by kernel_rfl)
         have e49 : aa.tmps.getD 49 undef = .bool (!b2) := hdep 18 _ rfl (by kernel_rfl)
         refine wp_value (v := .bool (!b2)) (w' := W) ?_ (hK _ _ (by simp) hI (Below.refl _ _) rfl)
         clear hfix hdep hK hk hsz hI
         go_simp
       case refine_2 =>
        intro aa W hI hd hsz hfix hpost
        have e50 : aa.tmps.getD 50 undef = .bool (!b2) := hpost 19 _ rfl
        have e0 : aa.tmps.getD 0 undef = .slice (some ⟨b0, 0, none⟩) nn c := hfix 0 (by kernel_rfl)
        have e1 : aa.tmps.getD 1 undef = .agg #[.int .i64 kd, .string tx, .slice (some ⟨bk, 0, none⟩) nk kc, .bool bl] := hfix 1 (by kernel_rfl)
        have e2 : aa.tmps.getD 2 undef = undef := hfix 2 (by kernel_rfl)
        have e3 : aa.tmps.getD 3 undef = .pointer (some ⟨w.heap.size, 0, none⟩) := hfix 3 (by kernel_rfl)
        have e5 : aa.tmps.getD 5 undef = FV := hfix 5 (by kernel_rfl)
        have e6 : aa.tmps.getD 6 undef = .int .i64 (nk : Int) := hfix 6 (by kernel_rfl)
        have e9 : aa.tmps.getD 9 undef = .pointer (some ⟨w.heap.size, 0, none⟩) := hfix 9 (by kernel_rfl)
        have e10 : aa.tmps.getD 10 undef = .int .i64 kd := hfix 10 (by kernel_rfl)
        have e11 : aa.tmps.getD 11 undef = FV := hfix 11 (by kernel_rfl)
        have e12 : aa.tmps.getD 12 undef = .pointer (some ⟨w.heap.size, 2, none⟩) := hfix 12 (by kernel_rfl)
        have e13 : aa.tmps.getD 13 undef = .slice (some ⟨bk, 0, none⟩) nk kc := hfix 13 (by kernel_rfl)
        have e14 : aa.tmps.getD 14 undef = .int .i64 (nk : Int) := hfix 14 (by kernel_rfl)
        have e15 : aa.tmps.getD 15 undef = u15 := hfix 15 (by kernel_rfl)
        have e16 : aa.tmps.getD 16 undef = u16 := hfix 16 (by kernel_rfl)
        have e17 : aa.tmps.getD 17 undef = u17 := hfix 17 (by kernel_rfl)
        have e18 : aa.tmps.getD 18 undef = u18 := hfix 18 (by kernel_rfl)
        have e19 : aa.tmps.getD 19 undef = u19 := hfix 19 (by kernel_rfl)
        have e20 : aa.tmps.getD 20 undef = u20 := hfix 20 (by kernel_rfl)
        have e21 : aa.tmps.getD 21 undef = u21 := hfix 21 (by kernel_rfl)
        have e22 : aa.tmps.getD 22 undef = .bool (!true) := hfix 22 (by kernel_rfl)
        have e23 : aa.tmps.getD 23 undef = .pointer (some ⟨w.heap.size, 2, none⟩) := hfix 23 (by kernel_rfl)
        have e24 : aa.tmps.getD 24 undef = .slice (some ⟨bk, 0, none⟩) nk kc := hfix 24 (by kernel_rfl)
        have e25 : aa.tmps.getD 25 undef = .int .i64 (nk : Int) := hfix 25 (by kernel_rfl)
        have e26 : aa.tmps.getD 26 undef = .int .i64 (j : Int) := hfix 26 (by kernel_rfl)
        clear hfix hpost
        obtain ⟨tm, df⟩ := aa
        obtain ⟨x0, x1, x2, x3, x4, x5, x6, x7, x8, x9, x10, x11, x12, x13, x14, x15, x16, x17, x18, x19, x20, x21, x22, x23, x24, x25, x26, x27, x28, x29, x30, x31, x32, x33, x34, x35, x36, x37, x38, x39, x40, x41, x42, x43, x44, x45, x46, x47, x48, x49, x50, x51, rfl⟩ := arr52 tm hsz
        have hdf : df = [] := hd
        subst hdf
        have f0 : x0 = .slice (some ⟨b0, 0, none⟩) nn c := e0
        have f1 : x1 = .agg #[.int .i64 kd, .string tx, .slice (some ⟨bk, 0, none⟩) nk kc, .bool bl] := e1
        have f2 : x2 = undef := e2
        have f3 : x3 = .pointer (some ⟨w.heap.size, 0, none⟩) := e3
        have f5 : x5 = FV := e5
        have f6 : x6 = .int .i64 (nk : Int) := e6
        have f9 : x9 = .pointer (some ⟨w.heap.size, 0, none⟩) := e9
        have f10 : x10 = .int .i64 kd := e10
        have f11 : x11 = FV := e11
        have f12 : x12 = .pointer (some ⟨w.heap.size, 2, none⟩) := e12
        have f13 : x13 = .slice (some ⟨bk, 0, none⟩) nk kc := e13
        have f14 : x14 = .int .i64 (nk : Int) := e14
        have f15 : x15 = u15 := e15
        have f16 : x16 = u16 := e16
        have f17 : x17 = u17 := e17
        have f18 : x18 = u18 := e18
        have f19 : x19 = u19 := e19
        have f20 : x20 = u20 := e20
        have f21 : x21 = u21 := e21
        have f22 : x22 = .bool (!true) := e22
        have f23 : x23 = .pointer (some ⟨w.heap.size, 2, none⟩) := e23
        have f24 : x24 = .slice (some ⟨bk, 0, none⟩) nk kc := e24
        have f25 : x25 = .int .i64 (nk : Int) := e25
        have f26 : x26 = .int .i64 (j : Int) := e26
        have f50 : x50 = .bool (!b2) := e50
        subst f0 f1 f2 f3 f5 f6 f9 f10 f11 f12 f13 f14 f15 f16 f17 f18 f19 f20 f21 f22 f23 f24 f25 f26 f50
        clear e0 e1 e2 e3 e5 e6 e9 e10 e11 e12 e13 e14 e15 e16 e17 e18 e19 e20 e21 e22 e23 e24 e25 e26 e50 hsz hd
        have HBW := hidOf (hb.trans (hI.mono hb.size))
        clear hI
        have hbv : b2 = true := HB2.out
        subst hbv
        go_wp2
        go_roundw
        case rel => exact ⟨j + 1, by omega, by go_num, hidOf (fun i2 z2 y2 h2 hz2 hy2 => HNX.out i2 z2 y2 h2 hz2 hy2), HBW.out⟩
        case measure => simp [intOf]; omega
      ·have HB2 := hidOf (Bool.eq_false_iff.2 hbv)
       have HNO := hidOf (HNO0.out (.inr (Bool.eq_false_iff.2 hbv)))
       clear hbv
       go_wp2
       refine wp_region_guards (by kernel_rfl) (fun W => Below wr.heap.size wr W) (fun W W' => Below W.heap.size W W') (kdOn b0 nn c m k2 t2 a2 n2 c2 l2 true FV j nk r b2) ((Below.refl _ wr).drew) (by kernel_rfl) (fun i v W W' h _ _ => kdOn_stab b0 nn c m k2 t2 a2 n2 c2 l2 true FV j nk r b2 i v W W' h) ?_ ?_
       case refine_1 =>
        intro kk oo hk aa W hI hsz hfix hdep
        match kk, hk with
        | 0, hk =>
         cases hk
         refine .inl ⟨wanted_none rfl, fun K hK => ?_⟩
         have e0 : aa.tmps.getD 0 undef = .slice (some ⟨b0, 0, none⟩) nn c := hfix 0 (by kernel_rfl)
         refine wp_value (v := .slice (some ⟨b0, 0, none⟩) nn c) (w' := W) ?_ (hK _ _ (by simp) hI (Below.refl _ _) rfl)
         clear hfix hdep hK hk hsz hI
         go_simp
        | 1, hk =>
         cases hk
         refine .inl ⟨wanted_none rfl, fun K hK => ?_⟩
         have e0 : aa.tmps.getD 0 undef = .slice (some ⟨b0, 0, none⟩) nn c := hfix 0 (by kernel_rfl)
         refine wp_value (v := .slice (some ⟨b0, 0, none⟩) nn c) (w' := W) ?_ (hK _ _ (by simp) hI (Below.refl _ _) rfl)
         clear hfix hdep hK hk hsz hI
         go_simp
        | 2, hk =>
         cases hk
         refine .inl ⟨wanted_none rfl, fun K hK => ?_⟩
         have e8 : aa.tmps.getD 8 undef = .int .i64 (m : Int) := hfix 8 (by kernel_rfl)
         refine wp_value (v := .int .i64 (m : Int)) (w' := W) ?_ (hK _ _ (by simp) hI (Below.refl _ _) rfl)
         clear hfix hdep hK hk hsz hI
         go_simp
        | 3, hk =>
         cases hk
         refine .inl ⟨wanted_none rfl, fun K hK => ?_⟩
         have e32 : aa.tmps.getD 32 undef = .slice (some ⟨b0, 0, none⟩) nn c := hdep 1 _ rfl (by kernel_rfl)
         have e33 : aa.tmps.getD 33 undef = .int .i64 (m : Int) := hdep 2 _ rfl (by kernel_rfl)
         refine wp_value (v := .pointer (some ⟨b0, m * 4, none⟩)) (w' := W) ?_ (hK _ _ (by simp) hI (Below.refl _ _) rfl)
         clear hfix hdep hK hk hsz hI
         go_simp
        | 4, hk =>
         cases hk
         refine .inl ⟨wanted_none rfl, fun K hK => ?_⟩
         have e34 : aa.tmps.getD 34 undef = .pointer (some ⟨b0, m * 4, none⟩) := hdep 3 _ rfl (by kernel_rfl)
         obtain ⟨y0, y1, y2, y3⟩ := HC4.out W hI
         refine wp_value (v := .agg #[.int .i64 k2, .string t2, .slice a2 n2 c2, .bool l2]) (w' := W) ?_ (hK _ _ (by simp) hI (Below.refl _ _) rfl)
         clear hfix hdep hK hk hsz hI
         go_simp
        | 5, hk =>
         cases hk
         refine .inl ⟨wanted_none rfl, fun K hK => ?_⟩
         have e31 : aa.tmps.getD 31 undef = .slice (some ⟨b0, 0, none⟩) nn c := hdep 0 _ rfl (by kernel_rfl)
         have e35 : aa.tmps.getD 35 undef = .agg #[.int .i64 k2, .string t2, .slice a2 n2 c2, .bool l2] := hdep 4 _ rfl (by kernel_rfl)
         have hcon := Q1.out W hI
         refine wp_calls 204 #[.slice (some ⟨b0, 0, none⟩) nn c, .agg #[.int .i64 k2, .string t2, .slice a2 n2 c2, .bool l2]] ?_ hcon ?_
         ·clear hfix hdep hK hk hsz hcon hI
          go_simp
          try rfl
         ·rintro e W2 ⟨rfl, A⟩
          exact ⟨_, rfl, hK _ _ (by simp) (hI.trans (A.mono hI.size)) A rfl⟩
        | 6, hk =>
         cases hk
         refine .inl ⟨wanted_none rfl, fun K hK => ?_⟩
         have e36 : aa.tmps.getD 36 undef = .bool true := hdep 5 _ rfl (by kernel_rfl)
         refine wp_value (v := .bool false) (w' := W) ?_ (hK _ _ (by simp) hI (Below.refl _ _) rfl)
         clear hfix hdep hK hk hsz hI
         go_simp
        | 7, hk =>
         cases hk
         refine .inl ⟨wanted_none rfl, fun K hK => ?_⟩
         have e37 : aa.tmps.getD 37 undef = .bool false := hdep 6 _ rfl (by kernel_rfl)
         refine wp_value (v := .bool false) (w' := W) ?_ (hK _ _ (by simp) hI (Below.refl _ _) rfl)
         clear hfix hdep hK hk hsz hI
         go_simp
        | 8, hk =>
         cases hk
         refine .inl ⟨(wanted_is (c := false) (b := false) rfl rfl rfl (hdep 7 _ rfl (by kernel_rfl))).trans rfl, fun K hK => ?_⟩
         have e0 : aa.tmps.getD 0 undef = .slice (some ⟨b0, 0, none⟩) nn c := hfix 0 (by kernel_rfl)
         refine wp_value (v := .slice (some ⟨b0, 0, none⟩) nn c) (w' := W) ?_ (hK _ _ (by simp) hI (Below.refl _ _) rfl)
         clear hfix hdep hK hk hsz hI
         go_simp
        | 9, hk =>
         cases hk
         refine .inl ⟨(wanted_is (c := false) (b := false) rfl rfl rfl (hdep 7 _ rfl (by kernel_rfl))).trans rfl, fun K hK => ?_⟩
         have e0 : aa.tmps.getD 0 undef = .slice (some ⟨b0, 0, none⟩) nn c := hfix 0 (by kernel_rfl)
         refine wp_value (v := .slice (some ⟨b0, 0, none⟩) nn c) (w' := W) ?_ (hK _ _ (by simp) hI (Below.refl _ _) rfl)
         clear hfix hdep hK hk hsz hI
         go_simp
        | 10, hk =>
         cases hk
         refine .inl ⟨(wanted_is (c := false) (b := false) rfl rfl rfl (hdep 7 _ rfl (by kernel_rfl))).trans rfl, fun K hK => ?_⟩
         have e8 : aa.tmps.getD 8 undef = .int .i64 (m : Int) := hfix 8 (by kernel_rfl)
         refine wp_value (v := .int .i64 (m : Int)) (w' := W) ?_ (hK _ _ (by simp) hI (Below.refl _ _) rfl)
         clear hfix hdep hK hk hsz hI
         go_simp
        | 11, hk =>
         cases hk
         refine .inl ⟨(wanted_is (c := false) (b := false) rfl rfl rfl (hdep 7 _ rfl (by kernel_rfl))).trans rfl, fun K hK => ?_⟩
         have e40 : aa.tmps.getD 40 undef = .slice (some ⟨b0, 0, none⟩) nn c := hdep 9 _ rfl (by kernel_rfl)
         have e41 : aa.tmps.getD 41 undef = .int .i64 (m : Int) := hdep 10 _ rfl (by kernel_rfl)
         refine wp_value (v := .pointer (some ⟨b0, m * 4, none⟩)) (w' := W) ?_ (hK _ _ (by simp) hI (Below.refl _ _) rfl)
         clear hfix hdep hK hk hsz hI
         go_simp
        | 12, hk =>
         cases hk
         refine .inl ⟨(wanted_is (c := false) (b := false) rfl rfl rfl (hdep 7 _ rfl (by kernel_rfl))).trans rfl, fun K hK => ?_⟩
         have e42 : aa.tmps.getD 42 undef = .pointer (some ⟨b0, m * 4, none⟩) := hdep 11 _ rfl (by kernel_rfl)
         obtain ⟨y0, y1, y2, y3⟩ := HC4.out W hI
         refine wp_value (v := .agg #[.int .i64 k2, .string t2, .slice a2 n2 c2, .bool l2]) (w' := W) ?_ (hK _ _ (by simp) hI (Below.refl _ _) rfl)
         clear hfix hdep hK hk hsz hI
         go_simp
        | 13, hk =>
         cases hk
         refine .inl ⟨(wanted_is (c := false) (b := false) rfl rfl rfl (hdep 7 _ rfl (by kernel_rfl))).trans rfl, fun K hK => ?_⟩
         have e5 : aa.tmps.getD 5 undef = FV := hfix 5 (by kernel_rfl)
         refine wp_value (v := FV) (w' := W) ?_ (hK _ _ (by simp) hI (Below.refl _ _) rfl)
         clear hfix hdep hK hk hsz hI
         go_simp
        | 14, hk =>
         cases hk
         refine .inl ⟨(wanted_is (c := false) (b := false) rfl rfl rfl (hdep 7 _ rfl (by kernel_rfl))).trans rfl, fun K hK => ?_⟩
         have e7 : aa.tmps.getD 7 undef = .int .i64 (j : Int) := hfix 7 (by kernel_rfl)
         refine wp_value (v := .int .i64 (j : Int)) (w' := W) ?_ (hK _ _ (by simp) hI (Below.refl _ _) rfl)
         clear hfix hdep hK hk hsz hI
         go_simp
        | 15, hk =>
         cases hk
         refine .inl ⟨(wanted_is (c := false) (b := false) rfl rfl rfl (hdep 7 _ rfl (by kernel_rfl))).trans rfl, fun K hK => ?_⟩
         have e6 : aa.tmps.getD 6 undef = .int .i64 (nk : Int) := hfix 6 (by kernel_rfl)
         refine wp_value (v := .int .i64 (nk : Int)) (w' := W) ?_ (hK _ _ (by simp) hI (Below.refl _ _) rfl)
         clear hfix hdep hK hk hsz hI
         go_simp
        | 16, hk =>
         cases hk
         refine .inl ⟨(wanted_is (c := false) (b := false) rfl rfl rfl (hdep 7 _ rfl (by kernel_rfl))).trans rfl, fun K hK => ?_⟩
         have e44 : aa.tmps.getD 44 undef = FV := hdep 13 _ rfl (by kernel_rfl)
         have e45 : aa.tmps.getD 45 undef = .int .i64 (j : Int) := hdep 14 _ rfl (by kernel_rfl)
         have e46 : aa.tmps.getD 46 undef = .int .i64 (nk : Int) := hdep 15 _ rfl (by kernel_rfl)
         have hcon := Q2.out W
         refine wp_calls 206 #[FV, .int .i64 (j : Int), .int .i64 (nk : Int)] ?_ hcon ?_
         ·clear hfix hdep hK hk hsz hcon hI
          go_simp
          try rfl
         ·rintro e W2 ⟨rfl, A⟩
          exact ⟨_, rfl, hK _ _ (by simp) (hI.trans (A.mono hI.size)) A rfl⟩
        | 17, hk =>
         cases hk
         refine .inl ⟨(wanted_is (c := false) (b := false) rfl rfl rfl (hdep 7 _ rfl (by kernel_rfl))).trans rfl, fun K hK => ?_⟩
         have e39 : aa.tmps.getD 39 undef = .slice (some ⟨b0, 0, none⟩) nn c := hdep 8 _ rfl (by kernel_rfl)
         have e43 : aa.tmps.getD 43 undef = .agg #[.int .i64 k2, .string t2, .slice a2 n2 c2, .bool l2] := hdep 12 _ rfl (by kernel_rfl)
         have e47 : aa.tmps.getD 47 undef = .int .i64 (r : Int) := hdep 16 _ rfl (by kernel_rfl)
         have hcon := Q3.out W hI
         refine wp_calls 205 #[.slice (some ⟨b0, 0, none⟩) nn c, .agg #[.int .i64 k2, .string t2, .slice a2 n2 c2, .bool l2], .int .i64 (r : Int)] ?_ hcon ?_
         ·clear hfix hdep hK hk hsz hcon hI
          go_simp
          try rfl
         ·rintro e W2 ⟨rfl, A⟩
          exact ⟨_, rfl, hK _ _ (by simp) (hI.trans (A.mono hI.size)) A rfl⟩
        | 18, hk =>
         cases hk
         refine .inl ⟨(wanted_is (c := false) (b := false) rfl rfl rfl (hdep 7 _ rfl (by kernel_rfl))).trans rfl, fun K hK => ?_⟩
         have e48 : aa.tmps.getD 48 undef = .bool b2 := hdep 17 _ rfl (by kernel_rfl)
         refine wp_value (v := .bool (!b2)) (w' := W) ?_ (hK _ _ (by simp) hI (Below.refl _ _) rfl)
         clear hfix hdep hK hk hsz hI
         go_simp
        | 19, hk =>
         cases hk
         refine .inl ⟨wanted_none rfl, fun K hK => ?_⟩
         have e38 : aa.tmps.getD 38 undef = .bool false := hdep 7 _ rfl (by kernel_rfl)
         have e49 : aa.tmps.getD 49 undef = .bool (!b2) := hdep 18 _ rfl (by kernel_rfl)
         refine wp_value (v := .bool (!b2)) (w' := W) ?_ (hK _ _ (by simp) hI (Below.refl _ _) rfl)
         clear hfix hdep hK hk hsz hI
         go_simp
       case refine_2 =>
        intro aa W hI hd hsz hfix hpost
        have e50 : aa.tmps.getD 50 undef = .bool (!b2) := hpost 19 _ rfl
        have e0 : aa.tmps.getD 0 undef = .slice (some ⟨b0, 0, none⟩) nn c := hfix 0 (by kernel_rfl)
        have e1 : aa.tmps.getD 1 undef = .agg #[.int .i64 kd, .string tx, .slice (some ⟨bk, 0, none⟩) nk kc, .bool bl] := hfix 1 (by kernel_rfl)
        have e2 : aa.tmps.getD 2 undef = undef := hfix 2 (by kernel_rfl)
        have e3 : aa.tmps.getD 3 undef = .pointer (some ⟨w.heap.size, 0, none⟩) := hfix 3 (by kernel_rfl)
        have e5 : aa.tmps.getD 5 undef = FV := hfix 5 (by kernel_rfl)
        have e6 : aa.tmps.getD 6 undef = .int .i64 (nk : Int) := hfix 6 (by kernel_rfl)
        have e9 : aa.tmps.getD 9 undef = .pointer (some ⟨w.heap.size, 0, none⟩) := hfix 9 (by kernel_rfl)
        have e10 : aa.tmps.getD 10 undef = .int .i64 kd := hfix 10 (by kernel_rfl)
        have e11 : aa.tmps.getD 11 undef = FV := hfix 11 (by kernel_rfl)
        have e12 : aa.tmps.getD 12 undef = .pointer (some ⟨w.heap.size, 2, none⟩) := hfix 12 (by kernel_rfl)
        have e13 : aa.tmps.getD 13 undef = .slice (some ⟨bk, 0, none⟩) nk kc := hfix 13 (by kernel_rfl)
        have e14 : aa.tmps.getD 14 undef = .int .i64 (nk : Int) := hfix 14 (by kernel_rfl)
        have e15 : aa.tmps.getD 15 undef = u15 := hfix 15 (by kernel_rfl)
        have e16 : aa.tmps.getD 16 undef = u16 := hfix 16 (by kernel_rfl)
        have e17 : aa.tmps.getD 17 undef = u17 := hfix 17 (by kernel_rfl)
        have e18 : aa.tmps.getD 18 undef = u18 := hfix 18 (by kernel_rfl)
        have e19 : aa.tmps.getD 19 undef = u19 := hfix 19 (by kernel_rfl)
        have e20 : aa.tmps.getD 20 undef = u20 := hfix 20 (by kernel_rfl)
        have e21 : aa.tmps.getD 21 undef = u21 := hfix 21 (by kernel_rfl)
        have e22 : aa.tmps.getD 22 undef = .bool (!true) := hfix 22 (by kernel_rfl)
        have e23 : aa.tmps.getD 23 undef = .pointer (some ⟨w.heap.size, 2, none⟩) := hfix 23 (by kernel_rfl)
        have e24 : aa.tmps.getD 24 undef = .slice (some ⟨bk, 0, none⟩) nk kc := hfix 24 (by kernel_rfl)
        have e25 : aa.tmps.getD 25 undef = .int .i64 (nk : Int) := hfix 25 (by kernel_rfl)
        have e26 : aa.tmps.getD 26 undef = .int .i64 (j : Int) := hfix 26 (by kernel_rfl)
        clear hfix hpost
        obtain ⟨tm, df⟩ := aa
        obtain ⟨x0, x1, x2, x3, x4, x5, x6, x7, x8, x9, x10, x11, x12, x13, x14, x15, x16, x17, x18, x19, x20, x21, x22, x23, x24, x25, x26, x27, x28, x29, x30, x31, x32, x33, x34, x35, x36, x37, x38, x39, x40, x41, x42, x43, x44, x45, x46, x47, x48, x49, x50, x51, rfl⟩ := arr52 tm hsz
        have hdf : df = [] := hd
        subst hdf
        have f0 : x0 = .slice (some ⟨b0, 0, none⟩) nn c := e0
        have f1 : x1 = .agg #[.int .i64 kd, .string tx, .slice (some ⟨bk, 0, none⟩) nk kc, .bool bl] := e1
        have f2 : x2 = undef := e2
        have f3 : x3 = .pointer (some ⟨w.heap.size, 0, none⟩) := e3
        have f5 : x5 = FV := e5
        have f6 : x6 = .int .i64 (nk : Int) := e6
        have f9 : x9 = .pointer (some ⟨w.heap.size, 0, none⟩) := e9
        have f10 : x10 = .int .i64 kd := e10
        have f11 : x11 = FV := e11
        have f12 : x12 = .pointer (some ⟨w.heap.size, 2, none⟩) := e12
        have f13 : x13 = .slice (some ⟨bk, 0, none⟩) nk kc := e13
        have f14 : x14 = .int .i64 (nk : Int) := e14
        have f15 : x15 = u15 := e15
        have f16 : x16 = u16 := e16
        have f17 : x17 = u17 := e17
        have f18 : x18 = u18 := e18
        have f19 : x19 = u19 := e19
        have f20 : x20 = u20 := e20
        have f21 : x21 = u21 := e21
        have f22 : x22 = .bool (!true) := e22
        have f23 : x23 = .pointer (some ⟨w.heap.size, 2, none⟩) := e23
        have f24 : x24 = .slice (some ⟨bk, 0, none⟩) nk kc := e24
        have f25 : x25 = .int .i64 (nk : Int) := e25
        have f26 : x26 = .int .i64 (j : Int) := e26
        have f50 : x50 = .bool (!b2) := e50
        subst f0 f1 f2 f3 f5 f6 f9 f10 f11 f12 f13 f14 f15 f16 f17 f18 f19 f20 f21 f22 f23 f24 f25 f26 f50
        clear e0 e1 e2 e3 e5 e6 e9 e10 e11 e12 e13 e14 e15 e16 e17 e18 e19 e20 e21 e22 e23 e24 e25 e26 e50 hsz hd
        have HBW := hidOf (hb.trans (hI.mono hb.size))
        clear hI
        have hbv : b2 = false := HB2.out
        subst hbv
        go_wp2
        go_ret
        exact telB_no HNO.out HBW.out
    ·have HT := hidOf (HP.out.2 ⟨(HCI.out.1 HBC.out.symm).1, by rw [← HNK.out]; exact (HCI.out.1 HBC.out.symm).2, fun i z y hi hy => by
      have hil : i < nk := by rw [HNK.out]; exact (List.getElem?_eq_some_iff.1 hi).1
      rw [← HNK.out]
      exact HF.out i z y (by omega) hi hy⟩)
     go_wp2
     go_ret
     exact telB_yes HT.out hb
end Go.Proofs.YtcbbnphpkgifoaaGreatDoor
