/- Whether a kid is what it must be: the specification. -/
import Derived.Test.YtcbbnphpkgifoaaGreatDoorKaf
import Derived.Test.YtcbbnphpkgifoaaGreatDoorRdMem
namespace Go.Proofs.YtcbbnphpkgifoaaGreatDoor
open Go.RowKit
theorem Nds.node {w : World} {B : Nat} {a : Option Addr} {c k : Nat} {qs : List Np} {q : Np} (h : Nds w B a c qs) (hk : qs[k]? = some q) : ∃ b, a = some ⟨b, 0, none⟩ ∧ b < w.heap.size ∧ w.cell? ⟨b, k * 4, none⟩ = some (.int .i64 q.nd.kind) ∧ w.cell? ⟨b, k * 4 + 1, none⟩ = some (.string q.nd.text) ∧ w.cell? ⟨b, k * 4 + 2, none⟩ = some (.slice q.a q.nd.kids.length q.c) ∧ w.cell? ⟨b, k * 4 + 3, none⟩ = some (.bool q.nd.blank) := by
 have hl : k < qs.length := (List.getElem?_eq_some_iff.1 hk).1
 obtain ⟨b, rfl⟩ := owns_at h.row (by omega)
 exact ⟨b, rfl, (h.row.lt b rfl).2, np4 fun j hj => (h.row.cellAt (k * 4 + j) (by omega)).trans (rowVals_at npCells_len qs k q hk j hj)⟩
theorem Nds.kid {w : World} {B : Nat} {a : Option Addr} {c k i : Nat} {qs : List Np} {q : Np} {z : Int} (h : Nds w B a c qs) (hk : qs[k]? = some q) (hz : q.nd.kids[i]? = some z) : ∃ b, q.a = some ⟨b, 0, none⟩ ∧ b < w.heap.size ∧ w.cell? ⟨b, i, none⟩ = some (.int .i64 z) := by
 have hl : i < q.nd.kids.length := (List.getElem?_eq_some_iff.1 hz).1
 have hr := h.each q (List.mem_of_getElem? hk)
 obtain ⟨b, hb⟩ := owns_at hr (by omega)
 rw [hb] at hr
 refine ⟨b, hb, (hr.lt b rfl).2, (hr.cellAt i (by omega)).trans ?_⟩
 unfold intVals
 rw [List.getElem?_map, hz]
 rfl
theorem nameCall_iff {qs : List Np} {y : Nd} {zm : Nat} {q3 : Np} (h1 : y.kind = 5) (h2 : y.kids[0]? = some (zm : Int)) (h3 : qs[zm]? = some q3) : nameCall (qs.map Np.nd) y ↔ q3.nd.kind = 1 := by
 constructor
 ·rintro ⟨-, z, u, e1, e2, e3⟩
  rw [h2] at e1
  injection e1 with e1
  subst e1
  rw [Int.toNat_natCast, List.getElem?_map, h3] at e2
  injection e2 with e2
  rw [show q3.nd = u from e2]
  exact e3
 ·exact fun e => ⟨h1, zm, q3.nd, h2, by rw [Int.toNat_natCast, List.getElem?_map, h3]; rfl, e⟩
theorem below2 (w : World) (x y) : Below w.heap.size w ((w.alloc x).alloc y) := ((Below.refl _ _).alloc (Nat.le_refl _) _).alloc (by simp) _
set_option maxHeartbeats 3000000 in
set_option maxRecDepth 100000 in
theorem sFits {w : World} {B : Nat} {a : Option Addr} {c k i zn : Nat} {qs : List Np} {q1 q2 : Np} (h : Nds w B a c qs) (h1 : qs[k]? = some q1) (hz : q1.nd.kids[i]? = some (zn : Int)) (h2 : qs[zn]? = some q2) (hk : 1 ≤ q1.nd.kind ∧ q1.nd.kind ≤ 22) (hc : CallK (qs.map Np.nd) q2.nd) (hm : q1.nd.kids.length ≤ 12) :
  Calls Tryz.prog 177 #[.slice a qs.length c, .int .i64 (k : Int), .int .i64 (i : Int)] w (TelB (RoleP (qs.map Np.nd) q2.nd (roleK q1.nd.kind i q1.nd.kids.length)) w) := by
 have hkl : k < qs.length := (List.getElem?_eq_some_iff.1 h1).1
 have hzl : zn < qs.length := (List.getElem?_eq_some_iff.1 h2).1
 have hil : i < q1.nd.kids.length := (List.getElem?_eq_some_iff.1 hz).1
 obtain ⟨b, rfl, hb, c0, c1, c2, c3⟩ := h.node h1
 obtain ⟨b', hbb, -, d0, d1, d2, d3⟩ := h.node h2
 obtain rfl : b = b' := by injection hbb with hbb; injection hbb
 obtain ⟨kb, hkb, hkbl, ck⟩ := h.kid h1 hz
 rw [hkb] at c2
 have hA1 : (0 : Int) ≤ (k : Int) := by omega
 have hA2 : (0 : Int) ≤ (zn : Int) := by omega
 have hA3 : (0 : Int) ≤ (i : Int) := by omega
 have hB1 : (k : Int) < (qs.length : Int) := by omega
 have hB2 : (zn : Int) < (qs.length : Int) := by omega
 have hB3 : (i : Int) < (q1.nd.kids.length : Int) := by omega
 obtain ⟨⟨kd, tx, ks, bl⟩, ka, kc⟩ := q1
 obtain ⟨⟨kd2, tx2, ks2, bl2⟩, ka2, kc2⟩ := q2
 simp only at hkb hil hB3 hm hk c0 c1 c2 c3 d0 d1 d2 d3 hz hc
 subst hkb
 have HH := hidOf (And.intro h (And.intro h1 (And.intro hz (And.intro h2 hc))))
 show Calls _ _ _ _ (TelB (RoleP (qs.map Np.nd) ⟨kd2, tx2, ks2, bl2⟩ (roleK kd i ks.length)) w)
 clear h h1 hz h2 hc hbb
 rcases kind_cases hk with rfl | rfl | rfl | rfl | rfl | rfl | rfl | rfl | rfl | rfl | rfl | rfl | rfl | rfl | rfl | rfl | rfl | rfl | rfl | rfl | rfl | rfl
 all_goals clear hk
 ·go_enter Tryz.func177, Tryz.ntmps177
  go_wp2_with fail
  refine (sVal5 kd2 _).mono ?_
  rintro e w1 ⟨bb, rfl, hbb, rfl⟩
  have HQ := hidOf hbb
  clear hbb
  go_wp2
  go_ret
  exact ⟨bb, rfl, HQ.out.trans (by simp [RoleP, roleK]), below2 _ _ _⟩
 ·go_enter Tryz.func177, Tryz.ntmps177
  go_wp2_with fail
  refine (sVal5 kd2 _).mono ?_
  rintro e w1 ⟨bb, rfl, hbb, rfl⟩
  have HQ := hidOf hbb
  clear hbb
  go_wp2
  go_ret
  exact ⟨bb, rfl, HQ.out.trans (by simp [RoleP, roleK]), below2 _ _ _⟩
 ·go_enter Tryz.func177, Tryz.ntmps177
  go_wp2_with fail
  refine (sVal5 kd2 _).mono ?_
  rintro e w1 ⟨bb, rfl, hbb, rfl⟩
  have HQ := hidOf hbb
  clear hbb
  go_wp2
  go_ret
  exact ⟨bb, rfl, HQ.out.trans (by simp [RoleP, roleK]), below2 _ _ _⟩
 ·go_enter Tryz.func177, Tryz.ntmps177
  go_wp2_with fail
  refine (sVal5 kd2 _).mono ?_
  rintro e w1 ⟨bb, rfl, hbb, rfl⟩
  have HQ := hidOf hbb
  clear hbb
  go_wp2
  go_ret
  exact ⟨bb, rfl, HQ.out.trans (by simp [RoleP, roleK]), below2 _ _ _⟩
 ·go_enter Tryz.func177, Tryz.ntmps177
  go_wp2_with fail
  refine (sVal5 kd2 _).mono ?_
  rintro e w1 ⟨bb, rfl, hbb, rfl⟩
  have HQ := hidOf hbb
  clear hbb
  go_wp2
  go_ret
  exact ⟨bb, rfl, HQ.out.trans (by simp [RoleP, roleK]), below2 _ _ _⟩
 ·go_enter Tryz.func177, Tryz.ntmps177
  go_wp2_with fail
  refine (sVal5 kd2 _).mono ?_
  rintro e w1 ⟨bb, rfl, hbb, rfl⟩
  have HQ := hidOf hbb
  clear hbb
  go_wp2
  go_ret
  exact ⟨bb, rfl, HQ.out.trans (by simp [RoleP, roleK]), below2 _ _ _⟩
 ·go_enter Tryz.func177, Tryz.ntmps177
  go_wp2_with fail
  refine (sVal5 kd2 _).mono ?_
  rintro e w1 ⟨bb, rfl, hbb, rfl⟩
  have HQ := hidOf hbb
  clear hbb
  go_wp2
  go_ret
  exact ⟨bb, rfl, HQ.out.trans (by simp [RoleP, roleK]), below2 _ _ _⟩
 ·go_enter Tryz.func177, Tryz.ntmps177
  go_wp2_with fail
  refine (sVal5 kd2 _).mono ?_
  rintro e w1 ⟨bb, rfl, hbb, rfl⟩
  have HQ := hidOf hbb
  clear hbb
  go_wp2
  go_ret
  exact ⟨bb, rfl, HQ.out.trans (by simp [RoleP, roleK]), below2 _ _ _⟩
 ·by_cases hi : i + 1 < ks.length
  ·have hi1 : ((i : Int) + 1) < (ks.length : Int) := by omega
   obtain ⟨bb, hbb⟩ : ∃ bb, bb = (kd2 == 1) := ⟨_, rfl⟩
   have HQ := hidOf (show bb = true ↔ kd2 = 1 by rw [hbb]; simp)
   go_enter Tryz.func177, Tryz.ntmps177
   go_wp2
   rw [← hbb]
   go_ret
   exact ⟨bb, rfl, HQ.out.trans (by simp [RoleP, roleK, hi]), below2 _ _ _⟩
  ·have hi1 : ¬ ((i : Int) + 1) < (ks.length : Int) := by omega
   go_enter Tryz.func177, Tryz.ntmps177
   go_wp2_with fail
   refine (sVal5 kd2 _).mono ?_
   rintro e w1 ⟨bb, rfl, hbb, rfl⟩
   have HQ := hidOf hbb
   clear hbb
   go_wp2
   go_ret
   exact ⟨bb, rfl, HQ.out.trans (by simp [RoleP, roleK, hi]), below2 _ _ _⟩
 ·by_cases hi : 0 < i
  ·have hi1 : (0 : Int) < (i : Int) := by omega
   by_cases h5 : kd2 = 5
   ·subst h5
    obtain ⟨z0, e1, e2, e3⟩ := HH.out.2.2.2.2 rfl
    simp only at e1
    obtain ⟨zm, rfl⟩ : ∃ zm : Nat, z0 = (zm : Int) := ⟨z0.toNat, by omega⟩
    have hzm : zm < qs.length := by simp at e3; omega
    obtain ⟨q3, h3⟩ : ∃ q3, qs[zm]? = some q3 := ⟨_, List.getElem?_eq_getElem hzm⟩
    obtain ⟨b3, hb3, -, g0, -, -, -⟩ := HH.out.1.node h3
    obtain rfl : b = b3 := by injection hb3 with hb3; injection hb3
    obtain ⟨kb2, hkb2, hkbl2, ck2⟩ := HH.out.1.kid HH.out.2.2.2.1 e1
    simp only at hkb2
    subst hkb2
    have hl2 : 0 < ks2.length := (List.getElem?_eq_some_iff.1 e1).1
    have hA4 : (0 : Int) ≤ (zm : Int) := by omega
    have hB4 : (zm : Int) < (qs.length : Int) := by omega
    have hB5 : (0 : Int) < (ks2.length : Int) := by omega
    obtain ⟨bb, hbb⟩ : ∃ bb, bb = (q3.nd.kind == 1) := ⟨_, rfl⟩
    have HQ := hidOf (show bb = true ↔ q3.nd.kind = 1 by rw [hbb]; simp)
    obtain ⟨kd3, hkd3⟩ : ∃ kd3, kd3 = q3.nd.kind := ⟨_, rfl⟩
    rw [← hkd3] at g0 hbb
    have HE := hidOf (And.intro e1 (And.intro h3 hkd3))
    clear e1 e2 e3 h3 hkd3 hb3 hzm
    go_enter Tryz.func177, Tryz.ntmps177
    go_wp2
    rw [← hbb]
    go_ret
    refine ⟨bb, rfl, HQ.out.trans ?_, below2 _ _ _⟩
    rw [show roleK 10 i ks.length = 3 by simp [roleK, hi]]
    exact (nameCall_iff rfl HE.out.1 HE.out.2.1).symm
   ·have h5b : (kd2 == 5) = false := by rw [beq_eq_false_iff_ne]; exact h5
    go_enter Tryz.func177, Tryz.ntmps177
    go_wp2
    go_ret
    exact telB_no (by simp [RoleP, roleK, hi, nameCall, h5]) (below2 _ _ _)
  ·have hi1 : ¬ (0 : Int) < (i : Int) := by omega
   go_enter Tryz.func177, Tryz.ntmps177
   go_wp2_with fail
   refine (sVal5 kd2 _).mono ?_
   rintro e w1 ⟨bb, rfl, hbb, rfl⟩
   have HQ := hidOf hbb
   clear hbb
   go_wp2
   go_ret
   exact ⟨bb, rfl, HQ.out.trans (by simp [RoleP, roleK, hi]), below2 _ _ _⟩
 ·go_enter Tryz.func177, Tryz.ntmps177
  go_wp2_with fail
  refine (sVal5 kd2 _).mono ?_
  rintro e w1 ⟨bb, rfl, hbb, rfl⟩
  have HQ := hidOf hbb
  clear hbb
  go_wp2
  go_ret
  exact ⟨bb, rfl, HQ.out.trans (by simp [RoleP, roleK]), below2 _ _ _⟩
 ·go_enter Tryz.func177, Tryz.ntmps177
  go_wp2_with fail
  refine (sVal5 kd2 _).mono ?_
  rintro e w1 ⟨bb, rfl, hbb, rfl⟩
  have HQ := hidOf hbb
  clear hbb
  go_wp2
  go_ret
  exact ⟨bb, rfl, HQ.out.trans (by simp [RoleP, roleK]), below2 _ _ _⟩
 ·go_enter Tryz.func177, Tryz.ntmps177
  go_wp2_with fail
  refine (sVal5 kd2 _).mono ?_
  rintro e w1 ⟨bb, rfl, hbb, rfl⟩
  have HQ := hidOf hbb
  clear hbb
  go_wp2
  go_ret
  exact ⟨bb, rfl, HQ.out.trans (by simp [RoleP, roleK]), below2 _ _ _⟩
 ·go_enter Tryz.func177, Tryz.ntmps177
  go_wp2_with fail
  refine (sVal5 kd2 _).mono ?_
  rintro e w1 ⟨bb, rfl, hbb, rfl⟩
  have HQ := hidOf hbb
  clear hbb
  go_wp2
  go_ret
  exact ⟨bb, rfl, HQ.out.trans (by simp [RoleP, roleK]), below2 _ _ _⟩
 ·go_enter Tryz.func177, Tryz.ntmps177
  go_wp2_with fail
  refine (sVal5 kd2 _).mono ?_
  rintro e w1 ⟨bb, rfl, hbb, rfl⟩
  have HQ := hidOf hbb
  clear hbb
  go_wp2
  go_ret
  exact ⟨bb, rfl, HQ.out.trans (by simp [RoleP, roleK]), below2 _ _ _⟩
 ·by_cases hi : 0 < i
  ·have hi1 : (0 : Int) < (i : Int) := by omega
   obtain ⟨bb, hbb⟩ : ∃ bb, bb = (kd2 == 18) := ⟨_, rfl⟩
   have HQ := hidOf (show bb = true ↔ kd2 = 18 by rw [hbb]; simp)
   go_enter Tryz.func177, Tryz.ntmps177
   go_wp2
   rw [← hbb]
   go_ret
   exact ⟨bb, rfl, HQ.out.trans (by simp [RoleP, roleK, hi]), below2 _ _ _⟩
  ·have hi1 : ¬ (0 : Int) < (i : Int) := by omega
   go_enter Tryz.func177, Tryz.ntmps177
   go_wp2_with fail
   refine (sVal5 kd2 _).mono ?_
   rintro e w1 ⟨bb, rfl, hbb, rfl⟩
   have HQ := hidOf hbb
   clear hbb
   go_wp2
   go_ret
   exact ⟨bb, rfl, HQ.out.trans (by simp [RoleP, roleK, hi]), below2 _ _ _⟩
 ·by_cases hi : 0 < i
  ·have hi1 : (0 : Int) < (i : Int) := by omega
   obtain ⟨bb, hbb⟩ : ∃ bb, bb = (kd2 == 18) := ⟨_, rfl⟩
   have HQ := hidOf (show bb = true ↔ kd2 = 18 by rw [hbb]; simp)
   go_enter Tryz.func177, Tryz.ntmps177
   go_wp2
   rw [← hbb]
   go_ret
   exact ⟨bb, rfl, HQ.out.trans (by simp [RoleP, roleK, hi]), below2 _ _ _⟩
  ·have hi1 : ¬ (0 : Int) < (i : Int) := by omega
   go_enter Tryz.func177, Tryz.ntmps177
   go_wp2_with fail
   refine (sVal5 kd2 _).mono ?_
   rintro e w1 ⟨bb, rfl, hbb, rfl⟩
   have HQ := hidOf hbb
   clear hbb
   go_wp2
   go_ret
   exact ⟨bb, rfl, HQ.out.trans (by simp [RoleP, roleK, hi]), below2 _ _ _⟩
 ·go_enter Tryz.func177, Tryz.ntmps177
  go_wp2_with fail
  refine (sStat5 kd2 _).mono ?_
  rintro e w1 ⟨bb, rfl, hbb, rfl⟩
  have HQ := hidOf hbb
  clear hbb
  go_wp2
  go_ret
  exact ⟨bb, rfl, HQ.out.trans (by simp [RoleP, roleK]), below2 _ _ _⟩
 ·go_enter Tryz.func177, Tryz.ntmps177
  go_wp2_with fail
  refine (sVal5 kd2 _).mono ?_
  rintro e w1 ⟨bb, rfl, hbb, rfl⟩
  have HQ := hidOf hbb
  clear hbb
  go_wp2
  go_ret
  exact ⟨bb, rfl, HQ.out.trans (by simp [RoleP, roleK]), below2 _ _ _⟩
 ·by_cases hi : i + 1 < ks.length
  ·have hi1 : ((i : Int) + 1) < (ks.length : Int) := by omega
   obtain ⟨bb, hbb⟩ : ∃ bb, bb = (kd2 == 1) := ⟨_, rfl⟩
   have HQ := hidOf (show bb = true ↔ kd2 = 1 by rw [hbb]; simp)
   go_enter Tryz.func177, Tryz.ntmps177
   go_wp2
   rw [← hbb]
   go_ret
   exact ⟨bb, rfl, HQ.out.trans (by simp [RoleP, roleK, hi]), below2 _ _ _⟩
  ·have hi1 : ¬ ((i : Int) + 1) < (ks.length : Int) := by omega
   obtain ⟨bb, hbb⟩ : ∃ bb, bb = (kd2 == 18) := ⟨_, rfl⟩
   have HQ := hidOf (show bb = true ↔ kd2 = 18 by rw [hbb]; simp)
   go_enter Tryz.func177, Tryz.ntmps177
   go_wp2
   rw [← hbb]
   go_ret
   exact ⟨bb, rfl, HQ.out.trans (by simp [RoleP, roleK, hi]), below2 _ _ _⟩
 ·obtain ⟨bb, hbb⟩ := tel_bool (MembK kd2)
  have HQ := hidOf hbb
  clear hbb
  by_cases n12 : kd2 = 12
  ·subst n12
   go_enter Tryz.func177, Tryz.ntmps177
   go_wp2
   go_ret
   exact telB_yes (by simp [RoleP, roleK, MembK]) (below2 _ _ _)
  have m12 : (kd2 == 12) = false := by rw [beq_eq_false_iff_ne]; exact n12
  by_cases n20 : kd2 = 20
  ·subst n20
   go_enter Tryz.func177, Tryz.ntmps177
   go_wp2
   go_ret
   exact telB_yes (by simp [RoleP, roleK, MembK]) (below2 _ _ _)
  have m20 : (kd2 == 20) = false := by rw [beq_eq_false_iff_ne]; exact n20
  by_cases n19 : kd2 = 19
  ·subst n19
   go_enter Tryz.func177, Tryz.ntmps177
   go_wp2
   go_ret
   exact telB_yes (by simp [RoleP, roleK, MembK]) (below2 _ _ _)
  have m19 : (kd2 == 19) = false := by rw [beq_eq_false_iff_ne]; exact n19
  go_enter Tryz.func177, Tryz.ntmps177
  go_wp2
  go_ret
  exact telB_no (by simp [RoleP, roleK, MembK, n12, n20, n19]) (below2 _ _ _)
 ·obtain ⟨bb, hbb⟩ := tel_bool (MembK kd2 ∨ kd2 = 21)
  have HQ := hidOf hbb
  clear hbb
  by_cases n21 : kd2 = 21
  ·subst n21
   go_enter Tryz.func177, Tryz.ntmps177
   go_wp2
   go_ret
   exact telB_yes (by simp [RoleP, roleK, MembK]) (below2 _ _ _)
  have m21 : (kd2 == 21) = false := by rw [beq_eq_false_iff_ne]; exact n21
  by_cases n12 : kd2 = 12
  ·subst n12
   go_enter Tryz.func177, Tryz.ntmps177
   go_wp2
   go_ret
   exact telB_yes (by simp [RoleP, roleK, MembK]) (below2 _ _ _)
  have m12 : (kd2 == 12) = false := by rw [beq_eq_false_iff_ne]; exact n12
  by_cases n20 : kd2 = 20
  ·subst n20
   go_enter Tryz.func177, Tryz.ntmps177
   go_wp2
   go_ret
   exact telB_yes (by simp [RoleP, roleK, MembK]) (below2 _ _ _)
  have m20 : (kd2 == 20) = false := by rw [beq_eq_false_iff_ne]; exact n20
  by_cases n19 : kd2 = 19
  ·subst n19
   go_enter Tryz.func177, Tryz.ntmps177
   go_wp2
   go_ret
   exact telB_yes (by simp [RoleP, roleK, MembK]) (below2 _ _ _)
  have m19 : (kd2 == 19) = false := by rw [beq_eq_false_iff_ne]; exact n19
  go_enter Tryz.func177, Tryz.ntmps177
  go_wp2
  go_ret
  exact telB_no (by simp [RoleP, roleK, MembK, n21, n12, n20, n19]) (below2 _ _ _)
structure Sd (B g : Nat) (xs : List Sg) (A : Nat → Prop) (w : World) (bd : Bool) (s : Ps) : Prop where
 low : B ≤ g
 pos : s.p ≤ xs.length
 few : s.ns.length ≤ 300
 mem : ∃ sa sc na nc qs dv, w.heap[g]? = some (.cells #[.slice sa xs.length sc, .int .i64 s.p, .bool bd, .int .i64 dv, .slice na s.ns.length nc] tSp (0, 0)) ∧ w.ownsRow B tSg 4 (.slice sa xs.length sc) xs.length (sgVals xs) ∧ Nds w B na nc qs ∧ qs.map Np.nd = s.ns ∧ (∀ q ∈ qs, ∀ b, (Value.slice q.a q.nd.kids.length q.c).ownBlock = some b → ¬ A b) ∧ (bd = false → dv = (s.d : Int))
section
variable {B g : Nat} {xs : List Sg} {A A' : Nat → Prop} {w w' : World} {s : Ps} {bd : Bool}
theorem Sd.lt (h : Sd B g xs A w bd s) : g < w.heap.size := by
 obtain ⟨sa, sc, na, nc, qs, dv, h1, -⟩ := h.mem
 exact (Array.getElem?_eq_some_iff.1 h1).1
theorem Sd.base (h : Sd B g xs A w bd s) : B ≤ w.heap.size := by
 have := h.lt
 have := h.low
 omega
theorem Sd.below (h : Sd B g xs A w bd s) (hb : Below w.heap.size w w') : Sd B g xs A w' bd s := by
 obtain ⟨sa, sc, na, nc, qs, dv, h1, h2, h3, h4, e4, hdv⟩ := h.mem
 exact ⟨h.low, h.pos, h.few, sa, sc, na, nc, qs, dv, (hb.block g h.lt).trans h1, owns_below h2 hb, h3.below hb, h4, e4, hdv⟩
theorem Sd.cells (h : Sd B g xs A w bd s) : ∃ sa sc na nc, w.cell? ⟨g, 0, none⟩ = some (.slice sa xs.length sc) ∧ w.cell? ⟨g, 1, none⟩ = some (.int .i64 s.p) ∧ w.cell? ⟨g, 2, none⟩ = some (.bool bd) ∧ (∃ dv, w.cell? ⟨g, 3, none⟩ = some (.int .i64 dv) ∧ (bd = false → dv = (s.d : Int))) ∧ w.cell? ⟨g, 4, none⟩ = some (.slice na s.ns.length nc) ∧ (∀ o, w.frozen? ⟨g, o, none⟩ = false) := by
 obtain ⟨sa, sc, na, nc, qs, dv, h1, -, -, -, -, hdv⟩ := h.mem
 exact ⟨sa, sc, na, nc, cell_of_row w g 0 _ _ _ h1, cell_of_row w g 1 _ _ _ h1, cell_of_row w g 2 _ _ _ h1, ⟨dv, cell_of_row w g 3 _ _ _ h1, hdv⟩, cell_of_row w g 4 _ _ _ h1, fun o => frozen_of_row w g o _ _ h1⟩
theorem Sd.sign (h : Sd B g xs A w bd s) (p : Nat) (hp : p < xs.length) : ∃ b sc pl, b < w.heap.size ∧ w.cell? ⟨g, 0, none⟩ = some (.slice (some ⟨b, 0, none⟩) xs.length sc) ∧ w.cell? ⟨b, p * 4, none⟩ = some (.int .i64 (knd xs p)) ∧ w.cell? ⟨b, p * 4 + 1, none⟩ = some (.string (txt xs p)) ∧ w.cell? ⟨b, p * 4 + 2, none⟩ = some (.int .i64 pl) ∧ w.cell? ⟨b, p * 4 + 3, none⟩ = some (.bool (blk xs p)) := by
 obtain ⟨sa, sc, na, nc, qs, dv, h1, h2, -⟩ := h.mem
 obtain ⟨b, rfl⟩ := owns_at h2 (by omega)
 have hx : xs[p]? = some xs[p] := List.getElem?_eq_getElem hp
 have hc := fun j (hj : j < 4) => (h2.cellAt (p * 4 + j) (by omega)).trans (sgVals_at xs p xs[p] hx j hj)
 refine ⟨b, sc, (xs[p]).place, (h2.lt b rfl).2, cell_of_row w g 0 _ _ _ h1, ?_, ?_, ?_, ?_⟩
 ·unfold knd; rw [hx]; exact hc 0 (by omega)
 ·unfold txt; rw [hx]; exact hc 1 (by omega)
 ·exact hc 2 (by omega)
 ·unfold blk; rw [hx]; exact hc 3 (by omega)
theorem Sd.apart {cs : Array Value} (h1 : w.heap[g]? = some (.cells cs tSp (0, 0))) {na : Option Addr} {n nc m : Nat} {l : List Value} (h3 : w.ownsRow B tNode 4 (.slice na n nc) m l) : (Value.slice na n nc).ownBlock = none ∨ (Value.slice na n nc).ownBlock ≠ some g := by
 rcases h3.2 with ⟨e, _⟩ | ⟨k, cap, cur, e, _, e3, _⟩
 ·rw [e]; exact .inl rfl
 ·right
  rw [e]
  intro e'
  have : k = g := by injection e'
  subst this
  rw [h1] at e3
  injection e3 with e3
  injection e3 with _ e3 _
  exact absurd e3 (by decide)
theorem Sd.setP (h : Sd B g xs A w bd s) (p : Nat) (hp : p ≤ xs.length) : Sd B g xs A (w.setCell ⟨g, 1, none⟩ (.int .i64 p)) bd ⟨p, s.d, s.ns⟩ ∧ Fr B w (w.setCell ⟨g, 1, none⟩ (.int .i64 p)) := by
 obtain ⟨sa, sc, na, nc, qs, dv, h1, h2, h3, h4, e4, hdv⟩ := h.mem
 have hF : Fr B w (w.setCell ⟨g, 1, none⟩ (.int .i64 p)) := Fr.set h1 (.inr (.inr rfl)) h.low 1 _
 have hgr : w.grownBy (w.setCell ⟨g, 1, none⟩ (.int .i64 p)) (some g) := ⟨rfl, rfl, rfl, by simp, fun k _ hk => heap_setCell_other w _ k _ (fun e => hk (by rw [e]))⟩
 refine ⟨⟨h.low, hp, h.few, sa, sc, na, nc, qs, dv, ?_, hF.own h2 (by decide) (by decide) (by decide), ⟨h3.row.kept hgr (Sd.apart h1 h3.row), fun q hq => hF.ints (h3.each q hq)⟩, h4, e4, hdv⟩, hF⟩
 rw [heap_setCell_same w g 1 _ _ _ h1]
 rfl
theorem Sd.setB (h : Sd B g xs A w bd s) : Sd B g xs A (w.setCell ⟨g, 2, none⟩ (.bool true)) true s ∧ Fr B w (w.setCell ⟨g, 2, none⟩ (.bool true)) := by
 obtain ⟨sa, sc, na, nc, qs, dv, h1, h2, h3, h4, e4, -⟩ := h.mem
 have hF : Fr B w (w.setCell ⟨g, 2, none⟩ (.bool true)) := Fr.set h1 (.inr (.inr rfl)) h.low 2 _
 have hgr : w.grownBy (w.setCell ⟨g, 2, none⟩ (.bool true)) (some g) := ⟨rfl, rfl, rfl, by simp, fun k _ hk => heap_setCell_other w _ k _ (fun e => hk (by rw [e]))⟩
 refine ⟨⟨h.low, h.pos, h.few, sa, sc, na, nc, qs, dv, ?_, hF.own h2 (by decide) (by decide) (by decide), ⟨h3.row.kept hgr (Sd.apart h1 h3.row), fun q hq => hF.ints (h3.each q hq)⟩, h4, e4, fun e => by cases e⟩, hF⟩
 rw [heap_setCell_same w g 2 _ _ _ h1]
 rfl
theorem Sd.setD (h : Sd B g xs A w bd s) (d : Nat) : Sd B g xs A (w.setCell ⟨g, 3, none⟩ (.int .i64 d)) bd ⟨s.p, d, s.ns⟩ ∧ Fr B w (w.setCell ⟨g, 3, none⟩ (.int .i64 d)) := by
 obtain ⟨sa, sc, na, nc, qs, dv, h1, h2, h3, h4, e4, -⟩ := h.mem
 have hF : Fr B w (w.setCell ⟨g, 3, none⟩ (.int .i64 d)) := Fr.set h1 (.inr (.inr rfl)) h.low 3 _
 have hgr : w.grownBy (w.setCell ⟨g, 3, none⟩ (.int .i64 d)) (some g) := ⟨rfl, rfl, rfl, by simp, fun k _ hk => heap_setCell_other w _ k _ (fun e => hk (by rw [e]))⟩
 refine ⟨⟨h.low, h.pos, h.few, sa, sc, na, nc, qs, (d : Int), ?_, hF.own h2 (by decide) (by decide) (by decide), ⟨h3.row.kept hgr (Sd.apart h1 h3.row), fun q hq => hF.ints (h3.each q hq)⟩, h4, e4, fun _ => rfl⟩, hF⟩
 rw [heap_setCell_same w g 3 _ _ _ h1]
 rfl
theorem Sd.setI (h : Sd B g xs A w true s) (d : Int) : Sd B g xs A (w.setCell ⟨g, 3, none⟩ (.int .i64 d)) true s ∧ Fr B w (w.setCell ⟨g, 3, none⟩ (.int .i64 d)) := by
 obtain ⟨sa, sc, na, nc, qs, dv, h1, h2, h3, h4, e4, -⟩ := h.mem
 have hF : Fr B w (w.setCell ⟨g, 3, none⟩ (.int .i64 d)) := Fr.set h1 (.inr (.inr rfl)) h.low 3 _
 have hgr : w.grownBy (w.setCell ⟨g, 3, none⟩ (.int .i64 d)) (some g) := ⟨rfl, rfl, rfl, by simp, fun k _ hk => heap_setCell_other w _ k _ (fun e => hk (by rw [e]))⟩
 refine ⟨⟨h.low, h.pos, h.few, sa, sc, na, nc, qs, d, ?_, hF.own h2 (by decide) (by decide) (by decide), ⟨h3.row.kept hgr (Sd.apart h1 h3.row), fun q hq => hF.ints (h3.each q hq)⟩, h4, e4, fun e => by cases e⟩, hF⟩
 rw [heap_setCell_same w g 3 _ _ _ h1]
 rfl
theorem Sd.added {w2 : World} {sa na : Option Addr} {sc nc : Nat} {qs : List Np} {dv : Int} (h : Sd B g xs A w bd s) (h1 : w.heap[g]? = some (.cells #[.slice sa xs.length sc, .int .i64 s.p, .bool bd, .int .i64 dv, .slice na s.ns.length nc] tSp (0, 0))) (hdv : bd = false → dv = (s.d : Int)) (h2 : w.ownsRow B tSg 4 (.slice sa xs.length sc) xs.length (sgVals xs)) (h3 : Nds w B na nc qs) (h4 : qs.map Np.nd = s.ns) (e4 : ∀ q ∈ qs, ∀ b, (Value.slice q.a q.nd.kids.length q.c).ownBlock = some b → ¬ A b)
  (q : Np) (hq : ∀ b, (Value.slice q.a q.nd.kids.length q.c).ownBlock = some b → ¬ A b) (ho : w.ownsRow B tI 1 (.slice q.a q.nd.kids.length q.c) q.nd.kids.length (intVals q.nd.kids)) (hn : s.ns.length < 300) {na' : Option Addr} {nc' : Nat} (hg : w.grownBy w2 (Value.slice na qs.length nc).ownBlock) (hw : w2.ownsRow B tNode 4 (.slice na' (s.ns.length + 1) nc') (s.ns.length + 1) (rowVals npCells qs ++ npCells q)) :
  Sd B g xs A (w2.setCell ⟨g, 4, none⟩ (.slice na' (s.ns.length + 1) nc')) bd ⟨s.p, s.d, s.ns ++ [q.nd]⟩ ∧ Fr B w (w2.setCell ⟨g, 4, none⟩ (.slice na' (s.ns.length + 1) nc')) := by
 have hl : qs.length = s.ns.length := by rw [← h4]; simp
 have hF1 : Fr B w w2 := Fr.grow h3.row hg h.base (Nat.le_refl _)
 have hb2 : w2.heap[g]? = some (.cells #[.slice sa xs.length sc, .int .i64 s.p, .bool bd, .int .i64 dv, .slice na s.ns.length nc] tSp (0, 0)) := by
  rw [hg.block g h.lt (fun e => ?_)]
  ·exact h1
  ·rcases Sd.apart h1 h3.row with h5 | h5
   ·rw [h5] at e; cases e
   ·exact h5 e.symm
 have hF2 : Fr B w2 (w2.setCell ⟨g, 4, none⟩ (.slice na' (s.ns.length + 1) nc')) := Fr.set hb2 (.inr (.inr rfl)) h.low 4 _
 have hF := hF1.trans hF2
 have hgr : w2.grownBy (w2.setCell ⟨g, 4, none⟩ (.slice na' (s.ns.length + 1) nc')) (some g) := ⟨rfl, rfl, rfl, by simp, fun k _ hk => heap_setCell_other w2 _ k _ (fun e => hk (by rw [e]))⟩
 refine ⟨⟨h.low, h.pos, ?_, sa, sc, na', nc', qs ++ [q], dv, ?_, hF.own h2 (by decide) (by decide) (by decide), ⟨?_, fun r hr => ?_⟩, by simp [h4], fun r hr => ?_, hdv⟩, hF⟩
 ·simp
  omega
 ·rw [heap_setCell_same w2 g 4 _ _ _ hb2, List.length_append]
  rfl
 ·rw [List.length_append, rowVals_app, rowVals_one, hl]
  exact hw.kept hgr (Sd.apart hb2 hw)
 ·rcases List.mem_append.1 hr with hr | hr
  ·exact hF.ints (h3.each r hr)
  ·have : r = q := by simpa using hr
   subst this
   exact hF.ints ho
 ·rcases List.mem_append.1 hr with hr | hr
  ·exact e4 r hr
  ·have : r = q := by simpa using hr
   subst this
   exact hq
theorem Sd.growI {b n : Nat} {w2 : World} {v : Value} {l : List Value} (h : Sd B g xs A w bd s) (ho : w.ownsRow b tI 1 v n l) (hg : w.grownBy w2 v.ownBlock) (hv : ∀ k, v.ownBlock = some k → A k) (hA : ∀ k, A' k → A k ∨ w.heap.size ≤ k) : Sd B g xs A' w2 bd s := by
 obtain ⟨sa, sc, na, nc, qs, dv, h1, h2, h3, h4, e4, hdv⟩ := h.mem
 refine ⟨h.low, h.pos, h.few, sa, sc, na, nc, qs, dv, ?_, h2.kept hg (types_apart h2 ho (by decide)), ⟨h3.row.kept hg (types_apart h3.row ho (by decide)), fun q hq => (h3.each q hq).kept hg ?_⟩, h4, fun q hq k hk hk' => ?_, hdv⟩
 ·rw [hg.block g h.lt (fun e => ?_)]
  ·exact h1
  ·rcases ho.2 with ⟨rfl, _⟩ | ⟨k, cap, cur, rfl, _, e3', _⟩
   ·cases e
   ·have : g = k := by injection e
    subst this
    rw [h1] at e3'
    injection e3' with e3'
    injection e3' with _ e3' _
    exact absurd e3' (by decide)
 ·cases hb : (Value.slice q.a q.nd.kids.length q.c).ownBlock with
  | none => exact .inl rfl
  | some k =>
   right
   intro e
   exact e4 q hq k hb (hv k e.symm)
 ·rcases hA k hk' with h5 | h5
  ·exact e4 q hq k hk h5
  ·have := ((h3.each q hq).lt k hk).2
   omega
theorem Sd.avoid (h : Sd B g xs A w bd s) (hA : ∀ k, A' k → A k ∨ w.heap.size ≤ k) : Sd B g xs A' w bd s := by
 obtain ⟨sa, sc, na, nc, qs, dv, h1, h2, h3, h4, e4, hdv⟩ := h.mem
 refine ⟨h.low, h.pos, h.few, sa, sc, na, nc, qs, dv, h1, h2, h3, h4, fun q hq k hk hk' => ?_, hdv⟩
 rcases hA k hk' with h5 | h5
 ·exact e4 q hq k hk h5
 ·have := ((h3.each q hq).lt k hk).2
  omega
end
def SR (B g : Nat) (xs : List Sg) (A : Nat → Prop) (w : World) : Option Ps → Prop
 | none => ∃ s, Sd B g xs A w true s ∧ s.d ≤ 30
 | some s => Sd B g xs A w false s ∧ s.d ≤ 20
def Told {α : Type} (P : Ps → Rs α) (t : Option Ps) (o : Option (α × Ps)) : Prop :=
 match t with
 | none => o = none
 | some s => P s = some o
def PostS {α : Type} (B g : Nat) (xs : List Sg) (A : Nat → Prop) (w : World) (V : Option α → Ending → World → Prop) (o : Option (α × Ps)) (e : Ending) (w' : World) : Prop :=
 V (o.map (·.1)) e w' ∧ SR B g xs A w' (o.map (·.2)) ∧ Fr B w w'
section
variable {B g : Nat} {xs : List Sg} {A A' : Nat → Prop} {w w' : World} {t : Option Ps}
theorem SR.any (h : SR B g xs A w t) : ∃ bd s, Sd B g xs A w bd s ∧ s.d ≤ 30 := by
 match t, h with
 | none, ⟨s, h, hd⟩ => exact ⟨true, s, h, hd⟩
 | some s, ⟨h, hd⟩ => exact ⟨false, s, h, by omega⟩
theorem SR.below (h : SR B g xs A w t) (hb : Below w.heap.size w w') : SR B g xs A w' t := by
 match t, h with
 | none, ⟨s, h, hd⟩ => exact ⟨s, h.below hb, hd⟩
 | some s, ⟨h, hd⟩ => exact ⟨h.below hb, hd⟩
theorem SR.avoid (h : SR B g xs A w t) (hA : ∀ k, A' k → A k ∨ w.heap.size ≤ k) : SR B g xs A' w t := by
 match t, h with
 | none, ⟨s, h, hd⟩ => exact ⟨s, h.avoid hA, hd⟩
 | some s, ⟨h, hd⟩ => exact ⟨h.avoid hA, hd⟩
theorem SR.growI {b n : Nat} {w2 : World} {v : Value} {l : List Value} (h : SR B g xs A w t) (ho : w.ownsRow b tI 1 v n l) (hg : w.grownBy w2 v.ownBlock) (hv : ∀ k, v.ownBlock = some k → A k) (hA : ∀ k, A' k → A k ∨ w.heap.size ≤ k) : SR B g xs A' w2 t := by
 match t, h with
 | none, ⟨s, h, hd⟩ => exact ⟨s, h.growI ho hg hv hA, hd⟩
 | some s, ⟨h, hd⟩ => exact ⟨h.growI ho hg hv hA, hd⟩
theorem SR.base (h : SR B g xs A w t) : B ≤ w.heap.size := by
 obtain ⟨bd, s, h, -⟩ := h.any
 exact h.base
end
end Go.Proofs.YtcbbnphpkgifoaaGreatDoor
