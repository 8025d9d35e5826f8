/- Whether a kid is what it must be: the specification. -/
import Derived.Test.YtdlpepmdjbmmmaaGreatDoorKaf
import Derived.Test.YtdlpepmdjbmmmaaGreatDoorRdMem
namespace Go.Proofs.YtdlpepmdjbmmmaaGreatDoor
open Go.RowKit

theorem Nds.node {w : World} {B : Nat} {a : Option Addr} {c k : Nat} {qs : List Np} {q : Np} (h : Nds w B a c qs) (hk : qs[k]? = some q) : ∃ b, a = some ⟨b, 0, none⟩ ∧ b < w.heap.size ∧ w.cell? ⟨b, k * 4, none⟩ = some (.int .i64 q.nd.kind) ∧ w.cell? ⟨b, k * 4 + 1, none⟩ = some (.string q.nd.text) ∧ w.cell? ⟨b, k * 4 + 2, none⟩ = some (.slice q.a q.nd.kids.length q.c) ∧ w.cell? ⟨b, k * 4 + 3, none⟩ = some (.bool q.nd.blank) := by
 have hl : k < qs.length := (List.getElem?_eq_some_iff.1 hk).1
 obtain ⟨b, rfl⟩ := owns_at h.row (by omega)
 exact ⟨b, rfl, (h.row.lt b rfl).2, np4 fun j hj => (h.row.cellAt (k * 4 + j) (by omega)).trans (rowVals_at npCells_len qs k q hk j hj)⟩
theorem Nds.kid {w : World} {B : Nat} {a : Option Addr} {c k i : Nat} {qs : List Np} {q : Np} {z : Int} (h : Nds w B a c qs) (hk : qs[k]? = some q) (hz : q.nd.kids[i]? = some z) : ∃ b, q.a = some ⟨b, 0, none⟩ ∧ b < w.heap.size ∧ w.cell? ⟨b, i, none⟩ = some (.int .i64 z) := by
 have hl : i < q.nd.kids.length := (List.getElem?_eq_some_iff.1 hz).1
 have hr := h.each q (List.mem_of_getElem? hk)
 obtain ⟨b, hb⟩ := owns_at hr (by omega)
 rw [hb] at hr
 refine ⟨b, hb, (hr.lt b rfl).2, (hr.cellAt i (by omega)).trans ?_⟩
 unfold intVals
 rw [List.getElem?_map, hz]
 rfl
theorem nameCall_iff {qs : List Np} {y : Nd} {zm : Nat} {q3 : Np} (h1 : y.kind = 5) (h2 : y.kids[0]? = some (zm : Int)) (h3 : qs[zm]? = some q3) : nameCall (qs.map Np.nd) y ↔ q3.nd.kind = 1 := by
 constructor
 ·rintro ⟨-, z, u, e1, e2, e3⟩
  rw [h2] at e1
  injection e1 with e1
  subst e1
  rw [Int.toNat_natCast, List.getElem?_map, h3] at e2
  injection e2 with e2
  rw [show q3.nd = u from e2]
  exact e3
 ·exact fun e => ⟨h1, zm, q3.nd, h2, by rw [Int.toNat_natCast, List.getElem?_map, h3]; rfl, e⟩
theorem below2 (w : World) (x y) : Below w.heap.size w ((w.alloc x).alloc y) := ((Below.refl _ _).alloc (Nat.le_refl _) _).alloc (by simp) _

set_option maxHeartbeats 3000000 in
set_option maxRecDepth 100000 in
theorem sFits {w : World} {B : Nat} {a : Option Addr} {c k i zn : Nat} {qs : List Np} {q1 q2 : Np} (h : Nds w B a c qs) (h1 : qs[k]? = some q1) (hz : q1.nd.kids[i]? = some (zn : Int)) (h2 : qs[zn]? = some q2) (hk : 1 ≤ q1.nd.kind ∧ q1.nd.kind ≤ 22) (hc : CallK (qs.map Np.nd) q2.nd) (hm : q1.nd.kids.length ≤ 12) :
  Calls Tryz.prog 104 #[.slice a qs.length c, .int .i64 (k : Int), .int .i64 (i : Int)] w (TelB (RoleP (qs.map Np.nd) q2.nd (roleK q1.nd.kind i q1.nd.kids.length)) w) := by
 have hkl : k < qs.length := (List.getElem?_eq_some_iff.1 h1).1
 have hzl : zn < qs.length := (List.getElem?_eq_some_iff.1 h2).1
 have hil : i < q1.nd.kids.length := (List.getElem?_eq_some_iff.1 hz).1
 obtain ⟨b, rfl, hb, c0, c1, c2, c3⟩ := h.node h1
 obtain ⟨b', hbb, -, d0, d1, d2, d3⟩ := h.node h2
 obtain rfl : b = b' := by injection hbb with hbb; injection hbb
 obtain ⟨kb, hkb, hkbl, ck⟩ := h.kid h1 hz
 rw [hkb] at c2
 have hA1 : (0 : Int) ≤ (k : Int) := by omega
 have hA2 : (0 : Int) ≤ (zn : Int) := by omega
 have hA3 : (0 : Int) ≤ (i : Int) := by omega
 have hB1 : (k : Int) < (qs.length : Int) := by omega
 have hB2 : (zn : Int) < (qs.length : Int) := by omega
 have hB3 : (i : Int) < (q1.nd.kids.length : Int) := by omega
 obtain ⟨⟨kd, tx, ks, bl⟩, ka, kc⟩ := q1
 obtain ⟨⟨kd2, tx2, ks2, bl2⟩, ka2, kc2⟩ := q2
 simp only at hkb hil hB3 hm hk c0 c1 c2 c3 d0 d1 d2 d3 hz hc
 subst hkb
 have HH := hidOf (And.intro h (And.intro h1 (And.intro hz (And.intro h2 hc))))
 show Calls _ _ _ _ (TelB (RoleP (qs.map Np.nd) ⟨kd2, tx2, ks2, bl2⟩ (roleK kd i ks.length)) w)
 clear h h1 hz h2 hc hbb
 rcases kind_cases hk with rfl | rfl | rfl | rfl | rfl | rfl | rfl | rfl | rfl | rfl | rfl | rfl | rfl | rfl | rfl | rfl | rfl | rfl | rfl | rfl | rfl | rfl
 all_goals clear hk
 ·go_enter Tryz.func104, Tryz.ntmps104
  go_wp2_with fail
  refine (sVal5 kd2 _).mono ?_
  rintro e w1 ⟨bb, rfl, hbb, rfl⟩
  have HQ := hidOf hbb
  clear hbb
  go_wp2
  go_ret
  exact ⟨bb, rfl, HQ.out.trans (by simp [RoleP, roleK]), below2 _ _ _⟩
 ·go_enter Tryz.func104, Tryz.ntmps104
  go_wp2_with fail
  refine (sVal5 kd2 _).mono ?_
  rintro e w1 ⟨bb, rfl, hbb, rfl⟩
  have HQ := hidOf hbb
  clear hbb
  go_wp2
  go_ret
  exact ⟨bb, rfl, HQ.out.trans (by simp [RoleP, roleK]), below2 _ _ _⟩
 ·go_enter Tryz.func104, Tryz.ntmps104
  go_wp2_with fail
  refine (sVal5 kd2 _).mono ?_
  rintro e w1 ⟨bb, rfl, hbb, rfl⟩
  have HQ := hidOf hbb
  clear hbb
  go_wp2
  go_ret
  exact ⟨bb, rfl, HQ.out.trans (by simp [RoleP, roleK]), below2 _ _ _⟩
 ·go_enter Tryz.func104, Tryz.ntmps104
  go_wp2_with fail
  refine (sVal5 kd2 _).mono ?_
  rintro e w1 ⟨bb, rfl, hbb, rfl⟩
  have HQ := hidOf hbb
  clear hbb
  go_wp2
  go_ret
  exact ⟨bb, rfl, HQ.out.trans (by simp [RoleP, roleK]), below2 _ _ _⟩
 ·go_enter Tryz.func104, Tryz.ntmps104
  go_wp2_with fail
  refine (sVal5 kd2 _).mono ?_
  rintro e w1 ⟨bb, rfl, hbb, rfl⟩
  have HQ := hidOf hbb
  clear hbb
  go_wp2
  go_ret
  exact ⟨bb, rfl, HQ.out.trans (by simp [RoleP, roleK]), below2 _ _ _⟩
 ·go_enter Tryz.func104, Tryz.ntmps104
  go_wp2_with fail
  refine (sVal5 kd2 _).mono ?_
  rintro e w1 ⟨bb, rfl, hbb, rfl⟩
  have HQ := hidOf hbb
  clear hbb
  go_wp2
  go_ret
  exact ⟨bb, rfl, HQ.out.trans (by simp [RoleP, roleK]), below2 _ _ _⟩
 ·go_enter Tryz.func104, Tryz.ntmps104
  go_wp2_with fail
  refine (sVal5 kd2 _).mono ?_
  rintro e w1 ⟨bb, rfl, hbb, rfl⟩
  have HQ := hidOf hbb
  clear hbb
  go_wp2
  go_ret
  exact ⟨bb, rfl, HQ.out.trans (by simp [RoleP, roleK]), below2 _ _ _⟩
 ·go_enter Tryz.func104, Tryz.ntmps104
  go_wp2_with fail
  refine (sVal5 kd2 _).mono ?_
  rintro e w1 ⟨bb, rfl, hbb, rfl⟩
  have HQ := hidOf hbb
  clear hbb
  go_wp2
  go_ret
  exact ⟨bb, rfl, HQ.out.trans (by simp [RoleP, roleK]), below2 _ _ _⟩
 ·by_cases hi : i + 1 < ks.length
  ·have hi1 : ((i : Int) + 1) < (ks.length : Int) := by omega
   obtain ⟨bb, hbb⟩ : ∃ bb, bb = (kd2 == 1) := ⟨_, rfl⟩
   have HQ := hidOf (show bb = true ↔ kd2 = 1 by rw [hbb]; simp)
   go_enter Tryz.func104, Tryz.ntmps104
   go_wp2
   rw [← hbb]
   go_ret
   exact ⟨bb, rfl, HQ.out.trans (by simp [RoleP, roleK, hi]), below2 _ _ _⟩
  ·have hi1 : ¬ ((i : Int) + 1) < (ks.length : Int) := by omega
   go_enter Tryz.func104, Tryz.ntmps104
   go_wp2_with fail
   refine (sVal5 kd2 _).mono ?_
   rintro e w1 ⟨bb, rfl, hbb, rfl⟩
   have HQ := hidOf hbb
   clear hbb
   go_wp2
   go_ret
   exact ⟨bb, rfl, HQ.out.trans (by simp [RoleP, roleK, hi]), below2 _ _ _⟩
 ·by_cases hi : 0 < i
  ·have hi1 : (0 : Int) < (i : Int) := by omega
   by_cases h5 : kd2 = 5
   ·subst h5
    obtain ⟨z0, e1, e2, e3⟩ := HH.out.2.2.2.2 rfl
    simp only at e1
    obtain ⟨zm, rfl⟩ : ∃ zm : Nat, z0 = (zm : Int) := ⟨z0.toNat, by omega⟩
    have hzm : zm < qs.length := by simp at e3; omega
    obtain ⟨q3, h3⟩ : ∃ q3, qs[zm]? = some q3 := ⟨_, List.getElem?_eq_getElem hzm⟩
    obtain ⟨b3, hb3, -, g0, -, -, -⟩ := HH.out.1.node h3
    obtain rfl : b = b3 := by injection hb3 with hb3; injection hb3
    obtain ⟨kb2, hkb2, hkbl2, ck2⟩ := HH.out.1.kid HH.out.2.2.2.1 e1
    simp only at hkb2
    subst hkb2
    have hl2 : 0 < ks2.length := (List.getElem?_eq_some_iff.1 e1).1
    have hA4 : (0 : Int) ≤ (zm : Int) := by omega
    have hB4 : (zm : Int) < (qs.length : Int) := by omega
    have hB5 : (0 : Int) < (ks2.length : Int) := by omega
    obtain ⟨bb, hbb⟩ : ∃ bb, bb = (q3.nd.kind == 1) := ⟨_, rfl⟩
    have HQ := hidOf (show bb = true ↔ q3.nd.kind = 1 by rw [hbb]; simp)
    obtain ⟨kd3, hkd3⟩ : ∃ kd3, kd3 = q3.nd.kind := ⟨_, rfl⟩
    rw [← hkd3] at g0 hbb
    have HE := hidOf (And.intro e1 (And.intro h3 hkd3))
    clear e1 e2 e3 h3 hkd3 hb3 hzm
    go_enter Tryz.func104, Tryz.ntmps104
    go_wp2
    rw [← hbb]
    go_ret
    refine ⟨bb, rfl, HQ.out.trans ?_, below2 _ _ _⟩
    rw [show roleK 10 i ks.length = 3 by simp [roleK, hi]]
    exact (nameCall_iff rfl HE.out.1 HE.out.2.1).symm
   ·have h5b : (kd2 == 5) = false := by rw [beq_eq_false_iff_ne]; exact h5
    go_enter Tryz.func104, Tryz.ntmps104
    go_wp2
    go_ret
    exact telB_no (by simp [RoleP, roleK, hi, nameCall, h5]) (below2 _ _ _)
  ·have hi1 : ¬ (0 : Int) < (i : Int) := by omega
   go_enter Tryz.func104, Tryz.ntmps104
   go_wp2_with fail
   refine (sVal5 kd2 _).mono ?_
   rintro e w1 ⟨bb, rfl, hbb, rfl⟩
   have HQ := hidOf hbb
   clear hbb
   go_wp2
   go_ret
   exact ⟨bb, rfl, HQ.out.trans (by simp [RoleP, roleK, hi]), below2 _ _ _⟩
 ·go_enter Tryz.func104, Tryz.ntmps104
  go_wp2_with fail
  refine (sVal5 kd2 _).mono ?_
  rintro e w1 ⟨bb, rfl, hbb, rfl⟩
  have HQ := hidOf hbb
  clear hbb
  go_wp2
  go_ret
  exact ⟨bb, rfl, HQ.out.trans (by simp [RoleP, roleK]), below2 _ _ _⟩
 ·go_enter Tryz.func104, Tryz.ntmps104
  go_wp2_with fail
  refine (sVal5 kd2 _).mono ?_
  rintro e w1 ⟨bb, rfl, hbb, rfl⟩
  have HQ := hidOf hbb
  clear hbb
  go_wp2
  go_ret
  exact ⟨bb, rfl, HQ.out.trans (by simp [RoleP, roleK]), below2 _ _ _⟩
 ·go_enter Tryz.func104, Tryz.ntmps104
  go_wp2_with fail
  refine (sVal5 kd2 _).mono ?_
  rintro e w1 ⟨bb, rfl, hbb, rfl⟩
  have HQ := hidOf hbb
  clear hbb
  go_wp2
  go_ret
  exact ⟨bb, rfl, HQ.out.trans (by simp [RoleP, roleK]), below2 _ _ _⟩
 ·go_enter Tryz.func104, Tryz.ntmps104
  go_wp2_with fail
  refine (sVal5 kd2 _).mono ?_
  rintro e w1 ⟨bb, rfl, hbb, rfl⟩
  have HQ := hidOf hbb
  clear hbb
  go_wp2
  go_ret
  exact ⟨bb, rfl, HQ.out.trans (by simp [RoleP, roleK]), below2 _ _ _⟩
 ·go_enter Tryz.func104, Tryz.ntmps104
  go_wp2_with fail
  refine (sVal5 kd2 _).mono ?_
  rintro e w1 ⟨bb, rfl, hbb, rfl⟩
  have HQ := hidOf hbb
  clear hbb
  go_wp2
  go_ret
  exact ⟨bb, rfl, HQ.out.trans (by simp [RoleP, roleK]), below2 _ _ _⟩
 ·by_cases hi : 0 < i
  ·have hi1 : (0 : Int) < (i : Int) := by omega
   obtain ⟨bb, hbb⟩ : ∃ bb, bb = (kd2 == 18) := ⟨_, rfl⟩
   have HQ := hidOf (show bb = true ↔ kd2 = 18 by rw [hbb]; simp)
   go_enter Tryz.func104, Tryz.ntmps104
   go_wp2
   rw [← hbb]
   go_ret
   exact ⟨bb, rfl, HQ.out.trans (by simp [RoleP, roleK, hi]), below2 _ _ _⟩
  ·have hi1 : ¬ (0 : Int) < (i : Int) := by omega
   go_enter Tryz.func104, Tryz.ntmps104
   go_wp2_with fail
   refine (sVal5 kd2 _).mono ?_
   rintro e w1 ⟨bb, rfl, hbb, rfl⟩
   have HQ := hidOf hbb
   clear hbb
   go_wp2
   go_ret
   exact ⟨bb, rfl, HQ.out.trans (by simp [RoleP, roleK, hi]), below2 _ _ _⟩
 ·by_cases hi : 0 < i
  ·have hi1 : (0 : Int) < (i : Int) := by omega
   obtain ⟨bb, hbb⟩ : ∃ bb, bb = (kd2 == 18) := ⟨_, rfl⟩
   have HQ := hidOf (show bb = true ↔ kd2 = 18 by rw [hbb]; simp)
   go_enter Tryz.func104, Tryz.ntmps104
   go_wp2
   rw [← hbb]
   go_ret
   exact ⟨bb, rfl, HQ.out.trans (by simp [RoleP, roleK, hi]), below2 _ _ _⟩
  ·have hi1 : ¬ (0 : Int) < (i : Int) := by omega
   go_enter Tryz.func104, Tryz.ntmps104
   go_wp2_with fail
   refine (sVal5 kd2 _).mono ?_
   rintro e w1 ⟨bb, rfl, hbb, rfl⟩
   have HQ := hidOf hbb
   clear hbb
   go_wp2
   go_ret
   exact ⟨bb, rfl, HQ.out.trans (by simp [RoleP, roleK, hi]), below2 _ _ _⟩
 ·go_enter Tryz.func104, Tryz.ntmps104
  go_wp2_with fail
  refine (sStat5 kd2 _).mono ?_
  rintro e w1 ⟨bb, rfl, hbb, rfl⟩
  have HQ := hidOf hbb
  clear hbb
  go_wp2
  go_ret
  exact ⟨bb, rfl, HQ.out.trans (by simp [RoleP, roleK]), below2 _ _ _⟩
 ·go_enter Tryz.func104, Tryz.ntmps104
  go_wp2_with fail
  refine (sVal5 kd2 _).mono ?_
  rintro e w1 ⟨bb, rfl, hbb, rfl⟩
  have HQ := hidOf hbb
  clear hbb
  go_wp2
  go_ret
  exact ⟨bb, rfl, HQ.out.trans (by simp [RoleP, roleK]), below2 _ _ _⟩
 ·by_cases hi : i + 1 < ks.length
  ·have hi1 : ((i : Int) + 1) < (ks.length : Int) := by omega
   obtain ⟨bb, hbb⟩ : ∃ bb, bb = (kd2 == 1) := ⟨_, rfl⟩
   have HQ := hidOf (show bb = true ↔ kd2 = 1 by rw [hbb]; simp)
   go_enter Tryz.func104, Tryz.ntmps104
   go_wp2
   rw [← hbb]
   go_ret
   exact ⟨bb, rfl, HQ.out.trans (by simp [RoleP, roleK, hi]), below2 _ _ _⟩
  ·have hi1 : ¬ ((i : Int) + 1) < (ks.length : Int) := by omega
   obtain ⟨bb, hbb⟩ : ∃ bb, bb = (kd2 == 18) := ⟨_, rfl⟩
   have HQ := hidOf (show bb = true ↔ kd2 = 18 by rw [hbb]; simp)
   go_enter Tryz.func104, Tryz.ntmps104
   go_wp2
   rw [← hbb]
   go_ret
   exact ⟨bb, rfl, HQ.out.trans (by simp [RoleP, roleK, hi]), below2 _ _ _⟩
 ·obtain ⟨bb, hbb⟩ := tel_bool (MembK kd2)
  have HQ := hidOf hbb
  clear hbb
  by_cases n12 : kd2 = 12
  ·subst n12
   go_enter Tryz.func104, Tryz.ntmps104
   go_wp2
   go_ret
   exact telB_yes (by simp [RoleP, roleK, MembK]) (below2 _ _ _)
  have m12 : (kd2 == 12) = false := by rw [beq_eq_false_iff_ne]; exact n12
  by_cases n20 : kd2 = 20
  ·subst n20
   go_enter Tryz.func104, Tryz.ntmps104
   go_wp2
   go_ret
   exact telB_yes (by simp [RoleP, roleK, MembK]) (below2 _ _ _)
  have m20 : (kd2 == 20) = false := by rw [beq_eq_false_iff_ne]; exact n20
  by_cases n19 : kd2 = 19
  ·subst n19
   go_enter Tryz.func104, Tryz.ntmps104
   go_wp2
   go_ret
   exact telB_yes (by simp [RoleP, roleK, MembK]) (below2 _ _ _)
  have m19 : (kd2 == 19) = false := by rw [beq_eq_false_iff_ne]; exact n19
  go_enter Tryz.func104, Tryz.ntmps104
  go_wp2
  go_ret
  exact telB_no (by simp [RoleP, roleK, MembK, n12, n20, n19]) (below2 _ _ _)
 ·obtain ⟨bb, hbb⟩ := tel_bool (MembK kd2 ∨ kd2 = 21)
  have HQ := hidOf hbb
  clear hbb
  by_cases n21 : kd2 = 21
  ·subst n21
   go_enter Tryz.func104, Tryz.ntmps104
   go_wp2
   go_ret
   exact telB_yes (by simp [RoleP, roleK, MembK]) (below2 _ _ _)
  have m21 : (kd2 == 21) = false := by rw [beq_eq_false_iff_ne]; exact n21
  by_cases n12 : kd2 = 12
  ·subst n12
   go_enter Tryz.func104, Tryz.ntmps104
   go_wp2
   go_ret
   exact telB_yes (by simp [RoleP, roleK, MembK]) (below2 _ _ _)
  have m12 : (kd2 == 12) = false := by rw [beq_eq_false_iff_ne]; exact n12
  by_cases n20 : kd2 = 20
  ·subst n20
   go_enter Tryz.func104, Tryz.ntmps104
   go_wp2
   go_ret
   exact telB_yes (by simp [RoleP, roleK, MembK]) (below2 _ _ _)
  have m20 : (kd2 == 20) = false := by rw [beq_eq_false_iff_ne]; exact n20
  by_cases n19 : kd2 = 19
  ·subst n19
   go_enter Tryz.func104, Tryz.ntmps104
   go_wp2
   go_ret
   exact telB_yes (by simp [RoleP, roleK, MembK]) (below2 _ _ _)
  have m19 : (kd2 == 19) = false := by rw [beq_eq_false_iff_ne]; exact n19
  go_enter Tryz.func104, Tryz.ntmps104
  go_wp2
  go_ret
  exact telB_no (by simp [RoleP, roleK, MembK, n21, n12, n20, n19]) (below2 _ _ _)
end Go.Proofs.YtdlpepmdjbmmmaaGreatDoor
