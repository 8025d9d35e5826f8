/- Whole trees: the specification, at nodes whose texts are right. -/
import Derived.Test.YtcbbnphpkgifoaaGreatDoorTrS4
import Derived.Laws.OwnMore
import Derived.OwnWalk
namespace Go.Proofs.YtcbbnphpkgifoaaGreatDoor
open Go.RowKit
set_option maxHeartbeats 2500000
set_option maxRecDepth 100000
def DpAns (ns : List Nd) (k : Nat) (w : World) (e : Ending) (w' : World) : Prop := ∃ d : Int, e = .returned (.int .i64 d) ∧ (d = 0 ↔ ¬ HasD ns k) ∧ Below w.heap.size w w'
theorem sDeep_last {ns : List Nd} {k : Nat} {ds : List Int} (h : SDeep ns (k + 1) ds) : ∃ d, ds[k]? = some d ∧ (d = 0 ↔ ¬ HasD ns (k + 1)) := by
 rcases h.2 with ⟨es, h1, h2⟩ | ⟨h1, h2⟩
 ·have hl := deeps_len h1
  obtain ⟨d, hd⟩ : ∃ d, es[k]? = some d := ⟨_, List.getElem?_eq_getElem (by omega)⟩
  have := (deeps_le h1 d (List.mem_of_getElem? hd)).1
  refine ⟨(d : Int), by rw [h2, List.getElem?_map, hd]; rfl, ?_⟩
  constructor
  ·intro e; omega
  ·intro e; exact absurd ⟨es, h1⟩ e
 ·exact ⟨0, h2, by simp [h1]⟩
theorem sDeepOf {w : World} {B : Nat} {a : Option Addr} {c k : Nat} {qs : List Np} (hNode : NodeR 129) (h : Nds w B a c qs) (hS : ∀ q ∈ qs, SafeNd q.nd) (hn : qs.length ≤ 300) (hk : k < qs.length) : Calls Tryz.prog 53 #[.slice a qs.length c, .int .i64 (k : Int)] w (DpAns (qs.map Np.nd) (k + 1) w) := by
 have hI := fun W => sIn2_any (k : Int) 0 ((qs.length : Int) - 1) W
 rw [inB2_yes (by omega)] at hI
 have qD := sDeeps hNode h hS hn hk
 clear h hS
 go_enter Tryz.func53, Tryz.ntmps53
 go_wp2_with fail
 refine (hI _).mono ?_
 rintro e w ⟨rfl, rfl⟩
 go_wp2_with fail
 refine qD.mono ?_
 rintro e w2 ⟨v, ds, rfl, hD, ho, hb⟩
 obtain ⟨d, hd, hd0⟩ := sDeep_last hD
 have hdl : k < ds.length := (List.getElem?_eq_some_iff.1 hd).1
 obtain ⟨ao, cc, rfl⟩ := owns_slice ho
 obtain ⟨ob, rfl⟩ := owns_at ho (by omega)
 have hobl := (ho.lt ob rfl).2
 have ck : w2.cell? ⟨ob, k, none⟩ = some (.int .i64 d) := (ho.cellAt k (by omega)).trans (by unfold intVals; rw [List.getElem?_map, hd]; rfl)
 have HA := hidOf hd0
 have hA1 : (0 : Int) ≤ (k : Int) := by omega
 have hB1 : (k : Int) < (ds.length : Int) := by omega
 clear qD hI hD hd hd0 ho
 go_wp2
 go_ret
 exact ⟨d, rfl, HA.out, hb⟩
theorem madeN (n : Nat) : (madeCells (Value.int IntKind.i64 0).cells (n * 1)).toList = intVals (List.replicate n 0) := by
 apply List.ext_getElem
 ·simp [madeCells, intVals]
 ·intro i h1 h2
  simp [madeCells, intVals, Value.cells, Nat.mod_one]
def UsP (ns : List Nd) (n : Nat) (ks : List Int) (j jj : Nat) (us : List Int) : Prop := us.length = n ∧ ∀ i, i < n → us[i]? = some ((occs i (ns.take j) + occ i (ks.take jj) : Nat) : Int)
theorem usP_start (ns : List Nd) (n : Nat) : UsP ns n [] 0 0 (List.replicate n 0) := ⟨by simp, fun i hi => by simp [occs, occ, hi]⟩
theorem usP_enter {ns : List Nd} {n j : Nat} {us : List Int} (ks : List Int) (h : UsP ns n [] j 0 us) : UsP ns n ks j 0 us := ⟨h.1, fun i hi => (h.2 i hi).trans (by simp [occ])⟩
theorem usP_kid {ns : List Nd} {n j jj zn : Nat} {ks us : List Int} {c : Int} (h : UsP ns n ks j jj us) (hz : ks[jj]? = some (zn : Int)) (hc : us[zn]? = some c) : UsP ns n ks j (jj + 1) (us.set zn (c + 1)) := by
 have ht : ∀ i, occ i (ks.take (jj + 1)) = occ i (ks.take jj) + (if (zn : Int) = (i : Int) then 1 else 0) := fun i => by
  rw [List.take_add_one, hz, show (some (zn : Int)).toList = [(zn : Int)] from rfl, occ_snoc]
 refine ⟨by simp [h.1], fun i hi => ?_⟩
 rw [ht i]
 by_cases e : zn = i
 ·subst e
  have h1 := h.2 zn hi
  rw [hc] at h1
  injection h1 with h1
  rw [List.getElem?_set_self (by rw [h.1]; exact hi), h1]
  simp
  omega
 ·rw [List.getElem?_set_ne e, h.2 i hi, if_neg (by omega)]
  simp
theorem usP_node {ns : List Nd} {n j : Nat} {us : List Int} {x : Nd} (h : UsP ns n x.kids j x.kids.length us) (hx : ns[j]? = some x) : UsP ns n [] (j + 1) 0 us := ⟨h.1, fun i hi => by
 rw [h.2 i hi, List.take_length, List.take_add_one, hx, show (some x).toList = [x] from rfl, occs_snoc]
 simp [occ]⟩
theorem usP_few {ns : List Nd} {n j jj i : Nat} {ks us : List Int} {c : Int} (h : UsP ns n ks j jj us) (hi : i < n) (hc : us[i]? = some c) (h1 : ns.length ≤ 300) (h2 : ∀ x ∈ ns, x.kids.length ≤ 12) (h3 : ks.length ≤ 12) : 0 ≤ c ∧ c ≤ 3612 := by
 have e := h.2 i hi
 rw [hc] at e
 injection e with e
 have g1 := occs_le i (ns.take j) (fun x hx => h2 x (List.mem_of_mem_take hx))
 have g2 := occ_le i (ks.take jj)
 simp at g1 g2
 omega
theorem sTree (hNode : NodeR 129) (B : Nat) (w : World) (a : Option Addr) (c : Nat) (qs : List Np) (h : Nds w B a c qs) (hS : ∀ q ∈ qs, SafeNd q.nd) (hn : qs.length ≤ 300) : Calls Tryz.prog 62 #[.slice a qs.length c] w fun e w' => TelB (TreeP (qs.map Np.nd)) w e w' := by
 have hI := fun W => sIn2_any (qs.length : Int) 1 300 W
 by_cases h0 : qs.length = 0
 ·rw [inB2_no (by omega)] at hI
  have HN := hidOf (show ¬ TreeP (qs.map Np.nd) from fun e => by have := e.least; simp at this; omega)
  clear h hS h0
  go_enter Tryz.func62, Tryz.ntmps62
  go_wp2_with fail
  refine (hI _).mono ?_
  rintro e w ⟨rfl, rfl⟩
  go_wp2
  go_ret
  exact telB_no HN.out (Below.refl _ _)
 rw [inB2_yes (by omega)] at hI
 have hn1 : 1 ≤ qs.length := by omega
 clear h0
 obtain ⟨ql, hql⟩ : ∃ ql, qs[qs.length - 1]? = some ql := ⟨_, List.getElem?_eq_getElem (by omega)⟩
 obtain ⟨b, rfl, hb, c0, -, -, -⟩ := h.node hql
 have hA1 : (0 : Int) ≤ (qs.length : Int) - 1 := by omega
 have hB1 : (qs.length : Int) - 1 < (qs.length : Int) := by omega
 have hT1 : ((qs.length : Int) - 1).toNat = qs.length - 1 := by omega
 obtain ⟨kl, hkl⟩ : ∃ kl, kl = ql.nd.kind := ⟨_, rfl⟩
 rw [← hkl] at c0
 have HL := hidOf (And.intro hql hkl)
 clear hql hkl
 by_cases h22 : kl = 22
 case neg =>
  have hne : (kl != 22) = true := by simpa using h22
  have HN := hidOf (show ¬ TreeP (qs.map Np.nd) from fun e => by
   obtain ⟨x, h1, h2⟩ := e.last
   rw [List.length_map, List.getElem?_map, HL.out.1] at h1
   injection h1 with h1
   have h3 := HL.out.2
   rw [show ql.nd = x from h1, h2] at h3
   exact h22 h3)
  clear h hS h22
  go_enter Tryz.func62, Tryz.ntmps62
  go_wp2_with fail
  refine (hI _).mono ?_
  rintro e w ⟨rfl, rfl⟩
  go_wp2
  go_ret
  exact telB_no HN.out (Below.refl _ _)
 have hne : (kl != 22) = false := by simp [h22]
 have qD := fun W (hW : Below w.heap.size w W) => sDeepOf (k := qs.length - 1) hNode (h.below hW) hS hn (by omega)
 have hci : ((qs.length - 1 : Nat) : Int) = (qs.length : Int) - 1 := by omega
 rw [show qs.length - 1 + 1 = qs.length by omega, hci] at qD
 have H22 := hidOf h22
 have HH := hidOf (And.intro h hS)
 clear h hS hci h22
 by_cases hD : HasD (qs.map Np.nd) qs.length
 case neg =>
  have HN := hidOf (show ¬ TreeP (qs.map Np.nd) from fun e => hD (by have := e.deep; rwa [List.length_map] at this))
  have HD := hidOf hD
  clear hD
  go_enter Tryz.func62, Tryz.ntmps62
  go_wp2_with fail
  refine (hI _).mono ?_
  rintro e w ⟨rfl, rfl⟩
  go_wp2_with fail
  refine (qD _ (Below.refl _ _)).mono ?_
  rintro e w2 ⟨d, rfl, hd, b2⟩
  obtain rfl : d = 0 := hd.2 HD.out
  clear hd qD hI
  go_wp2
  go_ret
  exact telB_no HN.out b2
 have HD := hidOf hD
 clear hD
 go_enter Tryz.func62, Tryz.ntmps62
 go_wp2_with fail
 refine (hI _).mono ?_
 rintro e w ⟨rfl, rfl⟩
 go_wp2_with fail
 refine (qD _ (Below.refl _ _)).mono ?_
 rintro e w2 ⟨d, rfl, hd, b2⟩
 have hdn : (d == 0) = false := by rw [beq_eq_false_iff_ne]; exact fun e => hd.1 e HD.out
 clear hd qD hI
 obtain ⟨i0, hi, hz0, hz1, hz2⟩ := info_parts infoI1
 have hs2 := b2.size
 go_wp2_with (at_make; refine wpList_make_full _ rfl _ _ 57 rfl w.heap.size 3 i0 (.int .i64 0) 1 Tryz.underlying57 hi hz0 hz1 .i64 .i64 _ _ qs.length rfl rfl rfl rfl (by rw [hz2]; omega) (by unfold maxLen; omega) hs2 ?_; intro w3 hown hgrow)
 rw [madeN] at hown
 have b3 : Below w.heap.size w w3 := b2.grown hgrow hs2 (fun k e => by cases e)
 obtain ⟨ub, hub⟩ : ∃ ub, ub = w2.heap.size := ⟨_, rfl⟩
 rw [← hub] at hown ⊢
 have hubw : w.heap.size ≤ ub := by omega
 have HK := hidOf (show ∀ (j : Nat) (q : Np), qs[j]? = some q → NodeP (qs.map Np.nd) j q.nd from fun j q hq => hasD_node HD.out (List.getElem?_eq_some_iff.1 hq).1 (by rw [List.getElem?_map, hq]; rfl))
 have HF := hidOf (show ∀ x ∈ qs.map Np.nd, x.kids.length ≤ 12 from fun x hx => by
  obtain ⟨q, hq, rfl⟩ := List.mem_map.1 hx
  obtain ⟨j, hj⟩ := List.getElem?_of_mem hq
  exact cnt_12 (HK.out j q hj).cnt)
 clear hgrow hub b2 hdn hs2 hi hz0 hz1 hz2
 go_loopw [5] (fun i wr => ∃ (j : Nat) (us : List Int), j ≤ qs.length ∧ i = .int .i64 (j : Int) ∧ wr.ownsRow w.heap.size tI 1 (.slice (some ⟨ub, 0, none⟩) qs.length qs.length) qs.length (intVals us) ∧ Below w.heap.size w wr ∧ Hid (UsP (qs.map Np.nd) qs.length [] j 0 us)) (fun i _ => qs.length - (intOf i).toNat)
 case atStart => exact ⟨0, _, Nat.zero_le _, rfl, hown, b3, hidOf (usP_start _ _)⟩
 case round =>
  clear hown b3
  obtain ⟨j, us, hj, rfl, ho, br, HU⟩ := hrel
  by_cases hlt : j < qs.length
  ·have hC1 : (j : Int) < (qs.length : Int) := by omega
   have hA2 : (0 : Int) ≤ (j : Int) := by omega
   obtain ⟨q, hq⟩ : ∃ q, qs[j]? = some q := ⟨_, List.getElem?_eq_getElem hlt⟩
   have HP := hidOf (HK.out j q hq)
   have hm12 : q.nd.kids.length ≤ 12 := cnt_12 HP.out.cnt
   have HQ := hidOf hq
   clear hq
   go_wp2
   go_loopw [6] (fun i wr => ∃ (jj : Nat) (us : List Int), jj ≤ q.nd.kids.length ∧ i = .int .i64 (jj : Int) ∧ wr.ownsRow w.heap.size tI 1 (.slice (some ⟨ub, 0, none⟩) qs.length qs.length) qs.length (intVals us) ∧ Below w.heap.size w wr ∧ Hid (UsP (qs.map Np.nd) qs.length q.nd.kids j jj us)) (fun i _ => q.nd.kids.length - (intOf i).toNat)
   case atStart => exact ⟨0, us, Nat.zero_le _, rfl, ho, br, hidOf (usP_enter _ HU.out)⟩
   case round =>
    clear ho br HU
    obtain ⟨jj, us, hjj, rfl, ho, br, HU⟩ := hrel
    obtain ⟨b', hbb, hb2, d0, d1, d2, d3⟩ := (HH.out.1.below br).node HQ.out
    obtain rfl : b = b' := by injection hbb with hbb; injection hbb
    clear hbb d0 d1 d3
    by_cases hl2 : jj < q.nd.kids.length
    ·obtain ⟨z, ez⟩ : ∃ z, q.nd.kids[jj]? = some z := ⟨_, List.getElem?_eq_getElem hl2⟩
     have hzr := HP.out.place jj z ez
     obtain ⟨zn, rfl⟩ : ∃ zn : Nat, z = (zn : Int) := ⟨z.toNat, by omega⟩
     obtain ⟨kb, hkb, hkbl, ck⟩ := (HH.out.1.below br).kid HQ.out ez
     rw [hkb] at d2
     obtain ⟨cz, ecz⟩ : ∃ cz, us[zn]? = some cz := ⟨_, List.getElem?_eq_getElem (by have := HU.out.1; omega)⟩
     have cu : _ = some (Value.int .i64 cz) := (ho.cellAt zn (by omega)).trans (by unfold intVals; rw [List.getElem?_map, ecz]; rfl)
     have hfew := usP_few HU.out (by omega) ecz (by simpa using hn) HF.out hm12
     have hst := ho.stored zn (.int .i64 (cz + 1))
     have hul := (ho.lt ub rfl).2
     have hfz := ho.frozenAt zn
     have HS := hidOf (And.intro hst.1 (br.grown hst.2 br.size (fun k e => by injection e with e; omega)))
     have HU2 := hidOf (usP_kid HU.out ez ecz)
     have hA5 : (0 : Int) ≤ (zn : Int) := by omega
     have hB5 : (zn : Int) < (qs.length : Int) := by omega
     have hA6 : (0 : Int) ≤ (jj : Int) := by omega
     have hB6 : (jj : Int) < (q.nd.kids.length : Int) := by omega
     clear ez ecz hst ho br
     go_wp2
     go_roundw
     case rel => exact ⟨jj + 1, us.set zn (cz + 1), by omega, by go_num, by have := HS.out.1; rwa [show (intVals us).set zn (.int .i64 (cz + 1)) = intVals (us.set zn (cz + 1)) by unfold intVals; rw [List.map_set]] at this, HS.out.2, HU2⟩
     case measure => simp [intOf]; omega
    ·have hB6 : ¬ (jj : Int) < (q.nd.kids.length : Int) := by omega
     obtain rfl : jj = q.nd.kids.length := by omega
     have HU2 := hidOf (usP_node HU.out (show (qs.map Np.nd)[j]? = some q.nd by rw [List.getElem?_map, HQ.out]; rfl))
     go_wp2
     go_roundw
     case rel => exact ⟨j + 1, us, by omega, by go_num, ho, br, HU2⟩
     case measure => simp [intOf]; omega
  ·have hC1 : ¬ (j : Int) < (qs.length : Int) := by omega
   obtain rfl : j = qs.length := by omega
   have HA := hidOf (show ∀ i, i < qs.length → us[i]? = some ((occs i (qs.map Np.nd) : Nat) : Int) from fun i h9 => by
    have := HU.out.2 i h9
    rw [List.take_of_length_le (by simp)] at this
    simpa [occ] using this)
   have hul := (ho.lt ub rfl).2
   have HO := hidOf ho
   clear ho HU
   go_wp2
   rename_i wE
   go_loop [7] (fun i => ∃ i' : Nat, i' < qs.length ∧ i = .int .i64 (i' : Int) ∧ Hid (∀ m, m < i' → occs m (qs.map Np.nd) = 1)) (fun i => qs.length - (intOf i).toNat)
   case atStart => exact ⟨0, by omega, rfl, hidOf fun m h9 => by omega⟩
   case round =>
    obtain ⟨i, hi, rfl, HQ⟩ := hrel
    by_cases hil : i + 1 < qs.length
    ·have hD1 : (i : Int) + 1 < (qs.length : Int) := by omega
     have hD2 : (i : Int) < (qs.length : Int) := by omega
     have hA7 : (0 : Int) ≤ (i : Int) := by omega
     have ci := (HO.out.cellAt i (by omega)).trans (show (intVals us)[i]? = some (.int .i64 ((occs i (qs.map Np.nd) : Nat) : Int)) by unfold intVals; rw [List.getElem?_map, HA.out i (by omega)]; rfl)
     obtain ⟨oc, hoc⟩ : ∃ oc, oc = occs i (qs.map Np.nd) := ⟨_, rfl⟩
     rw [← hoc] at ci
     have HOc := hidOf hoc
     clear hoc
     by_cases h1 : oc = 1
     ·have hne1 : ((oc : Int) != 1) = false := by simp [h1]
      have H1 := hidOf h1
      clear h1
      go_wp2
      go_round
      case rel => exact ⟨i + 1, by omega, by go_num, hidOf fun m h9 => by
       by_cases e : m = i
       ·subst e; exact HOc.out.symm.trans H1.out
       ·exact HQ.out m (by omega)⟩
      case measure => simp [intOf]; omega
     ·have hne1 : ((oc : Int) != 1) = true := by simp; omega
      have HN := hidOf (show ¬ TreeP (qs.map Np.nd) from fun e => h1 (HOc.out.trans (e.used i (by simpa using hil))))
      clear h1
      go_wp2
      go_ret
      exact telB_no HN.out br
    ·have hD1 : ¬ (i : Int) + 1 < (qs.length : Int) := by omega
     go_wp2
     go_ret
     exact telB_yes ⟨by simpa using hn1, by simpa using hn, ⟨ql.nd, by rw [List.length_map, List.getElem?_map, HL.out.1]; rfl, HL.out.2.symm.trans H22.out⟩, by simpa using HD.out, fun m hm => HQ.out m (by simp at hm; omega)⟩ br
theorem sTree_R (hNode : NodeR 129) : ∀ (B : Nat) (W : World) (a : Option Addr) (c : Nat) (qs : List Np), Nds W B a c qs → (∀ q ∈ qs, SafeNd q.nd) → qs.length ≤ 300 → Calls Tryz.prog 62 #[.slice a qs.length c] W fun e w' => TelB (TreeP (qs.map Np.nd)) W e w' := sTree hNode
end Go.Proofs.YtcbbnphpkgifoaaGreatDoor
