/- Depths: the specification, at nodes whose texts are right. -/
import Derived.Test.YtcbbnphpkgifoaaGreatDoorKag
import Derived.Test.YtcbbnphpkgifoaaGreatDoorKaj
import Derived.BigQuiet
import Derived.Deep.QuietTactic
namespace Go.Proofs.YtcbbnphpkgifoaaGreatDoor
open Go.RowKit
def NodeR (K : Nat) : Prop := ∀ (w : World) (B : Nat) (a : Option Addr) (c k : Nat) (qs : List Np) (q : Np), Nds w B a c qs → qs[k]? = some q → SafeNd q.nd → qs.length ≤ 300 → Calls Tryz.prog K #[.slice a qs.length c, .int .i64 (k : Int)] w (TelB (NodeP (qs.map Np.nd) k q.nd) w)
def SDeep (ns : List Nd) (k : Nat) (ds : List Int) : Prop := ds.length = k ∧ ((∃ es : List Nat, Deeps ns k es ∧ ds = es.map (fun d : Nat => (d : Int))) ∨ (¬ HasD ns k ∧ ds[k - 1]? = some 0))
theorem sDeep_zero (ns : List Nd) : SDeep ns 0 [] := ⟨rfl, .inl ⟨[], rfl, rfl⟩⟩
theorem sDeep_yes {ns : List Nd} {k : Nat} {es : List Nat} {x : Nd} (h : Deeps ns k es) (hx : ns[k]? = some x) (hP : NodeP ns k x) (hm : maxD es x.kids < 14) : SDeep ns (k + 1) (es.map (fun d : Nat => (d : Int)) ++ [((maxD es x.kids + 1 : Nat) : Int)]) :=
 ⟨by simp [deeps_len h], .inl ⟨es ++ [maxD es x.kids + 1], ⟨es, x, h, hx, hP, hm, rfl⟩, by simp⟩⟩
theorem sDeep_no {ns : List Nd} {k : Nat} {ds : List Int} (hl : ds.length = k) (h : ¬ HasD ns (k + 1)) : SDeep ns (k + 1) (ds ++ [0]) :=
 ⟨by simp [hl], .inr ⟨h, by rw [Nat.add_sub_cancel, ← hl]; simp⟩⟩
theorem hasD_next {ns : List Nd} {k : Nat} {es : List Nat} {x : Nd} (h : Deeps ns k es) (hx : ns[k]? = some x) (hh : HasD ns (k + 1)) : NodeP ns k x ∧ maxD es x.kids < 14 := by
 obtain ⟨ds, es', y, h1, h2, h3, h4, -⟩ := hh
 rw [hx] at h2
 injection h2 with h2
 subst h2
 rw [deeps_one h h1]
 exact ⟨h3, h4⟩
theorem maxD_take {ds : List Nat} {ks : List Int} {j d : Nat} {zn : Nat} (h : ks[j]? = some (zn : Int)) (hd : ds[zn]? = some d) : maxD ds (ks.take (j + 1)) = max (maxD ds (ks.take j)) d := by
 rw [List.take_add_one, h, show (some (zn : Int)).toList = [(zn : Int)] from rfl, maxD_snoc, Int.toNat_natCast, List.getD_eq_getElem?_getD, hd]
 rfl
theorem sDeep_yes2 {ns : List Nd} {k m : Nat} {es : List Nat} {ds : List Int} {x : Nd} (h : Deeps ns k es) (hds : ds = es.map (fun d : Nat => (d : Int))) (hx : ns[k]? = some x) (hP : NodeP ns k x) (hm : m = maxD es x.kids) (h14 : m < 14) : SDeep ns (k + 1) (ds ++ [(m : Int) + 1]) := by
 have := sDeep_yes h hx hP (by omega)
 rw [hds, hm]
 exact this
def DpsAns (ns : List Nd) (k : Nat) (w : World) (e : Ending) (w' : World) : Prop := ∃ (v : Value) (ds : List Int), e = .returned v ∧ SDeep ns k ds ∧ w'.ownsRow w.heap.size tI 1 v ds.length (intVals ds) ∧ Below w.heap.size w w'
set_option maxHeartbeats 2500000 in
set_option maxRecDepth 100000 in
theorem sDeeps {w : World} {B : Nat} {a : Option Addr} {c k : Nat} {qs : List Np} (hNode : NodeR 129) (h : Nds w B a c qs) (hS : ∀ q ∈ qs, SafeNd q.nd) (hn : qs.length ≤ 300) (hk : k < qs.length) : Calls Tryz.prog 87 #[.slice a qs.length c, .int .i64 (k : Int)] w (DpsAns (qs.map Np.nd) (k + 1) w) := by
 obtain ⟨i0, hi, hz0, hz1, hz2⟩ := info_parts infoI1
 have HH := hidOf h
 have HS := hidOf hS
 obtain ⟨b, rfl⟩ := owns_at h.row (by omega)
 clear h hS
 go_enter Tryz.func87, Tryz.ntmps87
 go_wp2
 go_loopw [5, 6] (fun v i wr => ∃ (j : Nat) (ds : List Int), j ≤ k + 1 ∧ i = .int .i64 (j : Int) ∧ wr.ownsRow w.heap.size tI 1 v ds.length (intVals ds) ∧ Below w.heap.size w wr ∧ Hid (SDeep (qs.map Np.nd) j ds)) (fun _ i _ => k + 1 - (intOf i).toNat)
 case atStart => exact ⟨0, [], Nat.zero_le _, rfl, World.ownsRow_lit w #[] 0 (Nat.le_refl _) (by decide) rfl, (Below.refl _ _).alloc (Nat.le_refl _) _, hidOf (sDeep_zero _)⟩
 case round =>
  obtain ⟨j, ds, hj, rfl, ho, br, HD⟩ := hrel
  obtain ⟨ao, cc, rfl⟩ := owns_slice ho
  have HDl := hidOf HD.out.1
  have hdb : ds.length ≤ 301 := by have := HD.out.1; omega
  by_cases hjk : j ≤ k
  ·obtain ⟨q, hq⟩ : ∃ q, qs[j]? = some q := ⟨_, List.getElem?_eq_getElem (by omega)⟩
   have hc1 : (j : Int) ≤ (k : Int) := by omega
   have hc2 : (j : Int) < (qs.length : Int) := by omega
   have hA1 : (0 : Int) ≤ (j : Int) := by omega
   have hN := hNode _ _ _ _ _ _ _ (HH.out.below br) hq (HS.out q (List.mem_of_getElem? hq)) hn
   have hxq : (qs.map Np.nd)[j]? = some q.nd := by rw [List.getElem?_map, hq]; rfl
   have HQ := hidOf (And.intro hq hxq)
   clear hq hxq
   have HO := hidOf ho
   have HR := hidOf br
   have hsz := br.size
   by_cases hP : NodeP (qs.map Np.nd) j q.nd
   ·by_cases hh : HasD (qs.map Np.nd) j
    ·obtain ⟨es, he⟩ := hh
     have hde : ds = es.map (fun d : Nat => (d : Int)) := by
      rcases HD.out.2 with ⟨es2, h1, h2⟩ | ⟨h1, -⟩
      ·rw [h2, deeps_one he h1]
      ·exact absurd ⟨es, he⟩ h1
     have HE := hidOf (And.intro he hde)
     have HP := hidOf hP
     have HEl := hidOf (deeps_len he)
     have HE14 := hidOf (deeps_le he)
     clear he hde hP
     have hat : ∀ (i d : Nat), es[i]? = some d → (intVals ds)[i]? = some (.int .i64 (d : Int)) := fun i d h9 => by unfold intVals; rw [HE.out.2, List.getElem?_map, List.getElem?_map, h9]; rfl
     go_wp2_with fail
     refine hN.mono ?_
     rintro e w2 h9
     obtain ⟨rfl, b2⟩ := h9.yes HP.out
     clear hN h9
     have HO2 := hidOf (owns_below HO.out b2)
     have HR2 := hidOf (HR.out.trans (b2.mono hsz))
     have hs2 := HR2.out.size
     obtain ⟨b', hbb, hb2, d0, d1, d2, d3⟩ := (HH.out.below HR2.out).node HQ.out.1
     obtain rfl : b = b' := by injection hbb with hbb; injection hbb
     obtain ⟨⟨kd, tx, ks, bl⟩, ka, kc⟩ := q
     simp only at d0 d1 d2 d3
     have hm12 : ks.length ≤ 12 := cnt_12 HP.out.cnt
     clear hbb
     by_cases hj0 : 0 < j
     ·skip
      obtain ⟨ob, rfl⟩ := owns_at HO2.out (by have := HDl.out; omega)
      have hobl := (HO2.out.lt ob rfl).2
      obtain ⟨dl, edl⟩ : ∃ dl, es[j - 1]? = some dl := ⟨_, List.getElem?_eq_getElem (by have := HEl.out; omega)⟩
      have hdl1 := (HE14.out dl (List.mem_of_getElem? edl)).1
      have ck : w2.cell? ⟨ob, j - 1, none⟩ = some (.int .i64 (dl : Int)) := (HO2.out.cellAt (j - 1) (by have := HDl.out; omega)).trans (hat _ _ edl)
      have hgt : (0 : Int) < (j : Int) := by omega
      have hA4 : (0 : Int) ≤ (j : Int) - 1 := by omega
      have hB4 : (j : Int) - 1 < (ds.length : Int) := by have := HDl.out; omega
      have hT4 : ((j : Int) - 1).toNat = j - 1 := by omega
      have hne : ((dl : Int) == 0) = false := by rw [beq_eq_false_iff_ne]; omega
      clear edl
      go_wp2
      clear ck hne hgt hA4 hB4 hT4
      go_loopw [7, 8] (fun d i wr => ∃ jj m : Nat, jj ≤ ks.length ∧ m ≤ 14 ∧ i = .int .i64 (jj : Int) ∧ d = .int .i64 ((m : Int) + 1) ∧ w2 = wr ∧ Hid (m = maxD es (ks.take jj))) (fun _ i _ => ks.length - (intOf i).toNat)
      case atStart => exact ⟨0, 0, Nat.zero_le _, Nat.zero_le _, rfl, rfl, rfl, hidOf rfl⟩
      case round =>
       obtain ⟨jj, m, hjj, hm14, rfl, rfl, rfl, HM⟩ := hrel
       have hd0 : (0 : Int) < (m : Int) + 1 := by omega
       by_cases hlt : jj < ks.length
       ·obtain ⟨z, ez⟩ : ∃ z, ks[jj]? = some z := ⟨_, List.getElem?_eq_getElem hlt⟩
        have hzr := HP.out.place jj z ez
        obtain ⟨zn, rfl⟩ : ∃ zn : Nat, z = (zn : Int) := ⟨z.toNat, by omega⟩
        obtain ⟨dz, edz⟩ : ∃ dz, es[zn]? = some dz := ⟨_, List.getElem?_eq_getElem (by have := HEl.out; omega)⟩
        have hdz := (HE14.out dz (List.mem_of_getElem? edz)).2
        obtain ⟨kb, hkb, hkbl, ck⟩ := (HH.out.below HR2.out).kid HQ.out.1 ez
        simp only at hkb
        subst hkb
        have cz : w2.cell? ⟨ob, zn, none⟩ = some (.int .i64 (dz : Int)) := (HO2.out.cellAt zn (by have := HDl.out; omega)).trans (hat _ _ edz)
        have HMn := hidOf (maxD_take ez edz)
        have hA5 : (0 : Int) ≤ (zn : Int) := by omega
        have hB5 : (zn : Int) < (ds.length : Int) := by have := HDl.out; omega
        have hA6 : (0 : Int) ≤ (jj : Int) := by omega
        have hB6 : (jj : Int) < (ks.length : Int) := by omega
        clear ez edz hzr
        by_cases hmd : m < dz
        ·have hmd1 : (m : Int) + 1 < (dz : Int) + 1 := by omega
         go_wp2
         go_roundw
         case rel => exact ⟨jj + 1, dz, by omega, by omega, by go_num, by go_num, trivial, hidOf (by have h1 := HMn.out; have h2 := HM.out; omega)⟩
         case measure => simp [intOf]; omega
        ·have hmd1 : ¬ (m : Int) + 1 < (dz : Int) + 1 := by omega
         go_wp2
         go_roundw
         case rel => exact ⟨jj + 1, m, by omega, by omega, by go_num, rfl, trivial, hidOf (by have h1 := HMn.out; have h2 := HM.out; omega)⟩
         case measure => simp [intOf]; omega
       ·have hB6 : ¬ (jj : Int) < (ks.length : Int) := by omega
        have HMa := hidOf (show m = maxD es ks by have h1 := HM.out; rw [List.take_of_length_le (by omega)] at h1; exact h1)
        by_cases h14 : m < 14
        ·have h15 : ¬ (14 : Int) < (m : Int) + 1 := by omega
         go_wp2_with (at_builtin; refine wpList_append_own2 rfl _ _ 57 rfl w.heap.size 3 i0 _ 1 8 Tryz.underlying57 hi hz0 hz1 hz2 rfl (by decide) (.slice (some ⟨ob, 0, none⟩) ds.length cc) ds.length (intVals ds) rfl (HO2.out.alloc _) ⟨w2.heap.size, 0, none⟩ 1 1 [.int .i64 ((m : Int) + 1)] rfl rfl (cell_one_new _ _ _) (by simp [Value.oneCell']) (by unfold maxLen; omega) (by omega) (by simp; omega) ?_; intro v' w6 hown' hgrow5 hpl5)
         have B6 : Below w.heap.size w w6 := (HR2.out.alloc (by omega) _).grown hgrow5 (by simp; omega) (fun g hg => (HO2.out.lt g hg).1)
         have o6 := own_app (ks := ds) (k := ((m : Int) + 1)) hown' rfl
         clear hown' hgrow5 hpl5
         skip
         refine ⟨⟨j + 1, ds ++ [((m : Int) + 1)], by omega, by go_num, by simpa using o6, B6, hidOf ?_⟩, ?_⟩
         ·exact (sDeep_yes2 HE.out.1 HE.out.2 HQ.out.2 HP.out HMa.out h14)
         ·simp only [intOf]; omega
        ·have h15 : (14 : Int) < (m : Int) + 1 := by omega
         go_wp2_with (at_builtin; refine wpList_append_own2 rfl _ _ 57 rfl w.heap.size 3 i0 _ 1 8 Tryz.underlying57 hi hz0 hz1 hz2 rfl (by decide) (.slice (some ⟨ob, 0, none⟩) ds.length cc) ds.length (intVals ds) rfl (HO2.out.alloc _) ⟨w2.heap.size, 0, none⟩ 1 1 [.int .i64 0] rfl rfl (cell_one_new _ _ _) (by simp [Value.oneCell']) (by unfold maxLen; omega) (by omega) (by simp; omega) ?_; intro v' w6 hown' hgrow5 hpl5)
         have B6 : Below w.heap.size w w6 := (HR2.out.alloc (by omega) _).grown hgrow5 (by simp; omega) (fun g hg => (HO2.out.lt g hg).1)
         have o6 := own_app (ks := ds) (k := 0) hown' rfl
         clear hown' hgrow5 hpl5
         skip
         refine ⟨⟨j + 1, ds ++ [0], by omega, by go_num, by simpa using o6, B6, hidOf ?_⟩, ?_⟩
         ·exact (sDeep_no HDl.out (fun e => by have h1 := (hasD_next HE.out.1 HQ.out.2 e).2; have h2 := HMa.out; simp only at h1; omega))
         ·simp only [intOf]; omega
     ·skip
      have hgt : ¬ (0 : Int) < (j : Int) := by omega
      go_wp2
      clear hgt
      go_loopw [7, 8] (fun d i wr => ∃ jj m : Nat, jj ≤ ks.length ∧ m ≤ 14 ∧ i = .int .i64 (jj : Int) ∧ d = .int .i64 ((m : Int) + 1) ∧ w2 = wr ∧ Hid (m = maxD es (ks.take jj))) (fun _ i _ => ks.length - (intOf i).toNat)
      case atStart => exact ⟨0, 0, Nat.zero_le _, Nat.zero_le _, rfl, rfl, rfl, hidOf rfl⟩
      case round =>
       obtain ⟨jj, m, hjj, hm14, rfl, rfl, rfl, HM⟩ := hrel
       have hd0 : (0 : Int) < (m : Int) + 1 := by omega
       by_cases hlt : jj < ks.length
       ·obtain ⟨z, ez⟩ : ∃ z, ks[jj]? = some z := ⟨_, List.getElem?_eq_getElem hlt⟩
        have hzr := HP.out.place jj z ez
        obtain ⟨zn, rfl⟩ : ∃ zn : Nat, z = (zn : Int) := ⟨z.toNat, by omega⟩
        obtain ⟨dz, edz⟩ : ∃ dz, es[zn]? = some dz := ⟨_, List.getElem?_eq_getElem (by have := HEl.out; omega)⟩
        have hdz := (HE14.out dz (List.mem_of_getElem? edz)).2
        obtain ⟨kb, hkb, hkbl, ck⟩ := (HH.out.below HR2.out).kid HQ.out.1 ez
        simp only at hkb
        subst hkb
        omega
       ·have hB6 : ¬ (jj : Int) < (ks.length : Int) := by omega
        have HMa := hidOf (show m = maxD es ks by have h1 := HM.out; rw [List.take_of_length_le (by omega)] at h1; exact h1)
        by_cases h14 : m < 14
        ·have h15 : ¬ (14 : Int) < (m : Int) + 1 := by omega
         go_wp2_with (at_builtin; refine wpList_append_own2 rfl _ _ 57 rfl w.heap.size 3 i0 _ 1 8 Tryz.underlying57 hi hz0 hz1 hz2 rfl (by decide) (.slice ao ds.length cc) ds.length (intVals ds) rfl (HO2.out.alloc _) ⟨w2.heap.size, 0, none⟩ 1 1 [.int .i64 ((m : Int) + 1)] rfl rfl (cell_one_new _ _ _) (by simp [Value.oneCell']) (by unfold maxLen; omega) (by omega) (by simp; omega) ?_; intro v' w6 hown' hgrow5 hpl5)
         have B6 : Below w.heap.size w w6 := (HR2.out.alloc (by omega) _).grown hgrow5 (by simp; omega) (fun g hg => (HO2.out.lt g hg).1)
         have o6 := own_app (ks := ds) (k := ((m : Int) + 1)) hown' rfl
         clear hown' hgrow5 hpl5
         skip
         refine ⟨⟨j + 1, ds ++ [((m : Int) + 1)], by omega, by go_num, by simpa using o6, B6, hidOf ?_⟩, ?_⟩
         ·exact (sDeep_yes2 HE.out.1 HE.out.2 HQ.out.2 HP.out HMa.out h14)
         ·simp only [intOf]; omega
        ·have h15 : (14 : Int) < (m : Int) + 1 := by omega
         go_wp2_with (at_builtin; refine wpList_append_own2 rfl _ _ 57 rfl w.heap.size 3 i0 _ 1 8 Tryz.underlying57 hi hz0 hz1 hz2 rfl (by decide) (.slice ao ds.length cc) ds.length (intVals ds) rfl (HO2.out.alloc _) ⟨w2.heap.size, 0, none⟩ 1 1 [.int .i64 0] rfl rfl (cell_one_new _ _ _) (by simp [Value.oneCell']) (by unfold maxLen; omega) (by omega) (by simp; omega) ?_; intro v' w6 hown' hgrow5 hpl5)
         have B6 : Below w.heap.size w w6 := (HR2.out.alloc (by omega) _).grown hgrow5 (by simp; omega) (fun g hg => (HO2.out.lt g hg).1)
         have o6 := own_app (ks := ds) (k := 0) hown' rfl
         clear hown' hgrow5 hpl5
         skip
         refine ⟨⟨j + 1, ds ++ [0], by omega, by go_num, by simpa using o6, B6, hidOf ?_⟩, ?_⟩
         ·exact (sDeep_no HDl.out (fun e => by have h1 := (hasD_next HE.out.1 HQ.out.2 e).2; have h2 := HMa.out; simp only at h1; omega))
         ·simp only [intOf]; omega
    ·have HNo := hidOf (show ¬ HasD (qs.map Np.nd) (j + 1) from fun e => hh (hasD_less e))
     have hj0 : 0 < j := by
      rcases Nat.eq_zero_or_pos j with e | e
      ·subst e; exact absurd ⟨[], rfl⟩ hh
      ·exact e
     have hlast : ds[j - 1]? = some 0 := by
      rcases HD.out.2 with ⟨es2, h1, -⟩ | ⟨-, h1⟩
      ·exact absurd ⟨es2, h1⟩ hh
      ·exact h1
     have HP := hidOf hP
     have HLa := hidOf hlast
     clear hlast hh hP
     go_wp2_with fail
     refine hN.mono ?_
     rintro e w2 h9
     obtain ⟨rfl, b2⟩ := h9.yes HP.out
     clear hN h9
     have HO2 := hidOf (owns_below HO.out b2)
     have HR2 := hidOf (HR.out.trans (b2.mono hsz))
     have hs2 := HR2.out.size
     obtain ⟨ob, rfl⟩ := owns_at HO2.out (by have := HDl.out; omega)
     have hobl := (HO2.out.lt ob rfl).2
     have ck : w2.cell? ⟨ob, j - 1, none⟩ = some (.int .i64 0) := (HO2.out.cellAt (j - 1) (by have := HDl.out; omega)).trans (by unfold intVals; rw [List.getElem?_map, HLa.out]; rfl)
     have hgt : (0 : Int) < (j : Int) := by omega
     have hA4 : (0 : Int) ≤ (j : Int) - 1 := by omega
     have hB4 : (j : Int) - 1 < (ds.length : Int) := by have := HDl.out; omega
     have hT4 : ((j : Int) - 1).toNat = j - 1 := by omega
     go_wp2
     go_loopw [7, 8] (fun d i wr => d = .int .i64 0 ∧ i = .int .i64 0 ∧ w2 = wr) (fun _ _ _ => 0)
     case atStart => exact ⟨rfl, rfl, rfl⟩
     case round =>
      obtain ⟨rfl, rfl, rfl⟩ := hrel
      have hs2 := HR2.out.size
      go_wp2_with (at_builtin; refine wpList_append_own2 rfl _ _ 57 rfl w.heap.size 3 i0 _ 1 8 Tryz.underlying57 hi hz0 hz1 hz2 rfl (by decide) (.slice (some ⟨ob, 0, none⟩) ds.length cc) ds.length (intVals ds) rfl (HO2.out.alloc _) ⟨w2.heap.size, 0, none⟩ 1 1 [.int .i64 0] rfl rfl (cell_one_new _ _ _) (by simp [Value.oneCell']) (by unfold maxLen; omega) (by omega) (by simp; omega) ?_; intro v' w6 hown' hgrow5 hpl5)
      have B6 : Below w.heap.size w w6 := (HR2.out.alloc (by omega) _).grown hgrow5 (by simp; omega) (fun g hg => (HO2.out.lt g hg).1)
      have o6 := own_app (ks := ds) (k := 0) hown' rfl
      clear hown' hgrow5 hpl5
      skip
      refine ⟨⟨j + 1, ds ++ [0], by omega, by go_num, by simpa using o6, B6, hidOf ?_⟩, ?_⟩
      ·exact (sDeep_no HDl.out HNo.out)
      ·simp only [intOf]; omega
   ·have HNo := hidOf (show ¬ HasD (qs.map Np.nd) (j + 1) from fun e => hP (hasD_node e (by omega) HQ.out.2))
    have HP := hidOf hP
    clear hP
    go_wp2_with fail
    refine hN.mono ?_
    rintro e w2 h9
    obtain ⟨rfl, b2⟩ := h9.no HP.out
    clear hN h9
    have HO2 := hidOf (owns_below HO.out b2)
    have HR2 := hidOf (HR.out.trans (b2.mono hsz))
    go_wp2
    go_loopw [7, 8] (fun d i wr => d = .int .i64 0 ∧ i = .int .i64 0 ∧ w2 = wr) (fun _ _ _ => 0)
    case atStart => exact ⟨rfl, rfl, rfl⟩
    case round =>
     obtain ⟨rfl, rfl, rfl⟩ := hrel
     have hs2 := HR2.out.size
     go_wp2_with (at_builtin; refine wpList_append_own2 rfl _ _ 57 rfl w.heap.size 3 i0 _ 1 8 Tryz.underlying57 hi hz0 hz1 hz2 rfl (by decide) (.slice ao ds.length cc) ds.length (intVals ds) rfl (HO2.out.alloc _) ⟨w2.heap.size, 0, none⟩ 1 1 [.int .i64 0] rfl rfl (cell_one_new _ _ _) (by simp [Value.oneCell']) (by unfold maxLen; omega) (by omega) (by simp; omega) ?_; intro v' w6 hown' hgrow5 hpl5)
     have B6 : Below w.heap.size w w6 := (HR2.out.alloc (by omega) _).grown hgrow5 (by simp; omega) (fun g hg => (HO2.out.lt g hg).1)
     have o6 := own_app (ks := ds) (k := 0) hown' rfl
     clear hown' hgrow5 hpl5
     skip
     refine ⟨⟨j + 1, ds ++ [0], by omega, by go_num, by simpa using o6, B6, hidOf ?_⟩, ?_⟩
     ·exact (sDeep_no HDl.out HNo.out)
     ·simp only [intOf]; omega
  ·have hc1 : ¬ (j : Int) ≤ (k : Int) := by omega
   obtain rfl : j = k + 1 := by omega
   go_wp2
   go_ret
   exact ⟨_, ds, rfl, HD.out, ho, br⟩
end Go.Proofs.YtcbbnphpkgifoaaGreatDoor
