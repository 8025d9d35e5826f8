/- What impl.SignsOf answers. -/
import Derived.Test.YtcbbnphpkgifoaaGreatDoorAheadI
import Derived.Test.YtcbbnphpkgifoaaGreatDoorSpI20
import Derived.Test.YtcbbnphpkgifoaaGreatDoorKax
import Derived.Test.YtcbbnphpkgifoaaGreatDoorTrI9
import Derived.Test.YtcbbnphpkgifoaaGreatDoorKat
namespace Go.Proofs.YtcbbnphpkgifoaaGreatDoor
open Go.RowKit
theorem infoSgI : (Tryz.prog.info? 105).map (fun i => (i.zero, i.size, i.bytes)) = some (some (.agg #[.int .i64 0, .string ByteArray.empty, .int .i64 0, .bool false]), 4, 40) := by kernel_rfl
set_option maxHeartbeats 8000000 in
set_option maxRecDepth 100000 in
theorem iSigns_any (t : ByteArray) (w : World) (hs : t.size ≤ 4194304) :
  Calls Tryz.prog 64 #[.string t] w fun e w' => SgnAns t 105 w e w' := by
 obtain ⟨i0, hi, hz0, hz1, hz2⟩ := info_parts infoSgI
 by_cases hbig : 3000 < t.size
 ·go_enter Tryz.func64, Tryz.ntmps64
  go_wp2
  go_ret3
  exact SgnAns.mk (sgn_long hbig) rfl ((Below.refl _ _).alloc (Nat.le_refl _) _) (World.ownsRow_made w #[] 0 (Nat.le_refl _) (by decide) rfl)
 ·go_enter Tryz.func64, Tryz.ntmps64
  go_wp2_with fail
  refine (iSizes_any _).mono ?_
  rintro e w1 ⟨rfl, hM, hb1⟩
  have hlt1 : w.heap.size < w1.heap.size := by obtain ⟨n, D, ho, _⟩ := hM; exact ho.lt
  go_wp2
  obtain ⟨v0, hv0⟩ : ∃ v0, v0 = Value.slice (some ⟨w1.heap.size, 0, none⟩) 0 0 := ⟨_, rfl⟩
  have hown0 : (w1.alloc (.cells #[] 105)).ownsRow (w.heap.size + 1) 105 4 v0 0 [] := by rw [hv0]; exact World.ownsRow_made w1 #[] 0 (by omega) (by decide) rfl
  rw [← hv0]
  clear hv0
  have hb0 : Below w.heap.size w (w1.alloc (.cells #[] 105)) := hb1.alloc (by omega) _
  have hM0 : MkMap Tryz.prog (w1.alloc (.cells #[] 105)) 9 3 w.heap.size := hM.below ((Below.refl _ _).alloc (Nat.le_refl _) _)
  have HS := hidOf (sgn_short hbig)
  go_loopw [6, 7] (fun v i wr => ∃ (k : Nat) (pre : List Sg), k ≤ t.size ∧ i = .int .i64 k ∧ pre.length ≤ k ∧ wr.ownsRow (w.heap.size + 1) 105 4 v pre.length (sgVals pre) ∧ MkMap Tryz.prog wr 9 3 w.heap.size ∧ Below w.heap.size w wr ∧ Hid (lexA t k 0 pre = sgn t)) (fun _ i _ => t.size - (intOf i).toNat)
  case atStart => exact ⟨0, [], Nat.zero_le _, rfl, Nat.le_refl _, hown0, hM0, hb0, hidOf HS.out.symm⟩
  case round =>
   obtain ⟨k, pre, hk, rfl, hpl, ho, hMr, hb, HX⟩ := hrel
   obtain ⟨ao, cc, rfl⟩ := owns_slice ho
   have hsz : w.heap.size < wr.heap.size := by obtain ⟨n, D, hoo, _⟩ := hMr; exact hoo.lt
   have h1 := str_from (P := Tryz.prog) 9 t k (k : Int) Tryz.underlying9 rfl hk
   have hG := span_gap (t.extract k t.size) wr (by simp; omega)
   rw [spn_rest, Nat.add_zero] at hG
   have hle := spn_le (p := gapB) (s := t) (k := k) hk
   have hall := spn_all (p := gapB) (s := t) (k := k) hk
   have hend := spn_end (p := gapB) (s := t) (k := k) hk
   obtain ⟨g, eg⟩ : ∃ g, g = spn gapB t k := ⟨_, rfl⟩
   rw [← eg] at hG hle hall hend
   clear eg
   have h2 := str_slice (P := Tryz.prog) 9 t k (k + g) (k : Int) ((k : Int) + g) Tryz.underlying9 rfl (by omega) (by omega) hle
   obtain ⟨u, hu⟩ : ∃ u, u = t.extract k (k + g) := ⟨_, rfl⟩
   have hus : u.size = g := by rw [hu]; simp; omega
   rw [← hu] at h2
   have hgap := lexA_gap (t := t) (pre := pre) g k 0 hle hall
   rw [Nat.zero_add, HX.out] at hgap
   have HL := hidOf (show lend t k g = Lib.countByte u.data.toList 10 by rw [hu]; rfl)
   have HG := hidOf hgap
   have HA := hidOf hend
   clear hu hall hend hgap HX
   go_wp2_with fail
   refine hG.mono ?_
   rintro e w2 ⟨rfl, hb2⟩
   have B2 := hb.trans (hb2.mono hb.size)
   have ho2 := owns_below ho hb2
   have hM2 := hMr.below hb2
   have hsz2 : w.heap.size < w2.heap.size := by have := hb2.size; omega
   clear hG ho hMr
   by_cases hfin : k + g = t.size
   ·have hfe : ((k : Int) + g == (t.size : Int)) = true := by simp; omega
    go_wp2
    go_ret3
    have hr : sgn t = (pre, 0, true) := by rw [HG.out]; exact lexA_end (by omega)
    exact SgnAns.mk hr rfl B2 (ownsRow_base ho2 (by omega))
   ·have hfe : ((k : Int) + g == (t.size : Int)) = false := by rw [beq_eq_false_iff_ne]; omega
    have h3 := str_from (P := Tryz.prog) 9 t (k + g) ((k : Int) + g) Tryz.underlying9 (by omega) hle
    have hH := fun W hW => ahead_any (t.extract (k + g) t.size) w.heap.size W (by simp; omega) (by simp; omega) hW
    have hno := HA.out (by omega)
    have hn32 : by8 t (k + g) ≠ 32 := fun e => by rw [e] at hno; simp [gapB] at hno
    have hn10 : by8 t (k + g) ≠ 10 := fun e => by rw [e] at hno; simp [gapB] at hno
    have hhl := hd_le (t.extract (k + g) t.size)
    rw [rest_size] at hhl
    have hN := lexA_none (t := t) (k := k + g) (ends := lend t k g) (pre := pre) (by omega) hn32 hn10
    have hS := lexA_sign (t := t) (k := k + g) (ends := lend t k g) (pre := pre) (by omega) hn32 hn10
    generalize hhd : hd (t.extract (k + g) t.size) = hh at hH hhl hN hS
    obtain ⟨kd, n⟩ := hh
    simp only at hH hhl hN hS
    rw [← HG.out] at hN hS
    clear hhd hn32 hn10 hno HA HG
    by_cases hn : n = 0
    ·have HN := hidOf (hN hn)
     clear hN hS
     subst hn
     go_wp2_with fail
     refine (hH _ hM2).mono ?_
     rintro e w3 ⟨rfl, hb3⟩
     have B3 := B2.trans (hb3.mono B2.size)
     go_wp2
     go_ret3
     exact SgnAns.mk HN.out (by omega) (B3.alloc (by have := hb3.size; omega) _) (World.ownsRow_made w3 #[] 0 (by have := hb3.size; omega) (by decide) rfl)
    ·have HSg := hidOf (hS hn)
     clear hN hS
     have hne : ((n : Int) == 0) = false := by rw [beq_eq_false_iff_ne]; omega
     have h4 := str_slice (P := Tryz.prog) 9 t (k + g) (k + g + n) ((k : Int) + g) ((k : Int) + g + n) Tryz.underlying9 (by omega) (by omega) (by omega) (by omega)
     obtain ⟨x, hx⟩ : ∃ x, x = t.extract (k + g) (k + g + n) := ⟨_, rfl⟩
     have hxs : x.size ≤ 4194304 := by rw [hx]; simp; omega
     rw [← hx] at h4
     have HX := hidOf hx
     clear hx
     go_wp2_with fail
     refine (hH _ hM2).mono ?_
     rintro e w3 ⟨rfl, hb3⟩
     have B3 := B2.trans (hb3.mono B2.size)
     have ho3 := owns_below ho2 hb3
     have hM3 := hM2.below hb3
     have hsz3 : w.heap.size < w3.heap.size := by have := hb3.size; omega
     clear ho2 hM2 hH
     go_wp2_with fail
     refine (ln_clone x _ hxs).mono ?_
     rintro e w4 ⟨rfl, hb4⟩
     have B4 := B3.trans (hb4.mono B3.size)
     have ho4 := owns_below ho3 hb4
     have hM4 := hM3.below hb4
     have hsz4 : w.heap.size < w4.heap.size := by have := hb4.size; omega
     clear ho3 hM3
     go_wp2_with fail
     refine (empty_any u _).mono ?_
     rintro e w4 ⟨rfl, rfl⟩
     obtain ⟨bl, hbl⟩ : ∃ bl, bl = decide (1 < Lib.countByte u.data.toList 10) := ⟨_, rfl⟩
     rw [← hbl]
     have HBL := hidOf hbl
     clear hbl
     go_wp2_with (at_builtin; refine wpList_append_own _ rfl _ _ 94 rfl (w.heap.size + 1) 105 i0 _ 4 40 Tryz.underlying94 hi hz0 hz1 hz2 rfl (by decide) (.slice ao pre.length cc) pre.length (sgVals pre) rfl (ho4.alloc _) ⟨w4.heap.size, 0, none⟩ 1 1 (sgCells ⟨kd, x, (k : Int) + g, bl⟩) rfl rfl (cells_new _ _ _) (sgCells_one _) (by unfold maxLen; omega) (by omega) (by simp; omega) ?_; intro v' w5 hown' hgrow5 hnil5)
     clear hnil5
     refine ⟨⟨k + g + n, pre ++ [⟨kd, x, (k : Int) + g, bl⟩], by omega, by go_num, by simp; omega, ?_, ?_, ?_, hidOf ?_⟩, ?_⟩
     ·rw [List.length_append, sgVals_app]
      exact hown'
     ·refine (hM4.below ((Below.refl _ _).alloc (Nat.le_refl _) _)).kept hgrow5 (fun e => ?_)
      have := (ho4.lt _ e.symm).1
      omega
     ·exact (B4.alloc (by omega) _).grown hgrow5 (by simp; omega) (fun j hj => by have := (ho4.lt j hj).1; omega)
     ·rw [HSg.out, HBL.out, HX.out, HL.out]
      rfl
     ·simp only [intOf]
      omega
set_option maxHeartbeats 2000000 in
set_option maxRecDepth 100000 in
theorem iReadSource (t : ByteArray) (w0 : World) (hs : t.size ≤ 4194304) (hTree : TreeR 66) : Calls Tryz.prog 28 #[.string t] w0 (RdsAns t w0) := by
 obtain ⟨i0, hi, hz0, hz1, hz2⟩ := info_parts infoSgI
 obtain ⟨xs, hxs⟩ : ∃ xs, xs = (sgn t).1 := ⟨_, rfl⟩
 have hok := sgn_ok t
 rw [← hxs] at hok
 have hX : xs.length ≤ 3000 := hok.2
 obtain ⟨pl, hpl⟩ : ∃ pl : Nat, pl = (sgn t).2.1 := ⟨_, rfl⟩
 obtain ⟨ok, hoke⟩ : ∃ ok : Bool, ok = (sgn t).2.2 := ⟨_, rfl⟩
 have hSp := fun W hW => iSigns_any t W hW
 unfold SgnAns at hSp
 rw [← hxs, ← hpl, ← hoke] at hSp
 have HK := hidOf (And.intro hpl (And.intro hoke hxs))
 clear hpl hoke hok hxs
 go_enter Tryz.func28, Tryz.ntmps28
 go_wp2_with fail
 refine (hSp _ hs).mono ?_
 rintro e w1 ⟨hb1, v, rfl, hv⟩
 clear hSp
 obtain ⟨va, vc, rfl⟩ := owns_slice hv
 have hs1 := hb1.size
 cases ok with
 | false =>
  have HNo := hidOf (show ¬ ReadOk t from fun e => by have h1 := e.1; rw [← HK.out.2.1] at h1; cases h1)
  have HB := hidOf hb1
  clear hv hb1
  go_wp2
  go_ret3
  exact rds_no (nds_none w1 _ hs1) (HB.out.alloc hs1 _) HNo.out
 | true =>
  have HK0 := hidOf (show (sgn t).2.2 = true from HK.out.2.1.symm)
  have hfo : ∃ o, fileP xs = some o := by
   cases hq : fileP xs with
   | none => exact absurd hq (fin_file (xs := xs)).told
   | some o => exact ⟨o, rfl⟩
  obtain ⟨o, hro⟩ := hfo
  have hro2 := hro
  rw [HK.out.2.2] at hro2
  have HR0 := hidOf hro2
  have HX := hidOf hro
  have HB := hidOf hb1
  have HV := hidOf hv
  clear hro hro2 hb1 hv
  go_wp2_with (at_builtin; refine wpList_append_own _ rfl _ _ 94 rfl w0.heap.size 105 i0 _ 4 40 Tryz.underlying94 hi hz0 hz1 hz2 rfl (by decide) (.slice va xs.length vc) xs.length (sgVals xs) rfl (HV.out.alloc _) ⟨w1.heap.size, 0, none⟩ 1 1 (sgCells ⟨0, ByteArray.empty, (t.size : Int), false⟩) rfl rfl (cells_new _ _ _) (sgCells_one _) (by unfold maxLen; omega) (by omega) (by simp; omega) ?_; intro v' w5 hown' hgrow5 hnil5)
  have B5 : Below w0.heap.size w0 w5 := (HB.out.alloc hs1 _).grown hgrow5 (by simp; omega) (fun j hj => (HV.out.lt j hj).1)
  have o5 : w5.ownsRow w0.heap.size tSg 4 v' (xs.length + 1) (sgVals (xs ++ [⟨0, ByteArray.empty, (t.size : Int), false⟩])) := by
   rw [sgVals_app]
   exact hown'
  clear hown' hgrow5 hnil5 HB HV
  obtain ⟨sa, sc, rfl⟩ := owns_slice o5
  have HB := hidOf B5
  have hs5 := B5.size
  have qR := iReadS (o := o) hs5 o5 rfl rfl rfl hX HX.out
  clear B5 o5
  clear HX
  match o, qR, HR0 with
  | none, qR, HR0 =>
   have HNo := hidOf (readOk_no (t := t) HR0.out)
   refine qR.mono ?_
   rintro e w6 ⟨⟨pl6, rfl⟩, b6⟩
   clear qR
   have HB6 := hidOf (HB.out.trans b6)
   have hs6 := HB6.out.size
   clear b6 HB
   go_wp2
   go_ret3
   exact rds_no (nds_none w6 _ hs6) (HB6.out.alloc hs6 _) HNo.out
  | some (k5, s5), qR, HR0 =>
   refine qR.mono ?_
   rintro e w6 ⟨⟨na8, nc8, qs8, rfl, hnd8, hmap8⟩, b6, hfew⟩
   clear qR
   have HB8 := hidOf (HB.out.trans b6)
   have hs6 := HB8.out.size
   clear b6 HB
   have hql : s5.ns.length = qs8.length := by rw [← hmap8]; simp
   rw [hql]
   have hsafe : ∀ q ∈ qs8, SafeNd q.nd := fun q hq => iv_file (sgs_of t) k5 s5 HR0.out q.nd (by rw [← hmap8]; exact List.mem_map.2 ⟨q, hq, rfl⟩)
   have qT := hTree w0.heap.size w6 na8 nc8 qs8 hnd8 hsafe (by omega)
   rw [hmap8] at qT
   have HQ := hidOf (And.intro hnd8 hmap8)
   have HRo := hidOf (readOk_yes HK0.out HR0.out)
   have HNo := hidOf (nodesOf_yes HR0.out)
   clear hnd8 hmap8 hsafe hql
   by_cases hTP : TreeP s5.ns
   ·have HTP := hidOf (HRo.out.2 hTP)
    go_wp2_with fail
    refine qT.mono ?_
    rintro e wf hf9
    obtain ⟨rfl, hbf⟩ := hf9.yes hTP
    clear qT hTP
    go_wp2
    go_ret3
    exact ⟨na8, nc8, qs8, 0, true, rfl, HQ.out.1.below hbf, HB8.out.trans (hbf.mono hs6), ⟨fun _ => HTP.out, fun _ => rfl⟩, fun _ => HQ.out.2.trans HNo.out.symm, fun e => by cases e⟩
   ·have HTP := hidOf (show ¬ ReadOk t from fun e => hTP (HRo.out.1 e))
    go_wp2_with fail
    refine qT.mono ?_
    rintro e wf hf9
    obtain ⟨rfl, hbf⟩ := hf9.no hTP
    have hsf := hbf.size
    have HBf := hidOf (HB8.out.trans (hbf.mono hs6))
    clear qT hTP hbf
    go_wp2
    go_ret3
    exact rds_no (nds_none wf _ (by omega)) (HBf.out.alloc (by omega) _) HTP.out
set_option maxHeartbeats 6000000 in
set_option maxRecDepth 100000 in
theorem iNodeOk {w : World} {B : Nat} {a : Option Addr} {c k : Nat} {qs : List Np} {q : Np} (h : Nds w B a c qs) (h1 : qs[k]? = some q) (hS : SafeNd q.nd) :
  Calls Tryz.prog 111 #[.slice a qs.length c, .int .i64 (k : Int)] w (TelB (NodeP (qs.map Np.nd) k q.nd) w) := by
 have hkl : k < qs.length := (List.getElem?_eq_some_iff.1 h1).1
 obtain ⟨b, rfl, hb, c0, c1, c2, c3⟩ := h.node h1
 obtain ⟨P, hP⟩ : ∃ P, P = NodeP (qs.map Np.nd) k q.nd := ⟨_, rfl⟩
 rw [← hP]
 have HP := hidOf (show P ↔ NodeP (qs.map Np.nd) k q.nd by rw [hP])
 obtain ⟨bp, hbp⟩ := tel_bool (q.nd.kids.length ≤ 12 ∧ PlK q.nd.kids k q.nd.kids.length)
 obtain ⟨bk, hbk⟩ := tel_bool (KidsP (qs.map Np.nd) q.nd)
 obtain ⟨bb, hbb⟩ := tel_bool (q.nd.blank = true → StepK q.nd.kind ∨ q.nd.kind = 20 ∨ q.nd.kind = 21)
 have hAll : P ↔ (bp = true ∧ bk = true ∧ bb = true) := by
  rw [HP.out, hbp, hbk, hbb]
  constructor
  ·intro n
   exact ⟨⟨cnt_12 n.cnt, fun i z _ hz => n.place i z hz, fun i i' z h1 _ h3 h4 => n.once i i' z h1 h3 h4⟩, ⟨n.kind, n.cnt, n.fits⟩, n.blank⟩
  ·rintro ⟨⟨_, p1, p2⟩, ⟨k1, k2, k3⟩, h3⟩
   exact ⟨k1, k2, h3, fun i z hz => p1 i z (List.getElem?_eq_some_iff.1 hz).1 hz, fun i j z hij hi hj => p2 i j z hij (List.getElem?_eq_some_iff.1 hj).1 hi hj, k3⟩
 have HA := hidOf hAll
 obtain ⟨W1, hW1⟩ : ∃ W1, W1 = w.alloc (.cells #[.int .i64 q.nd.kind, .string q.nd.text, .slice q.a q.nd.kids.length q.c, .bool q.nd.blank] 59) := ⟨_, rfl⟩
 have hB1 : Below w.heap.size w W1 := by rw [hW1]; exact below_new _ _
 have hs1 : W1.heap.size = w.heap.size + 1 := by rw [hW1]; simp
 have HX := hidOf (show ∀ W, Below W1.heap.size W1 W → W.cell? ⟨w.heap.size, 0, none⟩ = some (.int .i64 q.nd.kind) ∧ W.cell? ⟨w.heap.size, 1, none⟩ = some (.string q.nd.text) ∧ W.cell? ⟨w.heap.size, 2, none⟩ = some (.slice q.a q.nd.kids.length q.c) ∧ W.cell? ⟨w.heap.size, 3, none⟩ = some (.bool q.nd.blank) from fun W hW => by
  have hlt : w.heap.size < W1.heap.size := by omega
  refine ⟨(hW.cell (p := ⟨w.heap.size, 0, none⟩) hlt).trans ?_, (hW.cell (p := ⟨w.heap.size, 1, none⟩) hlt).trans ?_, (hW.cell (p := ⟨w.heap.size, 2, none⟩) hlt).trans ?_, (hW.cell (p := ⟨w.heap.size, 3, none⟩) hlt).trans ?_⟩ <;> (rw [hW1, World.cell?_alloc_new]; rfl))
 have qP := (iPlaces (h.below hB1) h1).mono (fun e w' t => t.is hbp)
 have qK := fun (hp : bp = true) => (iKids (h.below hB1) h1 hS (hbp.1 hp).1 (hbp.1 hp).2).mono (fun e w' t => t.is hbk)
 have qT := fun (hk : bk = true) (W : World) => iNText (q := q) W (hbk.1 hk).1 hS
 have qB := fun (W : World) => (iBlankN q W).mono (fun e w' t => t.is hbb)
 have HW := hidOf hW1
 have QK := hidOf qK
 have QT := hidOf qT
 have QB := hidOf qB
 obtain ⟨y0, y1, y2, y3⟩ := HX.out W1 (Below.refl _ _)
 clear h h1 hS hP hbp hbk hbb hAll hW1 qK qT qB hs1
 unfold agN at QK QT QB
 obtain ⟨⟨kd, tx, ks, bl⟩, ka, kc⟩ := q
 simp only at c0 c1 c2 c3 HX QK QT QB qP y0 y1 y2 y3 HW
 obtain ⟨nk, hnk⟩ : ∃ nk, nk = ks.length := ⟨_, rfl⟩
 obtain ⟨nn, hnn⟩ : ∃ nn, nn = qs.length := ⟨_, rfl⟩
 rw [← hnk] at c2 HX QK QT QB qP y2 HW
 rw [← hnn] at QK hkl ⊢
 have hA1 : (0 : Int) ≤ (k : Int) := by omega
 have hA2 : (k : Int) < (nn : Int) := by omega
 clear hnk hnn
 go_enter Tryz.func111, Tryz.ntmps111
 go_wp2_with fail
 rw [← HW.out]
 refine qP.mono ?_
 rintro e w2 ⟨rfl, rfl⟩
 cases bp
 ·have HF := hidOf (show ¬ P from fun hp => by have := (HA.out.1 hp).1; cases this)
  go_wp2
  go_ret
  exact telB_no HF.out hB1
 ·go_wp2_with fail
  refine (QK.out (by first | rfl | trivial)).mono ?_
  rintro e w3 ⟨rfl, hb3⟩
  have hB3 := hB1.trans (hb3.mono hB1.size)
  obtain ⟨z0, z1, z2, z3⟩ := HX.out w3 hb3
  cases bk
  ·have HF := hidOf (show ¬ P from fun hp => by have := (HA.out.1 hp).2.1; cases this)
   go_wp2
   go_ret
   exact telB_no HF.out hB3
  ·go_wp2_with fail
   refine (QT.out (by first | rfl | trivial) w3).mono ?_
   rintro e w4 ⟨rfl, hb4⟩
   have hb34 := hb3.trans (hb4.mono hb3.size)
   have hB4 := hB1.trans (hb34.mono hB1.size)
   obtain ⟨u0, u1, u2, u3⟩ := HX.out w4 hb34
   go_wp2_with fail
   refine (QB.out w4).mono ?_
   rintro e w5 ⟨rfl, hb5⟩
   have hB5 := hB4.trans (hb5.mono hB4.size)
   cases bb
   ·have HF := hidOf (show ¬ P from fun hp => by have := (HA.out.1 hp).2.2; cases this)
    go_wp2
    go_ret
    exact telB_no HF.out hB5
   ·have HT := hidOf (HA.out.2 (by simp))
    go_wp2
    go_ret
    exact telB_yes HT.out hB5
theorem iNode_R : NodeR 111 := fun _ _ _ _ _ _ _ h h1 h2 _ => iNodeOk h h1 h2
theorem iTree_any : TreeR 66 := fun B W a c qs h hS hn => iTree iNode_R B W a c qs h hS hn
theorem iRead_any (t : ByteArray) (w : World) (hs : t.size ≤ 4194304) : Calls Tryz.prog 28 #[.string t] w (RdsAns t w) := iReadSource t w hs iTree_any
end Go.Proofs.YtcbbnphpkgifoaaGreatDoor
