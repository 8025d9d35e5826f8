/- spec.ReadSource, where TreeOk is told. -/
import Derived.Test.YtcbbnphpkgifoaaGreatDoorSpI19
import Derived.Test.YtcbbnphpkgifoaaGreatDoorKao
import Derived.Test.YtcbbnphpkgifoaaGreatDoorKaf
namespace Go.Proofs.YtcbbnphpkgifoaaGreatDoor
open Go.RowKit
theorem owns_low {w w' : World} {b e z n B : Nat} {v : Value} {l : List Value} (h : w.ownsRow b e z v n l) (hb : Below B w w') (hv : ∀ k, v.ownBlock = some k → k < B) : w'.ownsRow b e z v n l := by
 refine ⟨h.1, ?_⟩
 rcases h.2 with hn | ⟨g, cap, cur, e1, e2, e3, rest⟩
 ·exact .inl hn
 ·exact .inr ⟨g, cap, cur, e1, e2, (hb.block g (hv g (by rw [e1]; rfl))).trans e3, rest⟩
theorem nds_low {w w' : World} {b k B : Nat} (h : Nds w b (some ⟨k, 0, none⟩) 0 []) (hb : Below B w w') (hk : k < B) : Nds w' b (some ⟨k, 0, none⟩) 0 [] := ⟨owns_low h.row hb (fun j hj => by injection hj with hj; have : k = j := hj; omega), fun q hq => by cases hq⟩
theorem nds_base {b B : Nat} {w : World} {na : Option Addr} {nc : Nat} {qs : List Np} (h : Nds w B na nc qs) (hb : b ≤ B) : Nds w b na nc qs := ⟨ownsRow_base h.row hb, fun q hq => ownsRow_base (h.each q hq) hb⟩
theorem nds_drew {b : Nat} {w : World} {na : Option Addr} {nc : Nat} {qs : List Np} (h : Nds w b na nc qs) (q : Nat) : Nds (w.drewN q) b na nc qs := h.below (below_drewN w q)
def TreeR (K : Nat) : Prop := ∀ (B : Nat) (W : World) (a : Option Addr) (c : Nat) (qs : List Np), Nds W B a c qs → (∀ q ∈ qs, SafeNd q.nd) → qs.length ≤ 300 → Calls Tryz.prog K #[.slice a qs.length c] W fun e w' => TelB (TreeP (qs.map Np.nd)) W e w'
set_option maxHeartbeats 4000000 in
set_option maxRecDepth 100000 in
theorem sReadSource (t : ByteArray) (w0 : World) (hs : t.size ≤ 4194304) (hTree : TreeR 62) : Calls Tryz.prog 24 #[.string t] w0 (RdsAns t w0) := by
 obtain ⟨i0, hi, hz0, hz1, hz2⟩ := info_parts infoI1
 obtain ⟨xs, hxs⟩ : ∃ xs, xs = (sgn t).1 := ⟨_, rfl⟩
 have hok := sgn_ok t
 rw [← hxs] at hok
 have hX : xs.length ≤ 3000 := hok.2
 have hM := marks_of hok.1
 have hWd := words_of hok.1
 have hNe : ∀ p, p < xs.length → txt xs p ≠ ByteArray.empty := fun p hp e => by
  have h1 := (hok.1 xs[p] (List.getElem_mem _)).some
  unfold txt at e
  rw [List.getElem?_eq_getElem hp] at e
  have e' : xs[p].text = ByteArray.empty := e
  rw [e'] at h1
  simp at h1
 have hL : lim xs ≤ 3001 := by unfold lim; omega
 obtain ⟨pl, hpl⟩ : ∃ pl : Nat, pl = (sgn t).2.1 := ⟨_, rfl⟩
 obtain ⟨ok, hoke⟩ : ∃ ok : Bool, ok = (sgn t).2.2 := ⟨_, rfl⟩
 have hSp := fun W hW => sSigns_any t W hW
 unfold SgnAns at hSp
 rw [← hxs, ← hpl, ← hoke] at hSp
 have HK := hidOf (And.intro hpl (And.intro hoke hxs))
 clear hpl hoke hok hxs
 obtain ⟨W0, hW0⟩ : ∃ W0, W0 = w0.alloc (.cells #[] 59) := ⟨_, rfl⟩
 have N0 := nds_none w0 w0.heap.size (Nat.le_refl _)
 have B0 : Below w0.heap.size w0 W0 := by rw [hW0]; exact (Below.refl _ _).alloc (Nat.le_refl _) _
 have z0 : W0.heap.size = w0.heap.size + 1 := by rw [hW0]; simp
 rw [← hW0] at N0
 go_enter Tryz.func24, Tryz.ntmps24
 go_wp2_with fail
 rw [← hW0]
 clear hW0
 refine (hSp _ hs).mono ?_
 rintro e w1 ⟨hb1, v, rfl, hv⟩
 clear hSp
 have N1 := N0.below hb1
 have B1 := B0.trans (hb1.mono B0.size)
 clear N0 B0
 obtain ⟨va, vc, rfl⟩ := owns_slice hv
 cases ok with
 | false =>
  have HNo := hidOf (show ¬ ReadOk t from fun e => by have h1 := e.1; rw [← HK.out.2.1] at h1; cases h1)
  have HN := hidOf N1
  have HB := hidOf B1
  clear N1 B1 hv
  go_wp2
  go_ret3
  exact rds_no HN.out HB.out HNo.out
 | true =>
  obtain ⟨B, hBe⟩ : ∃ B, B = W0.heap.size := ⟨_, rfl⟩
  rw [← hBe] at hv hb1
  have hk0 : w0.heap.size < B := by omega
  have hBw : w0.heap.size ≤ B := by omega
  have hB1 : B ≤ w1.heap.size := hb1.size |> fun h => by rw [hBe]; exact h
  obtain ⟨g, hge⟩ : ∃ g, g = w1.heap.size := ⟨_, rfl⟩
  obtain ⟨w, hwe⟩ : ∃ w, w = w1.alloc (.cells #[.slice va xs.length vc, .int .i64 0, .bool false, .int .i64 0, .slice none 0 0] tSp) := ⟨_, rfl⟩
  have bw : Below w1.heap.size w1 w := by rw [hwe]; exact (Below.refl _ _).alloc (Nat.le_refl _) _
  have hvw := owns_below hv bw
  have hrow : w.heap[g]? = some (.cells #[.slice va xs.length vc, .int .i64 0, .bool false, .int .i64 0, .slice none 0 0] tSp (0, 0)) := by rw [hwe, hge]; exact heap_alloc_new w1 _
  obtain ⟨A, hAe⟩ : ∃ A : Nat → Prop, A = fun _ => False := ⟨_, rfl⟩
  have hA : ∀ b, A b → b < w.heap.size := fun b hb => by rw [hAe] at hb; exact hb.elim
  have S0 : SR B g xs A w (some ⟨0, 0, []⟩) := ⟨⟨by omega, Nat.zero_le _, Nat.zero_le _, va, vc, none, 0, [], 0, hrow, hvw, ⟨World.ownsRow_nil _ _ _ _, (fun q hq => by cases hq)⟩, rfl, (fun q hq => by cases hq), fun _ => rfl⟩, Nat.zero_le _⟩
  have hbase : B ≤ w.heap.size := Nat.le_trans hB1 bw.size
  have HB0 := hidOf (B1.trans (bw.mono (by omega)))
  have HN0 := hidOf (N1.below bw)
  have HV := hidOf hvw
  have HK0 := hidOf (show (sgn t).2.2 = true from HK.out.2.1.symm)
  have hfo : ∃ o, fileP xs = some o := by
   cases hq : fileP xs with
   | none => exact absurd hq (fin_file (xs := xs)).told
   | some o => exact ⟨o, rfl⟩
  obtain ⟨o, hro⟩ := hfo
  have hro2 := hro
  rw [HK.out.2.2] at hro2
  have HR0 := hidOf hro2
  have HX := hidOf (show bnd (bodyP xs (fmemP xs) ByteArray.empty (lim xs) [] ⟨0, 0, []⟩) (fun ks s2 => addP 22 ByteArray.empty ks s2) = some o from hro)
  have hV := val_readsS (B := B) (g := g) hX hM
  have hBk := blkR (B := B) (g := g) hX hM hWd
  have hMb : ReadsSB B g xs 59 false (membP xs) := fun _ _ _ _ hA h hr => sMemb h hX hM hWd hA hV hBk hr
  have hFm : ReadsSB B g xs 59 true (fmemP xs) := fun _ _ _ _ hA h hr => sFmem h hX hM hWd hA hV hBk hMb dp_memb hr
  have hSm := dp_fmem (xs := xs)
  have HF := hidOf (Fr.refl B w)
  have HS := hidOf S0
  have HSz := hidOf (show w.heap.size = g + 1 by rw [hwe, hge]; simp)
  have HWe := hidOf hwe
  have HGe := hidOf hge
  obtain ⟨d0, hd1⟩ : ∃ d0, 0 = d0 := ⟨_, rfl⟩
  have HD1 := hidOf hd1
  clear hv hvw hrow S0 N1 B1 hb1 bw hro hro2 hwe hge hBe hAe hV hBk hMb z0 hd1
  have B1 : Below w.heap.size w (w.alloc (.cells #[] tI)) := (Below.refl _ _).alloc (Nat.le_refl _) _
  have R1 : SR B g xs (And1 A (.slice (some ⟨w.heap.size, 0, none⟩) 0 0)) (w.alloc (.cells #[] tI)) (some ⟨0, 0, []⟩) := (SR.avoid (A' := And1 A (.slice (some ⟨w.heap.size, 0, none⟩) 0 0)) (t := (some ⟨0, 0, []⟩)) HS.out (fun k hk => hk.imp_right (fun e => by injection e with e; show w.heap.size ≤ k; exact Nat.le_of_eq e))).below B1
  have o1 : (w.alloc (.cells #[] tI)).ownsRow w.heap.size tI 1 (.slice (some ⟨w.heap.size, 0, none⟩) 0 0) 0 (intVals ([] : List Int)) := World.ownsRow_lit w #[] 0 HF.out.size (by decide) rfl
  have FF1 := HF.out.trans (Fr.ofB (B := B) B1 (SR.base (t := (some ⟨0, 0, []⟩)) HS.out))
  clear HF HS
  have HF := hidOf FF1
  have HS := hidOf R1
  have HP := hidOf o1
  clear FF1 R1 o1 B1
  have HTB := hidOf (show ToldB xs (fmemP xs) ByteArray.empty (fun ks s2 => addP 22 ByteArray.empty ks s2) d0 (lim xs) [] (some ⟨0, 0, []⟩) o from ⟨HD1.out, HX.out⟩)
  obtain ⟨v0, hv0⟩ : ∃ v0, v0 = Value.slice (some ⟨w.heap.size, 0, none⟩) 0 0 := ⟨_, rfl⟩
  rw [← hv0] at HP HS
  rw [HSz.out] at hv0
  clear HX
  go_wp2
  rw [← HWe.out, ← HGe.out]
  rw [← hv0]
  clear hv0
  go_loopg [10] (lim xs) (fun f kv wr => ∃ (ks : List Int) (q : Option Ps), f + ks.length = lim xs ∧ wr.ownsRow w.heap.size tI 1 kv ks.length (intVals ks) ∧ SR B g xs (And1 A kv) wr q ∧ Fr B w wr ∧ Hid (ToldB xs (fmemP xs) ByteArray.empty (fun ks s2 => addP 22 ByteArray.empty ks s2) d0 f ks q o))
  case atStart => exact ⟨[], some ⟨0, 0, []⟩, by simp, HP.out, HS.out, HF.out, HTB⟩
  case round =>
   obtain ⟨ks, q, hf, P, R, Fx, HX⟩ := hrel
   clear HP HS HF HTB
   obtain ⟨ao, cc, rfl⟩ := owns_slice P
   have HP := hidOf P
   have HF := hidOf Fx
   have HS := hidOf R
   clear P R Fx
   have hkl : ks.length ≤ 3001 := by omega
   match q, HS, HX with
   | none, HS, HX =>
    obtain rfl : o = none := HX.out
    obtain ⟨s9, h9, hd9⟩ := HS.out
    obtain ⟨sa, sc, na, nc, -, -, c2, -, -, -⟩ := h9.cells
    clear h9 hd9 HX
    go_wp2_with fail
    refine (sPut (o := none) 22 ByteArray.empty ks (ao) cc (SR.avoid (t := none) HS.out (fun k hk => .inl (.inl hk))) (ownsRow_base HP.out hbase) (fun b hb hb2 => by have h7 := (HP.out.lt b hb).1; have h8 := hA b hb2; omega) rfl).mono ?_
    rintro e we ⟨⟨k9, rfl, -⟩, S9, F9⟩
    have HNo := hidOf (readOk_no (t := t) HR0.out)
    have FF9 := HF.out.trans F9
    clear HF HS HP F9
    obtain ⟨s8, h8, hd8⟩ := S9
    obtain ⟨sa8, sc8, na8, nc8, -, c18, c28, -, -, -⟩ := h8.cells
    have hp8 := h8.pos
    have hg8 := h8.lt
    have hv8 := FF9.own HV.out (by decide) (by decide) (by decide)
    have HB8 := hidOf (HB0.out.trans (FF9.bel.mono hBw))
    have HN8 := hidOf (nds_low HN0.out FF9.bel hk0)
    have hp8i : (s8.p : Int) ≤ 3000 := by omega
    clear h8 hd8 FF9
    by_cases hat : s8.p < xs.length
    ·obtain ⟨vb, rfl⟩ := owns_at hv8 (by omega)
     have hvl := (hv8.lt vb rfl).2
     obtain ⟨x8, hx8⟩ : ∃ x, xs[s8.p]? = some x := ⟨_, List.getElem?_eq_getElem hat⟩
     have hc8 := (hv8.cellAt (s8.p * 4 + 2) (by omega)).trans (sgVals_at xs s8.p x8 hx8 2 (by omega))
     have hat1 : (s8.p : Int) < (xs.length : Int) := by omega
     have hat0 : (0 : Int) ≤ (s8.p : Int) := by omega
     have hc9 : we.cell? ⟨vb, s8.p * 4 + 2, none⟩ = some (.int .i64 x8.place) := hc8
     clear hv8 hx8 hc8
     go_wp2
     go_quiet (fail)
     go_wp2
     go_ret3
     exact rds_no (nds_drew HN8.out _) (bel_drewN HB8.out _) HNo.out
    ·have hat1 : ¬ (s8.p : Int) < (xs.length : Int) := by omega
     clear hv8
     go_wp2
     go_ret3
     exact rds_no HN8.out HB8.out HNo.out
   | some s1, HS, HX =>
    obtain ⟨hd0, hx⟩ : s1.d = d0 ∧ bnd (bodyP xs (fmemP xs) ByteArray.empty gk ks s1) (fun ks s2 => addP 22 ByteArray.empty ks s2) = some o := HX.out
    have HD0 := hidOf hd0
    clear HX hd0
    cases gk with
    | zero => exact absurd hx (by simp [bodyP, bnd])
    | succ f =>
     rw [bodyP] at hx
     obtain ⟨sa, sc, na, nc, -, c1, c2, -, -, -⟩ := HS.out.1.cells
     have hps := HS.out.1.pos
     by_cases ht : txt xs s1.p = ByteArray.empty
     ·rw [if_pos ht, bnd_yes] at hx
      have hlt : ¬ (s1.p : Int) < (xs.length : Int) := fun e => hNe s1.p (by omega) ht
      have HX := hidOf hx
      clear hx ht
      go_wp2_with fail
      refine (sPut (o := o) (t := some s1) 22 ByteArray.empty ks (ao) cc (SR.avoid (t := some s1) HS.out (fun k hk => .inl (.inl hk))) (ownsRow_base HP.out hbase) (fun b hb hb2 => by have h7 := (HP.out.lt b hb).1; have h8 := hA b hb2; omega) HX.out).mono ?_
      rintro e we ⟨⟨k9, rfl, -⟩, S9, F9⟩
      have FF9 := HF.out.trans F9
      clear HF HS HP F9 HX hlt hps c1 c2 HD0
      match o, S9, HR0 with
      | none, S9, HR0 =>
       have HNo := hidOf (readOk_no (t := t) HR0.out)
       obtain ⟨s8, h8, hd8⟩ := S9
       obtain ⟨sa8, sc8, na8, nc8, -, c18, c28, -, -, -⟩ := h8.cells
       have hp8 := h8.pos
       have hg8 := h8.lt
       have hv8 := FF9.own HV.out (by decide) (by decide) (by decide)
       have HB8 := hidOf (HB0.out.trans (FF9.bel.mono hBw))
       have HN8 := hidOf (nds_low HN0.out FF9.bel hk0)
       have hp8i : (s8.p : Int) ≤ 3000 := by omega
       clear h8 hd8 FF9
       by_cases hat : s8.p < xs.length
       ·obtain ⟨vb, rfl⟩ := owns_at hv8 (by omega)
        have hvl := (hv8.lt vb rfl).2
        obtain ⟨x8, hx8⟩ : ∃ x, xs[s8.p]? = some x := ⟨_, List.getElem?_eq_getElem hat⟩
        have hc8 := (hv8.cellAt (s8.p * 4 + 2) (by omega)).trans (sgVals_at xs s8.p x8 hx8 2 (by omega))
        have hat1 : (s8.p : Int) < (xs.length : Int) := by omega
        have hat0 : (0 : Int) ≤ (s8.p : Int) := by omega
        have hc9 : we.cell? ⟨vb, s8.p * 4 + 2, none⟩ = some (.int .i64 x8.place) := hc8
        clear hv8 hx8 hc8
        go_wp2
        go_quiet (fail)
        go_wp2
        go_ret3
        exact rds_no (nds_drew HN8.out _) (bel_drewN HB8.out _) HNo.out
       ·have hat1 : ¬ (s8.p : Int) < (xs.length : Int) := by omega
        clear hv8
        go_wp2
        go_ret3
        exact rds_no HN8.out HB8.out HNo.out
      | some (k5, s5), S9, HR0 =>
       obtain ⟨h8, hd8⟩ := (show SR B g xs A we (some s5) from S9)
       have hfew := h8.few
       obtain ⟨sa8, sc8, na8, nc8, qs8, dv8, hrow8, -, hnd8, hmap8, -, -⟩ := h8.mem
       have hql : s5.ns.length = qs8.length := by rw [← hmap8]; simp
       rw [hql] at hrow8
       have c28 := cell_of_row we g 2 _ _ _ hrow8
       have c48 := cell_of_row we g 4 _ _ _ hrow8
       have hg8 := h8.lt
       have hsafe : ∀ q ∈ qs8, SafeNd q.nd := fun q hq => iv_file (sgs_of t) k5 s5 HR0.out q.nd (by rw [← hmap8]; exact List.mem_map.2 ⟨q, hq, rfl⟩)
       have qT := hTree B we na8 nc8 qs8 hnd8 hsafe (by omega)
       rw [hmap8] at qT
       have HQ := hidOf (And.intro hnd8 hmap8)
       have HB8 := hidOf (HB0.out.trans (FF9.bel.mono hBw))
       have HN8 := hidOf (nds_low HN0.out FF9.bel hk0)
       have HRo := hidOf (readOk_yes HK0.out HR0.out)
       have HNo := hidOf (nodesOf_yes HR0.out)
       clear h8 hd8 hrow8 hnd8 hmap8 hsafe FF9 S9 hql
       by_cases hTP : TreeP s5.ns
       ·have HTP := hidOf (HRo.out.2 hTP)
        go_wp2_with fail
        refine qT.mono ?_
        rintro e wf hf9
        obtain ⟨rfl, hbf⟩ := hf9.yes hTP
        have c48f := (hbf.cell (p := ⟨g, 4, none⟩) hg8).trans c48
        have hg9 : g < wf.heap.size := Nat.lt_of_lt_of_le hg8 hbf.size
        clear qT hTP
        go_wp2
        go_ret3
        exact ⟨na8, nc8, qs8, 0, true, rfl, nds_base (HQ.out.1.below hbf) hBw, HB8.out.trans (hbf.mono HB8.out.size), ⟨fun _ => HTP.out, fun _ => rfl⟩, fun _ => HQ.out.2.trans HNo.out.symm, fun e => by cases e⟩
       ·have HTP := hidOf (show ¬ ReadOk t from fun e => hTP (HRo.out.1 e))
        go_wp2_with fail
        refine qT.mono ?_
        rintro e wf hf9
        obtain ⟨rfl, hbf⟩ := hf9.no hTP
        clear qT hTP
        go_wp2
        go_ret3
        exact rds_no (HN8.out.below hbf) (HB8.out.trans (hbf.mono HB8.out.size)) HTP.out
     ·rw [if_neg ht, bnd_asc] at hx
      have hlt : (s1.p : Int) < (xs.length : Int) := by
       have : s1.p < xs.length := by
        rcases Nat.lt_or_ge s1.p xs.length with h7 | h7
        ·exact h7
        ·exact absurd (txt_past h7) ht
       omega
      have HX := hidOf hx
      clear hx ht
      go_wp2_with fail
      clear hlt c1 hps c2
      refine (sBlank (t := some s1) HS.out).mono ?_
      rintro e w3 ⟨⟨bb, rfl, hbb⟩, m3, hm3⟩
      have B3 : Below wr.heap.size wr w3 := by rw [hm3]; exact drewN_below _ _
      clear hm3
      have S3 := SR.below (t := (some s1)) HS.out B3
      have FF3 := HF.out.trans (Fr.ofB (B := B) B3 (SR.base (t := (some s1)) HS.out))
      have o3 := owns_below HP.out B3
      clear HF HS HP
      have HF := hidOf FF3
      have HS := hidOf S3
      have HP := hidOf o3
      clear FF3 S3 B3 o3
      have hbk : bb = blk xs s1.p := hbb s1 rfl
      clear hbb
      cases bb with
      | false =>
       have hbl : (blk xs s1.p && decide (0 < ks.length)) = false := by rw [← hbk]; rfl
       clear hbk
       have hx := HX.out
       simp only [hbl] at hx
       clear HX
       have HX := hidOf hx
       clear hx hbl
       go_wp2_with fail
       rcases bnd_some HX.out with ⟨h4, rfl⟩ | ⟨k, s4, h4, hr4⟩
       ·refine (hFm _ _ _ none (And1.lt hA HF.out.size HP.out) HS.out h4).mono ?_
        rintro e w4 ⟨⟨kx, rfl, -⟩, S4, F4⟩
        clear HX h4
        have o4 := F4.ints HP.out
        have FF4 := HF.out.trans F4
        clear HF HS HP
        have HF := hidOf FF4
        have HS := hidOf S4
        have HP := hidOf o4
        clear FF4 S4 F4 o4
        go_wp2_with fail
        refine (sBlankedB kx false HS.out).mono ?_
        rintro e w5 ⟨rfl, S5, F5⟩
        have o5 := F5.ints HP.out
        have FF5 := HF.out.trans F5
        clear HF HS HP
        have HF := hidOf FF5
        have HS := hidOf S5
        have HP := hidOf o5
        clear FF5 S5 F5 o5
        have hs6 := HF.out.size
        go_wp2_with (at_builtin; refine wpList_append_own2 rfl _ _ 57 rfl w.heap.size 3 i0 _ 1 8 Tryz.underlying57 hi hz0 hz1 hz2 rfl (by decide) (.slice ao ks.length cc) (ks.length) (intVals ks) rfl (HP.out.alloc _) ⟨w5.heap.size, 0, none⟩ 1 1 [.int .i64 kx] rfl rfl (cell_one_new _ _ _) (by simp [Value.oneCell']) (by unfold maxLen; omega) (by omega) (by simp; omega) ?_; intro v' w6 hown' hgrow5 hpl5)
        have B6 : Below w5.heap.size w5 (w5.alloc (.cells #[.int .i64 kx] tI)) := (Below.refl _ _).alloc (Nat.le_refl _) _
        have FF6 := (HF.out.trans (Fr.ofB (B := B) B6 (SR.base (t := none) HS.out))).growI hbase hgrow5 (fun b hb => (HP.out.lt b hb).1)
        have R6 := (SR.below (t := none) HS.out B6).growI (A' := And1 A v') (HP.out.alloc _) hgrow5 (fun b hb => .inr hb) (fun b hb => by
         rcases hb with hb | hb
         ·exact .inl (.inl hb)
         ·rcases hpl5 b hb with h6 | h6
          ·exact .inl (.inr h6)
          ·exact .inr h6)
        have o6 := own_app (ks := ks) (k := kx) hown' rfl
        clear hown' hgrow5 hpl5 HF HS HP hs6 B6
        obtain ⟨ao6, cc6, rfl⟩ := owns_slice o6
        have HF := hidOf FF6
        have HS := hidOf R6
        have HP := hidOf o6
        clear FF6 R6 o6
        have hlen : (ks ++ [kx]).length = ks.length + 1 := by simp
        have HZ := hidOf (show ∃ (ls : List Int) (q : Option Ps), f + ls.length = lim xs ∧ w6.ownsRow w.heap.size tI 1 (.slice ao6 (ks ++ [kx]).length cc6) ls.length (intVals ls) ∧ SR B g xs (And1 A (.slice ao6 (ks ++ [kx]).length cc6)) w6 q ∧ Fr B w w6 ∧ Hid (ToldB xs (fmemP xs) ByteArray.empty (fun ks s2 => addP 22 ByteArray.empty ks s2) d0 f ls q none) from ⟨(ks ++ [kx]), none, by rw [hlen]; omega, HP.out, HS.out, HF.out, hidOf (show ToldB xs (fmemP xs) ByteArray.empty (fun ks s2 => addP 22 ByteArray.empty ks s2) d0 f _ none none from rfl)⟩)
        have HLn := hidOf hlen
        clear HP HS HF hlen
        go_wp2
        go_roundg f
        case measure => omega
        case rel => first | exact HZ.out | (rw [HLn.out] at HZ; exact HZ.out)
       ·refine (hFm _ _ _ (some (k, s4)) (And1.lt hA HF.out.size HP.out) HS.out h4).mono ?_
        rintro e w4 ⟨⟨kx, rfl, hkx⟩, S4, F4⟩
        obtain rfl : kx = ((k : Nat) : Int) := hkx k rfl
        have HD := hidOf (hSm _ _ _ h4)
        clear HX
        have HX := hidOf hr4
        clear h4 hr4 hkx
        have o4 := F4.ints HP.out
        have FF4 := HF.out.trans F4
        clear HF HS HP
        have HF := hidOf FF4
        have HS := hidOf S4
        have HP := hidOf o4
        clear FF4 S4 F4 o4
        go_wp2_with fail
        refine (sBlankedA k false (s := s4) HS.out).mono ?_
        rintro e w5 ⟨rfl, S5, F5⟩
        have o5 := F5.ints HP.out
        have FF5 := HF.out.trans F5
        clear HF HS HP
        have HF := hidOf FF5
        have HS := hidOf S5
        have HP := hidOf o5
        clear FF5 S5 F5 o5
        have hs6 := HF.out.size
        go_wp2_with (at_builtin; refine wpList_append_own2 rfl _ _ 57 rfl w.heap.size 3 i0 _ 1 8 Tryz.underlying57 hi hz0 hz1 hz2 rfl (by decide) (.slice ao ks.length cc) (ks.length) (intVals ks) rfl (HP.out.alloc _) ⟨w5.heap.size, 0, none⟩ 1 1 [.int .i64 ((k : Nat) : Int)] rfl rfl (cell_one_new _ _ _) (by simp [Value.oneCell']) (by unfold maxLen; omega) (by omega) (by simp; omega) ?_; intro v' w6 hown' hgrow5 hpl5)
        have B6 : Below w5.heap.size w5 (w5.alloc (.cells #[.int .i64 ((k : Nat) : Int)] tI)) := (Below.refl _ _).alloc (Nat.le_refl _) _
        have FF6 := (HF.out.trans (Fr.ofB (B := B) B6 (SR.base (t := (some (setBl s4 k false))) HS.out))).growI hbase hgrow5 (fun b hb => (HP.out.lt b hb).1)
        have R6 := (SR.below (t := (some (setBl s4 k false))) HS.out B6).growI (A' := And1 A v') (HP.out.alloc _) hgrow5 (fun b hb => .inr hb) (fun b hb => by
         rcases hb with hb | hb
         ·exact .inl (.inl hb)
         ·rcases hpl5 b hb with h6 | h6
          ·exact .inl (.inr h6)
          ·exact .inr h6)
        have o6 := own_app (ks := ks) (k := ((k : Nat) : Int)) hown' rfl
        clear hown' hgrow5 hpl5 HF HS HP hs6 B6
        obtain ⟨ao6, cc6, rfl⟩ := owns_slice o6
        have HF := hidOf FF6
        have HS := hidOf R6
        have HP := hidOf o6
        clear FF6 R6 o6
        have hlen : (ks ++ [((k : Nat) : Int)]).length = ks.length + 1 := by simp
        have HZ := hidOf (show ∃ (ls : List Int) (q : Option Ps), f + ls.length = lim xs ∧ w6.ownsRow w.heap.size tI 1 (.slice ao6 (ks ++ [((k : Nat) : Int)]).length cc6) ls.length (intVals ls) ∧ SR B g xs (And1 A (.slice ao6 (ks ++ [((k : Nat) : Int)]).length cc6)) w6 q ∧ Fr B w w6 ∧ Hid (ToldB xs (fmemP xs) ByteArray.empty (fun ks s2 => addP 22 ByteArray.empty ks s2) d0 f ls q o) from ⟨(ks ++ [((k : Nat) : Int)]), some (setBl s4 k false), by rw [hlen]; omega, HP.out, HS.out, HF.out, hidOf (show ToldB xs (fmemP xs) ByteArray.empty (fun ks s2 => addP 22 ByteArray.empty ks s2) d0 f _ (some (setBl s4 k false)) o from ⟨(show _ = _ from HD.out).trans HD0.out, HX.out⟩)⟩)
        have HLn := hidOf hlen
        clear HP HS HF hlen
        go_wp2
        go_roundg f
        case measure => omega
        case rel => first | exact HZ.out | (rw [HLn.out] at HZ; exact HZ.out)
      | true =>
       by_cases h0k : ks.length = 0
       ·have hbl : (blk xs s1.p && decide (0 < ks.length)) = false := by rw [h0k, Bool.and_eq_false_iff]; right; decide
        have hgt : ¬ (0 : Int) < (ks.length : Int) := by omega
        have hgd : decide ((0 : Int) < (ks.length : Int)) = false := decide_eq_false hgt
        have hgn : decide (0 < ks.length) = false := decide_eq_false (by omega)
        clear hbk h0k
        have hx := HX.out
        simp only [hbl] at hx
        clear HX
        have HX := hidOf hx
        clear hx hbl
        go_wp2_with fail
        rcases bnd_some HX.out with ⟨h4, rfl⟩ | ⟨k, s4, h4, hr4⟩
        ·refine (hFm _ _ _ none (And1.lt hA HF.out.size HP.out) HS.out h4).mono ?_
         rintro e w4 ⟨⟨kx, rfl, -⟩, S4, F4⟩
         clear HX h4
         have o4 := F4.ints HP.out
         have FF4 := HF.out.trans F4
         clear HF HS HP
         have HF := hidOf FF4
         have HS := hidOf S4
         have HP := hidOf o4
         clear FF4 S4 F4 o4
         go_wp2_with fail
         refine (sBlankedB kx false HS.out).mono ?_
         rintro e w5 ⟨rfl, S5, F5⟩
         have o5 := F5.ints HP.out
         have FF5 := HF.out.trans F5
         clear HF HS HP
         have HF := hidOf FF5
         have HS := hidOf S5
         have HP := hidOf o5
         clear FF5 S5 F5 o5
         have hs6 := HF.out.size
         go_wp2_with (at_builtin; refine wpList_append_own2 rfl _ _ 57 rfl w.heap.size 3 i0 _ 1 8 Tryz.underlying57 hi hz0 hz1 hz2 rfl (by decide) (.slice ao ks.length cc) (ks.length) (intVals ks) rfl (HP.out.alloc _) ⟨w5.heap.size, 0, none⟩ 1 1 [.int .i64 kx] rfl rfl (cell_one_new _ _ _) (by simp [Value.oneCell']) (by unfold maxLen; omega) (by omega) (by simp; omega) ?_; intro v' w6 hown' hgrow5 hpl5)
         have B6 : Below w5.heap.size w5 (w5.alloc (.cells #[.int .i64 kx] tI)) := (Below.refl _ _).alloc (Nat.le_refl _) _
         have FF6 := (HF.out.trans (Fr.ofB (B := B) B6 (SR.base (t := none) HS.out))).growI hbase hgrow5 (fun b hb => (HP.out.lt b hb).1)
         have R6 := (SR.below (t := none) HS.out B6).growI (A' := And1 A v') (HP.out.alloc _) hgrow5 (fun b hb => .inr hb) (fun b hb => by
          rcases hb with hb | hb
          ·exact .inl (.inl hb)
          ·rcases hpl5 b hb with h6 | h6
           ·exact .inl (.inr h6)
           ·exact .inr h6)
         have o6 := own_app (ks := ks) (k := kx) hown' rfl
         clear hown' hgrow5 hpl5 HF HS HP hs6 B6
         obtain ⟨ao6, cc6, rfl⟩ := owns_slice o6
         have HF := hidOf FF6
         have HS := hidOf R6
         have HP := hidOf o6
         clear FF6 R6 o6
         have hlen : (ks ++ [kx]).length = ks.length + 1 := by simp
         have HZ := hidOf (show ∃ (ls : List Int) (q : Option Ps), f + ls.length = lim xs ∧ w6.ownsRow w.heap.size tI 1 (.slice ao6 (ks ++ [kx]).length cc6) ls.length (intVals ls) ∧ SR B g xs (And1 A (.slice ao6 (ks ++ [kx]).length cc6)) w6 q ∧ Fr B w w6 ∧ Hid (ToldB xs (fmemP xs) ByteArray.empty (fun ks s2 => addP 22 ByteArray.empty ks s2) d0 f ls q none) from ⟨(ks ++ [kx]), none, by rw [hlen]; omega, HP.out, HS.out, HF.out, hidOf (show ToldB xs (fmemP xs) ByteArray.empty (fun ks s2 => addP 22 ByteArray.empty ks s2) d0 f _ none none from rfl)⟩)
         have HLn := hidOf hlen
         clear HP HS HF hlen
         go_wp2
         go_roundg f
         case measure => omega
         case rel => first | exact HZ.out | (rw [HLn.out] at HZ; exact HZ.out)
        ·refine (hFm _ _ _ (some (k, s4)) (And1.lt hA HF.out.size HP.out) HS.out h4).mono ?_
         rintro e w4 ⟨⟨kx, rfl, hkx⟩, S4, F4⟩
         obtain rfl : kx = ((k : Nat) : Int) := hkx k rfl
         have HD := hidOf (hSm _ _ _ h4)
         clear HX
         have HX := hidOf hr4
         clear h4 hr4 hkx
         have o4 := F4.ints HP.out
         have FF4 := HF.out.trans F4
         clear HF HS HP
         have HF := hidOf FF4
         have HS := hidOf S4
         have HP := hidOf o4
         clear FF4 S4 F4 o4
         go_wp2_with fail
         refine (sBlankedA k false (s := s4) HS.out).mono ?_
         rintro e w5 ⟨rfl, S5, F5⟩
         have o5 := F5.ints HP.out
         have FF5 := HF.out.trans F5
         clear HF HS HP
         have HF := hidOf FF5
         have HS := hidOf S5
         have HP := hidOf o5
         clear FF5 S5 F5 o5
         have hs6 := HF.out.size
         go_wp2_with (at_builtin; refine wpList_append_own2 rfl _ _ 57 rfl w.heap.size 3 i0 _ 1 8 Tryz.underlying57 hi hz0 hz1 hz2 rfl (by decide) (.slice ao ks.length cc) (ks.length) (intVals ks) rfl (HP.out.alloc _) ⟨w5.heap.size, 0, none⟩ 1 1 [.int .i64 ((k : Nat) : Int)] rfl rfl (cell_one_new _ _ _) (by simp [Value.oneCell']) (by unfold maxLen; omega) (by omega) (by simp; omega) ?_; intro v' w6 hown' hgrow5 hpl5)
         have B6 : Below w5.heap.size w5 (w5.alloc (.cells #[.int .i64 ((k : Nat) : Int)] tI)) := (Below.refl _ _).alloc (Nat.le_refl _) _
         have FF6 := (HF.out.trans (Fr.ofB (B := B) B6 (SR.base (t := (some (setBl s4 k false))) HS.out))).growI hbase hgrow5 (fun b hb => (HP.out.lt b hb).1)
         have R6 := (SR.below (t := (some (setBl s4 k false))) HS.out B6).growI (A' := And1 A v') (HP.out.alloc _) hgrow5 (fun b hb => .inr hb) (fun b hb => by
          rcases hb with hb | hb
          ·exact .inl (.inl hb)
          ·rcases hpl5 b hb with h6 | h6
           ·exact .inl (.inr h6)
           ·exact .inr h6)
         have o6 := own_app (ks := ks) (k := ((k : Nat) : Int)) hown' rfl
         clear hown' hgrow5 hpl5 HF HS HP hs6 B6
         obtain ⟨ao6, cc6, rfl⟩ := owns_slice o6
         have HF := hidOf FF6
         have HS := hidOf R6
         have HP := hidOf o6
         clear FF6 R6 o6
         have hlen : (ks ++ [((k : Nat) : Int)]).length = ks.length + 1 := by simp
         have HZ := hidOf (show ∃ (ls : List Int) (q : Option Ps), f + ls.length = lim xs ∧ w6.ownsRow w.heap.size tI 1 (.slice ao6 (ks ++ [((k : Nat) : Int)]).length cc6) ls.length (intVals ls) ∧ SR B g xs (And1 A (.slice ao6 (ks ++ [((k : Nat) : Int)]).length cc6)) w6 q ∧ Fr B w w6 ∧ Hid (ToldB xs (fmemP xs) ByteArray.empty (fun ks s2 => addP 22 ByteArray.empty ks s2) d0 f ls q o) from ⟨(ks ++ [((k : Nat) : Int)]), some (setBl s4 k false), by rw [hlen]; omega, HP.out, HS.out, HF.out, hidOf (show ToldB xs (fmemP xs) ByteArray.empty (fun ks s2 => addP 22 ByteArray.empty ks s2) d0 f _ (some (setBl s4 k false)) o from ⟨(show _ = _ from HD.out).trans HD0.out, HX.out⟩)⟩)
         have HLn := hidOf hlen
         clear HP HS HF hlen
         go_wp2
         go_roundg f
         case measure => omega
         case rel => first | exact HZ.out | (rw [HLn.out] at HZ; exact HZ.out)
       ·have hbl : (blk xs s1.p && decide (0 < ks.length)) = true := by rw [← hbk, Bool.true_and]; exact decide_eq_true (by omega)
        have hgt : (0 : Int) < (ks.length : Int) := by omega
        have hgd : decide ((0 : Int) < (ks.length : Int)) = true := decide_eq_true hgt
        have hgn : decide (0 < ks.length) = true := decide_eq_true (by omega)
        clear hbk h0k
        have hx := HX.out
        simp only [hbl] at hx
        clear HX
        have HX := hidOf hx
        clear hx hbl
        go_wp2_with fail
        rcases bnd_some HX.out with ⟨h4, rfl⟩ | ⟨k, s4, h4, hr4⟩
        ·refine (hFm _ _ _ none (And1.lt hA HF.out.size HP.out) HS.out h4).mono ?_
         rintro e w4 ⟨⟨kx, rfl, -⟩, S4, F4⟩
         clear HX h4
         have o4 := F4.ints HP.out
         have FF4 := HF.out.trans F4
         clear HF HS HP
         have HF := hidOf FF4
         have HS := hidOf S4
         have HP := hidOf o4
         clear FF4 S4 F4 o4
         go_wp2_with fail
         refine (sBlankedB kx true HS.out).mono ?_
         rintro e w5 ⟨rfl, S5, F5⟩
         have o5 := F5.ints HP.out
         have FF5 := HF.out.trans F5
         clear HF HS HP
         have HF := hidOf FF5
         have HS := hidOf S5
         have HP := hidOf o5
         clear FF5 S5 F5 o5
         have hs6 := HF.out.size
         go_wp2_with (at_builtin; refine wpList_append_own2 rfl _ _ 57 rfl w.heap.size 3 i0 _ 1 8 Tryz.underlying57 hi hz0 hz1 hz2 rfl (by decide) (.slice ao ks.length cc) (ks.length) (intVals ks) rfl (HP.out.alloc _) ⟨w5.heap.size, 0, none⟩ 1 1 [.int .i64 kx] rfl rfl (cell_one_new _ _ _) (by simp [Value.oneCell']) (by unfold maxLen; omega) (by omega) (by simp; omega) ?_; intro v' w6 hown' hgrow5 hpl5)
         have B6 : Below w5.heap.size w5 (w5.alloc (.cells #[.int .i64 kx] tI)) := (Below.refl _ _).alloc (Nat.le_refl _) _
         have FF6 := (HF.out.trans (Fr.ofB (B := B) B6 (SR.base (t := none) HS.out))).growI hbase hgrow5 (fun b hb => (HP.out.lt b hb).1)
         have R6 := (SR.below (t := none) HS.out B6).growI (A' := And1 A v') (HP.out.alloc _) hgrow5 (fun b hb => .inr hb) (fun b hb => by
          rcases hb with hb | hb
          ·exact .inl (.inl hb)
          ·rcases hpl5 b hb with h6 | h6
           ·exact .inl (.inr h6)
           ·exact .inr h6)
         have o6 := own_app (ks := ks) (k := kx) hown' rfl
         clear hown' hgrow5 hpl5 HF HS HP hs6 B6
         obtain ⟨ao6, cc6, rfl⟩ := owns_slice o6
         have HF := hidOf FF6
         have HS := hidOf R6
         have HP := hidOf o6
         clear FF6 R6 o6
         have hlen : (ks ++ [kx]).length = ks.length + 1 := by simp
         have HZ := hidOf (show ∃ (ls : List Int) (q : Option Ps), f + ls.length = lim xs ∧ w6.ownsRow w.heap.size tI 1 (.slice ao6 (ks ++ [kx]).length cc6) ls.length (intVals ls) ∧ SR B g xs (And1 A (.slice ao6 (ks ++ [kx]).length cc6)) w6 q ∧ Fr B w w6 ∧ Hid (ToldB xs (fmemP xs) ByteArray.empty (fun ks s2 => addP 22 ByteArray.empty ks s2) d0 f ls q none) from ⟨(ks ++ [kx]), none, by rw [hlen]; omega, HP.out, HS.out, HF.out, hidOf (show ToldB xs (fmemP xs) ByteArray.empty (fun ks s2 => addP 22 ByteArray.empty ks s2) d0 f _ none none from rfl)⟩)
         have HLn := hidOf hlen
         clear HP HS HF hlen
         go_wp2
         go_roundg f
         case measure => omega
         case rel => first | exact HZ.out | (rw [HLn.out] at HZ; exact HZ.out)
        ·refine (hFm _ _ _ (some (k, s4)) (And1.lt hA HF.out.size HP.out) HS.out h4).mono ?_
         rintro e w4 ⟨⟨kx, rfl, hkx⟩, S4, F4⟩
         obtain rfl : kx = ((k : Nat) : Int) := hkx k rfl
         have HD := hidOf (hSm _ _ _ h4)
         clear HX
         have HX := hidOf hr4
         clear h4 hr4 hkx
         have o4 := F4.ints HP.out
         have FF4 := HF.out.trans F4
         clear HF HS HP
         have HF := hidOf FF4
         have HS := hidOf S4
         have HP := hidOf o4
         clear FF4 S4 F4 o4
         go_wp2_with fail
         refine (sBlankedA k true (s := s4) HS.out).mono ?_
         rintro e w5 ⟨rfl, S5, F5⟩
         have o5 := F5.ints HP.out
         have FF5 := HF.out.trans F5
         clear HF HS HP
         have HF := hidOf FF5
         have HS := hidOf S5
         have HP := hidOf o5
         clear FF5 S5 F5 o5
         have hs6 := HF.out.size
         go_wp2_with (at_builtin; refine wpList_append_own2 rfl _ _ 57 rfl w.heap.size 3 i0 _ 1 8 Tryz.underlying57 hi hz0 hz1 hz2 rfl (by decide) (.slice ao ks.length cc) (ks.length) (intVals ks) rfl (HP.out.alloc _) ⟨w5.heap.size, 0, none⟩ 1 1 [.int .i64 ((k : Nat) : Int)] rfl rfl (cell_one_new _ _ _) (by simp [Value.oneCell']) (by unfold maxLen; omega) (by omega) (by simp; omega) ?_; intro v' w6 hown' hgrow5 hpl5)
         have B6 : Below w5.heap.size w5 (w5.alloc (.cells #[.int .i64 ((k : Nat) : Int)] tI)) := (Below.refl _ _).alloc (Nat.le_refl _) _
         have FF6 := (HF.out.trans (Fr.ofB (B := B) B6 (SR.base (t := (some (setBl s4 k true))) HS.out))).growI hbase hgrow5 (fun b hb => (HP.out.lt b hb).1)
         have R6 := (SR.below (t := (some (setBl s4 k true))) HS.out B6).growI (A' := And1 A v') (HP.out.alloc _) hgrow5 (fun b hb => .inr hb) (fun b hb => by
          rcases hb with hb | hb
          ·exact .inl (.inl hb)
          ·rcases hpl5 b hb with h6 | h6
           ·exact .inl (.inr h6)
           ·exact .inr h6)
         have o6 := own_app (ks := ks) (k := ((k : Nat) : Int)) hown' rfl
         clear hown' hgrow5 hpl5 HF HS HP hs6 B6
         obtain ⟨ao6, cc6, rfl⟩ := owns_slice o6
         have HF := hidOf FF6
         have HS := hidOf R6
         have HP := hidOf o6
         clear FF6 R6 o6
         have hlen : (ks ++ [((k : Nat) : Int)]).length = ks.length + 1 := by simp
         have HZ := hidOf (show ∃ (ls : List Int) (q : Option Ps), f + ls.length = lim xs ∧ w6.ownsRow w.heap.size tI 1 (.slice ao6 (ks ++ [((k : Nat) : Int)]).length cc6) ls.length (intVals ls) ∧ SR B g xs (And1 A (.slice ao6 (ks ++ [((k : Nat) : Int)]).length cc6)) w6 q ∧ Fr B w w6 ∧ Hid (ToldB xs (fmemP xs) ByteArray.empty (fun ks s2 => addP 22 ByteArray.empty ks s2) d0 f ls q o) from ⟨(ks ++ [((k : Nat) : Int)]), some (setBl s4 k true), by rw [hlen]; omega, HP.out, HS.out, HF.out, hidOf (show ToldB xs (fmemP xs) ByteArray.empty (fun ks s2 => addP 22 ByteArray.empty ks s2) d0 f _ (some (setBl s4 k true)) o from ⟨(show _ = _ from HD.out).trans HD0.out, HX.out⟩)⟩)
         have HLn := hidOf hlen
         clear HP HS HF hlen
         go_wp2
         go_roundg f
         case measure => omega
         case rel => first | exact HZ.out | (rw [HLn.out] at HZ; exact HZ.out)
end Go.Proofs.YtcbbnphpkgifoaaGreatDoor
