/- Texts of one proof, laid together: MyI, CpN. -/
import Derived.Test.YtekebloinobjnaaGreatDoorC39
import Derived.Test.YtekebloinobjnaaGreatDoorC40
import Derived.Test.YtekebloinobjnaaGreatDoorC11
import Derived.Test.YtekebloinobjnaaGreatDoorC34
import Derived.Test.YtekebloinobjnaaGreatDoorC37
import Derived.Deep.RegionWith
set_option maxHeartbeats 16000000
set_option maxRecDepth 100000
namespace Go.Proofs.YtekebloinobjnaaGreatDoor
open Go.RowKit
open Go.RowKit Go.Lib
theorem zq9 (hTree:zbz 78) {w:World} {B:Nat} {a:Option Addr} {c:Nat} {k:Nat} {us:List Nat} {qs:List Np} (h:Nds w B a c qs) (hS:∀ q∈qs,SafeNd q.nd) (hT:TreeP (qs.map Np.nd)) (hQ:UnQ (qs.map Np.nd) (k:Int) us) (hM:zc3 (qs.map Np.nd) k) {y:Nd} (hy:(qs.map Np.nd)[k]?=some y) (h21:y.kind≠21)
 {f t:ByteArray} (hf:f.size≤3000) (ht:z3b 1 t) (ht0:0<t.size) (ht1:t.size≤3000) (hc1:0<z2g (txs (qs.map Np.nd) (brL (qs.map Np.nd) us)) f) (hc2:z2g (txs (qs.map Np.nd) (brL (qs.map Np.nd) us)) t=0) :
 Calls Tryz.prog 65 #[.slice a qs.length c,.int .i64 (k:Int),.string f,.string t] w fun e w'=>e=.returned (.bool true)∧Below w.heap.size w w':=by
 have qM:=zkw hTree h hS hT
 have qI:=fun W=>z9o W ht (by decide) ht0 ht1
 have HC:=z00 (fun W (hW:Below w.heap.size w W) s (hs:s.size≤3000)=>zn5 (h.below hW) hS hQ (s:=s) (by unfold maxLen;omega))
 have hkl:k<qs.length:=by have:=(List.getElem?_eq_some_iff.1 hy).1;simpa using this
 have hn:qs.length≤300:=by have:=hT.most;simpa using this
 obtain⟨q,hq⟩:∃ q,qs[k]?=some q:=⟨_,List.getElem?_eq_getElem hkl⟩
 have hqy:q.nd=y:=by
  rw[List.getElem?_map,hq] at hy
  exact Option.some.inj hy
 have hHC:=z00 (And.intro hc1 hc2)
 have HH:=z00 h
 have HK:=z00 (And.intro hq hM)
 rw[← hqy] at h21
 clear h hS hT hQ hM hy hc1 hc2 hq hqy ht ht0
 go_enter Tryz.func65,Tryz.ntmps65
 go_wp2_with fail
 refine qM.mono ?_
 rintro e w1 ⟨zs,hz,b1,za,zc,rfl,oz⟩
 have hmem:(k:Int)∈zs:=(hz _).2 ⟨k,rfl,HK.out.2⟩
 have hp:=List.length_pos_of_mem hmem
 obtain⟨zb,rfl⟩:=z0s oz hp
 have hcon:zs.contains (k:Int)=true:=by simpa using hmem
 have hzl:zs.length≤maxLen:=by
  rcases oz.2 with⟨e,_⟩|⟨g,cap,cur,e,_,_,r1,r2,_⟩
  ·cases e
  ·omega
 unfold maxLen at hzl
 have qK:=fun (W:World) (hW:Below w1.heap.size w1 W)=>Tryz.slices_Contains_int zb 0 zs.length zc zs (k:Int) W (Nat.le_refl _) (by omega) (fun j hj=>by
  have hcj:w1.cell? ⟨zb,j,none⟩=some (.int .i64 (zs.getD j 0)):=(oz.cellAt j (by omega)).trans (by
   unfold z02
   rw[List.getElem?_map,List.getElem?_eq_getElem hj,List.getD_eq_getElem?_getD,List.getElem?_eq_getElem hj]
   rfl)
  rw[Nat.zero_add,hW.cell (lt_of_cell hcj)]
  exact hcj)
 rw[List.take_length,hcon] at qK
 have qK1:=qK w1 (Below.refl _ _)
 have s1:=b1.size
 have HB1:=z00 b1
 obtain⟨a0,rfl,hb0,d0,d1,d2,d3⟩:=(HH.out.below b1).node HK.out.1
 obtain⟨kd,hkd⟩:∃ kd,kd=q.nd.kind:=⟨_,rfl⟩
 rw[← hkd] at d0 h21
 have he:(kd==21)=false:=by simpa using h21
 have hA:(0:Int)≤(k:Int):=by omega
 have hB:(k:Int)<(qs.length:Int):=by omega
 clear qM hz oz hmem hp hcon qK d1 d2 d3 hkd h21 b1 hb0
 go_wp2_with fail
 refine qK1.mono ?_
 rintro e w2 ⟨rfl,rfl⟩
 clear qK1
 go_wp2_with fail
 refine(qI _).mono ?_
 rintro e w3 ⟨rfl,b3⟩
 have B3:=HB1.out.trans (b3.mono s1)
 have qF:=HC.out w3 B3 f hf
 obtain⟨m,hm⟩:∃ m,m=z2g (txs (qs.map Np.nd) (brL (qs.map Np.nd) us)) f:=⟨_,rfl⟩
 have hm0:0<m:=by rw[hm];exact hHC.out.1
 rw[← hm] at qF
 have s3:=B3.size
 clear qI d0 b3 hm
 go_wp2_with fail
 refine qF.mono ?_
 rintro e w4 ⟨rfl,b4⟩
 have B4:=B3.trans (b4.mono s3)
 have qG:=HC.out w4 B4 t ht1
 rw[hHC.out.2] at qG
 have s4:=B4.size
 have hm1:(0:Int)<(m:Int):=by omega
 clear qF b4 HC
 go_wp2_with fail
 refine qG.mono ?_
 rintro e w5 ⟨rfl,b5⟩
 have B5:=B4.trans (b5.mono s4)
 clear qG b5
 go_wp2
 go_ret
 exact⟨rfl,B5⟩
def zq7 (ns:List Nd) (w:World) (e:Ending) (w':World):Prop:=∃ (a:Option Addr) (c:Nat) (qs:List Np),e=.returned (.slice a qs.length c)∧Nds w' w.heap.size a c qs∧qs.map Np.nd=ns∧Below w.heap.size w w'
theorem zop {w:World} {B c:Nat} {a:Option Addr} {qs:List Np} {q:Np} (h:Nds w B a c qs) (hq:q∈qs):z73 w q.a q.nd.kids:=z73.of_own (h.each q hq)
def zv1 (B xb:Nat) (x:Nd) (W1 wx:World):Prop:=∃ (ka:Option Addr) (kc:Nat),wx.heap[xb]?=some (.cells #[.int .i64 x.kind,.string x.text,.slice ka x.kids.length kc,.bool x.blank] z32 (0,0))∧wx.ownsRow B tI 1 (.slice ka x.kids.length kc) x.kids.length (z02 x.kids)∧W1.grownBy wx (some xb)
theorem zbc (w:World) (b o:Nat) (v:Value):w.grownBy (w.setCell ⟨b,o,none⟩ v) (some b):=⟨rfl,rfl,rfl,by simp,fun k _ hk=>heap_setCell_other w ⟨b,o,none⟩ k v (fun e=>hk (by simp[e]))⟩
theorem zhj {B B5 xb:Nat} {x:Nd} {W1 w6:World} {o1 o2:Nat} {v1 v2:Value} {xa:Option Addr} {xc:Nat} (D:Below W1.heap.size W1 w6) (hB:B≤B5) (hx:xb<B5) (xo:w6.ownsRow B5 tI 1 (.slice xa x.kids.length xc) x.kids.length (z02 x.kids))
 (h:((w6.setCell ⟨xb,o1,none⟩ v1).setCell ⟨xb,o2,none⟩ v2).heap[xb]?=some (.cells #[.int .i64 x.kind,.string x.text,.slice xa x.kids.length xc,.bool x.blank] z32 (0,0))):Hid (zv1 B xb x W1 ((w6.setCell ⟨xb,o1,none⟩ v1).setCell ⟨xb,o2,none⟩ v2)):=by
 have hg:=z0w (zbc w6 xb o1 v1) (zbc _ xb o2 v2)
 refine z00 ⟨xa,xc,h,z01 (World.ownsRow.kept xo hg ?_) hB,z0w (z0t D _) hg⟩
 cases hv:(Value.slice xa x.kids.length xc).ownBlock with
 | none=>exact .inl rfl
 | some g=>exact .inr (fun e=>by have:=(xo.lt g hv).1;injection e with e;omega)
theorem ztv {w:World} {B:Nat} {a:Option Addr} {c:Nat} {qs:List Np} (h:Nds w B a c qs) (hn:qs.length≤300) (hS:∀ q∈qs,q.nd.text.size≤4000) (h12:∀ q∈qs,q.nd.kids.length≤12):Calls Tryz.prog 64 #[.slice a qs.length c] w (zq7 (qs.map Np.nd) w):=by
 obtain⟨i0,hi,hz0,hz1,hz2⟩:=info_parts zg7
 have HH:=z00 h
 have HS:=z00 (And.intro hS h12)
 clear h hS h12
 go_enter Tryz.func64,Tryz.ntmps64
 have B0:Below w.heap.size w (w.alloc (.cells #[] z32)):=(Below.refl _ _).alloc (Nat.le_refl _) _
 have o0:(w.alloc (.cells #[] z32)).ownsRow w.heap.size z32 4 (.slice (some ⟨w.heap.size,0,none⟩) 0 0) 0 []:=World.ownsRow_made w #[] 0 (Nat.le_refl _) (by decide) rfl
 go_wp2
 go_loopw [3,9] (fun v i wr=>∃ (j:Nat) (ps:List Np),j≤qs.length∧i=.int .i64 (j:Int)∧wr.ownsRow w.heap.size z32 4 v j (z0r z0u ps)∧Hid (ps.map Np.nd=(qs.take j).map Np.nd∧∀ p∈ps,wr.ownsRow w.heap.size tI 1 (.slice p.a p.nd.kids.length p.c) p.nd.kids.length (z02 p.nd.kids))∧Hid (Below w.heap.size w wr)) (fun _ i _=>qs.length-(intOf i).toNat)
 case atStart=>exact⟨0,[],Nat.zero_le _,rfl,o0,z00 ⟨by simp,fun p hp=>by cases hp⟩,z00 B0⟩
 case round =>
  clear o0 B0
  obtain⟨j,ps,hj,rfl,ho,HP,HW⟩:=hrel
  obtain⟨ao,cc,rfl⟩:=z06 ho
  have hws:=HW.out.size
  by_cases hlt:j<qs.length
  ·have hA:(0:Int)≤(j:Int):=by omega
   have hB1:(j:Int)<(qs.length:Int):=by omega
   obtain⟨q,hq⟩:∃ q,qs[j]?=some q:=⟨_,List.getElem?_eq_getElem hlt⟩
   have hqm:=List.mem_of_getElem? hq
   have hts:=HS.out.1 q hqm
   have hks:=HS.out.2 q hqm
   have HN:=z00 (HH.out.below HW.out)
   obtain⟨a0,ha0,hb0,d0,d1,d2,d3⟩:=HN.out.node hq
   rw[ha0]
   obtain⟨W1,hW1⟩:∃ W1,W1=wr.alloc (.cells #[.int .i64 q.nd.kind,.string q.nd.text,.slice q.a q.nd.kids.length q.c,.bool q.nd.blank] z32):=⟨_,rfl⟩
   obtain⟨xb,hxb⟩:∃ xb,xb=wr.heap.size:=⟨_,rfl⟩
   have G1:W1.heap[xb]?=some (.cells #[.int .i64 q.nd.kind,.string q.nd.text,.slice q.a q.nd.kids.length q.c,.bool q.nd.blank] z32 (0,0)):=by rw[hW1,hxb];exact heap_alloc_new wr _
   have hwx:w.heap.size≤xb:=by omega
   have K1:z73 W1 q.a q.nd.kids:=by rw[hW1];exact(zop HN.out hqm).below ((Below.refl wr.heap.size wr).alloc (Nat.le_refl _) _) (Nat.le_refl _)
   have O1:W1.ownsRow w.heap.size z32 4 (.slice ao j cc) j (z0r z0u ps):=by rw[hW1];exact ho.alloc _
   have P1:=z00 (show ∀ p∈ps,W1.ownsRow w.heap.size tI 1 (.slice p.a p.nd.kids.length p.c) p.nd.kids.length (z02 p.nd.kids) from fun p hp=>by rw[hW1];exact(HP.out.2 p hp).alloc _)
   have B1:Below w.heap.size w W1:=by rw[hW1];exact HW.out.alloc hws _
   have hol:∀ k,(Value.slice ao j cc).ownBlock=some k→k≠xb:=fun k hk=>by have:=(ho.lt k hk).2;omega
   have HQ:=z00 hq
   have HPm:=z00 HP.out.1
   have HG1:=z00 G1
   have HK1:=z00 K1
   have HO1:=z00 O1
   have HB1:=z00 B1
   have HOl:=z00 hol
   have s1:xb<W1.heap.size:=(Array.getElem?_eq_some_iff.1 G1).1
   clear HN hq hqm ho HP HW hol K1 O1 B1 hb0 ha0
   obtain⟨⟨kd,tx,ks,bl⟩,ka,kc⟩:=q
   simp only at G1 d0 d1 d2 d3 hts hks HG1 HK1 hW1
   go_upto_region 5 with fail
   rw[← hW1,← hxb]
   clear hW1 hxb d0 d1 d2 d3
   have e1:W1.cell? ⟨xb,1,none⟩=some (.string tx):=cell_of_row _ _ 1 _ _ _ G1
   have e2:W1.cell? ⟨xb,2,none⟩=some (.slice ka ks.length kc):=cell_of_row _ _ 2 _ _ _ G1
   clear G1
   go_cut [] from 11 to 24 (fun wx=>Hid (zv1 w.heap.size xb ⟨kd,tx,ks,bl⟩ W1 wx))
   case first =>
    go_region_with (first
     | (go_at_call 103;refine(zhp ka kc ks _ (by omega) (HK1.out.below D5 (Nat.le_refl _))).mono ?_;rintro e w6 ⟨hb6,xa,xc,rfl,xo⟩;have D6:=D5.trans (hb6.mono D5.size);have G6:=(D6.block xb s1).trans HG1.out;have k1:=cell_of_row _ _ 1 _ _ _ G6;have k2:=cell_of_row _ _ 2 _ _ _ G6;have z1:=frozen_of_row _ _ 1 _ _ G6;have z2:=frozen_of_row _ _ 2 _ _ G6;have HG6:=z00 G6;clear G6)
     | (go_at_call 62;refine(z6h tx _ (by omega)).mono ?_;rintro e w5 ⟨rfl,hb5⟩;have D5:=(Below.refl W1.heap.size W1).drew.trans hb5;have G5:=(D5.block xb s1).trans HG1.out;have f1:=cell_of_row _ _ 1 _ _ _ G5;have f2:=cell_of_row _ _ 2 _ _ _ G5;clear G5))
    all_goals
     have r1:=heap_setCell_same w6 xb 1 _ _ (.string tx) HG6.out
     have r2:=heap_setCell_same _ xb 2 _ _ (.slice xa ks.length xc) r1
     have r3:=heap_setCell_same w6 xb 2 _ _ (.slice xa ks.length xc) HG6.out
     have r4:=heap_setCell_same _ xb 1 _ _ (.string tx) r3
     have s5:W1.heap.size≤w5.heap.size:=D5.size
     have HX:=z00 (And.intro r2 (And.intro r4 (And.intro xo D6)))
     have hws5:w.heap.size≤w5.heap.size:=by have:=HB1.out.size;omega
     clear r1 r2 r3 r4 xo D6 D5 hb6
     go_wp2_with fail
     go_meet
     first
     | exact zhj HX.out.2.2.2 hws5 (by omega) HX.out.2.2.1 (by simpa using HX.out.1)
     | exact zhj HX.out.2.2.2 hws5 (by omega) HX.out.2.2.1 (by simpa using HX.out.2.1)
   case rest =>
    obtain⟨xa,xc,G2,xo,hg2⟩:=hcut.out
    have hsz2:=hg2.size
    have O2:=World.ownsRow.kept HO1.out hg2 (by
     cases hv:(Value.slice ao j cc).ownBlock with
     | none=>exact .inl rfl
     | some g=>exact .inr (fun e=>HOl.out g hv (by injection e)))
    have P2:=z00 (show ∀ p∈ps,wc.ownsRow w.heap.size tI 1 (.slice p.a p.nd.kids.length p.c) p.nd.kids.length (z02 p.nd.kids) from fun p hp=>World.ownsRow.kept (P1.out p hp) hg2 (by
     cases hv:(Value.slice p.a p.nd.kids.length p.c).ownBlock with
     | none=>exact .inl rfl
     | some g=>exact .inr (fun e=>by
      have e2:g=xb:=by injection e
      rcases(P1.out p hp).2 with⟨e3,_⟩|⟨g',cap',cur',e3,_,hg',_⟩
      ·rw[e3] at hv;cases hv
      ·rw[e3] at hv
       have e4:g'=g:=by injection hv
       rw[e4,e2,HG1.out] at hg'
       injection hg' with hg'
       injection hg' with _ hg' _
       exact absurd hg' (by decide))))
    have B2:=HB1.out.grown hg2 HB1.out.size (fun k e=>by injection e with e;omega)
    have k0:=cell_of_row _ _ 0 _ _ _ G2
    have k1:=cell_of_row _ _ 1 _ _ _ G2
    have k2:=cell_of_row _ _ 2 _ _ _ G2
    have k3:=cell_of_row _ _ 3 _ _ _ G2
    obtain⟨qn,hqn⟩:∃ qn:Np,qn=⟨⟨kd,tx,ks,bl⟩,xa,xc⟩:=⟨_,rfl⟩
    have hXn:=zmh wc ⟨⟨kd,tx,ks,bl⟩,xa,xc⟩
    have HXn:=z00 hXn
    have HXo:=z00 xo
    have HB2:=z00 B2
    have HO2:=z00 O2
    have hws2:w.heap.size≤wc.heap.size:=B2.size
    have hbig:j+1≤301:=by omega
    clear hcut G2 xo hg2 O2 B2 hXn HO1 P1 HB1 HG1 HK1 e1 e2
    go_wp2_with (at_builtin;refine wpList_append_own _ rfl _ _ 24 rfl w.heap.size 56 i0 _ 4 56 Tryz.underlying24 hi hz0 hz1 hz2 rfl (by decide) (.slice ao j cc) j (z0r z0u ps) rfl (HO2.out.alloc _) ⟨wc.heap.size,0,none⟩ 1 1 (z0u ⟨⟨kd,tx,ks,bl⟩,xa,xc⟩) rfl rfl HXn.out (z8f _) (by unfold maxLen;omega) (by omega) (by simp;omega) ?_;intro v' w5 hown' hgrow5 hnil5;clear hnil5)
    have o5:w5.ownsRow w.heap.size z32 4 v' (j+1) (z0r z0u (ps++[qn])):=by rw[z7q,z8d,hqn];exact hown'
    have B5:=(HB2.out.alloc hws2 (.cells (z0u ⟨⟨kd,tx,ks,bl⟩,xa,xc⟩).toArray z32)).grown hgrow5 (by simp;omega) (fun k hk=>(HO2.out.lt k hk).1)
    have I5:=z00 (show (ps++[qn]).map Np.nd=(qs.take (j+1)).map Np.nd∧∀ p∈ps++[qn],w5.ownsRow w.heap.size tI 1 (.slice p.a p.nd.kids.length p.c) p.nd.kids.length (z02 p.nd.kids) from by
     have kp:∀ p:Np,wc.ownsRow w.heap.size tI 1 (.slice p.a p.nd.kids.length p.c) p.nd.kids.length (z02 p.nd.kids)→w5.ownsRow w.heap.size tI 1 (.slice p.a p.nd.kids.length p.c) p.nd.kids.length (z02 p.nd.kids):=fun p hp=>World.ownsRow.kept (hp.alloc (.cells (z0u ⟨⟨kd,tx,ks,bl⟩,xa,xc⟩).toArray z32)) hgrow5 (z0k (hp.alloc _) (HO2.out.alloc (.cells (z0u ⟨⟨kd,tx,ks,bl⟩,xa,xc⟩).toArray z32)) (by decide))
     refine⟨?_,fun p hp=>?_⟩
     ·rw[List.take_add_one,HQ.out,List.map_append,List.map_append,HPm.out]
      rw[hqn];rfl
     ·rcases List.mem_append.1 hp with h|h
      ·exact kp p (P2.out p h)
      ·have hpq:p=qn:=by simpa using h
       rw[hpq,hqn]
       exact kp _ HXo.out)
    clear hown' hgrow5 hqn
    go_wp2
    go_roundw
    case rel=>exact⟨j+1,ps++[qn],by omega,by go_num,o5,I5,z00 B5⟩
    case measure=>simp[intOf];omega
  ·have hB1:¬ (j:Int)<(qs.length:Int):=by omega
   obtain rfl:j=qs.length:=by omega
   have hl:ps.length=qs.length:=by
    have:=congrArg List.length HP.out.1
    simpa using this
   have hq2:ps.map Np.nd=qs.map Np.nd:=by rw[HP.out.1,List.take_length]
   have HF:=z00 (And.intro hl hq2)
   have HO:=z00 ho
   clear hl hq2 ho
   go_wp2
   go_ret
   refine⟨ao,cc,ps,by rw[HF.out.1];rfl,⟨?_,HP.out.2⟩,HF.out.2,HW.out⟩
   rw[HF.out.1]
   exact HO.out
end Go.Proofs.YtekebloinobjnaaGreatDoor
