/- Texts of one proof, laid together: TrS4, TrS5. -/
import Derived.Test.YtekebloinobjnaaGreatDoorC06
import Derived.Test.YtekebloinobjnaaGreatDoorC16
import Derived.BigQuiet
import Derived.Deep.QuietTactic
import Derived.Laws.OwnMore
import Derived.OwnWalk
set_option maxHeartbeats 16000000
set_option maxRecDepth 100000
namespace Go.Proofs.YtekebloinobjnaaGreatDoor
open Go.RowKit
def z78 (K:Nat):Prop:=∀ (w:World) (B:Nat) (a:Option Addr) (c k:Nat) (qs:List Np) (q:Np),Nds w B a c qs→qs[k]?=some q→SafeNd q.nd→qs.length≤300→Calls Tryz.prog K #[.slice a qs.length c,.int .i64 (k:Int)] w (zag (NodeP (qs.map Np.nd) k q.nd) w)
def zcs (ns:List Nd) (k:Nat) (ds:List Int):Prop:=ds.length=k∧((∃ es:List Nat,z5q ns k es∧ds=es.map (fun d:Nat=>(d:Int)))∨(¬ z79 ns k∧ds[k-1]?=some 0))
theorem zfj (ns:List Nd):zcs ns 0 []:=⟨rfl,.inl ⟨[],rfl,rfl⟩⟩
theorem zio {ns:List Nd} {k:Nat} {es:List Nat} {x:Nd} (h:z5q ns k es) (hx:ns[k]?=some x) (hP:NodeP ns k x) (hm:z94 es x.kids<14):zcs ns (k+1) (es.map (fun d:Nat=>(d:Int))++[((z94 es x.kids+1:Nat):Int)]):=
 ⟨by simp[z3m h],.inl ⟨es++[z94 es x.kids+1],⟨es,x,h,hx,hP,hm,rfl⟩,by simp⟩⟩
theorem z7m {ns:List Nd} {k:Nat} {ds:List Int} (hl:ds.length=k) (h:¬ z79 ns (k+1)):zcs ns (k+1) (ds++[0]):=
 ⟨by simp[hl],.inr ⟨h,by rw[Nat.add_sub_cancel,← hl];simp⟩⟩
theorem z8i {ns:List Nd} {k:Nat} {es:List Nat} {x:Nd} (h:z5q ns k es) (hx:ns[k]?=some x) (hh:z79 ns (k+1)):NodeP ns k x∧z94 es x.kids<14:=by
 obtain⟨ds,es',y,h1,h2,h3,h4,-⟩:=hh
 rw[hx] at h2
 injection h2 with h2
 subst h2
 rw[z7x h h1]
 exact⟨h3,h4⟩
theorem zc7 {ds:List Nat} {ks:List Int} {j d:Nat} {zn:Nat} (h:ks[j]?=some (zn:Int)) (hd:ds[zn]?=some d):z94 ds (ks.take (j+1))=max (z94 ds (ks.take j)) d:=by
 rw[List.take_add_one,h,show (some (zn:Int)).toList=[(zn:Int)] from rfl,zhm,Int.toNat_natCast,List.getD_eq_getElem?_getD,hd]
 rfl
theorem z9g {ns:List Nd} {k m:Nat} {es:List Nat} {ds:List Int} {x:Nd} (h:z5q ns k es) (hds:ds=es.map (fun d:Nat=>(d:Int))) (hx:ns[k]?=some x) (hP:NodeP ns k x) (hm:m=z94 es x.kids) (h14:m<14):zcs ns (k+1) (ds++[(m:Int)+1]):=by
 have:=zio h hx hP (by omega)
 rw[hds,hm]
 exact this
def zsk (ns:List Nd) (k:Nat) (w:World) (e:Ending) (w':World):Prop:=∃ (v:Value) (ds:List Int),e=.returned v∧zcs ns k ds∧w'.ownsRow w.heap.size tI 1 v ds.length (z02 ds)∧Below w.heap.size w w'
theorem zrh {w:World} {B:Nat} {a:Option Addr} {c k:Nat} {qs:List Np} (hNode:z78 142) (h:Nds w B a c qs) (hS:∀ q∈qs,SafeNd q.nd) (hn:qs.length≤300) (hk:k<qs.length):Calls Tryz.prog 105 #[.slice a qs.length c,.int .i64 (k:Int)] w (zsk (qs.map Np.nd) (k+1) w):=by
 obtain⟨i0,hi,hz0,hz1,hz2⟩:=info_parts z29
 have HH:=z00 h
 have HS:=z00 hS
 obtain⟨b,rfl⟩:=z0s h.row (by omega)
 clear h hS
 go_enter Tryz.func105,Tryz.ntmps105
 go_wp2
 go_loopw [5,6] (fun v i wr=>∃ (j:Nat) (ds:List Int),j≤k+1∧i=.int .i64 (j:Int)∧wr.ownsRow w.heap.size tI 1 v ds.length (z02 ds)∧Below w.heap.size w wr∧Hid (zcs (qs.map Np.nd) j ds)) (fun _ i _=>k+1-(intOf i).toNat)
 case atStart=>exact⟨0,[],Nat.zero_le _,rfl,World.ownsRow_lit w #[] 0 (Nat.le_refl _) (by decide) rfl,(Below.refl _ _).alloc (Nat.le_refl _) _,z00 (zfj _)⟩
 case round =>
  obtain⟨j,ds,hj,rfl,ho,br,HD⟩:=hrel
  obtain⟨ao,cc,rfl⟩:=z06 ho
  have HDl:=z00 HD.out.1
  have hdb:ds.length≤301:=by have:=HD.out.1;omega
  by_cases hjk:j≤k
  ·obtain⟨q,hq⟩:∃ q,qs[j]?=some q:=⟨_,List.getElem?_eq_getElem (by omega)⟩
   have hc1:(j:Int)≤(k:Int):=by omega
   have hc2:(j:Int)<(qs.length:Int):=by omega
   have hA1:(0:Int)≤(j:Int):=by omega
   have hN:=hNode _ _ _ _ _ _ _ (HH.out.below br) hq (HS.out q (List.mem_of_getElem? hq)) hn
   have hxq:(qs.map Np.nd)[j]?=some q.nd:=by rw[List.getElem?_map,hq];rfl
   have HQ:=z00 (And.intro hq hxq)
   clear hq hxq
   have HO:=z00 ho
   have HR:=z00 br
   have hsz:=br.size
   by_cases hP:NodeP (qs.map Np.nd) j q.nd
   ·by_cases hh:z79 (qs.map Np.nd) j
    ·obtain⟨es,he⟩:=hh
     have hde:ds=es.map (fun d:Nat=>(d:Int)):=by
      rcases HD.out.2 with⟨es2,h1,h2⟩|⟨h1,-⟩
      ·rw[h2,z7x he h1]
      ·exact absurd ⟨es,he⟩ h1
     have HE:=z00 (And.intro he hde)
     have HP:=z00 hP
     have HEl:=z00 (z3m he)
     have HE14:=z00 (z6g he)
     clear he hde hP
     have hat:∀ (i d:Nat),es[i]?=some d→(z02 ds)[i]?=some (.int .i64 (d:Int)):=fun i d h9=>by unfold z02;rw[HE.out.2,List.getElem?_map,List.getElem?_map,h9];rfl
     go_wp2_with fail
     refine hN.mono ?_
     rintro e w2 h9
     obtain⟨rfl,b2⟩:=h9.yes HP.out
     clear hN h9
     have HO2:=z00 (z07 HO.out b2)
     have HR2:=z00 (HR.out.trans (b2.mono hsz))
     have hs2:=HR2.out.size
     obtain⟨b',hbb,hb2,d0,d1,d2,d3⟩:=(HH.out.below HR2.out).node HQ.out.1
     obtain rfl:b=b':=by injection hbb with hbb;injection hbb
     obtain⟨⟨kd,tx,ks,bl⟩,ka,kc⟩:=q
     simp only at d0 d1 d2 d3
     have hm12:ks.length≤12:=z34 HP.out.cnt
     clear hbb
     by_cases hj0:0<j
     ·skip
      obtain⟨ob,rfl⟩:=z0s HO2.out (by have:=HDl.out;omega)
      have hobl:=(HO2.out.lt ob rfl).2
      obtain⟨dl,edl⟩:∃ dl,es[j-1]?=some dl:=⟨_,List.getElem?_eq_getElem (by have:=HEl.out;omega)⟩
      have hdl1:=(HE14.out dl (List.mem_of_getElem? edl)).1
      have ck:w2.cell? ⟨ob,j-1,none⟩=some (.int .i64 (dl:Int)):=(HO2.out.cellAt (j-1) (by have:=HDl.out;omega)).trans (hat _ _ edl)
      have hgt:(0:Int)<(j:Int):=by omega
      have hA4:(0:Int)≤(j:Int)-1:=by omega
      have hB4:(j:Int)-1<(ds.length:Int):=by have:=HDl.out;omega
      have hT4:((j:Int)-1).toNat=j-1:=by omega
      have hne:((dl:Int)==0)=false:=by rw[beq_eq_false_iff_ne];omega
      clear edl
      go_wp2
      clear ck hne hgt hA4 hB4 hT4
      go_loopw [7,8] (fun d i wr=>∃ jj m:Nat,jj≤ks.length∧m≤14∧i=.int .i64 (jj:Int)∧d=.int .i64 ((m:Int)+1)∧w2=wr∧Hid (m=z94 es (ks.take jj))) (fun _ i _=>ks.length-(intOf i).toNat)
      case atStart=>exact⟨0,0,Nat.zero_le _,Nat.zero_le _,rfl,rfl,rfl,z00 rfl⟩
      case round =>
       obtain⟨jj,m,hjj,hm14,rfl,rfl,rfl,HM⟩:=hrel
       have hd0:(0:Int)<(m:Int)+1:=by omega
       by_cases hlt:jj<ks.length
       ·obtain⟨z,ez⟩:∃ z,ks[jj]?=some z:=⟨_,List.getElem?_eq_getElem hlt⟩
        have hzr:=HP.out.place jj z ez
        obtain⟨zn,rfl⟩:∃ zn:Nat,z=(zn:Int):=⟨z.toNat,by omega⟩
        obtain⟨dz,edz⟩:∃ dz,es[zn]?=some dz:=⟨_,List.getElem?_eq_getElem (by have:=HEl.out;omega)⟩
        have hdz:=(HE14.out dz (List.mem_of_getElem? edz)).2
        obtain⟨kb,hkb,hkbl,ck⟩:=(HH.out.below HR2.out).kid HQ.out.1 ez
        simp only at hkb
        subst hkb
        have cz:w2.cell? ⟨ob,zn,none⟩=some (.int .i64 (dz:Int)):=(HO2.out.cellAt zn (by have:=HDl.out;omega)).trans (hat _ _ edz)
        have HMn:=z00 (zc7 ez edz)
        have hA5:(0:Int)≤(zn:Int):=by omega
        have hB5:(zn:Int)<(ds.length:Int):=by have:=HDl.out;omega
        have hA6:(0:Int)≤(jj:Int):=by omega
        have hB6:(jj:Int)<(ks.length:Int):=by omega
        clear ez edz hzr
        by_cases hmd:m<dz
        ·have hmd1:(m:Int)+1<(dz:Int)+1:=by omega
         go_wp2
         go_roundw
         case rel=>exact⟨jj+1,dz,by omega,by omega,by go_num,by go_num,trivial,z00 (by have h1:=HMn.out;have h2:=HM.out;omega)⟩
         case measure=>simp[intOf];omega
        ·have hmd1:¬ (m:Int)+1<(dz:Int)+1:=by omega
         go_wp2
         go_roundw
         case rel=>exact⟨jj+1,m,by omega,by omega,by go_num,rfl,trivial,z00 (by have h1:=HMn.out;have h2:=HM.out;omega)⟩
         case measure=>simp[intOf];omega
       ·have hB6:¬ (jj:Int)<(ks.length:Int):=by omega
        have HMa:=z00 (show m=z94 es ks by have h1:=HM.out;rw[List.take_of_length_le (by omega)] at h1;exact h1)
        by_cases h14:m<14
        ·have h15:¬ (14:Int)<(m:Int)+1:=by omega
         go_wp2_with (at_builtin;refine z04 rfl _ _ 29 rfl w.heap.size 3 i0 _ 1 8 Tryz.underlying29 hi hz0 hz1 hz2 rfl (by decide) (.slice (some ⟨ob,0,none⟩) ds.length cc) ds.length (z02 ds) rfl (HO2.out.alloc _) ⟨w2.heap.size,0,none⟩ 1 1 [.int .i64 ((m:Int)+1)] rfl rfl (cell_one_new _ _ _) (by simp[Value.oneCell']) (by unfold maxLen;omega) (by omega) (by simp;omega) ?_;intro v' w6 hown' hgrow5 hpl5)
         have B6:Below w.heap.size w w6:=(HR2.out.alloc (by omega) _).grown hgrow5 (by simp;omega) (fun g hg=>(HO2.out.lt g hg).1)
         have o6:=z0c (ks:=ds) (k:=((m:Int)+1)) hown' rfl
         clear hown' hgrow5 hpl5
         skip
         refine⟨⟨j+1,ds++[((m:Int)+1)],by omega,by go_num,by simpa using o6,B6,z00 ?_⟩,?_⟩
         ·exact(z9g HE.out.1 HE.out.2 HQ.out.2 HP.out HMa.out h14)
         ·simp only[intOf];omega
        ·have h15:(14:Int)<(m:Int)+1:=by omega
         go_wp2_with (at_builtin;refine z04 rfl _ _ 29 rfl w.heap.size 3 i0 _ 1 8 Tryz.underlying29 hi hz0 hz1 hz2 rfl (by decide) (.slice (some ⟨ob,0,none⟩) ds.length cc) ds.length (z02 ds) rfl (HO2.out.alloc _) ⟨w2.heap.size,0,none⟩ 1 1 [.int .i64 0] rfl rfl (cell_one_new _ _ _) (by simp[Value.oneCell']) (by unfold maxLen;omega) (by omega) (by simp;omega) ?_;intro v' w6 hown' hgrow5 hpl5)
         have B6:Below w.heap.size w w6:=(HR2.out.alloc (by omega) _).grown hgrow5 (by simp;omega) (fun g hg=>(HO2.out.lt g hg).1)
         have o6:=z0c (ks:=ds) (k:=0) hown' rfl
         clear hown' hgrow5 hpl5
         skip
         refine⟨⟨j+1,ds++[0],by omega,by go_num,by simpa using o6,B6,z00 ?_⟩,?_⟩
         ·exact(z7m HDl.out (fun e=>by have h1:=(z8i HE.out.1 HQ.out.2 e).2;have h2:=HMa.out;simp only at h1;omega))
         ·simp only[intOf];omega
     ·skip
      have hgt:¬ (0:Int)<(j:Int):=by omega
      go_wp2
      clear hgt
      go_loopw [7,8] (fun d i wr=>∃ jj m:Nat,jj≤ks.length∧m≤14∧i=.int .i64 (jj:Int)∧d=.int .i64 ((m:Int)+1)∧w2=wr∧Hid (m=z94 es (ks.take jj))) (fun _ i _=>ks.length-(intOf i).toNat)
      case atStart=>exact⟨0,0,Nat.zero_le _,Nat.zero_le _,rfl,rfl,rfl,z00 rfl⟩
      case round =>
       obtain⟨jj,m,hjj,hm14,rfl,rfl,rfl,HM⟩:=hrel
       have hd0:(0:Int)<(m:Int)+1:=by omega
       by_cases hlt:jj<ks.length
       ·obtain⟨z,ez⟩:∃ z,ks[jj]?=some z:=⟨_,List.getElem?_eq_getElem hlt⟩
        have hzr:=HP.out.place jj z ez
        obtain⟨zn,rfl⟩:∃ zn:Nat,z=(zn:Int):=⟨z.toNat,by omega⟩
        obtain⟨dz,edz⟩:∃ dz,es[zn]?=some dz:=⟨_,List.getElem?_eq_getElem (by have:=HEl.out;omega)⟩
        have hdz:=(HE14.out dz (List.mem_of_getElem? edz)).2
        obtain⟨kb,hkb,hkbl,ck⟩:=(HH.out.below HR2.out).kid HQ.out.1 ez
        simp only at hkb
        subst hkb
        omega
       ·have hB6:¬ (jj:Int)<(ks.length:Int):=by omega
        have HMa:=z00 (show m=z94 es ks by have h1:=HM.out;rw[List.take_of_length_le (by omega)] at h1;exact h1)
        by_cases h14:m<14
        ·have h15:¬ (14:Int)<(m:Int)+1:=by omega
         go_wp2_with (at_builtin;refine z04 rfl _ _ 29 rfl w.heap.size 3 i0 _ 1 8 Tryz.underlying29 hi hz0 hz1 hz2 rfl (by decide) (.slice ao ds.length cc) ds.length (z02 ds) rfl (HO2.out.alloc _) ⟨w2.heap.size,0,none⟩ 1 1 [.int .i64 ((m:Int)+1)] rfl rfl (cell_one_new _ _ _) (by simp[Value.oneCell']) (by unfold maxLen;omega) (by omega) (by simp;omega) ?_;intro v' w6 hown' hgrow5 hpl5)
         have B6:Below w.heap.size w w6:=(HR2.out.alloc (by omega) _).grown hgrow5 (by simp;omega) (fun g hg=>(HO2.out.lt g hg).1)
         have o6:=z0c (ks:=ds) (k:=((m:Int)+1)) hown' rfl
         clear hown' hgrow5 hpl5
         skip
         refine⟨⟨j+1,ds++[((m:Int)+1)],by omega,by go_num,by simpa using o6,B6,z00 ?_⟩,?_⟩
         ·exact(z9g HE.out.1 HE.out.2 HQ.out.2 HP.out HMa.out h14)
         ·simp only[intOf];omega
        ·have h15:(14:Int)<(m:Int)+1:=by omega
         go_wp2_with (at_builtin;refine z04 rfl _ _ 29 rfl w.heap.size 3 i0 _ 1 8 Tryz.underlying29 hi hz0 hz1 hz2 rfl (by decide) (.slice ao ds.length cc) ds.length (z02 ds) rfl (HO2.out.alloc _) ⟨w2.heap.size,0,none⟩ 1 1 [.int .i64 0] rfl rfl (cell_one_new _ _ _) (by simp[Value.oneCell']) (by unfold maxLen;omega) (by omega) (by simp;omega) ?_;intro v' w6 hown' hgrow5 hpl5)
         have B6:Below w.heap.size w w6:=(HR2.out.alloc (by omega) _).grown hgrow5 (by simp;omega) (fun g hg=>(HO2.out.lt g hg).1)
         have o6:=z0c (ks:=ds) (k:=0) hown' rfl
         clear hown' hgrow5 hpl5
         skip
         refine⟨⟨j+1,ds++[0],by omega,by go_num,by simpa using o6,B6,z00 ?_⟩,?_⟩
         ·exact(z7m HDl.out (fun e=>by have h1:=(z8i HE.out.1 HQ.out.2 e).2;have h2:=HMa.out;simp only at h1;omega))
         ·simp only[intOf];omega
    ·have HNo:=z00 (show ¬ z79 (qs.map Np.nd) (j+1) from fun e=>hh (zb6 e))
     have hj0:0<j:=by
      rcases Nat.eq_zero_or_pos j with e|e
      ·subst e;exact absurd ⟨[],rfl⟩ hh
      ·exact e
     have hlast:ds[j-1]?=some 0:=by
      rcases HD.out.2 with⟨es2,h1,-⟩|⟨-,h1⟩
      ·exact absurd ⟨es2,h1⟩ hh
      ·exact h1
     have HP:=z00 hP
     have HLa:=z00 hlast
     clear hlast hh hP
     go_wp2_with fail
     refine hN.mono ?_
     rintro e w2 h9
     obtain⟨rfl,b2⟩:=h9.yes HP.out
     clear hN h9
     have HO2:=z00 (z07 HO.out b2)
     have HR2:=z00 (HR.out.trans (b2.mono hsz))
     have hs2:=HR2.out.size
     obtain⟨ob,rfl⟩:=z0s HO2.out (by have:=HDl.out;omega)
     have hobl:=(HO2.out.lt ob rfl).2
     have ck:w2.cell? ⟨ob,j-1,none⟩=some (.int .i64 0):=(HO2.out.cellAt (j-1) (by have:=HDl.out;omega)).trans (by unfold z02;rw[List.getElem?_map,HLa.out];rfl)
     have hgt:(0:Int)<(j:Int):=by omega
     have hA4:(0:Int)≤(j:Int)-1:=by omega
     have hB4:(j:Int)-1<(ds.length:Int):=by have:=HDl.out;omega
     have hT4:((j:Int)-1).toNat=j-1:=by omega
     go_wp2
     go_loopw [7,8] (fun d i wr=>d=.int .i64 0∧i=.int .i64 0∧w2=wr) (fun _ _ _=>0)
     case atStart=>exact⟨rfl,rfl,rfl⟩
     case round =>
      obtain⟨rfl,rfl,rfl⟩:=hrel
      have hs2:=HR2.out.size
      go_wp2_with (at_builtin;refine z04 rfl _ _ 29 rfl w.heap.size 3 i0 _ 1 8 Tryz.underlying29 hi hz0 hz1 hz2 rfl (by decide) (.slice (some ⟨ob,0,none⟩) ds.length cc) ds.length (z02 ds) rfl (HO2.out.alloc _) ⟨w2.heap.size,0,none⟩ 1 1 [.int .i64 0] rfl rfl (cell_one_new _ _ _) (by simp[Value.oneCell']) (by unfold maxLen;omega) (by omega) (by simp;omega) ?_;intro v' w6 hown' hgrow5 hpl5)
      have B6:Below w.heap.size w w6:=(HR2.out.alloc (by omega) _).grown hgrow5 (by simp;omega) (fun g hg=>(HO2.out.lt g hg).1)
      have o6:=z0c (ks:=ds) (k:=0) hown' rfl
      clear hown' hgrow5 hpl5
      skip
      refine⟨⟨j+1,ds++[0],by omega,by go_num,by simpa using o6,B6,z00 ?_⟩,?_⟩
      ·exact(z7m HDl.out HNo.out)
      ·simp only[intOf];omega
   ·have HNo:=z00 (show ¬ z79 (qs.map Np.nd) (j+1) from fun e=>hP (z0x e (by omega) HQ.out.2))
    have HP:=z00 hP
    clear hP
    go_wp2_with fail
    refine hN.mono ?_
    rintro e w2 h9
    obtain⟨rfl,b2⟩:=h9.no HP.out
    clear hN h9
    have HO2:=z00 (z07 HO.out b2)
    have HR2:=z00 (HR.out.trans (b2.mono hsz))
    go_wp2
    go_loopw [7,8] (fun d i wr=>d=.int .i64 0∧i=.int .i64 0∧w2=wr) (fun _ _ _=>0)
    case atStart=>exact⟨rfl,rfl,rfl⟩
    case round =>
     obtain⟨rfl,rfl,rfl⟩:=hrel
     have hs2:=HR2.out.size
     go_wp2_with (at_builtin;refine z04 rfl _ _ 29 rfl w.heap.size 3 i0 _ 1 8 Tryz.underlying29 hi hz0 hz1 hz2 rfl (by decide) (.slice ao ds.length cc) ds.length (z02 ds) rfl (HO2.out.alloc _) ⟨w2.heap.size,0,none⟩ 1 1 [.int .i64 0] rfl rfl (cell_one_new _ _ _) (by simp[Value.oneCell']) (by unfold maxLen;omega) (by omega) (by simp;omega) ?_;intro v' w6 hown' hgrow5 hpl5)
     have B6:Below w.heap.size w w6:=(HR2.out.alloc (by omega) _).grown hgrow5 (by simp;omega) (fun g hg=>(HO2.out.lt g hg).1)
     have o6:=z0c (ks:=ds) (k:=0) hown' rfl
     clear hown' hgrow5 hpl5
     skip
     refine⟨⟨j+1,ds++[0],by omega,by go_num,by simpa using o6,B6,z00 ?_⟩,?_⟩
     ·exact(z7m HDl.out HNo.out)
     ·simp only[intOf];omega
  ·have hc1:¬ (j:Int)≤(k:Int):=by omega
   obtain rfl:j=k+1:=by omega
   go_wp2
   go_ret
   exact⟨_,ds,rfl,HD.out,ho,br⟩
def zuq (ns:List Nd) (k:Nat) (w:World) (e:Ending) (w':World):Prop:=∃ d:Int,e=.returned (.int .i64 d)∧(d=0↔¬ z79 ns k)∧Below w.heap.size w w'
theorem zf4 {ns:List Nd} {k:Nat} {ds:List Int} (h:zcs ns (k+1) ds):∃ d,ds[k]?=some d∧(d=0↔¬ z79 ns (k+1)):=by
 rcases h.2 with⟨es,h1,h2⟩|⟨h1,h2⟩
 ·have hl:=z3m h1
  obtain⟨d,hd⟩:∃ d,es[k]?=some d:=⟨_,List.getElem?_eq_getElem (by omega)⟩
  have:=(z6g h1 d (List.mem_of_getElem? hd)).1
  refine⟨(d:Int),by rw[h2,List.getElem?_map,hd];rfl,?_⟩
  constructor
  ·intro e;omega
  ·intro e;exact absurd ⟨es,h1⟩ e
 ·exact⟨0,h2,by simp[h1]⟩
theorem zgm {w:World} {B:Nat} {a:Option Addr} {c k:Nat} {qs:List Np} (hNode:z78 142) (h:Nds w B a c qs) (hS:∀ q∈qs,SafeNd q.nd) (hn:qs.length≤300) (hk:k<qs.length):Calls Tryz.prog 69 #[.slice a qs.length c,.int .i64 (k:Int)] w (zuq (qs.map Np.nd) (k+1) w):=by
 have hI:=fun W=>z1g (k:Int) 0 ((qs.length:Int)-1) W
 rw[z1i (by omega)] at hI
 have qD:=zrh hNode h hS hn hk
 clear h hS
 go_enter Tryz.func69,Tryz.ntmps69
 go_wp2_with fail
 refine(hI _).mono ?_
 rintro e w ⟨rfl,rfl⟩
 go_wp2_with fail
 refine qD.mono ?_
 rintro e w2 ⟨v,ds,rfl,hD,ho,hb⟩
 obtain⟨d,hd,hd0⟩:=zf4 hD
 have hdl:k<ds.length:=(List.getElem?_eq_some_iff.1 hd).1
 obtain⟨ao,cc,rfl⟩:=z06 ho
 obtain⟨ob,rfl⟩:=z0s ho (by omega)
 have hobl:=(ho.lt ob rfl).2
 have ck:w2.cell? ⟨ob,k,none⟩=some (.int .i64 d):=(ho.cellAt k (by omega)).trans (by unfold z02;rw[List.getElem?_map,hd];rfl)
 have HA:=z00 hd0
 have hA1:(0:Int)≤(k:Int):=by omega
 have hB1:(k:Int)<(ds.length:Int):=by omega
 clear qD hI hD hd hd0 ho
 go_wp2
 go_ret
 exact⟨d,rfl,HA.out,hb⟩
theorem znt (n:Nat):(madeCells (Value.int IntKind.i64 0).cells (n*1)).toList=z02 (List.replicate n 0):=by
 apply List.ext_getElem
 ·simp[madeCells,z02]
 ·intro i h1 h2
  simp[madeCells,z02,Value.cells,Nat.mod_one]
def UsP (ns:List Nd) (n:Nat) (ks:List Int) (j jj:Nat) (us:List Int):Prop:=us.length=n∧∀ i,i<n→us[i]?=some ((z5m i (ns.take j)+occ i (ks.take jj):Nat):Int)
theorem zbo (ns:List Nd) (n:Nat):UsP ns n [] 0 0 (List.replicate n 0):=⟨by simp,fun i hi=>by simp[z5m,occ,hi]⟩
theorem zbf {ns:List Nd} {n j:Nat} {us:List Int} (ks:List Int) (h:UsP ns n [] j 0 us):UsP ns n ks j 0 us:=⟨h.1,fun i hi=>(h.2 i hi).trans (by simp[occ])⟩
theorem zg8 {ns:List Nd} {n j jj zn:Nat} {ks us:List Int} {c:Int} (h:UsP ns n ks j jj us) (hz:ks[jj]?=some (zn:Int)) (hc:us[zn]?=some c):UsP ns n ks j (jj+1) (us.set zn (c+1)):=by
 have ht:∀ i,occ i (ks.take (jj+1))=occ i (ks.take jj)+(if (zn:Int)=(i:Int) then 1 else 0):=fun i=>by
  rw[List.take_add_one,hz,show (some (zn:Int)).toList=[(zn:Int)] from rfl,zka]
 refine⟨by simp[h.1],fun i hi=>?_⟩
 rw[ht i]
 by_cases e:zn=i
 ·subst e
  have h1:=h.2 zn hi
  rw[hc] at h1
  injection h1 with h1
  rw[List.getElem?_set_self (by rw[h.1];exact hi),h1]
  simp
  omega
 ·rw[List.getElem?_set_ne e,h.2 i hi,if_neg (by omega)]
  simp
theorem zem {ns:List Nd} {n j:Nat} {us:List Int} {x:Nd} (h:UsP ns n x.kids j x.kids.length us) (hx:ns[j]?=some x):UsP ns n [] (j+1) 0 us:=⟨h.1,fun i hi=>by
 rw[h.2 i hi,List.take_length,List.take_add_one,hx,show (some x).toList=[x] from rfl,zik]
 simp[occ]⟩
theorem zg9 {ns:List Nd} {n j jj i:Nat} {ks us:List Int} {c:Int} (h:UsP ns n ks j jj us) (hi:i<n) (hc:us[i]?=some c) (h1:ns.length≤300) (h2:∀ x∈ns,x.kids.length≤12) (h3:ks.length≤12):0≤c∧c≤3612:=by
 have e:=h.2 i hi
 rw[hc] at e
 injection e with e
 have g1:=zi5 i (ns.take j) (fun x hx=>h2 x (List.mem_of_mem_take hx))
 have g2:=zim i (ks.take jj)
 simp at g1 g2
 omega
theorem zu9 (hNode:z78 142) (B:Nat) (w:World) (a:Option Addr) (c:Nat) (qs:List Np) (h:Nds w B a c qs) (hS:∀ q∈qs,SafeNd q.nd) (hn:qs.length≤300):Calls Tryz.prog 24 #[.slice a qs.length c] w fun e w'=>zag (TreeP (qs.map Np.nd)) w e w':=by
 have hI:=fun W=>z1g (qs.length:Int) 1 300 W
 by_cases h0:qs.length=0
 ·rw[z2e (by omega)] at hI
  have HN:=z00 (show ¬ TreeP (qs.map Np.nd) from fun e=>by have:=e.least;simp at this;omega)
  clear h hS h0
  go_enter Tryz.func24,Tryz.ntmps24
  go_wp2_with fail
  refine(hI _).mono ?_
  rintro e w ⟨rfl,rfl⟩
  go_wp2
  go_ret
  exact z0o HN.out (Below.refl _ _)
 rw[z1i (by omega)] at hI
 have hn1:1≤qs.length:=by omega
 clear h0
 obtain⟨ql,hql⟩:∃ ql,qs[qs.length-1]?=some ql:=⟨_,List.getElem?_eq_getElem (by omega)⟩
 obtain⟨b,rfl,hb,c0,-,-,-⟩:=h.node hql
 have hA1:(0:Int)≤(qs.length:Int)-1:=by omega
 have hB1:(qs.length:Int)-1<(qs.length:Int):=by omega
 have hT1:((qs.length:Int)-1).toNat=qs.length-1:=by omega
 obtain⟨kl,hkl⟩:∃ kl,kl=ql.nd.kind:=⟨_,rfl⟩
 rw[← hkl] at c0
 have HL:=z00 (And.intro hql hkl)
 clear hql hkl
 by_cases h22:kl=22
 case neg =>
  have hne:(kl != 22)=true:=by simpa using h22
  have HN:=z00 (show ¬ TreeP (qs.map Np.nd) from fun e=>by
   obtain⟨x,h1,h2⟩:=e.last
   rw[List.length_map,List.getElem?_map,HL.out.1] at h1
   injection h1 with h1
   have h3:=HL.out.2
   rw[show ql.nd=x from h1,h2] at h3
   exact h22 h3)
  clear h hS h22
  go_enter Tryz.func24,Tryz.ntmps24
  go_wp2_with fail
  refine(hI _).mono ?_
  rintro e w ⟨rfl,rfl⟩
  go_wp2
  go_ret
  exact z0o HN.out (Below.refl _ _)
 have hne:(kl != 22)=false:=by simp[h22]
 have qD:=fun W (hW:Below w.heap.size w W)=>zgm (k:=qs.length-1) hNode (h.below hW) hS hn (by omega)
 have hci:((qs.length-1:Nat):Int)=(qs.length:Int)-1:=by omega
 rw[show qs.length-1+1=qs.length by omega,hci] at qD
 have H22:=z00 h22
 have HH:=z00 (And.intro h hS)
 clear h hS hci h22
 by_cases hD:z79 (qs.map Np.nd) qs.length
 case neg =>
  have HN:=z00 (show ¬ TreeP (qs.map Np.nd) from fun e=>hD (by have:=e.deep;rwa [List.length_map] at this))
  have HD:=z00 hD
  clear hD
  go_enter Tryz.func24,Tryz.ntmps24
  go_wp2_with fail
  refine(hI _).mono ?_
  rintro e w ⟨rfl,rfl⟩
  go_wp2_with fail
  refine(qD _ (Below.refl _ _)).mono ?_
  rintro e w2 ⟨d,rfl,hd,b2⟩
  obtain rfl:d=0:=hd.2 HD.out
  clear hd qD hI
  go_wp2
  go_ret
  exact z0o HN.out b2
 have HD:=z00 hD
 clear hD
 go_enter Tryz.func24,Tryz.ntmps24
 go_wp2_with fail
 refine(hI _).mono ?_
 rintro e w ⟨rfl,rfl⟩
 go_wp2_with fail
 refine(qD _ (Below.refl _ _)).mono ?_
 rintro e w2 ⟨d,rfl,hd,b2⟩
 have hdn:(d==0)=false:=by rw[beq_eq_false_iff_ne];exact fun e=>hd.1 e HD.out
 clear hd qD hI
 obtain⟨i0,hi,hz0,hz1,hz2⟩:=info_parts z29
 have hs2:=b2.size
 go_wp2_with (at_make;refine wpList_make_full _ rfl _ _ 29 rfl w.heap.size 3 i0 (.int .i64 0) 1 Tryz.underlying29 hi hz0 hz1 .i64 .i64 _ _ qs.length rfl rfl rfl rfl (by rw[hz2];omega) (by unfold maxLen;omega) hs2 ?_;intro w3 hown hgrow)
 rw[znt] at hown
 have b3:Below w.heap.size w w3:=b2.grown hgrow hs2 (fun k e=>by cases e)
 obtain⟨ub,hub⟩:∃ ub,ub=w2.heap.size:=⟨_,rfl⟩
 rw[← hub] at hown ⊢
 have hubw:w.heap.size≤ub:=by omega
 have HK:=z00 (show ∀ (j:Nat) (q:Np),qs[j]?=some q→NodeP (qs.map Np.nd) j q.nd from fun j q hq=>z0x HD.out (List.getElem?_eq_some_iff.1 hq).1 (by rw[List.getElem?_map,hq];rfl))
 have HF:=z00 (show ∀ x∈qs.map Np.nd,x.kids.length≤12 from fun x hx=>by
  obtain⟨q,hq,rfl⟩:=List.mem_map.1 hx
  obtain⟨j,hj⟩:=List.getElem?_of_mem hq
  exact z34 (HK.out j q hj).cnt)
 clear hgrow hub b2 hdn hs2 hi hz0 hz1 hz2
 go_loopw [5] (fun i wr=>∃ (j:Nat) (us:List Int),j≤qs.length∧i=.int .i64 (j:Int)∧wr.ownsRow w.heap.size tI 1 (.slice (some ⟨ub,0,none⟩) qs.length qs.length) qs.length (z02 us)∧Below w.heap.size w wr∧Hid (UsP (qs.map Np.nd) qs.length [] j 0 us)) (fun i _=>qs.length-(intOf i).toNat)
 case atStart=>exact⟨0,_,Nat.zero_le _,rfl,hown,b3,z00 (zbo _ _)⟩
 case round =>
  clear hown b3
  obtain⟨j,us,hj,rfl,ho,br,HU⟩:=hrel
  by_cases hlt:j<qs.length
  ·have hC1:(j:Int)<(qs.length:Int):=by omega
   have hA2:(0:Int)≤(j:Int):=by omega
   obtain⟨q,hq⟩:∃ q,qs[j]?=some q:=⟨_,List.getElem?_eq_getElem hlt⟩
   have HP:=z00 (HK.out j q hq)
   have hm12:q.nd.kids.length≤12:=z34 HP.out.cnt
   have HQ:=z00 hq
   clear hq
   go_wp2
   go_loopw [6] (fun i wr=>∃ (jj:Nat) (us:List Int),jj≤q.nd.kids.length∧i=.int .i64 (jj:Int)∧wr.ownsRow w.heap.size tI 1 (.slice (some ⟨ub,0,none⟩) qs.length qs.length) qs.length (z02 us)∧Below w.heap.size w wr∧Hid (UsP (qs.map Np.nd) qs.length q.nd.kids j jj us)) (fun i _=>q.nd.kids.length-(intOf i).toNat)
   case atStart=>exact⟨0,us,Nat.zero_le _,rfl,ho,br,z00 (zbf _ HU.out)⟩
   case round =>
    clear ho br HU
    obtain⟨jj,us,hjj,rfl,ho,br,HU⟩:=hrel
    obtain⟨b',hbb,hb2,d0,d1,d2,d3⟩:=(HH.out.1.below br).node HQ.out
    obtain rfl:b=b':=by injection hbb with hbb;injection hbb
    clear hbb d0 d1 d3
    by_cases hl2:jj<q.nd.kids.length
    ·obtain⟨z,ez⟩:∃ z,q.nd.kids[jj]?=some z:=⟨_,List.getElem?_eq_getElem hl2⟩
     have hzr:=HP.out.place jj z ez
     obtain⟨zn,rfl⟩:∃ zn:Nat,z=(zn:Int):=⟨z.toNat,by omega⟩
     obtain⟨kb,hkb,hkbl,ck⟩:=(HH.out.1.below br).kid HQ.out ez
     rw[hkb] at d2
     obtain⟨cz,ecz⟩:∃ cz,us[zn]?=some cz:=⟨_,List.getElem?_eq_getElem (by have:=HU.out.1;omega)⟩
     have cu:_=some (Value.int .i64 cz):=(ho.cellAt zn (by omega)).trans (by unfold z02;rw[List.getElem?_map,ecz];rfl)
     have hfew:=zg9 HU.out (by omega) ecz (by simpa using hn) HF.out hm12
     have hst:=ho.stored zn (.int .i64 (cz+1))
     have hul:=(ho.lt ub rfl).2
     have hfz:=ho.frozenAt zn
     have HS:=z00 (And.intro hst.1 (br.grown hst.2 br.size (fun k e=>by injection e with e;omega)))
     have HU2:=z00 (zg8 HU.out ez ecz)
     have hA5:(0:Int)≤(zn:Int):=by omega
     have hB5:(zn:Int)<(qs.length:Int):=by omega
     have hA6:(0:Int)≤(jj:Int):=by omega
     have hB6:(jj:Int)<(q.nd.kids.length:Int):=by omega
     clear ez ecz hst ho br
     go_wp2
     go_roundw
     case rel=>exact⟨jj+1,us.set zn (cz+1),by omega,by go_num,by have:=HS.out.1;rwa [show (z02 us).set zn (.int .i64 (cz+1))=z02 (us.set zn (cz+1)) by unfold z02;rw[List.map_set]] at this,HS.out.2,HU2⟩
     case measure=>simp[intOf];omega
    ·have hB6:¬ (jj:Int)<(q.nd.kids.length:Int):=by omega
     obtain rfl:jj=q.nd.kids.length:=by omega
     have HU2:=z00 (zem HU.out (show (qs.map Np.nd)[j]?=some q.nd by rw[List.getElem?_map,HQ.out];rfl))
     go_wp2
     go_roundw
     case rel=>exact⟨j+1,us,by omega,by go_num,ho,br,HU2⟩
     case measure=>simp[intOf];omega
  ·have hC1:¬ (j:Int)<(qs.length:Int):=by omega
   obtain rfl:j=qs.length:=by omega
   have HA:=z00 (show ∀ i,i<qs.length→us[i]?=some ((z5m i (qs.map Np.nd):Nat):Int) from fun i h9=>by
    have:=HU.out.2 i h9
    rw[List.take_of_length_le (by simp)] at this
    simpa[occ] using this)
   have hul:=(ho.lt ub rfl).2
   have HO:=z00 ho
   clear ho HU
   go_wp2
   rename_i wE
   go_loop [7] (fun i=>∃ i':Nat,i'<qs.length∧i=.int .i64 (i':Int)∧Hid (∀ m,m<i'→z5m m (qs.map Np.nd)=1)) (fun i=>qs.length-(intOf i).toNat)
   case atStart=>exact⟨0,by omega,rfl,z00 fun m h9=>by omega⟩
   case round =>
    obtain⟨i,hi,rfl,HQ⟩:=hrel
    by_cases hil:i+1<qs.length
    ·have hD1:(i:Int)+1<(qs.length:Int):=by omega
     have hD2:(i:Int)<(qs.length:Int):=by omega
     have hA7:(0:Int)≤(i:Int):=by omega
     have ci:=(HO.out.cellAt i (by omega)).trans (show (z02 us)[i]?=some (.int .i64 ((z5m i (qs.map Np.nd):Nat):Int)) by unfold z02;rw[List.getElem?_map,HA.out i (by omega)];rfl)
     obtain⟨oc,hoc⟩:∃ oc,oc=z5m i (qs.map Np.nd):=⟨_,rfl⟩
     rw[← hoc] at ci
     have HOc:=z00 hoc
     clear hoc
     by_cases h1:oc=1
     ·have hne1:((oc:Int) != 1)=false:=by simp[h1]
      have H1:=z00 h1
      clear h1
      go_wp2
      go_round
      case rel=>exact⟨i+1,by omega,by go_num,z00 fun m h9=>by
       by_cases e:m=i
       ·subst e;exact HOc.out.symm.trans H1.out
       ·exact HQ.out m (by omega)⟩
      case measure=>simp[intOf];omega
     ·have hne1:((oc:Int) != 1)=true:=by simp;omega
      have HN:=z00 (show ¬ TreeP (qs.map Np.nd) from fun e=>h1 (HOc.out.trans (e.used i (by simpa using hil))))
      clear h1
      go_wp2
      go_ret
      exact z0o HN.out br
    ·have hD1:¬ (i:Int)+1<(qs.length:Int):=by omega
     go_wp2
     go_ret
     exact z12 ⟨by simpa using hn1,by simpa using hn,⟨ql.nd,by rw[List.length_map,List.getElem?_map,HL.out.1];rfl,HL.out.2.symm.trans H22.out⟩,by simpa using HD.out,fun m hm=>HQ.out m (by simp at hm;omega)⟩ br
theorem zo0 (hNode:z78 142):∀ (B:Nat) (W:World) (a:Option Addr) (c:Nat) (qs:List Np),Nds W B a c qs→(∀ q∈qs,SafeNd q.nd)→qs.length≤300→Calls Tryz.prog 24 #[.slice a qs.length c] W fun e w'=>zag (TreeP (qs.map Np.nd)) W e w':=zu9 hNode
end Go.Proofs.YtekebloinobjnaaGreatDoor
