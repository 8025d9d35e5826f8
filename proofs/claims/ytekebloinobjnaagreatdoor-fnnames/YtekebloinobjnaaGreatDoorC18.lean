/- Texts of one proof, laid together: TrI1, Res4, TrI2, TrI3. -/
import Derived.Test.YtekebloinobjnaaGreatDoorC17
import Derived.Test.YtekebloinobjnaaGreatDoorC00
import Derived.Deep.MidRow
set_option maxHeartbeats 16000000
set_option maxRecDepth 100000
namespace Go.Proofs.YtekebloinobjnaaGreatDoor
open Go.RowKit
theorem zu3 {w:World} {B:Nat} {a:Option Addr} {c:Nat} {qs:List Np} (h:Nds w B a c qs) (hD:z79 (qs.map Np.nd) qs.length) (hn1:1≤qs.length) (hn:qs.length≤300):Calls Tryz.prog 109 #[.slice a qs.length c] w (zag (∀ i,i+1<qs.length→z5m i (qs.map Np.nd)=1) w):=by
 obtain⟨b,rfl⟩:=z0s h.row (by omega)
 have HH:=z00 (And.intro h trivial)
 have HD:=z00 hD
 clear h hD
 go_enter Tryz.func109,Tryz.ntmps109
 obtain⟨i0,hi,hz0,hz1,hz2⟩:=info_parts z29
 go_wp2_with (at_make;refine wpList_make_full _ rfl _ _ 29 rfl w.heap.size 3 i0 (.int .i64 0) 1 Tryz.underlying29 hi hz0 hz1 .i64 .i64 _ _ qs.length rfl rfl rfl rfl (by rw[hz2];omega) (by unfold maxLen;omega) (Nat.le_refl _) ?_;intro w3 hown hgrow)
 rw[znt] at hown
 have b3:Below w.heap.size w w3:=(Below.refl _ _).grown hgrow (Nat.le_refl _) (fun k e=>by cases e)
 obtain⟨ub,hub⟩:∃ ub,ub=w.heap.size:=⟨_,rfl⟩
 rw[← hub] at hown ⊢
 have hubw:w.heap.size≤ub:=by omega
 have HK:=z00 (show ∀ (j:Nat) (q:Np),qs[j]?=some q→NodeP (qs.map Np.nd) j q.nd from fun j q hq=>z0x HD.out (List.getElem?_eq_some_iff.1 hq).1 (by rw[List.getElem?_map,hq];rfl))
 have HF:=z00 (show ∀ x∈qs.map Np.nd,x.kids.length≤12 from fun x hx=>by
  obtain⟨q,hq,rfl⟩:=List.mem_map.1 hx
  obtain⟨j,hj⟩:=List.getElem?_of_mem hq
  exact z34 (HK.out j q hj).cnt)
 clear hgrow hub hi hz0 hz1 hz2
 go_loopw [15] (fun i wr=>∃ (j:Nat) (us:List Int),j≤qs.length∧i=.int .i64 (j:Int)∧wr.ownsRow w.heap.size tI 1 (.slice (some ⟨ub,0,none⟩) qs.length qs.length) qs.length (z02 us)∧Below w.heap.size w wr∧Hid (UsP (qs.map Np.nd) qs.length [] j 0 us)) (fun i _=>qs.length-(intOf i).toNat)
 case atStart=>exact⟨0,_,Nat.zero_le _,rfl,z01 hown hubw,b3,z00 (zbo _ _)⟩
 case round =>
  clear hown b3
  obtain⟨j,us,hj,rfl,ho,br,HU⟩:=hrel
  by_cases hlt:j<qs.length
  ·have hC1:(j:Int)<(qs.length:Int):=by omega
   have hA2:(0:Int)≤(j:Int):=by omega
   obtain⟨q,hq⟩:∃ q,qs[j]?=some q:=⟨_,List.getElem?_eq_getElem hlt⟩
   have HP:=z00 (HK.out j q hq)
   have hm12:q.nd.kids.length≤12:=z34 HP.out.cnt
   have HQ:=z00 hq
   clear hq
   obtain⟨b',hbb,hb2,d0,d1,d2,d3⟩:=(HH.out.1.below br).node HQ.out
   obtain rfl:b=b':=by injection hbb with hbb;injection hbb
   clear hbb
   go_wp2
   go_loopw [22] (fun i wr=>∃ (jj:Nat) (us:List Int),jj≤q.nd.kids.length∧i=.int .i64 (jj:Int)∧wr.ownsRow w.heap.size tI 1 (.slice (some ⟨ub,0,none⟩) qs.length qs.length) qs.length (z02 us)∧Below w.heap.size w wr∧Hid (UsP (qs.map Np.nd) qs.length q.nd.kids j jj us)) (fun i _=>q.nd.kids.length-(intOf i).toNat)
   case atStart=>exact⟨0,us,Nat.zero_le _,rfl,ho.alloc _,br.alloc br.size _,z00 (zbf _ HU.out)⟩
   case round =>
    clear ho br HU
    obtain⟨jj,us,hjj,rfl,ho,br,HU⟩:=hrel
    by_cases hl2:jj<q.nd.kids.length
    ·obtain⟨z,ez⟩:∃ z,q.nd.kids[jj]?=some z:=⟨_,List.getElem?_eq_getElem hl2⟩
     have hzr:=HP.out.place jj z ez
     obtain⟨zn,rfl⟩:∃ zn:Nat,z=(zn:Int):=⟨z.toNat,by omega⟩
     obtain⟨kb,hkb,hkbl,ck⟩:=(HH.out.1.below br).kid HQ.out ez
     rw[hkb]
     obtain⟨cz,ecz⟩:∃ cz,us[zn]?=some cz:=⟨_,List.getElem?_eq_getElem (by have:=HU.out.1;omega)⟩
     have cu:_=some (Value.int .i64 cz):=(ho.cellAt zn (by omega)).trans (by unfold z02;rw[List.getElem?_map,ecz];rfl)
     have hfew:=zg9 HU.out (by omega) ecz (by simpa using hn) HF.out hm12
     have hst:=ho.stored zn (.int .i64 (cz+1))
     have hul:=(ho.lt ub rfl).2
     have hfz:=ho.frozenAt zn
     have HS:=z00 (And.intro hst.1 (br.grown hst.2 br.size (fun k e=>by injection e with e;omega)))
     have HU2:=z00 (zg8 HU.out ez ecz)
     have hA5:(0:Int)≤(zn:Int):=by omega
     have hB5:(zn:Int)<(qs.length:Int):=by omega
     have hA6:(0:Int)≤(jj:Int):=by omega
     have hB6:(jj:Int)<(q.nd.kids.length:Int):=by omega
     clear ez ecz hst ho br
     go_wp2
     go_roundw
     case rel=>exact⟨jj+1,us.set zn (cz+1),by omega,by go_num,by have:=HS.out.1;rwa [show (z02 us).set zn (.int .i64 (cz+1))=z02 (us.set zn (cz+1)) by unfold z02;rw[List.map_set]] at this,HS.out.2,HU2⟩
     case measure=>simp[intOf];omega
    ·have hB6:¬ (jj:Int)<(q.nd.kids.length:Int):=by omega
     obtain rfl:jj=q.nd.kids.length:=by omega
     have HU2:=z00 (zem HU.out (show (qs.map Np.nd)[j]?=some q.nd by rw[List.getElem?_map,HQ.out];rfl))
     go_wp2
     go_roundw
     case rel=>exact⟨j+1,us,by omega,by go_num,ho,br,HU2⟩
     case measure=>simp[intOf];omega
  ·have hC1:¬ (j:Int)<(qs.length:Int):=by omega
   obtain rfl:j=qs.length:=by omega
   have HA:=z00 (show ∀ i,i<qs.length→us[i]?=some ((z5m i (qs.map Np.nd):Nat):Int) from fun i h9=>by
    have:=HU.out.2 i h9
    rw[List.take_of_length_le (by simp)] at this
    simpa[occ] using this)
   have hul:=(ho.lt ub rfl).2
   have HO:=z00 ho
   clear ho HU
   go_wp2
   rename_i wE
   go_loop [40] (fun i=>∃ i':Nat,i'<qs.length∧i=.int .i64 (i':Int)∧Hid (∀ m,m<i'→z5m m (qs.map Np.nd)=1)) (fun i=>qs.length-(intOf i).toNat)
   case atStart=>exact⟨0,by omega,rfl,z00 fun m h9=>by omega⟩
   case round =>
    obtain⟨i,hi,rfl,HQ⟩:=hrel
    by_cases hil:i+1<qs.length
    ·have hD1:(i:Int)<(qs.length:Int)-1:=by omega
     have hD2:(i:Int)<(qs.length:Int):=by omega
     have hA7:(0:Int)≤(i:Int):=by omega
     have ci:=(HO.out.cellAt i (by omega)).trans (show (z02 us)[i]?=some (.int .i64 ((z5m i (qs.map Np.nd):Nat):Int)) by unfold z02;rw[List.getElem?_map,HA.out i (by omega)];rfl)
     obtain⟨oc,hoc⟩:∃ oc,oc=z5m i (qs.map Np.nd):=⟨_,rfl⟩
     rw[← hoc] at ci
     have HOc:=z00 hoc
     clear hoc
     by_cases h1:oc=1
     ·have hne1:((oc:Int) != 1)=false:=by simp[h1]
      have H1:=z00 h1
      clear h1
      go_wp2
      go_round
      case rel=>exact⟨i+1,by omega,by go_num,z00 fun m h9=>by
       by_cases e:m=i
       ·subst e;exact HOc.out.symm.trans H1.out
       ·exact HQ.out m (by omega)⟩
      case measure=>simp[intOf];omega
     ·have hne1:((oc:Int) != 1)=true:=by simp;omega
      have HN:=z00 (show ¬ (∀ i,i+1<qs.length→z5m i (qs.map Np.nd)=1) from fun e=>h1 (HOc.out.trans (e i hil)))
      clear h1
      go_wp2
      go_ret
      exact z0o HN.out br
    ·have hD1:¬ (i:Int)<(qs.length:Int)-1:=by omega
     go_wp2
     go_ret
     exact z12 (fun m hm=>HQ.out m (by omega)) br

theorem zki {es:List Nat} {n d:Nat} (h:es.length<n):(es.map (fun d:Nat=>(d:Int))++List.replicate (n-es.length) 0).set es.length ((d:Int)+1)=(es++[d+1]).map (fun d:Nat=>(d:Int))++List.replicate (n-(es.length+1)) 0:=by
 rw[show n-es.length=(n-(es.length+1))+1 by omega,List.replicate_succ]
 simp
def DpI (ns:List Nd) (n:Nat) (w:World) (e:Ending) (w':World):Prop:=∃ (v:Value) (b:Bool),e=.returned (.tuple #[v,.bool b])∧(b=true↔z79 ns n)∧Below w.heap.size w w'∧(b=true→∃ es,z5q ns n es∧w'.ownsRow w.heap.size tI 1 v n (z02 (es.map (fun d:Nat=>(d:Int)))))
theorem zb5 {w:World} {B:Nat} {a:Option Addr} {c n:Nat} {qs:List Np} (hNode:z78 143) (h:Nds w B a c qs) (hS:∀ q∈qs,SafeNd q.nd) (hn1:1≤n) (hnq:n≤qs.length) (hn:qs.length≤300):Calls Tryz.prog 106 #[.slice a qs.length c,.int .i64 (n:Int)] w (DpI (qs.map Np.nd) n w):=by
 obtain⟨b,rfl⟩:=z0s h.row (by omega)
 have HH:=z00 h
 have HS:=z00 hS
 clear h hS
 go_enter Tryz.func106,Tryz.ntmps106
 obtain⟨i0,hi,hz0,hz1,hz2⟩:=info_parts z29
 go_wp2_with (at_make;refine wpList_make_full _ rfl _ _ 29 rfl w.heap.size 3 i0 (.int .i64 0) 1 Tryz.underlying29 hi hz0 hz1 .i64 .i64 _ _ n rfl rfl rfl rfl (by rw[hz2];omega) (by unfold maxLen;omega) (Nat.le_refl _) ?_;intro w3 hown hgrow)
 rw[znt] at hown
 have b3:Below w.heap.size w w3:=(Below.refl _ _).grown hgrow (Nat.le_refl _) (fun k e=>by cases e)
 obtain⟨ub,hub⟩:∃ ub,ub=w.heap.size:=⟨_,rfl⟩
 rw[← hub] at hown ⊢
 have hubw:w.heap.size≤ub:=by omega
 clear hgrow hub hi hz0 hz1 hz2
 go_loopw [14] (fun i wr=>∃ (j:Nat) (us:List Int),j≤n∧i=.int .i64 (j:Int)∧wr.ownsRow w.heap.size tI 1 (.slice (some ⟨ub,0,none⟩) n n) n (z02 us)∧Below w.heap.size w wr∧Hid (∃ es,z5q (qs.map Np.nd) j es∧us=es.map (fun d:Nat=>(d:Int))++List.replicate (n-es.length) 0)) (fun i _=>n-(intOf i).toNat)
 case atStart=>exact⟨0,_,Nat.zero_le _,rfl,z01 hown hubw,b3,z00 ⟨[],rfl,by simp⟩⟩
 case round =>
  clear hown b3
  obtain⟨j,us,hj,rfl,ho,br,HU⟩:=hrel
  by_cases hlt:j<n
  ·have hC1:(j:Int)<(n:Int):=by omega
   have hC2:(j:Int)<(qs.length:Int):=by omega
   have hA2:(0:Int)≤(j:Int):=by omega
   obtain⟨q,hq⟩:∃ q,qs[j]?=some q:=⟨_,List.getElem?_eq_getElem (by omega)⟩
   have hN:=hNode _ _ _ _ _ _ _ (HH.out.below br) hq (HS.out q (List.mem_of_getElem? hq)) hn
   have HQ:=z00 (And.intro hq (show (qs.map Np.nd)[j]?=some q.nd by rw[List.getElem?_map,hq];rfl))
   have HO:=z00 ho
   have HR:=z00 br
   have hsz:=br.size
   clear hq ho br
   by_cases hP:NodeP (qs.map Np.nd) j q.nd
   ·have HP:=z00 hP
    clear hP
    go_wp2_with fail
    refine hN.mono ?_
    rintro e w2 h9
    obtain⟨rfl,b2⟩:=h9.yes HP.out
    clear hN h9
    have HO2:=z00 (z07 HO.out b2)
    have HR2:=z00 (HR.out.trans (b2.mono hsz))
    obtain⟨es,he,hus⟩:=HU.out
    have HE:=z00 (And.intro he hus)
    have HEl:=z00 (z3m he)
    have HE14:=z00 (z6g he)
    clear he hus b2 HU
    obtain⟨b',hbb,hb2,d0,d1,d2,d3⟩:=(HH.out.below HR2.out).node HQ.out.1
    obtain rfl:b=b':=by injection hbb with hbb;injection hbb
    have hm12:q.nd.kids.length≤12:=z34 HP.out.cnt
    have hul:=(HO2.out.lt ub rfl).2
    clear hbb
    go_wp2
    go_loopw [8,27] (fun d i wr=>∃ jj m:Nat,jj≤q.nd.kids.length∧m≤14∧i=.int .i64 (jj:Int)∧d=.int .i64 (m:Int)∧w2=wr∧Hid (m=z94 es (q.nd.kids.take jj))) (fun _ i _=>q.nd.kids.length-(intOf i).toNat)
    case atStart=>exact⟨0,0,Nat.zero_le _,Nat.zero_le _,rfl,rfl,rfl,z00 rfl⟩
    case round =>
     obtain⟨jj,m,hjj,hm14,rfl,rfl,rfl,HM⟩:=hrel
     by_cases hl2:jj<q.nd.kids.length
     ·obtain⟨z,ez⟩:∃ z,q.nd.kids[jj]?=some z:=⟨_,List.getElem?_eq_getElem hl2⟩
      have hzr:=HP.out.place jj z ez
      obtain⟨zn,rfl⟩:∃ zn:Nat,z=(zn:Int):=⟨z.toNat,by omega⟩
      obtain⟨dz,edz⟩:∃ dz,es[zn]?=some dz:=⟨_,List.getElem?_eq_getElem (by have:=HEl.out;omega)⟩
      have hdz:=(HE14.out dz (List.mem_of_getElem? edz)).2
      obtain⟨kb,hkb,hkbl,ck⟩:=(HH.out.below HR2.out).kid HQ.out.1 ez
      rw[hkb]
      have cz:w2.cell? ⟨ub,zn,none⟩=some (.int .i64 (dz:Int)):=(HO2.out.cellAt zn (by omega)).trans (by unfold z02;rw[HE.out.2,List.getElem?_map,List.getElem?_append_left (by rw[List.length_map,HEl.out];omega),List.getElem?_map,edz];rfl)
      have HMn:=z00 (zc7 ez edz)
      have hA5:(0:Int)≤(zn:Int):=by omega
      have hB5:(zn:Int)<(n:Int):=by omega
      have hA6:(0:Int)≤(jj:Int):=by omega
      have hB6:(jj:Int)<(q.nd.kids.length:Int):=by omega
      clear ez edz hzr
      by_cases hmd:m<dz
      ·have hmx:max (m:Int) (dz:Int)=(dz:Int):=by omega
       have hmd1:(m:Int)<(dz:Int):=by omega
       go_wp2
       go_roundw
       case rel=>exact⟨jj+1,dz,by omega,by omega,by go_num,by go_num,trivial,z00 (by have h1:=HMn.out;have h2:=HM.out;omega)⟩
       case measure=>simp[intOf];omega
      ·have hmx:max (m:Int) (dz:Int)=(m:Int):=by omega
       have hmd1:¬ (m:Int)<(dz:Int):=by omega
       go_wp2
       go_roundw
       case rel=>exact⟨jj+1,m,by omega,by omega,by go_num,by go_num,trivial,z00 (by have h1:=HMn.out;have h2:=HM.out;omega)⟩
       case measure=>simp[intOf];omega
     ·have hB6:¬ (jj:Int)<(q.nd.kids.length:Int):=by omega
      have HMa:=z00 (show m=z94 es q.nd.kids by have h1:=HM.out;rw[List.take_of_length_le (by omega)] at h1;exact h1)
      by_cases h14:m<14
      ·have h15:¬ (14:Int)≤(m:Int):=by omega
       have hst:=HO2.out.stored j (.int .i64 ((m:Int)+1))
       have hfz:=HO2.out.frozenAt j
       have hcj:∃ v,w2.cell? ⟨ub,j,none⟩=some v:=⟨_,(HO2.out.cellAt j (by omega)).trans (List.getElem?_eq_getElem (by rw[HO2.out.1];omega))⟩
       obtain⟨vj,hvj⟩:=hcj
       have HS2:=z00 (And.intro hst.1 (HR2.out.grown hst.2 HR2.out.size (fun k e=>by injection e with e;omega)))
       clear hst
       go_wp2
       go_roundw
       case rel=>exact⟨j+1,us.set j ((m:Int)+1),by omega,by go_num,by have:=HS2.out.1;rwa [show (z02 us).set j (.int .i64 ((m:Int)+1))=z02 (us.set j ((m:Int)+1)) by unfold z02;rw[List.map_set]] at this,HS2.out.2,z00 ⟨es++[m+1],⟨es,q.nd,HE.out.1,HQ.out.2,HP.out,by have:=HMa.out;omega,by rw[HMa.out]⟩,by
        have h1:=zki (es:=es) (n:=n) (d:=m) (by rw[HEl.out];omega)
        rw[HEl.out] at h1
        rw[HE.out.2,HEl.out,h1,List.length_append,HEl.out]
        rfl⟩⟩
       case measure=>simp[intOf];omega
      ·have h15:(14:Int)≤(m:Int):=by omega
       have HN:=z00 (show ¬ z79 (qs.map Np.nd) n from fun e=>by
        have h1:=(z8i HE.out.1 HQ.out.2 (z8k e (show j+1≤n by omega))).2
        have h2:=HMa.out
        omega)
       go_wp2
       go_ret2
       exact⟨_,false,rfl,by simp[HN.out],HR2.out,fun e=>by cases e⟩
   ·have HP:=z00 hP
    clear hP
    go_wp2_with fail
    refine hN.mono ?_
    rintro e w2 h9
    obtain⟨rfl,b2⟩:=h9.no HP.out
    have HN:=z00 (show ¬ z79 (qs.map Np.nd) n from fun e=>HP.out (z0x e (by omega) HQ.out.2))
    clear hN h9
    go_wp2
    go_ret2
    exact⟨_,false,rfl,by simp[HN.out],HR.out.trans (b2.mono hsz),fun e=>by cases e⟩
  ·have hC1:¬ (j:Int)<(n:Int):=by omega
   obtain rfl:n=j:=by omega
   have HY:=z00 (show z79 (qs.map Np.nd) n by obtain⟨es,h1,-⟩:=HU.out;exact⟨es,h1⟩)
   have HV:=z00 (show ∃ es,z5q (qs.map Np.nd) n es∧wr.ownsRow w.heap.size tI 1 (.slice (some ⟨ub,0,none⟩) n n) n (z02 (es.map (fun d:Nat=>(d:Int)))) by
    obtain⟨es,h1,h2⟩:=HU.out
    rw[z3m h1,Nat.sub_self,List.replicate_zero,List.append_nil] at h2
    exact⟨es,h1,h2 ▸ ho⟩)
   go_wp2
   go_ret2
   exact⟨_,true,rfl,by simp[HY.out],br,fun _=>HV.out⟩
theorem zo1 {w:World} {B:Nat} {a:Option Addr} {c:Nat} {qs:List Np} (hNode:z78 143) (h:Nds w B a c qs) (hS:∀ q∈qs,SafeNd q.nd) (hn1:1≤qs.length) (hn:qs.length≤300):Calls Tryz.prog 106 #[.slice a qs.length c,.int .i64 (qs.length:Int)] w (DpI (qs.map Np.nd) qs.length w):=zb5 hNode h hS hn1 (Nat.le_refl _) hn
theorem zuh (hNode:z78 143) (B:Nat) (w:World) (a:Option Addr) (c:Nat) (qs:List Np) (h:Nds w B a c qs) (hS:∀ q∈qs,SafeNd q.nd) (hn:qs.length≤300):Calls Tryz.prog 78 #[.slice a qs.length c] w fun e w'=>zag (TreeP (qs.map Np.nd)) w e w':=by
 by_cases h0:qs.length=0
 ·have HN:=z00 (show ¬ TreeP (qs.map Np.nd) from fun e=>by have:=e.least;simp at this;omega)
  have h00:((qs.length:Int)==0)=true:=by simp;exact List.eq_nil_of_length_eq_zero h0
  clear h hS h0
  go_enter Tryz.func78,Tryz.ntmps78
  go_wp2
  go_ret
  exact z0o HN.out (Below.refl _ _)
 have hn1:1≤qs.length:=by omega
 have h00:((qs.length:Int)==0)=false:=by rw[beq_eq_false_iff_ne];omega
 have h300:¬ (300:Int)<(qs.length:Int):=by omega
 clear h0
 obtain⟨ql,hql⟩:∃ ql,qs[qs.length-1]?=some ql:=⟨_,List.getElem?_eq_getElem (by omega)⟩
 obtain⟨b,rfl,hb,c0,-,-,-⟩:=h.node hql
 have hA1:(0:Int)≤(qs.length:Int)-1:=by omega
 have hB1:(qs.length:Int)-1<(qs.length:Int):=by omega
 have hT1:((qs.length:Int)-1).toNat=qs.length-1:=by omega
 obtain⟨kl,hkl⟩:∃ kl,kl=ql.nd.kind:=⟨_,rfl⟩
 rw[← hkl] at c0
 have HL:=z00 (And.intro hql hkl)
 clear hql hkl
 by_cases h22:kl=22
 case neg =>
  have hne:(kl != 22)=true:=by simpa using h22
  have HN:=z00 (show ¬ TreeP (qs.map Np.nd) from fun e=>by
   obtain⟨x,h1,h2⟩:=e.last
   rw[List.length_map,List.getElem?_map,HL.out.1] at h1
   injection h1 with h1
   have h3:=HL.out.2
   rw[show ql.nd=x from h1,h2] at h3
   exact h22 h3)
  clear h hS h22
  go_enter Tryz.func78,Tryz.ntmps78
  go_wp2
  go_ret
  exact z0o HN.out (Below.refl _ _)
 have hne:(kl != 22)=false:=by simp[h22]
 have qD:=zo1 hNode h hS hn1 hn
 have H22:=z00 h22
 have HH:=z00 h
 clear h hS h22
 by_cases hD:z79 (qs.map Np.nd) qs.length
 case neg =>
  have HN:=z00 (show ¬ TreeP (qs.map Np.nd) from fun e=>hD (by have:=e.deep;rwa [List.length_map] at this))
  have HD:=z00 hD
  clear hD
  go_enter Tryz.func78,Tryz.ntmps78
  go_wp2_with fail
  refine qD.mono ?_
  rintro e w2 ⟨v,bb,rfl,hd,b2,-⟩
  obtain rfl:bb=false:=by
   cases bb
   ·rfl
   ·exact absurd (hd.1 rfl) HD.out
  clear hd qD
  go_wp2
  go_ret
  exact z0o HN.out b2
 have HD:=z00 hD
 have qE:=fun W (hW:Below w.heap.size w W)=>zu3 (HH.out.below hW) hD hn1 hn
 clear hD
 have HT:=z00 (show TreeP (qs.map Np.nd)↔(∀ i,i+1<qs.length→z5m i (qs.map Np.nd)=1) from
  ⟨fun e i hi=>e.used i (by simpa using hi),fun e=>⟨by simpa using hn1,by simpa using hn,⟨ql.nd,by rw[List.length_map,List.getElem?_map,HL.out.1];rfl,HL.out.2.symm.trans H22.out⟩,by simpa using HD.out,fun m hm=>e m (by simpa using hm)⟩⟩)
 go_enter Tryz.func78,Tryz.ntmps78
 go_wp2_with fail
 refine qD.mono ?_
 rintro e w2 ⟨v,bb,rfl,hd,b2,-⟩
 obtain rfl:bb=true:=hd.2 HD.out
 clear hd qD
 go_wp2_with fail
 refine(qE _ b2).mono ?_
 rintro e w4 ⟨b4,rfl,hb4,bel4⟩
 have HB4:=z00 (hb4.trans HT.out.symm)
 have HB5:=z00 (b2.trans (bel4.mono b2.size))
 clear hb4 bel4 b2 qE
 go_wp2
 go_ret
 exact⟨b4,rfl,HB4.out,HB5.out⟩
end Go.Proofs.YtekebloinobjnaaGreatDoor
