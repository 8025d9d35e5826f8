/- Texts of one proof, laid together: MbS, MbJ. -/
import Derived.Test.YtekebloinobjnaaGreatDoorC33
import Derived.Test.YtekebloinobjnaaGreatDoorC39
import Derived.Test.YtekebloinobjnaaGreatDoorC35
import Derived.Laws.AppendOwnNone
set_option maxHeartbeats 16000000
set_option maxRecDepth 100000
namespace Go.Proofs.YtekebloinobjnaaGreatDoor
open Go.RowKit
def zc3 (ns:List Nd) (z:Nat):Prop:=∃ (p:Nat) (x y:Nd),ns[p]?=some x∧(x.kind=22∨x.kind=21)∧(z:Int)∈x.kids∧ns[z]?=some y∧y.kind≠19
def zu7 (ns:List Nd) (w:World) (e:Ending) (w':World):Prop:=∃ us:List Nat,(∀ z∈us,zc3 ns z)∧us.length≤300∧z7u (z1d us) tI w e w'
theorem zm7 (hTree:zbz 24) {w:World} {B:Nat} {a:Option Addr} {c:Nat} {qs:List Np} (h:Nds w B a c qs) (hS:∀ q∈qs,SafeNd q.nd) (hT:TreeP (qs.map Np.nd)):Calls Tryz.prog 36 #[.slice a qs.length c] w (zu7 (qs.map Np.nd) w):=by
 obtain⟨i0,hi,hz0,hz1,hz2⟩:=info_parts z29
 obtain⟨i1,hj,hy0,hy1,hy2⟩:=info_parts zbt
 have hn:qs.length≤300:=by have:=hT.most;simpa using this
 have hn1:1≤qs.length:=by have:=hT.least;simpa using this
 have hDn:z2r (qs.map Np.nd) qs.length:=by have:=z18 hT;simpa using this
 have h12:∀ q∈qs,q.nd.kids.length≤12:=fun q hq=>by
  obtain⟨j,hj⟩:=List.getElem?_of_mem hq
  exact z34 (z0x hT.deep (by have:=(List.getElem?_eq_some_iff.1 hj).1;simpa using this) (show (qs.map Np.nd)[j]?=some q.nd by rw[List.getElem?_map,hj];rfl)).cnt
 have qT:=fun W (hW:Below w.heap.size w W)=>hTree B W a c qs (h.below hW) hS hn
 have B0:Below w.heap.size w (w.alloc (.cells #[] tI)):=(Below.refl _ _).alloc (Nat.le_refl _) _
 have HH:=z00 h
 have HT:=z00 hT
 have HD:=z00 hDn
 have H12:=z00 h12
 obtain⟨a0,rfl⟩:=z0s h.row (by omega)
 clear h hS hT h12 hDn
 go_enter Tryz.func36,Tryz.ntmps36
 go_wp2_with fail
 refine(qT _ B0).mono ?_
 rintro e w2 h9
 obtain⟨rfl,b2⟩:=h9.yes HT.out
 have hown0:(w.alloc (.cells #[] tI)).ownsRow w.heap.size tI 1 (.slice (some ⟨w.heap.size,0,none⟩) 0 0) 0 []:=World.ownsRow_made w #[] 0 (Nat.le_refl _) (by decide) rfl
 have o2:=z07 hown0 b2
 have B2:=B0.trans (b2.mono B0.size)
 have hs2:=B2.size
 clear qT h9 b2 hown0
 go_wp2_with (at_make;refine wpList_make_full _ rfl _ _ 64 rfl w2.heap.size 4 i1 (.bool false) 1 Tryz.underlying64 hj hy0 hy1 .i64 .i64 _ _ qs.length rfl rfl rfl rfl (by rw[hy2];omega) (by unfold maxLen;omega) (Nat.le_refl _) ?_;intro w3 hown hgrow)
 rw[zkh] at hown
 have b3:Below w2.heap.size w2 w3:=(Below.refl _ _).grown hgrow (Nat.le_refl _) (fun k e=>by cases e)
 have o3:=z07 o2 b3
 have B3:=B2.trans (b3.mono hs2)
 obtain⟨ub,hub⟩:∃ ub,ub=w2.heap.size:=⟨_,rfl⟩
 rw[← hub] at hown ⊢
 have hubw:w.heap.size≤ub:=by omega
 have HO3:=z00 o3
 have HB3:=z00 B3
 have HI0:=z00 hown
 clear hgrow b3 o2 hub B2 hj hy0 hy1 hy2
 go_loopw [5] (fun i wr=>∃ (j:Nat) (bs:List Bool),j≤qs.length∧i=.int .i64 (j:Int)∧wr.ownsRow ub tB 1 (.slice (some ⟨ub,0,none⟩) qs.length qs.length) qs.length (z0b bs)∧Hid (w3.grownBy wr (some ub))∧Hid (bs.length=qs.length∧∀ i,Mk bs i→zc3 (qs.map Np.nd) i)) (fun i _=>qs.length-(intOf i).toNat)
 case atStart=>exact⟨0,_,Nat.zero_le _,rfl,hown,z00 (World.grownBy.refl _ _),z00 ⟨by simp,fun i h=>absurd h z89⟩⟩
 case round =>
  clear hown o3 B3
  obtain⟨j,bs,hj,rfl,ho,HG,HI⟩:=hrel
  have hubl:=(ho.lt ub rfl).2
  by_cases hlt:j<qs.length
  ·have hA:(0:Int)≤(j:Int):=by omega
   have hB1:(j:Int)<(qs.length:Int):=by omega
   obtain⟨q,hq⟩:∃ q,qs[j]?=some q:=⟨_,List.getElem?_eq_getElem hlt⟩
   have hm12:=H12.out q (List.mem_of_getElem? hq)
   have HX:=z00 (show (qs.map Np.nd)[j]?=some q.nd by rw[List.getElem?_map,hq];rfl)
   have HQ:=z00 hq
   clear hq
   go_wp2
   go_loopw [6] (fun i wr=>∃ (jj:Nat) (bs:List Bool),jj≤q.nd.kids.length∧i=.int .i64 (jj:Int)∧wr.ownsRow ub tB 1 (.slice (some ⟨ub,0,none⟩) qs.length qs.length) qs.length (z0b bs)∧Hid (w3.grownBy wr (some ub))∧Hid (bs.length=qs.length∧∀ i,Mk bs i→zc3 (qs.map Np.nd) i)) (fun i _=>q.nd.kids.length-(intOf i).toNat)
   case atStart=>exact⟨0,bs,Nat.zero_le _,rfl,ho,HG,HI⟩
   case round =>
    clear ho HG HI
    obtain⟨jj,bs,hjj,rfl,ho,HG,HI⟩:=hrel
    have hBr:=HB3.out.grown HG.out HB3.out.size (fun k e=>by injection e with e;omega)
    have HNr:=z00 (HH.out.below hBr)
    obtain⟨b',hbb,hb2,d0,d1,d2,d3⟩:=HNr.out.node HQ.out
    obtain rfl:a0=b':=by injection hbb with hbb;injection hbb
    obtain⟨kd,hkd⟩:∃ kd,kd=q.nd.kind:=⟨_,rfl⟩
    rw[← hkd] at d0
    have HKD:=z00 hkd
    clear hbb hkd hBr
    by_cases hl2:jj<q.nd.kids.length
    ·have hL:(jj:Int)<(q.nd.kids.length:Int):=by omega
     have hA4:(0:Int)≤(jj:Int):=by omega
     by_cases hkk:(kd==22)=true∨((kd==22)=false∧(kd==21)=true)
     ·obtain⟨z,ez⟩:∃ z,q.nd.kids[jj]?=some z:=⟨_,List.getElem?_eq_getElem hl2⟩
      have hzr:=HD.out j q.nd z hlt HX.out (List.mem_of_getElem? ez)
      obtain⟨zn,rfl⟩:∃ zn:Nat,z=(zn:Int):=⟨z.toNat,by omega⟩
      obtain⟨kb,hkb2,hkbl,ck⟩:=HNr.out.kid HQ.out ez
      rw[hkb2] at d2
      obtain⟨q2,hq2⟩:∃ q2,qs[zn]?=some q2:=⟨_,List.getElem?_eq_getElem (by omega)⟩
      obtain⟨b',hbb,-,f0,-,-,-⟩:=HNr.out.node hq2
      obtain rfl:a0=b':=by injection hbb with hbb;injection hbb
      obtain⟨kz,hkz⟩:∃ kz,kz=q2.nd.kind:=⟨_,rfl⟩
      rw[← hkz] at f0
      obtain⟨bz,hbz⟩:∃ bz,bs[zn]?=some bz:=⟨_,List.getElem?_eq_getElem (by rw[HI.out.1];omega)⟩
      have cz:=(ho.cellAt zn (by omega)).trans (show (z0b bs)[zn]?=some (.bool bz) by unfold z0b;rw[List.getElem?_map,hbz];rfl)
      have hfz:=ho.frozenAt zn
      have hst:=ho.stored zn (.bool (kz != 19))
      have HS:=z00 hst
      have hub2:=(ho.lt ub rfl).2
      have HI2:=z00 (show (bs.set zn (kz != 19)).length=qs.length∧∀ i,Mk (bs.set zn (kz != 19)) i→zc3 (qs.map Np.nd) i from⟨by simpa using HI.out.1,fun i hm=>by
       by_cases e:zn=i
       ·subst e
        unfold Mk at hm
        rw[List.getElem?_set_self (by rw[HI.out.1];omega)] at hm
        have h19:(kz != 19)=true:=by injection hm
        refine⟨j,q.nd,q2.nd,HX.out,?_,List.mem_of_getElem? ez,by rw[List.getElem?_map,hq2];rfl,by rw[← hkz];simpa using h19⟩
        rw[← HKD.out]
        rcases hkk with h|⟨_,h⟩
        ·exact .inl (by simpa using h)
        ·exact .inr (by simpa using h)
       ·unfold Mk at hm
        rw[List.getElem?_set_ne e] at hm
        exact HI.out.2 i hm⟩)
      have hA3:(0:Int)≤(zn:Int):=by omega
      have hB3:(zn:Int)<(qs.length:Int):=by omega
      clear ez hst ho hbz hq2 hkz hbb d1 d3
      rcases hkk with hkk|⟨hk1,hkk⟩
      ·go_wp2
       go_region
       go_wp2
       go_roundw
       case rel=>exact⟨jj+1,bs.set zn (kz != 19),by omega,by go_num,by have:=HS.out.1;rw[show (z0b bs).set zn (.bool (kz != 19))=z0b (bs.set zn (kz != 19)) by unfold z0b;rw[List.map_set]] at this;exact this,z00 (z0w (z0w HG.out HS.out.2) (z0t ((Below.refl _ _).drew) _)),HI2⟩
       case measure=>simp[intOf];omega
      ·go_wp2
       go_region
       go_wp2
       go_roundw
       case rel=>exact⟨jj+1,bs.set zn (kz != 19),by omega,by go_num,by have:=HS.out.1;rw[show (z0b bs).set zn (.bool (kz != 19))=z0b (bs.set zn (kz != 19)) by unfold z0b;rw[List.map_set]] at this;exact this,z00 (z0w (z0w HG.out HS.out.2) (z0t ((Below.refl _ _).drew) _)),HI2⟩
       case measure=>simp[intOf];omega
     ·have hk1:(kd==22)=false:=by
       cases h:(kd==22)
       ·rfl
       ·exact absurd (.inl h) hkk
      have hk2:(kd==21)=false:=by
       cases h:(kd==21)
       ·rfl
       ·exact absurd (.inr ⟨hk1,h⟩) hkk
      clear hkk
      go_wp2
      go_roundw
      case rel=>exact⟨j+1,bs,by omega,by go_num,ho,HG,HI⟩
      case measure=>simp[intOf];omega
    ·have hL:¬ (jj:Int)<(q.nd.kids.length:Int):=by omega
     go_wp2
     go_roundw
     case rel=>exact⟨j+1,bs,by omega,by go_num,ho,HG,HI⟩
     case measure=>simp[intOf];omega
  ·have hB1:¬ (j:Int)<(qs.length:Int):=by omega
   obtain rfl:j=qs.length:=by omega
   have o4:=World.ownsRow.kept HO3.out HG.out (z0k HO3.out HI0.out (by decide))
   have B4:=HB3.out.grown HG.out HB3.out.size (fun k e=>by injection e with e;omega)
   have HB:=z00 ho
   have HBI:=z00 HI.out
   clear ho HG HO3 HB3 HI0 HI
   go_wp2
   go_loopw [3,7] (fun v i wr=>∃ j:Nat,j≤qs.length∧i=.int .i64 (j:Int)∧wr.ownsRow w.heap.size tI 1 v (z1d (z35 bs j)).length (z02 (z1d (z35 bs j)))∧Hid (wr.ownsRow ub tB 1 (.slice (some ⟨ub,0,none⟩) qs.length qs.length) qs.length (z0b bs))∧Hid (Below w.heap.size w wr)) (fun _ i _=>qs.length-(intOf i).toNat)
   case atStart=>exact⟨0,Nat.zero_le _,rfl,o4,HB,z00 B4⟩
   case round =>
    clear o4 B4 HB
    obtain⟨j,hj,rfl,ho,HB,HW⟩:=hrel
    obtain⟨ao,cc,rfl⟩:=z06 ho
    have hws:=HW.out.size
    have hpl:=zca bs j
    have hnl:=z1t (z35 bs j)
    by_cases hlt:j<qs.length
    ·have hA:(0:Int)≤(j:Int):=by omega
     have hB1:(j:Int)<(qs.length:Int):=by omega
     obtain⟨bj,hbj⟩:∃ bj,bs[j]?=some bj:=⟨_,List.getElem?_eq_getElem (by rw[HBI.out.1];exact hlt)⟩
     have cb:=(HB.out.cellAt j (by omega)).trans (show (z0b bs)[j]?=some (.bool bj) by unfold z0b;rw[List.getElem?_map,hbj];rfl)
     have HJ:=z00 hbj
     clear hbj
     cases bj with
     | false =>
       have HE:=z00 (zdv HJ.out)
       go_wp2
       go_roundw
       case rel=>exact⟨j+1,by omega,by go_num,by rw[HE.out];exact ho,HB,HW⟩
       case measure=>simp[intOf];omega
     | true =>
       have HE:=z00 (zc5 HJ.out)
       have HO:=z00 ho
       clear ho
       obtain⟨n1,hn1⟩:∃ n1,n1=(z1d (z35 bs j)).length:=⟨_,rfl⟩
       have HN1:=z00 hn1
       have hn2:n1≤300:=by omega
       rw[← hn1] at HO ⊢
       clear hn1 hnl
       go_wp2_with (at_builtin;refine z04 rfl _ _ 29 rfl w.heap.size 3 i0 _ 1 8 Tryz.underlying29 hi hz0 hz1 hz2 rfl (by decide) (.slice ao n1 cc) n1 (z02 (z1d (z35 bs j))) rfl (HO.out.alloc _) ⟨wr.heap.size,0,none⟩ 1 1 [.int .i64 (j:Int)] rfl rfl (cell_one_new _ _ _) (by simp[Value.oneCell']) (by unfold maxLen;omega) (by omega) (by simp;omega) ?_;intro v' w5 hown' hgrow5 hpl5;clear hpl5)
       have o5:=z0c hown' HN1.out
       have e5:z1d (z35 bs (j+1))=z1d (z35 bs j)++[(j:Int)]:=by rw[HE.out];simp[z1d]
       have b5:=World.ownsRow.kept (HB.out.alloc (.cells #[.int .i64 (j:Int)] tI)) hgrow5 (z0k (HB.out.alloc _) (HO.out.alloc (.cells #[.int .i64 (j:Int)] tI)) (by decide))
       have B5:=(HW.out.alloc (by omega) (.cells #[.int .i64 (j:Int)] tI)).grown hgrow5 (by simp;omega) (fun q hq=>(HO.out.lt q hq).1)
       rw[← e5] at o5
       clear hown' hgrow5
       go_wp2
       go_roundw
       case rel=>exact⟨j+1,by omega,by go_num,o5,z00 b5,z00 B5⟩
       case measure=>simp[intOf];omega
    ·have hB1:¬ (j:Int)<(qs.length:Int):=by omega
     obtain rfl:j=qs.length:=by omega
     clear hnl
     go_wp2
     go_ret
     exact⟨_,fun z hz=>HBI.out.2 z (zj8.1 hz).2,by omega,za8 HW.out ho⟩
open Go.RowKit Go.Lib Go.Sort
def z4k (ns:List Nd) (n:Nat):List Nat:=((ns.take n).filter fun x=>x.kind==21||x.kind==22).flatMap fun x=>x.kids.map Int.toNat
theorem zgo {ns:List Nd} {n:Nat} {x:Nd} (h:ns[n]?=some x) (hk:(x.kind==21||x.kind==22)=false):z4k ns (n+1)=z4k ns n:=by
 unfold z4k
 rw[List.take_add_one,h,List.filter_append]
 simp[hk]
theorem zfk {ns:List Nd} {n:Nat} {x:Nd} (h:ns[n]?=some x) (hk:(x.kind==21||x.kind==22)=true):z4k ns (n+1)=z4k ns n++x.kids.map Int.toNat:=by
 unfold z4k
 rw[List.take_add_one,h,List.filter_append,List.flatMap_append]
 simp[hk]
theorem z6t {ns:List Nd} {N z:Nat} (hD:z2r ns N) (hN:ns.length≤N):z∈z4k ns ns.length↔∃ (p:Nat) (x:Nd),ns[p]?=some x∧(x.kind=22∨x.kind=21)∧(z:Int)∈x.kids:=by
 unfold z4k
 rw[List.take_length,List.mem_flatMap]
 constructor
 ·rintro⟨x,hx,hz⟩
  obtain⟨h1,h2⟩:=List.mem_filter.1 hx
  obtain⟨p,hp⟩:=List.getElem?_of_mem h1
  obtain⟨y,hy,e⟩:=List.mem_map.1 hz
  have hpl:p<ns.length:=(List.getElem?_eq_some_iff.1 hp).1
  have:=hD p x y (by omega) hp hy
  refine⟨p,x,hp,by simpa[or_comm] using h2,?_⟩
  rw[← e,Int.toNat_of_nonneg (by omega)]
  exact hy
 ·rintro⟨p,x,hp,hk,hz⟩
  exact⟨x,List.mem_filter.2 ⟨List.mem_of_getElem? hp,by simpa[or_comm] using hk⟩,List.mem_map.2 ⟨(z:Int),hz,by omega⟩⟩
theorem zb7 {N:Nat}:∀ (ks:List Int),(∀ z∈ks,0≤z∧z<(N:Int))→z1d (ks.map Int.toNat)=ks
 | [],_=>rfl
 | z::ks,h=>by
   have h1:=zb7 ks (fun y hy=>h y (List.mem_cons_of_mem _ hy))
   have h2:=(h z List.mem_cons_self).1
   unfold z1d at h1 ⊢
   rw[List.map_cons,List.map_cons,h1]
   congr 1
   omega
theorem znn {ns:List Nd} {N:Nat} (hD:z2r ns N) (hN:ns.length=N):∀ z,z∈(z1d ((z4k ns ns.length).filter fun u=>!(z1l ns u==19))).mergeSort (fun x y=>decide (x≤y))↔∃ n:Nat,z=(n:Int)∧zc3 ns n:=fun z=>by
 rw[List.mem_mergeSort]
 unfold z1d
 rw[List.mem_map]
 constructor
 ·rintro⟨n,h,rfl⟩
  obtain⟨h1,h2⟩:=List.mem_filter.1 h
  obtain⟨p,x,hp,hk,hz⟩:=(z6t hD (by omega)).1 h1
  have hpl:p<ns.length:=(List.getElem?_eq_some_iff.1 hp).1
  have:=hD p x n (by omega) hp hz
  obtain⟨y,hy⟩:∃ y,ns[n]?=some y:=⟨_,List.getElem?_eq_getElem (by omega)⟩
  rw[z1w hy] at h2
  exact⟨n,rfl,p,x,y,hp,hk,hz,hy,by simpa using h2⟩
 ·rintro⟨n,rfl,p,x,y,hp,hk,hz,hy,h19⟩
  refine⟨n,List.mem_filter.2 ⟨(z6t hD (by omega)).2 ⟨p,x,hp,hk,hz⟩,?_⟩,rfl⟩
  rw[z1w hy]
  simpa using h19
def zrd (ns:List Nd) (w:World) (e:Ending) (w':World):Prop:=∃ zs:List Int,(∀ z,z∈zs↔∃ n:Nat,z=(n:Int)∧zc3 ns n)∧z7u zs tI w e w'
theorem zkw (hTree:zbz 78) {w:World} {B:Nat} {a:Option Addr} {c:Nat} {qs:List Np} (h:Nds w B a c qs) (hS:∀ q∈qs,SafeNd q.nd) (hT:TreeP (qs.map Np.nd)):Calls Tryz.prog 37 #[.slice a qs.length c] w (zrd (qs.map Np.nd) w):=by
 obtain⟨i0,hi,hz0,hz1,hz2⟩:=info_parts z29
 have hn:qs.length≤300:=by have:=hT.most;simpa using this
 have hn1:1≤qs.length:=by have:=hT.least;simpa using this
 have hDn:z2r (qs.map Np.nd) qs.length:=by have:=z18 hT;simpa using this
 have h12:∀ q∈qs,q.nd.kids.length≤12:=fun q hq=>by
  obtain⟨j,hj⟩:=List.getElem?_of_mem hq
  exact z34 (z0x hT.deep (by have:=(List.getElem?_eq_some_iff.1 hj).1;simpa using this) (show (qs.map Np.nd)[j]?=some q.nd by rw[List.getElem?_map,hj];rfl)).cnt
 have qT:=fun W (hW:Below w.heap.size w W)=>hTree B W a c qs (h.below hW) hS hn
 obtain⟨W0,hW0⟩:∃ W0,W0=w.alloc (.cells #[.slice a qs.length c] 24):=⟨_,rfl⟩
 have B0:Below w.heap.size w W0:=by rw[hW0];exact(Below.refl _ _).alloc (Nat.le_refl _) _
 have s0:W0.heap.size=w.heap.size+1:=by rw[hW0];simp
 have h0:=h.below B0
 have NW:NodeW qs w.heap.size a c W0:=by
  refine⟨?_,fun i q hq=>?_⟩
  ·rw[hW0];exact cell_one_new w _ _ 0 _ rfl
  ·obtain⟨b,e,_,e2,_⟩:=h0.node hq
   exact⟨b,e,e2⟩
 obtain⟨W1,hW1⟩:∃ W1,W1=W0.alloc (.cells #[] tI):=⟨_,rfl⟩
 have C1:Below W0.heap.size W0 W1:=by rw[hW1];exact(Below.refl _ _).alloc (Nat.le_refl _) _
 have s1:W1.heap.size=w.heap.size+2:=by rw[hW1];simp[s0]
 have o1:W1.ownsRow (w.heap.size+1) tI 1 (.slice (some ⟨w.heap.size+1,0,none⟩) 0 0) 0 []:=by rw[hW1,hW0];exact zbu w _ tI 1
 have HH:=z00 h0
 have HT:=z00 hT
 have HD:=z00 hDn
 have H12:=z00 h12
 have HN:=z00 NW
 have HB0:=z00 B0
 have B1:=B0.trans (C1.mono (by omega))
 clear h hS hT h12 hDn h0 B0
 go_enter Tryz.func37,Tryz.ntmps37
 go_wp2_with fail
 rw[← hW0,← hW1]
 refine(qT W1 B1).mono ?_
 rintro e w2 h9
 obtain⟨rfl,b2⟩:=h9.yes HT.out
 have o2:=z07 o1 b2
 have C2:Below W0.heap.size W0 w2:=C1.trans (b2.mono (by omega))
 have cl2:=(C2.cell (lt_of_cell NW.n)).trans NW.n
 have HC:=z00 C2
 clear qT h9 b2 o1 C2 NW C1 B1 hW0 hW1
 go_wp2
 go_loopw [3,14] (fun v i wr=>∃ (j g cp:Nat) (us:List Nat),j≤qs.length∧i=.int .i64 (j:Int)∧v=.slice (some ⟨g,0,none⟩) us.length cp∧wr.ownsRow (w.heap.size+1) tI 1 (.slice (some ⟨g,0,none⟩) us.length cp) us.length (z02 (z1d us))∧us.length≤12*j∧Hid (us=z4k (qs.map Np.nd) j)∧Hid (Below W0.heap.size W0 wr)) (fun _ i _=>qs.length-(intOf i).toNat)
 case atStart=>exact⟨0,_,0,[],Nat.zero_le _,rfl,rfl,o2,Nat.zero_le _,z00 rfl,HC⟩
 case round =>
  clear o2 HC cl2
  obtain⟨j,g,cp,us,hj,rfl,rfl,ho,hul,HU,HW⟩:=hrel
  have hws:=HW.out.size
  by_cases hlt:j<qs.length
  ·have hA:(0:Int)≤(j:Int):=by omega
   have hB1:(j:Int)<(qs.length:Int):=by omega
   obtain⟨q,hq⟩:∃ q,qs[j]?=some q:=⟨_,List.getElem?_eq_getElem hlt⟩
   have hx:(qs.map Np.nd)[j]?=some q.nd:=by rw[List.getElem?_map,hq];rfl
   have hm12:=H12.out q (List.mem_of_getElem? hq)
   have hNr:=HH.out.below HW.out
   obtain⟨a0,rfl,hb0,d0,d1,d2,d3⟩:=hNr.node hq
   have hke:=hNr.each q (List.mem_of_getElem? hq)
   have HX:=z00 hx
   have hdz:∀ z∈q.nd.kids,(0:Int)≤z∧z<(qs.length:Int):=fun z hz=>by have:=HD.out j q.nd z hlt hx hz;omega
   have HZ:=z00 hdz
   obtain⟨W5,hW5⟩:∃ W5,W5=wr.alloc (.cells #[.int .i64 q.nd.kind,.string q.nd.text,.slice q.a q.nd.kids.length q.c,.bool q.nd.blank] 56):=⟨_,rfl⟩
   have O5:W5.ownsRow (w.heap.size+1) tI 1 (.slice (some ⟨g,0,none⟩) us.length cp) us.length (z02 (z1d us)):=by rw[hW5];exact ho.alloc _
   have K5:W5.ownsRow B tI 1 (.slice q.a q.nd.kids.length q.c) q.nd.kids.length (z02 q.nd.kids):=by rw[hW5];exact hke.alloc _
   have HB5:=z00 (show Below W0.heap.size W0 W5 by rw[hW5];exact HW.out.alloc hws _)
   have hg5:=(ho.lt g rfl).1
   clear hq hx hNr hke ho HW hdz
   by_cases hkk:(q.nd.kind==21)=true∨((q.nd.kind==21)=false∧(q.nd.kind==22)=true)
   ·have HY:=z00 (zfk HX.out (by rcases hkk with h|⟨_,h⟩<;>simp[h]))
    have hlen:us.length+q.nd.kids.length≤12*(j+1):=by omega
    have HU5:=z00 (show us++q.nd.kids.map Int.toNat=z4k (qs.map Np.nd) (j+1) by rw[HY.out,HU.out])
    have HE:=z00 (zb7 (N:=qs.length) q.nd.kids HZ.out)
    obtain⟨kn,hkn⟩:∃ kn,kn=q.nd.kids.length:=⟨_,rfl⟩
    rw[← hkn] at hlen d2 K5
    have HKN:=z00 hkn
    rcases K5.2 with⟨e,e0⟩|⟨gk,kc,cur,e,-,-,-,-,-,-⟩
    ·injection e with e1 e2 e3
     have hks:q.nd.kids=[]:=List.eq_nil_of_length_eq_zero (by omega)
     have HU6:=z00 (show us=z4k (qs.map Np.nd) (j+1) by rw[← HU5.out,hks];simp)
     rw[e1,e2,e3] at d2
     rw[← hkn,e1,e2,e3] at hW5
     subst hW5
     clear hks e1 e2 e3 e0 K5 hkn
     rcases hkk with hkk|⟨hk1,hkk⟩
     all_goals
      go_wp2_with (at_builtin;go_loud (refine wpList_append_own_none rfl _ _ 29 rfl (w.heap.size+1) 3 i0 1 Tryz.underlying29 hi _ us.length _ rfl O5 rfl ?_))
      go_wp2
      go_roundw
      case rel=>exact⟨j+1,g,cp,us,by omega,by go_num,rfl,O5,by omega,HU6,HB5⟩
      case measure=>simp[intOf];omega
    ·injection e with e1 e2 e3
     rw[e1] at d2 K5
     rw[← hkn,e1] at hW5
     have hkc:=K5.cells (g:=gk) rfl
     subst hW5
     clear e1 e2 e3 hkn K5
     rcases hkk with hkk|⟨hk1,hkk⟩
     all_goals
      go_wp2_with (at_builtin;go_loud (refine wpList_append_own _ rfl _ _ 29 rfl (w.heap.size+1) 3 i0 (.int .i64 0) 1 8 Tryz.underlying29 hi hz0 hz1 hz2 rfl (by decide) _ us.length _ rfl O5 ⟨gk,0,none⟩ kn q.c (z02 q.nd.kids) rfl (by rw[z5l,← HKN.out];omega) hkc (fun x hx=>by unfold z02 at hx;rw[List.mem_map] at hx;obtain⟨y,-,rfl⟩:=hx;rfl) (by unfold maxLen;omega) (by omega) (by simp;omega) ?_;intro v' w6 hown' hgrow6 hnil6))
      go_wp2
      go_roundw
      case rel =>
       have hl6:us.length+kn=(us++q.nd.kids.map Int.toNat).length:=by rw[List.length_append,List.length_map,HKN.out]
       have e6:z02 (z1d us)++z02 q.nd.kids=z02 (z1d (us++q.nd.kids.map Int.toNat)):=by
        have h6:z1d (us++q.nd.kids.map Int.toNat)=z1d us++z1d (q.nd.kids.map Int.toNat):=by unfold z1d;rw[List.map_append]
        rw[h6,HE.out]
        unfold z02
        rw[List.map_append]
       rw[hl6,e6] at hown'
       have hv':v'≠.slice none 0 0:=fun e=>by have:=(hnil6.1 e).1;cases this
       rcases hown'.2 with⟨e,_⟩|⟨g6,c6,_,e,-⟩
       ·exact absurd e hv'
       ·subst e
        exact⟨j+1,g6,c6,_,by omega,by go_num,rfl,hown',by rw[← hl6];omega,HU5,z00 (HB5.out.grown hgrow6 HB5.out.size (fun k e=>by have h1:g=k:=Option.some.inj e;omega))⟩
      case measure=>simp[intOf];omega
   ·have HY:=z00 (zgo HX.out (by revert hkk;cases (q.nd.kind==21)<;>cases (q.nd.kind==22)<;>simp))
    have hk1:(q.nd.kind==21)=false:=by revert hkk;cases (q.nd.kind==21)<;>simp
    have hk2:(q.nd.kind==22)=false:=by revert hkk;rw[hk1];cases (q.nd.kind==22)<;>simp
    clear hkk
    go_wp2
    rw[← hW5]
    go_roundw
    case rel=>exact⟨j+1,g,cp,us,by omega,by go_num,rfl,O5,by omega,z00 (HU.out.trans HY.out.symm),HB5⟩
    case measure=>simp[intOf];omega
  ·obtain rfl:j=qs.length:=by omega
   have hlu:∀ u∈us,u<qs.length:=fun u hu=>by
    rw[HU.out] at hu
    have hl:(qs.map Np.nd).length=qs.length:=List.length_map _
    rw[← hl] at hu
    obtain⟨p,x,hp,_,hz⟩:=(z6t HD.out (Nat.le_of_eq hl)).1 hu
    have hpl:p<(qs.map Np.nd).length:=(List.getElem?_eq_some_iff.1 hp).1
    have:=HD.out p x u (by omega) hp hz
    omega
   have hg5:=(ho.lt g rfl).1
   have qD:=zeb (fun i=>z1l (qs.map Np.nd) i==19) 79 #[.pointer (some ⟨w.heap.size,0,none⟩)] zrn (by omega) hlu ho (fun W i hi hg=>zpq (HN.out.below HW.out hg (by omega)) hi)
   obtain⟨vs,hvs⟩:∃ vs,vs=us.filter fun u=>!(z1l (qs.map Np.nd) u==19):=⟨_,rfl⟩
   rw[← hvs] at qD
   have hvl:vs.length≤12*qs.length:=by rw[hvs];exact Nat.le_trans (List.length_filter_le _ _) hul
   have HV:=z00 hvs
   have hlq:¬ ((qs.length:Int)<(qs.length:Int)):=by omega
   clear hlu ho hvs hlt
   go_wp2_with fail
   refine qD.mono ?_
   rintro e w3 ⟨rfl,hg,o3⟩
   have B3:=HW.out.grown hg hws (fun k e=>by injection e with e;omega)
   have hnl:=z1t vs
   have qS:=z8a (zs:=z1d vs) (g:=g) (cap:=cp) (base:=w.heap.size+1) (w:=w3) (by rw[hnl];exact o3) (by rw[hnl];omega)
   rw[hnl] at qS
   have HB3:=z00 B3
   clear qD o3 hg B3
   go_wp2_with fail
   refine qS.mono ?_
   rintro e w4 ⟨rfl,hg4,o4⟩
   have B4:=HB3.out.grown hg4 HB3.out.size (fun k e=>by injection e with e;omega)
   have HB4:=z00 B4
   have HO4:=z00 o4
   clear qS hg4 B4 o4
   go_wp2
   go_ret
   refine⟨_,znn HD.out (by simp),?_⟩
   have hl:(qs.map Np.nd).length=qs.length:=List.length_map _
   rw[hl,← HU.out,← HV.out]
   refine za8 (HB0.out.trans (HB4.out.mono (by omega))) ?_
   rw[List.length_mergeSort,z1t]
   exact z01 HO4.out (by omega)
end Go.Proofs.YtekebloinobjnaaGreatDoor
