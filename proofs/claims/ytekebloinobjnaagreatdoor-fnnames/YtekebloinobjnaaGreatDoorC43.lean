/- Texts of one proof, laid together: LtS2, NmP, NoS, MtS, NmQ. -/
import Derived.Test.YtekebloinobjnaaGreatDoorC42
import Derived.Test.YtekebloinobjnaaGreatDoorC40
import Derived.Test.YtekebloinobjnaaGreatDoorC39
set_option maxHeartbeats 16000000
set_option maxRecDepth 100000
namespace Go.Proofs.YtekebloinobjnaaGreatDoor
open Go.RowKit
def zuy (ns:List Nd) (k i:Nat):Prop:=∃ (q:Nat) (x:Nd) (j:Nat),Und ns k q∧ns[q]?=some x∧(x.kind=9∨x.kind=20)∧j+1<x.kids.length∧x.kids[j]?=some (i:Int)
def znb (ns:List Nd) (k u:Nat):Prop:=(∃ x,ns[u]?=some x∧x.kind=12)∨zuy ns k u
theorem zq4 {ns:List Nd} {k i:Nat} {us:List Nat} (h:z9p ns k us):zfx ns us us.length i↔zuy ns k i:=by
 constructor
 ·rintro⟨m,q,x,j,_,h2,h3⟩
  exact⟨q,x,j,(h.2 q).1 (List.mem_of_getElem? h2),h3⟩
 ·rintro⟨q,x,j,h1,h2⟩
  obtain⟨m,hm⟩:=List.mem_iff_getElem?.1 ((h.2 q).2 h1)
  exact⟨m,q,x,j,(List.getElem?_eq_some_iff.1 hm).1,hm,h2⟩
theorem zo9 {ns:List Nd} {k u:Nat} {us:List Nat} {x:Nd} {b:Bool} (h:z9p ns k us) (hx:ns[u]?=some x) (hb:b=true↔zfx ns us us.length u):znb ns k u↔x.kind=12∨b=true:=by
 rw[hb,zq4 h]
 unfold znb
 constructor
 ·rintro(⟨y,hy,h1⟩|h1)
  ·rw[hx] at hy
   injection hy with hy
   subst hy
   exact .inl h1
  ·exact .inr h1
 ·rintro(h1|h1)
  ·exact .inl ⟨x,hx,h1⟩
  ·exact .inr h1
theorem zu0 (hNode:z78 142) {w:World} {B:Nat} {a:Option Addr} {c k:Nat} {qs:List Np} (h:Nds w B a c qs) (hS:∀ q∈qs,SafeNd q.nd) (hT:TreeP (qs.map Np.nd)) (hk:k<qs.length):Calls Tryz.prog 15 #[.slice a qs.length c,.int .i64 (k:Int)] w (zcv (∃ u,Und (qs.map Np.nd) k u∧znb (qs.map Np.nd) k u) w):=by
 have hn:qs.length≤300:=by have:=hT.most;simpa using this
 have hDn:z2r (qs.map Np.nd) qs.length:=by have:=z18 hT;simpa using this
 have qU:=fun W (hW:Below w.heap.size w W)=>zmw hNode (h.below hW) hS hT hk
 have B0:Below w.heap.size w (w.alloc (.cells #[] tS)):=(Below.refl _ _).alloc (Nat.le_refl _) _
 have HH:=z00 h
 have HD:=z00 hDn
 have HT:=z00 hT
 have hbk:=h.row
 obtain⟨a0,rfl⟩:=z0s hbk (by omega)
 clear h hS hT hDn hbk
 go_enter Tryz.func15,Tryz.ntmps15
 go_wp2_with fail
 refine(qU _ B0).mono ?_
 rintro e w2 ⟨us,hU,b2,ua,uc,rfl,hu⟩
 have hown0:(w.alloc (.cells #[] tS)).ownsRow w.heap.size tS 1 (.slice (some ⟨w.heap.size,0,none⟩) 0 0) 0 (z0h []):=World.ownsRow_made w #[] 0 (Nat.le_refl _) (by decide) rfl
 have o2:=z07 hown0 b2
 have B2:=B0.trans (b2.mono B0.size)
 have hfew:=z6n HD.out hk hU
 have hul:(z1d us).length=us.length:=z1t us
 rw[hul] at hu ⊢
 obtain⟨U,hUe⟩:∃ U,U=us.length:=⟨_,rfl⟩
 rw[← hUe] at hu hfew ⊢
 have qP:=zof (HH.out.below B2) HT.out hk hU hUe hu
 have HUE:=z00 hUe
 have HUL:=z00 hU
 have HU0:=z00 hu
 clear qU B0 hown0 b2 hul hUe hU hu
 go_wp2_with fail
 refine qP.mono ?_
 rintro e w3 ⟨pb,bs,rfl,hpb,op,b3,hbs⟩
 have HU:=z00 (z07 HU0.out b3)
 have o3:=z07 o2 b3
 have B3:=B2.trans (b3.mono B2.size)
 have hw2:w.heap.size≤w2.heap.size:=B2.size
 have HBS:=z00 (show bs.length=qs.length∧∀ i,Mk bs i↔zfx (qs.map Np.nd) us us.length i from⟨by have:=op.1;simpa[z0b] using this,hbs⟩)
 have HP:=z00 op
 clear qP HU0 o2 B2 b3 op hbs
 go_wp2_with fail
 go_loopw [5,8] (fun v i wr=>∃ (j:Nat) (ys:List ByteArray),j≤U∧i=.int .i64 (j:Int)∧ys.length≤j∧wr.ownsRow w.heap.size tS 1 v ys.length (z0h ys)∧Hid (wr.ownsRow (w.heap.size+1) tI 1 (.slice ua U uc) U (z02 (z1d us)))∧Hid (wr.ownsRow w2.heap.size tB 1 (.slice (some ⟨pb,0,none⟩) qs.length qs.length) qs.length (z0b bs))∧Hid (Below w.heap.size w wr)∧Hid (0<ys.length↔∃ (m u:Nat),m<j∧us[m]?=some u∧znb (qs.map Np.nd) k u)) (fun _ i _=>U-(intOf i).toNat)
 case atStart=>exact⟨0,[],Nat.zero_le _,rfl,Nat.le_refl _,o3,by have:=HU.out;rwa [z5s] at this,HP,z00 B3,z00 ⟨fun h=>by simp at h,fun ⟨m,u,h,_⟩=>by omega⟩⟩
 case round =>
  clear o3 B3 HU HP
  obtain⟨j,ys,hj,rfl,hyj,ho,HU,HP,HW,HI⟩:=hrel
  obtain⟨ao,cc,rfl⟩:=z06 ho
  have hws:=HW.out.size
  by_cases hlt:j<U
  ·obtain⟨u,hu⟩:∃ u,us[j]?=some u:=⟨_,List.getElem?_eq_getElem (by rw[← HUE.out];exact hlt)⟩
   have hun:=ze0 HD.out hk HUL.out hu
   obtain⟨ub,rfl⟩:=z0s HU.out (by omega)
   have cu:=(HU.out.cellAt j (by omega)).trans (z5r hu)
   obtain⟨q,hq⟩:∃ q,qs[u]?=some q:=⟨_,List.getElem?_eq_getElem hun⟩
   obtain⟨b',hbb,hb2,d0,d1,d2,d3⟩:=(HH.out.below HW.out).node hq
   obtain rfl:a0=b':=by injection hbb with hbb;injection hbb
   have hx:(qs.map Np.nd)[u]?=some q.nd:=by rw[List.getElem?_map,hq];rfl
   obtain⟨⟨kd,tx,kk,bl⟩,ka,kc⟩:=q
   have HX:=z00 hx
   have HUj:=z00 hu
   simp only at d0 d1 d2 d3
   have hA:(0:Int)≤(j:Int):=by omega
   have hB1:(j:Int)<(U:Int):=by omega
   have hA2:(0:Int)≤(u:Int):=by omega
   have hB2:(u:Int)<(qs.length:Int):=by omega
   clear hu hq hx hbb d2 d3
   obtain⟨bu,hbu⟩:∃ bu,bs[u]?=some bu:=⟨_,List.getElem?_eq_getElem (by rw[HBS.out.1];exact hun)⟩
   have cp:=(HP.out.cellAt u (by omega)).trans (show (z0b bs)[u]?=some (.bool bu) by unfold z0b;rw[List.getElem?_map,hbu];rfl)
   have HG:=z00 (zo9 HUL.out HX.out (show bu=true↔zfx (qs.map Np.nd) us us.length u from by rw[← HBS.out.2 u];unfold Mk;rw[hbu];simp))
   clear hbu
   by_cases h1:kd=12
   ·have he1:(kd==12)=true:=by simpa using h1
    have HK:=z00 (HG.out.2 (.inl h1))
    clear h1
    have HO:=z00 ho
    have qA:=ztp tx ho (by omega) (by omega)
    clear ho
    go_wp2_with fail
    refine qA.mono ?_
    rintro e w5 ⟨v',zs,rfl,hz1,hz2,o5,hg5⟩
    have B5:=HW.out.grown hg5 hws (fun q hq=>(HO.out.lt q hq).1)
    have P5:=World.ownsRow.kept HP.out hg5 (z0k HP.out HO.out (by decide))
    have U5:=World.ownsRow.kept HU.out hg5 (z0k HU.out HO.out (by decide))
    clear qA hg5 d0 d1 cu
    go_wp2
    go_roundw
    case rel=>exact⟨j+1,zs,by omega,by go_num,by omega,o5,z00 U5,z00 P5,z00 B5,z00 ⟨fun _=>⟨j,u,by omega,HUj.out,HK.out⟩,fun _=>by omega⟩⟩
    case measure=>simp[intOf];omega
   have he1:(kd==12)=false:=by simpa using h1
   cases bu with
   | true =>
     have HK:=z00 (HG.out.2 (.inr rfl))
     clear h1
     have HO:=z00 ho
     have qA:=ztp tx ho (by omega) (by omega)
     clear ho
     go_wp2_with fail
     refine qA.mono ?_
     rintro e w5 ⟨v',zs,rfl,hz1,hz2,o5,hg5⟩
     have B5:=HW.out.grown hg5 hws (fun q hq=>(HO.out.lt q hq).1)
     have P5:=World.ownsRow.kept HP.out hg5 (z0k HP.out HO.out (by decide))
     have U5:=World.ownsRow.kept HU.out hg5 (z0k HU.out HO.out (by decide))
     clear qA hg5 d0 d1 cu
     go_wp2
     go_roundw
     case rel=>exact⟨j+1,zs,by omega,by go_num,by omega,o5,z00 U5,z00 P5,z00 B5,z00 ⟨fun _=>⟨j,u,by omega,HUj.out,HK.out⟩,fun _=>by omega⟩⟩
     case measure=>simp[intOf];omega
   | false =>
     have HK:=z00 (fun h:znb (qs.map Np.nd) k u=>(HG.out.1 h).elim h1 (fun h=>by cases h))
     clear h1
     have HI2:=z00 (show 0<ys.length↔∃ (m u:Nat),m<j+1∧us[m]?=some u∧znb (qs.map Np.nd) k u from HI.out.trans ⟨fun ⟨m,v,h1,h2,h3⟩=>⟨m,v,by omega,h2,h3⟩,fun ⟨m,v,h1,h2,h3⟩=>by
      by_cases e:m=j
      ·subst e
       rw[HUj.out] at h2
       injection h2 with h2
       subst h2
       exact absurd h3 HK.out
      ·exact⟨m,v,by omega,h2,h3⟩⟩)
     clear d1
     go_wp2
     go_roundw
     case rel=>exact⟨j+1,ys,by omega,by go_num,by omega,ho,HU,HP,HW,HI2⟩
     case measure=>simp[intOf];omega
  ·have hB1:¬ (j:Int)<(U:Int):=by omega
   obtain rfl:j=U:=by omega
   have HP:=z00 (show 0<ys.length↔∃ u,Und (qs.map Np.nd) k u∧znb (qs.map Np.nd) k u from HI.out.trans ⟨fun ⟨m,u,_,h2,h3⟩=>⟨u,(HUL.out.2 u).1 (List.mem_of_getElem? h2),h3⟩,fun ⟨u,h2,h3⟩=>by
    obtain⟨m,hm⟩:=List.mem_iff_getElem?.1 ((HUL.out.2 u).2 h2)
    exact⟨m,u,by rw[HUE.out];exact(List.getElem?_eq_some_iff.1 hm).1,hm,h3⟩⟩)
   go_wp2
   go_ret
   exact⟨_,ys,rfl,by omega,ho,HP.out,HW.out⟩
theorem z9n (ns:List Nd) (us:List Nat) (s:ByteArray):z2g (txs ns (brL ns us)) s=zau ns us s:=by
 unfold z2g zau brL
 rw[List.filter_map,List.length_map,List.filter_filter]
 congr 1
 apply List.filter_congr
 intro i _
 unfold brB
 simp[Bool.and_comm,Bool.or_assoc]
 rfl
theorem zux {ns:List Nd} {us:List Nat} {s:ByteArray}:s∈txs ns (nmL ns us)↔∃ i∈us,z1l ns i=1∧z0y ns i=s:=by
 unfold nmL
 rw[List.mem_map]
 constructor
 ·rintro⟨i,hi,e⟩
  obtain⟨h1,h2⟩:=List.mem_filter.1 hi
  exact⟨i,h1,by simpa using h2,e⟩
 ·rintro⟨i,h1,h2,e⟩
  exact⟨i,List.mem_filter.2 ⟨h1,by simpa using h2⟩,e⟩
def LtA (ns:List Nd) (us:List Nat) (i:Nat):Prop:=z1l ns i=12∨i∈za0 ns us
def NmN (ns:List Nd) (us:List Nat) (i:Nat):Prop:=z1l ns i=1∧¬ i∈za0 ns us
theorem zuj {ns:List Nd} {us:List Nat} {i:Nat}:i∈ltL ns us↔i∈za0 ns us∨(i∈us∧z1l ns i=12):=by
 unfold ltL vrL
 rw[List.mem_mergeSort,List.mem_append,(z7e ns us).mem_iff,List.mem_filter]
 simp
theorem zih {ns:List Nd} {k:Int} {us:List Nat} (h:UnQ ns k us) {s:ByteArray}:s∈txs ns (ltL ns us)↔∃ i∈us,LtA ns us i∧z0y ns i=s:=by
 rw[List.mem_map]
 constructor
 ·rintro⟨i,hi,e⟩
  rcases zuj.1 hi with h1|⟨h1,h2⟩
  ·exact⟨i,(z5a h h1).1,.inr h1,e⟩
  ·exact⟨i,h1,.inl h2,e⟩
 ·rintro⟨i,h1,h2,e⟩
  exact⟨i,zuj.2 (h2.elim (fun h=>.inr ⟨h1,h⟩) .inl),e⟩
theorem ztq {ns:List Nd} {k:Int} {us:List Nat} (h:UnQ ns k us):us.Nodup:=(ziw h).imp fun h=>Nat.ne_of_lt h
theorem ziu {ns:List Nd} {k:Int} {us:List Nat} (h:UnQ ns k us) {s:ByteArray}:(s∈txs ns (nmL ns us)∧z2g (txs ns (nmL ns us)) s≠z2g (txs ns (gvS ns us)) s)↔∃ i∈us,NmN ns us i∧z0y ns i=s:=by
 have e1:∀ l:List Nat,z2g (txs ns l) s=(l.filter fun i=>decide (z0y ns i=s)).length:=fun l=>by
  unfold z2g
  rw[List.filter_map,List.length_map]
  rfl
 rw[e1,e1]
 obtain⟨L,hL⟩:∃ L,L=(nmL ns us).filter fun i=>decide (z0y ns i=s):=⟨_,rfl⟩
 have hLn:L.Nodup:=by rw[hL];exact((ztq h).filter _).filter _
 have hLm:∀ i,i∈L↔i∈us∧z1l ns i=1∧z0y ns i=s:=fun i=>by
  rw[hL]
  unfold nmL
  rw[List.mem_filter,List.mem_filter]
  simp[and_assoc]
 have hG:((gvS ns us).filter fun i=>decide (z0y ns i=s)).length=(L.filter fun i=>decide (i∈za0 ns us)).length:=by
  refine(List.Perm.length_eq ((List.perm_ext_iff_of_nodup (((z7e ns us).nodup_iff.2 (z9t h)).filter _) (hLn.filter _)).2 fun i=>?_))
  rw[List.mem_filter,List.mem_filter,hLm,(z7e ns us).mem_iff,decide_eq_true_eq,decide_eq_true_eq]
  exact⟨fun ⟨h1,h2⟩=>⟨⟨(z5a h h1).1,(z5a h h1).2,h2⟩,h1⟩,fun ⟨⟨_,_,h2⟩,h1⟩=>⟨h1,h2⟩⟩
 rw[← hL,hG]
 constructor
 ·rintro⟨_,hne⟩
  have h1:¬ ∀ a∈L,decide (a∈za0 ns us)=true:=fun hh=>hne (List.length_filter_eq_length_iff.2 hh).symm
  have⟨a,ha⟩:=Classical.not_forall.1 h1
  obtain⟨ha1,ha2⟩:=Classical.not_imp.1 ha
  obtain⟨k1,k2,k3⟩:=(hLm a).1 ha1
  exact⟨a,k1,⟨k2,by simpa using ha2⟩,k3⟩
 ·rintro⟨a,k1,⟨k2,k4⟩,k3⟩
  have ha:=(hLm a).2 ⟨k1,k2,k3⟩
  refine⟨zux.2 ⟨a,k1,k2,k3⟩,fun e=>?_⟩
  have:=List.length_filter_eq_length_iff.1 e.symm a ha
  exact k4 (by simpa using this)
theorem zp7 {ns ms:List Nd} (h:ShP ns ms) (us:List Nat):za0 ms us=za0 ns us:=by
 have h1:∀ u,gvB ms u=gvB ns u:=fun u=>by unfold gvB;rw[z4o h]
 have h2:∀ u,zb4 ms u=zb4 ns u:=fun u=>by
  unfold zb4 z41
  cases hx:ns[u]? with
  | none =>
    have:ms[u]?=none:=List.getElem?_eq_none (by have:=h.1;have:=List.getElem?_eq_none_iff.1 hx;omega)
    rw[this]
  | some x =>
    obtain⟨y,hy,_,k2,_⟩:=z5g h hx
    rw[hy]
    simp[k2]
 unfold za0
 rw[show gvB ms=gvB ns from funext h1,show zb4 ms=zb4 ns from funext h2]
theorem zmi {ns:List Nd} {k:Int} {us:List Nat} (h:UnQ ns k us) {i:Nat} (hi:LtA ns us i):brB ns i=true:=by
 unfold brB
 rcases hi with hi|hi
 ·rw[hi];rfl
 ·rw[(z5a h hi).2];rfl
theorem zeu {ns ms:List Nd} {k k':Int} {us:List Nat} {f t:ByteArray} (h:UnQ ns k us) (h2:UnQ ms k' us) (hR:zas ns ms (fun i=>i∈us∧brB ns i=true) f t) (hno:∀ i∈us,brB ns i=true→z0y ns i≠t)
 {U V:List ByteArray} (hU:U.Nodup) (hV:V.Nodup) (mU:∀ s,s∈U↔s∈txs ns (ltL ns us)∧¬ (s∈txs ns (nmL ns us)∧z2g (txs ns (nmL ns us)) s≠z2g (txs ns (gvS ns us)) s))
 (mV:∀ s,s∈V↔s∈txs ms (ltL ms us)∧¬ (s∈txs ms (nmL ms us)∧z2g (txs ms (nmL ms us)) s≠z2g (txs ms (gvS ms us)) s)):V.length=U.length:=by
 have hs:=z43 hR
 refine zp2 (A:=LtA ns us) (N:=NmN ns us) hR (z40 h) hno (fun i _ hi=>zmi h hi) (fun i _ hi=>by unfold brB;rw[hi.1];rfl) hU hV (fun s=>?_) (fun s=>?_)
 ·rw[mU,ziu h,zih h]
 ·rw[mV,ziu h2,zih h2]
  unfold LtA NmN
  simp only[zp7 hs,z4o hs]
theorem zke {ns ms:List Nd} {us:List Nat} {f t:ByteArray} (hR:zas ns ms (fun i=>i∈us∧brB ns i=true) f t) (hS:∀ x∈ns,SafeNd x) (ht:zj9 t) (ht2:t.size≤3000):∀ y∈ms,SafeNd y:=fun y hy=>by
 obtain⟨i,hi⟩:=List.getElem?_of_mem hy
 have hil:=(List.getElem?_eq_some_iff.1 hi).1
 obtain⟨x,hx⟩:∃ x,ns[i]?=some x:=⟨_,List.getElem?_eq_getElem (by have:=hR.1;omega)⟩
 have hx2:=hS x (List.mem_of_getElem? hx)
 by_cases hb:(i∈us∧brB ns i=true)∧x.text=f
 ·have:=(hR.2 i x hx).1 hb
  rw[hi] at this
  obtain rfl:=Option.some.inj this
  have hk:=hb.1.2
  unfold brB at hk
  rw[z1w hx] at hk
  refine⟨?_,ht2,hx2.casc⟩
  unfold zk0
  have hk2:x.kind=1∨x.kind=12∨x.kind=13:=by simpa[or_assoc] using hk
  dsimp only
  rw[if_pos (by omega)]
  exact ht
 ·have:=(hR.2 i x hx).2 hb
  rw[hi] at this
  obtain rfl:=Option.some.inj this
  exact hx2
theorem zob {ns:List Nd} {k:Nat} {us:List Nat} (h:UnQ ns (k:Int) us) (hU:z9p ns k us) (h0:∀ s,¬ s∈txs ns (ltL ns us)):¬ ∃ u,Und ns k u∧znb ns k u:=by
 rintro⟨u,hu,⟨x,hx,hk⟩|⟨q,x,j,hq,hx,h9,h1,h2⟩⟩
 ·exact h0 (z0y ns u) (List.mem_map_of_mem (zuj.2 (.inr ⟨(hU.2 u).2 hu,by rw[z1w hx];exact hk⟩)))
 ·exact h0 (z0y ns u) (List.mem_map_of_mem (zuj.2 (.inl ((zmo h).2 ⟨q,(hU.2 q).2 hq,x,j,hx,h9,h1,h2⟩))))
theorem zph {ns:List Nd} {k:Nat} {us:List Nat} (hU:z9p ns k us) (h0:∀ s,¬ s∈txs ns (nmL ns us)):¬ ∃ u,Und ns k u∧zss ns u:=by
 rintro⟨u,hu,x,hx,hk⟩
 exact h0 (z0y ns u) (zux.2 ⟨u,(hU.2 u).2 hu,by rw[z1w hx];exact hk,rfl⟩)
theorem zib {ns:List Nd} {k:Int} {us:List Nat} (h:UnQ ns k us) {s:ByteArray} (hs:s∈txs ns (ltL ns us)∨s∈txs ns (nmL ns us)):∃ i∈us,brB ns i=true∧z0y ns i=s:=by
 rcases hs with hs|hs
 ·obtain⟨i,h1,h2,h3⟩:=(zih h).1 hs
  exact⟨i,h1,zmi h h2,h3⟩
 ·obtain⟨i,h1,h2,h3⟩:=zux.1 hs
  exact⟨i,h1,by unfold brB;rw[h2];rfl,h3⟩
theorem zsz {ns:List Nd} {us:List Nat} {s:ByteArray}:0<z2g (txs ns (brL ns us)) s↔∃ i∈us,brB ns i=true∧z0y ns i=s:=by
 rw[z9n]
 unfold zau
 rw[List.length_pos_iff_exists_mem]
 constructor
 ·rintro⟨i,hi⟩
  obtain⟨h1,h2⟩:=List.mem_filter.1 hi
  rw[Bool.and_eq_true,decide_eq_true_eq] at h2
  exact⟨i,h1,h2.1,h2.2⟩
 ·rintro⟨i,h1,h2,h3⟩
  exact⟨i,List.mem_filter.2 ⟨h1,by rw[Bool.and_eq_true,decide_eq_true_eq];exact⟨h2,h3⟩⟩⟩
def z8s (w:World) (e:Ending) (w':World):Prop:=∃ (a:Option Addr) (c:Nat),e=.returned (.slice a 0 c)∧Below w.heap.size w w'
section
variable {w:World} {a:Option Addr} {c n:Nat} (hn:n≤281474976710656)
include hn
theorem zhx:Calls Tryz.prog 69 #[.slice a n c,.int .i64 (-1)] w fun e w'=>e=.returned (.int .i64 0)∧w'=w:=by
 have hI:=fun W=>z1g (-1) 0 ((n:Int)-1) W
 rw[z2e (by omega)] at hI
 go_enter Tryz.func69,Tryz.ntmps69
 go_wp2_with fail
 refine(hI _).mono ?_
 rintro e w ⟨rfl,rfl⟩
 go_wp2
 go_ret
 exact⟨rfl,rfl⟩
theorem z9a:Calls Tryz.prog 52 #[.slice a n c,.int .i64 (-1)] w (z8s w):=by
 have q:=fun W=>zhx hn (a:=a) (c:=c) (w:=W)
 have B1:Below w.heap.size w (w.alloc (.cells #[] tI)):=(Below.refl _ _).alloc (Nat.le_refl _) _
 go_enter Tryz.func52,Tryz.ntmps52
 go_wp2_with (go_at_call 69;refine(q _).mono ?_;rintro e w' ⟨rfl,rfl⟩)
 go_ret
 exact⟨_,_,rfl,B1⟩
theorem zf9:Calls Tryz.prog 16 #[.slice a n c,.int .i64 (-1)] w (z8s w):=by
 have q:=fun W=>z9a hn (a:=a) (c:=c) (w:=W)
 have B1:Below w.heap.size w (w.alloc (.cells #[] tS)):=(Below.refl _ _).alloc (Nat.le_refl _) _
 go_enter Tryz.func16,Tryz.ntmps16
 go_wp2_with fail
 refine(q _).mono ?_
 rintro e w2 ⟨ua,uc,rfl,b2⟩
 have B2:=B1.trans (b2.mono B1.size)
 clear q b2 B1
 go_wp2
 refine wp_loop_rounds 1 ?_
 rw[rounds_succ]
 go_wp2
 go_ret
 exact⟨_,_,rfl,B2⟩
theorem zd0 (v:Option Addr) (vc:Nat):Calls Tryz.prog 53 #[.slice a n c,.slice v 0 vc] w fun e w'=>∃ u,e=.returned u∧Below w.heap.size w w':=by
 obtain⟨i1,hj,hy0,hy1,hy2⟩:=info_parts zbt
 go_enter Tryz.func53,Tryz.ntmps53
 go_wp2_with (at_make;refine wpList_make_full _ rfl _ _ 64 rfl w.heap.size 4 i1 (.bool false) 1 Tryz.underlying64 hj hy0 hy1 .i64 .i64 _ _ n rfl rfl rfl rfl (by rw[hy2];omega) (by unfold maxLen;omega) (Nat.le_refl _) ?_;intro w3 hown hgrow)
 have b3:Below w.heap.size w w3:=(Below.refl _ _).grown hgrow (Nat.le_refl _) (fun k e=>by cases e)
 clear hown hgrow
 refine wp_loop_rounds 1 ?_
 rw[rounds_succ]
 go_wp2
 go_ret
 exact⟨_,rfl,b3⟩
theorem zge:Calls Tryz.prog 15 #[.slice a n c,.int .i64 (-1)] w (z8s w):=by
 have q:=fun W=>z9a hn (a:=a) (c:=c) (w:=W)
 have q2:=fun W v vc=>zd0 hn (a:=a) (c:=c) (w:=W) v vc
 have B1:Below w.heap.size w (w.alloc (.cells #[] tS)):=(Below.refl _ _).alloc (Nat.le_refl _) _
 go_enter Tryz.func15,Tryz.ntmps15
 go_wp2_with fail
 refine(q _).mono ?_
 rintro e w2 ⟨ua,uc,rfl,b2⟩
 have B2:=B1.trans (b2.mono B1.size)
 clear q b2 B1
 go_wp2_with fail
 refine(q2 _ _ _).mono ?_
 rintro e w3 ⟨u,rfl,b3⟩
 have B3:=B2.trans (b3.mono B2.size)
 clear q2 b3 B2
 go_wp2
 refine wp_loop_rounds 1 ?_
 rw[rounds_succ]
 go_wp2
 go_ret
 exact⟨_,_,rfl,B3⟩
end
def ztr (ns:List Nd) (w:World) (e:Ending) (w':World):Prop:=∃ z:Int,e=.returned (.int .i64 z)∧(z=-1∨∃ zn:Nat,z=(zn:Int)∧zc3 ns zn∧∃ y,ns[zn]?=some y∧y.kind=20)∧Below w.heap.size w w'
theorem zgt (hTree:zbz 24) (s:ByteArray) {w:World} {B:Nat} {a:Option Addr} {c:Nat} {qs:List Np} (h:Nds w B a c qs) (hS:∀ q∈qs,SafeNd q.nd) (hn:qs.length≤300):Calls Tryz.prog 48 #[.slice a qs.length c,.string s] w (ztr (qs.map Np.nd) w):=by
 have qT:=hTree B w a c qs h hS hn
 by_cases hT:TreeP (qs.map Np.nd)
 case neg =>
  have HT:=z00 hT
  clear h hS hT
  go_enter Tryz.func48,Tryz.ntmps48
  go_wp2_with fail
  refine qT.mono ?_
  rintro e w2 ⟨b,rfl,hb,b2⟩
  obtain rfl:b=false:=by
   cases b
   ·rfl
   ·exact absurd (hb.1 rfl) HT.out
  clear qT hb
  go_wp2
  go_ret
  exact⟨-1,rfl,.inl rfl,b2⟩
 have hDn:z2r (qs.map Np.nd) qs.length:=by have:=z18 hT;simpa using this
 have hn1:1≤qs.length:=by have:=hT.least;simpa using this
 obtain⟨ql,hql⟩:∃ ql,qs[qs.length-1]?=some ql:=⟨_,List.getElem?_eq_getElem (by omega)⟩
 have hlast:ql.nd.kind=22:=by
  obtain⟨x,h1,h2⟩:=hT.last
  rw[List.length_map,List.getElem?_map,hql] at h1
  injection h1 with h1
  rw[show ql.nd=x from h1,h2]
 have hm12:ql.nd.kids.length≤12:=z34 (z0x hT.deep (show qs.length-1<(qs.map Np.nd).length by simp;omega) (show (qs.map Np.nd)[qs.length-1]?=some ql.nd by rw[List.getElem?_map,hql];rfl)).cnt
 obtain⟨a0,ha⟩:=z0s h.row (by omega)
 subst ha
 have HX:=z00 (show (qs.map Np.nd)[qs.length-1]?=some ql.nd by rw[List.getElem?_map,hql];rfl)
 have HH:=z00 h
 have HT:=z00 hT
 have HD:=z00 hDn
 have HL:=z00 (And.intro hql hlast)
 have hA1:(0:Int)≤(qs.length:Int)-1:=by omega
 have hB1:(qs.length:Int)-1<(qs.length:Int):=by omega
 have hT1:((qs.length:Int)-1).toNat=qs.length-1:=by omega
 clear h hS hT hDn hql hlast
 go_enter Tryz.func48,Tryz.ntmps48
 go_wp2_with fail
 refine qT.mono ?_
 rintro e w2 h9
 obtain⟨rfl,b2⟩:=h9.yes HT.out
 have HN:=z00 (HH.out.below b2)
 obtain⟨b',hbb,hb2,-,-,d2,-⟩:=HN.out.node HL.out.1
 obtain rfl:a0=b':=by injection hbb with hbb;injection hbb
 clear qT h9 hbb
 go_wp2
 go_loop [6] (fun i=>∃ j:Nat,j≤ql.nd.kids.length∧i=.int .i64 (j:Int)) (fun i=>ql.nd.kids.length-(intOf i).toNat)
 case atStart=>exact⟨0,Nat.zero_le _,rfl⟩
 case round =>
  clear d2
  obtain⟨j,hj,rfl⟩:=hrel
  by_cases hlt:j<ql.nd.kids.length
  ·obtain⟨z,ez⟩:∃ z,ql.nd.kids[j]?=some z:=⟨_,List.getElem?_eq_getElem hlt⟩
   have hzr:=HD.out (qs.length-1) ql.nd z (by omega) HX.out (List.mem_of_getElem? ez)
   obtain⟨zn,rfl⟩:∃ zn:Nat,z=(zn:Int):=⟨z.toNat,by omega⟩
   obtain⟨kb,hkb,hkbl,ck⟩:=HN.out.kid HL.out.1 ez
   obtain⟨q2,hq2⟩:∃ q2,qs[zn]?=some q2:=⟨_,List.getElem?_eq_getElem (by omega)⟩
   obtain⟨b',hbb,-,f0,f1,-,-⟩:=HN.out.node hq2
   obtain rfl:a0=b':=by injection hbb with hbb;injection hbb
   obtain⟨kz,hkz⟩:∃ kz,kz=q2.nd.kind:=⟨_,rfl⟩
   obtain⟨tx,htx⟩:∃ tx,tx=q2.nd.text:=⟨_,rfl⟩
   rw[← hkz] at f0
   rw[← htx] at f1
   have HZ:=z00 (show kz=20→zc3 (qs.map Np.nd) zn∧∃ y,(qs.map Np.nd)[zn]?=some y∧y.kind=20 from fun h20=>by
    have hy:(qs.map Np.nd)[zn]?=some q2.nd:=by rw[List.getElem?_map,hq2];rfl
    exact⟨⟨qs.length-1,ql.nd,q2.nd,HX.out,.inl HL.out.2,List.mem_of_getElem? ez,hy,by rw[← hkz,h20];decide⟩,q2.nd,hy,by rw[← hkz];exact h20⟩)
   have hA2:(0:Int)≤(j:Int):=by omega
   have hB2:(j:Int)<(ql.nd.kids.length:Int):=by omega
   have hA3:(0:Int)≤(zn:Int):=by omega
   have hB3:(zn:Int)<(qs.length:Int):=by omega
   rw[hkb]
   clear ez hq2 hkz htx hbb hkb
   by_cases h20:kz=20
   ·have he:(kz==20)=true:=by simpa using h20
    have HY:=z00 (HZ.out h20)
    clear h20
    cases hs:(tx.toList==s.toList)
    ·go_wp2
     go_round
     case rel=>exact⟨j+1,by omega,by go_num⟩
     case measure=>simp[intOf];omega
    ·go_wp2
     go_ret
     exact⟨_,rfl,.inr ⟨zn,rfl,HY.out⟩,b2⟩
   ·have he:(kz==20)=false:=by simpa using h20
    clear h20
    go_wp2
    go_round
    case rel=>exact⟨j+1,by omega,by go_num⟩
    case measure=>simp[intOf];omega
  ·have hB2:¬ (j:Int)<(ql.nd.kids.length:Int):=by omega
   go_wp2
   go_ret
   exact⟨-1,rfl,.inl rfl,b2⟩
theorem zlu (g:Int→Nat) (zs:List Int) (j:Nat) (z:Int) (h:zs[j]?=some z):((zs.take (j+1)).map g).sum=((zs.take j).map g).sum+g z:=by
 rw[List.take_add_one,h,List.map_append,List.sum_append]
 simp
theorem zrr {ns:List Nd} {n:Nat} (hD:z2r ns n) (hsz:∀ k,k<n→szF ns (k+1) k≤300) {k:Nat} {x:Nd} (hk:k<n) (hx:ns[k]?=some x) (j:Nat):((x.kids.take j).map fun z=>szF ns (z.toNat+1) z.toNat).sum≤300:=by
 have h1:=hsz k hk
 rw[szF,show z41 ns k=x.kids by unfold z41;rw[hx];rfl] at h1
 have h2:(x.kids.map fun z=>szF ns k z.toNat)=x.kids.map fun z=>szF ns (z.toNat+1) z.toNat:=List.map_congr_left fun z hz=>by
  have:=hD k x z hk hx hz
  exact zap hD (by omega) (by omega) (by omega)
 rw[h2] at h1
 have h3:=List.take_append_drop j x.kids
 rw[← h3,List.map_append,List.sum_append] at h1
 omega
theorem zr4 {ns:List Nd} {n:Nat} (hD:z2r ns n) {k:Nat} {x:Nd} (hk:k<n) (hx:ns[k]?=some x):szF ns (k+1) k=1+((x.kids.take x.kids.length).map fun z=>szF ns (z.toNat+1) z.toNat).sum:=by
 rw[szF,show z41 ns k=x.kids by unfold z41;rw[hx];rfl,List.take_length]
 congr 2
 exact List.map_congr_left fun z hz=>by
  have:=hD k x z hk hx hz
  exact zap hD (by omega) (by omega) (by omega)
theorem zqy {B:Nat} {a:Option Addr} {c:Nat} {qs:List Np} (hD:z2r (qs.map Np.nd) qs.length) (h12:∀ q∈qs,q.nd.kids.length≤12) (hsz:∀ k,k<qs.length→szF (qs.map Np.nd) (k+1) k≤300):∀ (f k:Nat),k<f→k<qs.length→∀ (w:World),Nds w B a c qs →
 Calls Tryz.prog 26 #[.slice a qs.length c,.int .i64 (k:Int)] w fun e w'=>e=.returned (.int .i64 (szF (qs.map Np.nd) (k+1) k:Nat))∧w'=w
 | 0,k,h,_=>by omega
 | f+1,k,hf,hk=>by
   intro w h
   have ih:=zqy (B:=B) (a:=a) (c:=c) hD h12 hsz f
   obtain⟨q,hq⟩:∃ q,qs[k]?=some q:=⟨_,List.getElem?_eq_getElem hk⟩
   have hx:(qs.map Np.nd)[k]?=some q.nd:=by rw[List.getElem?_map,hq];rfl
   have hm12:=h12 q (List.mem_of_getElem? hq)
   have HF:=z00 (zrr hD hsz hk hx)
   have HE:=z00 (zr4 hD hk hx)
   obtain⟨a0,ha,ha0,-,-,d2,-⟩:=h.node hq
   subst ha
   have HH:=z00 h
   have HQ:=z00 hq
   have HK:=z00 (show ∀ (j:Nat) (z:Int),q.nd.kids[j]?=some z→0≤z∧z<(k:Int) from fun j z hz=>hD k q.nd z hk hx (List.mem_of_getElem? hz))
   have IH:=z00 ih
   obtain⟨R,hR⟩:∃ R,R=szF (qs.map Np.nd) (k+1) k:=⟨_,rfl⟩
   rw[← hR] at HE ⊢
   obtain⟨G,hG⟩:∃ G:Int→Nat,G=fun z=>szF (qs.map Np.nd) (z.toNat+1) z.toNat:=⟨_,rfl⟩
   rw[← hG] at HE HF
   have HST:=z00 (fun j z=>zlu G q.nd.kids j z)
   have HG:=z00 hG
   have hA:(0:Int)≤(k:Int):=by omega
   have hB:(k:Int)<(qs.length:Int):=by omega
   clear h hq hx hD h12 hsz ih hR hG
   go_enter Tryz.func26,Tryz.ntmps26
   go_wp2
   go_loop [5,6] (fun n i=>∃ jj:Nat,jj≤q.nd.kids.length∧i=.int .i64 (jj:Int)∧n=.int .i64 ((1+((q.nd.kids.take jj).map G).sum:Nat):Int)) (fun _ i=>q.nd.kids.length-(intOf i).toNat)
   case atStart=>exact⟨0,Nat.zero_le _,rfl,by simp⟩
   case round =>
    obtain⟨jj,hjj,rfl,rfl⟩:=hrel
    have hfew:=HF.out jj
    by_cases hl2:jj<q.nd.kids.length
    ·obtain⟨z,ez⟩:∃ z,q.nd.kids[jj]?=some z:=⟨_,List.getElem?_eq_getElem hl2⟩
     have hzr:=HK.out jj z ez
     obtain⟨zn,rfl⟩:∃ zn:Nat,z=(zn:Int):=⟨z.toNat,by omega⟩
     obtain⟨kb,hkb,hkbl,ck⟩:=HH.out.kid HQ.out ez
     have hst:=HST.out jj zn ez
     have hfew2:=HF.out (jj+1)
     have qZ:=IH.out zn (by omega) (by omega) w HH.out
     have hgz:G (zn:Int)=szF (qs.map Np.nd) (zn+1) zn:=by rw[HG.out];simp
     rw[← hgz] at qZ
     rw[hst] at hfew2
     obtain⟨S0,hS0⟩:∃ S0,S0=((q.nd.kids.take jj).map G).sum:=⟨_,rfl⟩
     obtain⟨gz,hgz2⟩:∃ gz,gz=G (zn:Int):=⟨_,rfl⟩
     rw[← hgz2] at qZ hst hfew2
     rw[← hS0] at hst hfew hfew2 ⊢
     have HS:=z00 hst
     rw[hkb] at d2
     have hA6:(0:Int)≤(jj:Int):=by omega
     have hB6:(jj:Int)<(q.nd.kids.length:Int):=by omega
     clear ez hst hgz hgz2 hS0
     go_wp2_with fail
     refine qZ.mono ?_
     rintro e w ⟨rfl,rfl⟩
     clear qZ
     go_wp2
     go_round
     case rel=>exact⟨jj+1,by omega,by go_num,by rw[HS.out];go_num⟩
     case measure=>simp[intOf];omega
    ·have hB6:¬ (jj:Int)<(q.nd.kids.length:Int):=by omega
     obtain rfl:jj=q.nd.kids.length:=by omega
     obtain⟨S0,hS0⟩:∃ S0,S0=((q.nd.kids.take q.nd.kids.length).map G).sum:=⟨_,rfl⟩
     have HR:=z00 (show R=1+S0 by rw[hS0];exact HE.out)
     rw[← hS0] at hfew ⊢
     clear hS0
     go_wp2
     go_ret
     exact⟨by rw[HR.out];simp,rfl⟩
theorem zml {P:Prop} {w:World} {e:Ending} {w':World} (h:zcv P w e w') (hP:¬ P):z8s w e w':=by
 obtain⟨v,ys,rfl,_,ho,hi,hb⟩:=h
 have h0:ys.length=0:=by
  rcases Nat.eq_zero_or_pos ys.length with h|h
  ·exact h
  ·exact absurd (hi.1 h) hP
 rw[h0] at ho
 obtain⟨a,c,rfl⟩:=z06 ho
 exact⟨a,c,rfl,hb⟩
section
variable {w:World} {B:Nat} {a:Option Addr} {c:Nat} {k:Int} {us:List Nat} {qs:List Np}
theorem zm0 (h:Nds w B a c qs) (hS:∀ q∈qs,SafeNd q.nd) (hn:qs.length≤300) (hQ:UnQ (qs.map Np.nd) k us) (h0:∀ s,¬ s∈txs (qs.map Np.nd) (ltL (qs.map Np.nd) us)) :
 Calls Tryz.prog 15 #[.slice a qs.length c,.int .i64 k] w (z8s w):=by
 have hQ2:=hQ
 rcases hQ with⟨n,rfl,hk,hT,hU⟩|⟨rfl,rfl⟩
 ·exact(zu0 zdc h hS hT (by simpa using hk)).mono fun e w' hh=>zml hh (zob hQ2 hU h0)
 ·exact zge (by omega)
theorem ziv (h:Nds w B a c qs) (hS:∀ q∈qs,SafeNd q.nd) (hn:qs.length≤300) (hQ:UnQ (qs.map Np.nd) k us) (h0:∀ s,¬ s∈txs (qs.map Np.nd) (nmL (qs.map Np.nd) us)) :
 Calls Tryz.prog 16 #[.slice a qs.length c,.int .i64 k] w (z8s w):=by
 rcases hQ with⟨n,rfl,hk,hT,hU⟩|⟨rfl,rfl⟩
 ·exact(zkr zdc h hS hT (by simpa using hk)).mono fun e w' hh=>zml hh (zph hU h0)
 ·exact zf9 (by omega)
end
theorem zpm {ns ms:List Nd} (h:ShP ns ms) {z:Nat} (hM:zc3 ns z):zc3 ms z:=by
 obtain⟨p,x,y,h1,h2,h3,h4,h5⟩:=hM
 obtain⟨x',k1,k2,k3,_⟩:=z5g h h1
 obtain⟨y',j1,j2,_⟩:=z5g h h4
 exact⟨p,x',y',k1,by rw[k2];exact h2,by rw[k3];exact h3,j1,by rw[j2];exact h5⟩
theorem zo5 {ns ms:List Nd} (h:ShP ns ms) {k:Nat} {us:List Nat} (hU:z9p ns k us):z9p ms k us:=⟨hU.1,fun i=>(hU.2 i).trans (zqx h)⟩
def MbT (ns:List Nd) (k:Nat) (us:List Nat):Prop:=TreeP ns∧(∀ x∈ns,SafeNd x)∧z9p ns k us∧zc3 ns k∧∃ y,ns[k]?=some y∧y.kind≠21
theorem MbT.q {ns:List Nd} {k:Nat} {us:List Nat} (h:MbT ns k us):UnQ ns (k:Int) us:=by
 obtain⟨p,x,y,_,_,_,h4,_⟩:=h.2.2.2.1
 exact .inl ⟨k,rfl,(List.getElem?_eq_some_iff.1 h4).1,h.1,h.2.2.1⟩
theorem MbT.ren {ns ms:List Nd} {k:Nat} {us:List Nat} {f t:ByteArray} (h:MbT ns k us) (hR:zas ns ms (fun i=>i∈us∧brB ns i=true) f t) (ht:zj9 t) (ht2:t.size≤3000):MbT ms k us:=by
 have hs:=z43 hR
 obtain⟨h1,h2,h3,h4,y,h5,h6⟩:=h
 obtain⟨y',j1,j2,_⟩:=z5g hs h5
 exact⟨zol hs h1,zke hR h2 ht ht2,zo5 hs h3,zpm hs h4,y',j1,by rw[j2];exact h6⟩
theorem zrj {ns:List Nd} {i:Nat} (hS:∀ x∈ns,SafeNd x) (hi:i<ns.length) (hb:brB ns i=true):zj9 (z0y ns i)∧(z0y ns i).size≤3000:=by
 have hx:ns[i]?=some ns[i]:=List.getElem?_eq_getElem hi
 have hs:=hS _ (List.mem_of_getElem? hx)
 rw[z1e hx]
 refine⟨?_,hs.few⟩
 have ht:=hs.text
 unfold brB at hb
 rw[z1w hx] at hb
 have hk:ns[i].kind=1∨ns[i].kind=12∨ns[i].kind=13:=by simpa[or_assoc] using hb
 unfold zk0 at ht
 rwa [if_pos (by omega)] at ht
theorem zqt {w:World} {B:Nat} {a:Option Addr} {c:Nat} {k:Nat} {us:List Nat} {qs:List Np} (h:Nds w B a c qs) (hM:MbT (qs.map Np.nd) k us) {f t:ByteArray} (hf:f.size≤3000) (ht:zj9 t) (ht1:t.size≤3000) (hc1:0<zau (qs.map Np.nd) us f) (hc2:zau (qs.map Np.nd) us t=0) :
 Calls Tryz.prog 21 #[.slice a qs.length c,.int .i64 (k:Int),.string f,.string t] w (zmr (qs.map Np.nd) us f t w):=by
 obtain⟨y,hy,h21⟩:=hM.2.2.2.2
 rw[← z9n] at hc1 hc2
 exact zq2 zhc h (fun q hq=>hM.2.1 _ (List.mem_map_of_mem hq)) hM.1 hM.q hM.2.2.2.1 hy h21 hf ht.1 (z85 ht.1).1 ht1 hc1 hc2
theorem za3 {w:World} {B:Nat} {a:Option Addr} {c:Nat} {k:Nat} {us:List Nat} {qs:List Np} (h:Nds w B a c qs) (hM:MbT (qs.map Np.nd) k us) {s:ByteArray} (hs:s.size≤3000) :
 Calls Tryz.prog 22 #[.slice a qs.length c,.int .i64 (k:Int),.string s] w fun e w'=>e=.returned (.int .i64 (zau (qs.map Np.nd) us s:Nat))∧Below w.heap.size w w':=by
 have:=zn5 h (fun q hq=>hM.2.1 _ (List.mem_map_of_mem hq)) hM.q (s:=s) (by unfold maxLen;omega)
 rwa [z9n] at this
end Go.Proofs.YtekebloinobjnaaGreatDoor
