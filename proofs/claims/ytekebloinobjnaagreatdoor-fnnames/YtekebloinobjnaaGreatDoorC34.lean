/- Texts of one proof, laid together: UnI, NmRen, UkI. -/
import Derived.Test.YtekebloinobjnaaGreatDoorC33
import Derived.Lib.OwnBridge
import Derived.Deep.RegionWith
set_option maxHeartbeats 16000000
set_option maxRecDepth 100000
namespace Go.Proofs.YtekebloinobjnaaGreatDoor
open Go.RowKit
def zug (ns:List Nd) (k:Nat) (w:World) (e:Ending) (w':World):Prop:=∃ d:Int,e=.returned (.int .i64 d)∧(d=0↔¬ z79 ns (k+1))∧Below w.heap.size w w'
theorem zp6 {w:World} {B:Nat} {a:Option Addr} {c k:Nat} {qs:List Np} (h:Nds w B a c qs) (hS:∀ q∈qs,SafeNd q.nd) (hn:qs.length≤300) (hk:k<qs.length):Calls Tryz.prog 70 #[.slice a qs.length c,.int .i64 (k:Int)] w (zug (qs.map Np.nd) k w):=by
 have qD:=zb5 (n:=k+1) zhv h hS (by omega) hk hn
 have hnat:((k+1:Nat):Int)=(k:Int)+1:=by omega
 rw[hnat] at qD
 have h0:¬ (k:Int)<0:=by omega
 have h1:¬ (qs.length:Int)≤(k:Int):=by omega
 clear h hS hnat
 go_enter Tryz.func70,Tryz.ntmps70
 go_wp2_with fail
 refine qD.mono ?_
 rintro e w2 ⟨v,bb,rfl,hd,b2,hv⟩
 cases bb with
 | false =>
   have HD:=z00 (show ¬ z79 (qs.map Np.nd) (k+1) from fun e=>by cases hd.2 e)
   clear qD hd hv
   go_wp2
   go_ret
   exact⟨0,rfl,by simp[HD.out],b2⟩
 | true =>
   obtain⟨es,he,ho⟩:=hv rfl
   have hel:es.length=k+1:=z3m he
   obtain⟨ao,cc,rfl⟩:=z06 ho
   obtain⟨ob,rfl⟩:=z0s ho (by omega)
   have hobl:=(ho.lt ob rfl).2
   obtain⟨n,hnn⟩:∃ n,es[k]?=some n:=⟨_,List.getElem?_eq_getElem (by omega)⟩
   have ck:w2.cell? ⟨ob,k,none⟩=some (.int .i64 (n:Int)):=(ho.cellAt k (by omega)).trans (by unfold z02;rw[List.getElem?_map,List.getElem?_map,hnn];rfl)
   have hle:=(z6g he n (List.mem_of_getElem? hnn)).1
   have HA:=z00 (show ((n:Int)=0↔¬ z79 (qs.map Np.nd) (k+1)) from⟨fun h=>by omega,fun h=>absurd ⟨es,he⟩ h⟩)
   have hA1:(0:Int)≤(k:Int):=by omega
   have hB1:(k:Int)<(k:Int)+1:=by omega
   clear qD hd hv he ho hel hnn hle
   go_wp2
   go_ret
   exact⟨_,rfl,HA.out,b2⟩
theorem zja {w:World} {a:Option Addr} {c n:Nat}:Calls Tryz.prog 70 #[.slice a n c,.int .i64 (-1)] w fun e w'=>e=.returned (.int .i64 0)∧w'=w:=by
 go_enter Tryz.func70,Tryz.ntmps70
 go_wp2
 go_ret
 exact⟨rfl,rfl⟩
theorem z9e {B e b c n:Nat}:∀ (vs:List Value) (o:Nat) (xs:List Value) (w:World),o+vs.length=n→w.ownsRow B e 1 (.slice (some ⟨b,0,none⟩) n c) n xs→(w.setCells b o vs).ownsRow B e 1 (.slice (some ⟨b,0,none⟩) n c) n (xs.take o++vs)∧w.grownBy (w.setCells b o vs) (some b)
 | [],o,xs,w,hl,ho=>by
   have h1:xs.length=n:=by have:=ho.1;omega
   rw[List.append_nil,List.take_of_length_le (by simp at hl;omega)]
   exact⟨ho,World.grownBy.refl _ _⟩
 | v::vs,o,xs,w,hl,ho=>by
   have h1:xs.length=n:=by have:=ho.1;omega
   simp only[List.length_cons] at hl
   have hs:=ho.stored o v
   have ih:=z9e vs (o+1) (xs.set o v) (w.setCell ⟨b,o,none⟩ v) (by omega) hs.1
   refine⟨?_,z0w hs.2 ih.2⟩
   have e1:(xs.set o v).take (o+1)++vs=xs.take o++v::vs:=by
    rw[List.take_add_one,List.take_set_of_le (Nat.le_refl _),List.getElem?_set_self (by omega)]
    simp
   rw[← e1]
   exact ih.1
def zfg (ns:List Nd) (k m:Nat) (bs:List Bool):Prop:=∀ i,Mk bs i↔i=k∨∃ q,m≤q∧Und ns k q∧zcc ns q i
def zbp (ns:List Nd) (k m:Nat) (ds:List Nat):Prop:=ds.Pairwise (·>·)∧∀ i,i∈ds↔Und ns k i∧m≤i
theorem zl1 {ns:List Nd} {n k p:Nat} {bs:List Bool} (hD:z2r ns n) (hk:k<n) (h:zfg ns k (p+1) bs):Mk bs p↔Und ns k p:=by
 rw[h p,zkt]
 constructor
 ·rintro(h1|⟨q,_,h2,h3⟩)
  ·exact .inl h1
  ·exact .inr ⟨q,h2,h3⟩
 ·rintro(h1|⟨q,⟨f,h2⟩,x,h3,h4⟩)
  ·exact .inl h1
  ·have:=z4l hD hk h2
   have:=hD q x p (by omega) h3 h4
   exact .inr ⟨q,by omega,⟨f,h2⟩,x,h3,h4⟩
theorem zlr {ns:List Nd} {k p:Nat} {bs:List Bool} (h:zfg ns k (p+1) bs) (hp:¬ Und ns k p):zfg ns k p bs:=fun i=>(h i).trans ⟨fun h=>h.imp id (fun ⟨q,h1,h2⟩=>⟨q,by omega,h2⟩),fun h=>h.imp id (fun ⟨q,h1,h2,h3⟩=>⟨q,by
 rcases Nat.lt_or_ge p q with h4|h4
 ·exact h4
 ·exact absurd ((show q=p by omega) ▸ h2) hp,h2,h3⟩)⟩
theorem zln {ns:List Nd} {k p:Nat} {ds:List Nat} (h:zbp ns k (p+1) ds) (hp:¬ Und ns k p):zbp ns k p ds:=⟨h.1,fun i=>(h.2 i).trans ⟨fun ⟨h1,h2⟩=>⟨h1,by omega⟩,fun ⟨h1,h2⟩=>⟨h1,by
 rcases Nat.lt_or_ge p i with h4|h4
 ·exact h4
 ·exact absurd ((show i=p by omega) ▸ h1) hp⟩⟩⟩
theorem zgq {ns:List Nd} {k p:Nat} {ds:List Nat} (h:zbp ns k (p+1) ds) (hp:Und ns k p):zbp ns k p (ds++[p]):=by
 refine⟨List.pairwise_append.2 ⟨h.1,by simp,fun a ha b hb=>?_⟩,fun i=>?_⟩
 ·obtain rfl:b=p:=by simpa using hb
  have:=((h.2 a).1 ha).2
  omega
 ·rw[List.mem_append,h.2]
  constructor
  ·rintro(⟨h1,h2⟩|h1)
   ·exact⟨h1,by omega⟩
   ·obtain rfl:i=p:=by simpa using h1
    exact⟨hp,Nat.le_refl _⟩
  ·rintro⟨h1,h2⟩
   by_cases e:i=p
   ·exact .inr (by simp[e])
   ·exact .inl ⟨h1,by omega⟩
theorem zjf {ns:List Nd} {n k m:Nat} {ds:List Nat} (hD:z2r ns n) (hk:k<n) (h:zbp ns k m ds):ds.length≤n:=by
 have h1:ds ⊆ List.range n:=fun u hu=>by
  obtain⟨⟨f,hf⟩,_⟩:=(h.2 u).1 hu
  have:=z4l hD hk hf
  exact List.mem_range.2 (by omega)
 have:=List.Nodup.length_le_of_subset (h.1.imp (fun h=>Nat.ne_of_gt h)) h1
 simpa using this
theorem zhg {ns:List Nd} {k:Nat} {ds:List Nat} (h:zbp ns k 0 ds):z9p ns k ds.reverse:=⟨List.pairwise_reverse.2 h.1,fun i=>by rw[List.mem_reverse,h.2];exact⟨fun h=>h.1,fun h=>⟨h,Nat.zero_le _⟩⟩⟩
def zpl (ns:List Nd) (k p:Nat) (ks:List Int) (jj:Nat) (bs:List Bool):Prop:=∀ i,Mk bs i↔(i=k∨∃ q,p+1≤q∧Und ns k q∧zcc ns q i)∨∃ m,m<jj∧ks[m]?=some (i:Int)
theorem zjt {ns:List Nd} {k p:Nat} {x:Nd} {bs:List Bool} (hx:ns[p]?=some x) (hp:Und ns k p) (h:zpl ns k p x.kids x.kids.length bs):zfg ns k p bs:=fun i=>(h i).trans (by
 constructor
 ·rintro((h1|⟨q,h1,h2⟩)|⟨m,h1,h2⟩)
  ·exact .inl h1
  ·exact .inr ⟨q,by omega,h2⟩
  ·exact .inr ⟨p,Nat.le_refl _,hp,x,hx,List.mem_of_getElem? h2⟩
 ·rintro(h1|⟨q,h1,h2,y,h3,h4⟩)
  ·exact .inl (.inl h1)
  ·by_cases e:q=p
   ·subst e
    rw[hx] at h3
    injection h3 with h3
    subst h3
    obtain⟨m,hm⟩:=List.mem_iff_getElem?.1 h4
    exact .inr ⟨m,(List.getElem?_eq_some_iff.1 hm).1,hm⟩
   ·exact .inl (.inr ⟨q,by omega,h2,y,h3,h4⟩))
theorem zs7 {w:World} {B:Nat} {a:Option Addr} {c k:Nat} {qs:List Np} (h:Nds w B a c qs) (hS:∀ q∈qs,SafeNd q.nd) (hT:TreeP (qs.map Np.nd)) (hk:k<qs.length):Calls Tryz.prog 25 #[.slice a qs.length c,.int .i64 (k:Int)] w (zmz (qs.map Np.nd) k w):=by
 obtain⟨i0,hi,hz0,hz1,hz2⟩:=info_parts z29
 obtain⟨i1,hj,hy0,hy1,hy2⟩:=info_parts zbt
 have hn:qs.length≤300:=by have:=hT.most;simpa using this
 have qD:=fun W (hW:Below w.heap.size w W)=>zp6 (k:=k) (h.below hW) hS hn hk
 have hd:=z00 (z8k hT.deep (show k+1≤(qs.map Np.nd).length by rw[List.length_map];exact hk))
 have hDn:z2r (qs.map Np.nd) qs.length:=by have:=z18 hT;simpa using this
 have h12:∀ q∈qs,q.nd.kids.length≤12:=fun q hq=>by
  obtain⟨j,hj⟩:=List.getElem?_of_mem hq
  exact z34 (z0x hT.deep (by have:=(List.getElem?_eq_some_iff.1 hj).1;simpa using this) (show (qs.map Np.nd)[j]?=some q.nd by rw[List.getElem?_map,hj];rfl)).cnt
 have HH:=z00 h
 have HD:=z00 hDn
 have H12:=z00 h12
 obtain⟨a0,rfl⟩:=z0s h.row (by omega)
 clear h hS hT h12 hDn
 go_enter Tryz.func25,Tryz.ntmps25
 have B0:Below w.heap.size w (w.alloc (.cells #[] tI)):=(Below.refl _ _).alloc (Nat.le_refl _) _
 go_wp2_with fail
 refine(qD _ B0).mono ?_
 rintro e w2 ⟨d,rfl,hd0,b2⟩
 have hdn:(d==0)=false:=by rw[beq_eq_false_iff_ne];exact fun e=>hd0.1 e hd.out
 have hown0:(w.alloc (.cells #[] tI)).ownsRow w.heap.size tI 1 (.slice (some ⟨w.heap.size,0,none⟩) 0 0) 0 []:=World.ownsRow_made w #[] 0 (Nat.le_refl _) (by decide) rfl
 have o2:=z07 hown0 b2
 have B2:=B0.trans (b2.mono B0.size)
 have hs2:=B2.size
 clear qD hd0 b2 hown0
 have hnat:((k+1:Nat):Int)=(k:Int)+1:=by omega
 go_wp2_with (at_make;go_loud (refine wpList_make_full _ rfl _ _ 64 rfl w2.heap.size 4 i1 (.bool false) 1 Tryz.underlying64 hj hy0 hy1 .i64 .i64 _ _ (k+1) rfl (by rw[hnat];try rfl) (by rw[hnat];try rfl) rfl (by rw[hy2];omega) (by unfold maxLen;omega) (Nat.le_refl _) ?_;intro w3 hown hgrow;rw[zkh] at hown;have ck:=(hown.cellAt k (by omega)).trans (show (z0b (List.replicate (k+1) false))[k]?=some (.bool false) by unfold z0b;simp);have fz:=hown.frozenAt k;have hul:=(hown.lt _ rfl).2;have hA9:(0:Int)≤(k:Int):=(by omega);have hB9:(k:Int)<(k:Int)+1:=(by omega)))
 have b3:Below w2.heap.size w2 w3:=(Below.refl _ _).grown hgrow (Nat.le_refl _) (fun k e=>by cases e)
 have o3:=z07 o2 b3
 have B3:=B2.trans (b3.mono hs2)
 obtain⟨ub,hub⟩:∃ ub,ub=w2.heap.size:=⟨_,rfl⟩
 rw[← hub] at hown ck fz hul ⊢
 have hubw:w.heap.size≤ub:=by omega
 have hst:=hown.stored k (.bool true)
 rw[show (z0b (List.replicate (k+1) false)).set k (.bool true)=z0b ((List.replicate (k+1) false).set k true) by unfold z0b;rw[List.map_set]] at hst
 have HB3:=z00 B3
 have HS0:=z00 hst
 have HM0:=z00 (show zfg (qs.map Np.nd) k (k+1) ((List.replicate (k+1) false).set k true) from fun i=>by
  rw[zel (by simp)]
  constructor
  ·rintro(h|h)
   ·exact .inl h
   ·exact absurd h z89
  ·rintro(h|⟨q,h1,⟨f,h2⟩,_⟩)
   ·exact .inl h
   ·have:=z4l HD.out hk h2
    omega)
 have o4:=World.ownsRow.kept o3 HS0.out.2 (z0k o3 hown (by decide))
 have HL0:=z00 (show zbp (qs.map Np.nd) k (k+1) [] from⟨List.Pairwise.nil,fun i=>⟨fun h=>(by cases h),fun ⟨⟨f,h1⟩,h2⟩=>by have:=z4l HD.out hk h1;omega⟩⟩)
 clear hgrow b3 o2 hub B2 hj hy0 hy1 hy2 hown ck fz o3 hst hnat B3
 go_loopw [5,7] (fun v i wr=>∃ (m:Nat) (ds:List Nat) (bs:List Bool),m≤k+1∧i=.int .i64 ((m:Int)-1)∧wr.ownsRow w.heap.size tI 1 v (z1d ds).length (z02 (z1d ds))∧wr.ownsRow ub tB 1 (.slice (some ⟨ub,0,none⟩) (k+1) (k+1)) (k+1) (z0b bs)∧Hid (Below w.heap.size w wr)∧Hid (bs.length=k+1∧zfg (qs.map Np.nd) k m bs)∧Hid (zbp (qs.map Np.nd) k m ds)) (fun _ i _=>(intOf i+1).toNat)
 case atStart=>exact⟨k+1,[],_,Nat.le_refl _,by go_num,o4,HS0.out.1,z00 (HB3.out.grown HS0.out.2 HB3.out.size (fun q e=>by injection e with e;omega)),z00 ⟨by simp,HM0.out⟩,HL0⟩
 case round =>
  clear o4 HB3 HS0 HM0 HL0
  obtain⟨m,ds,bs,hm,rfl,ho,hb,HW,HM,HL⟩:=hrel
  obtain⟨ao,cc,rfl⟩:=z06 ho
  have hws:=HW.out.size
  have hdf:=zjf HD.out hk HL.out
  have hnl:=z1t ds
  cases m with
  | zero =>
    have hge:¬ (0:Int)≤((0:Nat):Int)-1:=by omega
    have HL2:=z00 (zhg HL.out)
    have HO:=z00 ho
    have hkd:k∈ds:=(HL.out.2 k).2 ⟨z7g _ _,Nat.zero_le _⟩
    have hpos:0<ds.length:=List.length_pos_of_mem hkd
    obtain⟨n1,hn1⟩:∃ n1,n1=(z1d ds).length:=⟨_,rfl⟩
    rw[← hn1] at HO ho hnl ⊢
    obtain⟨ob,rfl⟩:=z0s ho (by omega)
    have qV:=Tryz.slices_Reverse_int_cells ob 0 n1 cc (z1d ds) wr (by omega) (by omega) (fun j hj=>by
     rw[Nat.zero_add]
     refine(ho.cellAt j (by omega)).trans ?_
     unfold z02
     rw[List.getElem?_map,List.getElem?_eq_getElem hj,List.getD_eq_getElem?_getD,List.getElem?_eq_getElem hj]
     rfl) (fun j hj=>by rw[Nat.zero_add];exact ho.frozenAt j)
    have HN1:=z00 hn1
    clear ho hb hnl hn1 hkd
    go_wp2_with fail
    refine qV.mono ?_
    rintro e w5 ⟨rfl,q,hw5⟩
    have o5:=z9e (((z1d ds).take n1).reverse.map (Value.int .i64)) 0 _ (wr.drewN q) (by simp;have:=HN1.out;omega) (z07 HO.out (z0e wr q))
    rw[← hw5] at o5
    have e5:((z1d ds).take n1).reverse.map (Value.int .i64)=z02 (z1d ds.reverse):=by
     rw[HN1.out,List.take_length]
     unfold z02 z1d
     simp
    rw[List.take_zero,List.nil_append,e5] at o5
    have B5:=(HW.out.trans ((z0e wr q).mono hws)).grown o5.2 (by have:=HW.out.size;simpa using this) (fun q e=>by injection e with e;have:=(HO.out.lt ob rfl).1;omega)
    have hl5:n1=(z1d ds.reverse).length:=by rw[HN1.out];simp[z1d]
    have HO5:=z00 o5.1
    have HL5:=z00 hl5
    clear qV hw5 o5 e5 hl5
    go_wp2
    go_ret
    refine⟨_,HL2.out,za8 B5 ?_⟩
    rw[← HL5.out]
    exact HO5.out
  | succ p =>
    have hcast:((p+1:Nat):Int)-1=(p:Int):=by omega
    rw[hcast]
    have hge:(0:Int)≤(p:Int):=by omega
    have hB1:(p:Int)<(k:Int)+1:=by omega
    have hB2:(p:Int)<(qs.length:Int):=by omega
    obtain⟨bp,hbp⟩:∃ bp,bs[p]?=some bp:=⟨_,List.getElem?_eq_getElem (by rw[HM.out.1];omega)⟩
    have cb:=(hb.cellAt p (by omega)).trans (show (z0b bs)[p]?=some (.bool bp) by unfold z0b;rw[List.getElem?_map,hbp];rfl)
    have HU:=z00 (show bp=true↔Und (qs.map Np.nd) k p from by rw[← zl1 HD.out hk HM.out.2];unfold Mk;rw[hbp];simp)
    clear hbp hcast
    cases bp with
    | false =>
      have hno:¬ Und (qs.map Np.nd) k p:=fun h=>by cases HU.out.2 h
      have HM2:=z00 (zlr HM.out.2 hno)
      have HL2:=z00 (zln HL.out hno)
      clear hnl hno
      go_wp2
      go_roundw
      case rel=>exact⟨p,ds,bs,by omega,by go_num,ho,hb,HW,z00 ⟨HM.out.1,HM2.out⟩,HL2⟩
      case measure=>simp[intOf]
    | true =>
      have hyes:=HU.out.1 rfl
      obtain⟨q,hq⟩:∃ q,qs[p]?=some q:=⟨_,List.getElem?_eq_getElem (by omega)⟩
      have hm12:=H12.out q (List.mem_of_getElem? hq)
      have HX:=z00 (show (qs.map Np.nd)[p]?=some q.nd by rw[List.getElem?_map,hq];rfl)
      have HQ:=z00 hq
      have HY:=z00 hyes
      have HL2:=z00 (zgq HL.out hyes)
      have HO:=z00 ho
      have HB:=z00 hb
      obtain⟨n1,hn1⟩:∃ n1,n1=(z1d ds).length:=⟨_,rfl⟩
      have HN1:=z00 hn1
      have hn2:n1≤300:=by omega
      rw[← hn1] at HO ⊢
      clear hn1 hnl ho hb hq hyes HL HU
      go_wp2_with (at_builtin;refine z04 rfl _ _ 29 rfl w.heap.size 3 i0 _ 1 8 Tryz.underlying29 hi hz0 hz1 hz2 rfl (by decide) (.slice ao n1 cc) n1 (z02 (z1d ds)) rfl (HO.out.alloc _) ⟨wr.heap.size,0,none⟩ 1 1 [.int .i64 (p:Int)] rfl rfl (cell_one_new _ _ _) (by simp[Value.oneCell']) (by unfold maxLen;omega) (by omega) (by simp;omega) ?_;intro v' w5 hown' hgrow5 hpl5;clear hpl5;have B5:=(HW.out.alloc (by omega) (.cells #[.int .i64 (p:Int)] tI)).grown hgrow5 (by simp;omega) (fun q hq=>(HO.out.lt q hq).1);have HB5:=z00 B5;obtain⟨b',hbb,hb2,d0,d1,d2,d3⟩:=(HH.out.below B5).node HQ.out;obtain rfl:a0=b':=(by injection hbb with hbb;injection hbb);clear hbb d0 d1 d3 B5)
      have o5:=z0c hown' HN1.out
      have e5:z1d (ds++[p])=z1d ds++[(p:Int)]:=by simp[z1d]
      have b5:=World.ownsRow.kept (HB.out.alloc (.cells #[.int .i64 (p:Int)] tI)) hgrow5 (z0k (HB.out.alloc _) (HO.out.alloc (.cells #[.int .i64 (p:Int)] tI)) (by decide))
      rw[← e5] at o5
      have HO5:=z00 o5
      have HBr:=z00 b5
      have s5:=HB5.out.size
      clear hown' hgrow5 cb o5 e5
      go_loopw [9,42] (fun _ i wi=>∃ (jj:Nat) (bs':List Bool),jj≤q.nd.kids.length∧i=.int .i64 (jj:Int)∧wi.ownsRow ub tB 1 (.slice (some ⟨ub,0,none⟩) (k+1) (k+1)) (k+1) (z0b bs')∧Hid (w5.grownBy wi (some ub))∧Hid (bs'.length=k+1∧zpl (qs.map Np.nd) k p q.nd.kids jj bs')) (fun _ i _=>q.nd.kids.length-(intOf i).toNat)
      case atStart=>exact⟨0,bs,Nat.zero_le _,rfl,b5,z00 (World.grownBy.refl _ _),z00 ⟨HM.out.1,fun i=>(HM.out.2 i).trans ⟨.inl,fun h=>h.elim id (fun ⟨m,h,_⟩=>by omega)⟩⟩⟩
      case round =>
       clear b5 HM d2
       obtain⟨jj,bs',hjj,rfl,hb,HG,HK⟩:=hrel
       have Bi:=HB5.out.grown HG.out s5 (fun k e=>by injection e with e;omega)
       have HBi:=z00 Bi
       clear Bi
       by_cases hl2:jj<q.nd.kids.length
       ·obtain⟨z,ez⟩:∃ z,q.nd.kids[jj]?=some z:=⟨_,List.getElem?_eq_getElem hl2⟩
        have hzr:=HD.out p q.nd z (by omega) HX.out (List.mem_of_getElem? ez)
        obtain⟨zn,rfl⟩:∃ zn:Nat,z=(zn:Int):=⟨z.toNat,by omega⟩
        obtain⟨kb,hkb,hkbl,ckz⟩:=(HH.out.below HBi.out).kid HQ.out ez
        rw[hkb]
        obtain⟨bz,hbz⟩:∃ bz,bs'[zn]?=some bz:=⟨_,List.getElem?_eq_getElem (by rw[HK.out.1];omega)⟩
        have cz:=(hb.cellAt zn (by omega)).trans (show (z0b bs')[zn]?=some (.bool bz) by unfold z0b;rw[List.getElem?_map,hbz];rfl)
        have hfz:=hb.frozenAt zn
        have hul2:=(hb.lt ub rfl).2
        have hst:=hb.stored zn (.bool true)
        rw[show (z0b bs').set zn (.bool true)=z0b (bs'.set zn true) by unfold z0b;rw[List.map_set]] at hst
        have HS:=z00 hst
        have HK2:=z00 (show (bs'.set zn true).length=k+1∧zpl (qs.map Np.nd) k p q.nd.kids (jj+1) (bs'.set zn true) from⟨by simpa using HK.out.1,fun i=>by
         rw[zel (by rw[HK.out.1];omega),HK.out.2 i]
         constructor
         ·rintro(h|h|⟨m,h1,h2⟩)
          ·exact .inr ⟨jj,by omega,by rw[h];exact ez⟩
          ·exact .inl h
          ·exact .inr ⟨m,by omega,h2⟩
         ·rintro(h|⟨m,h1,h2⟩)
          ·exact .inr (.inl h)
          ·by_cases e:m=jj
           ·subst e
            rw[ez] at h2
            injection h2 with h2
            exact .inl (by omega)
           ·exact .inr (.inr ⟨m,by omega,h2⟩)⟩)
        have hA6:(0:Int)≤(jj:Int):=by omega
        have hB6:(jj:Int)<(q.nd.kids.length:Int):=by omega
        have hA7:(0:Int)≤(zn:Int):=by omega
        have hB7:(zn:Int)<(k:Int)+1:=by omega
        clear ez hst hbz hb
        go_wp2
        go_roundw
        case rel=>exact⟨jj+1,bs'.set zn true,by omega,by go_num,HS.out.1,z00 (z0w HG.out HS.out.2),HK2⟩
        case measure=>simp[intOf];omega
       ·have hB6:¬ (jj:Int)<(q.nd.kids.length:Int):=by omega
        obtain rfl:jj=q.nd.kids.length:=by omega
        have HM2:=z00 (zjt HX.out HY.out HK.out.2)
        have o6:=World.ownsRow.kept HO5.out HG.out (z0k HO5.out HBr.out (by decide))
        have hl6:n1+1=(z1d (ds++[p])).length:=by rw[HN1.out];simp[z1d]
        have HO6:=z00 o6
        have HL6:=z00 hl6
        clear o6 hl6
        go_wp2
        go_roundw
        case rel=>exact⟨p,ds++[p],bs',by omega,by go_num,HO6.out,hb,HBi,z00 ⟨HK.out.1,HM2.out⟩,HL2⟩
        case measure=>simp[intOf]
def ShP (ns ms:List Nd):Prop:=ms.length=ns.length∧∀ (i:Nat) (x y:Nd),ns[i]?=some x→ms[i]?=some y→y.kind=x.kind∧y.kids=x.kids∧y.blank=x.blank
theorem zdx {ns ms:List Nd} (h:ShP ns ms):ShP ms ns:=⟨h.1.symm,fun i x y hx hy=>by
 obtain⟨h1,h2,h3⟩:=h.2 i y x hy hx
 exact⟨h1.symm,h2.symm,h3.symm⟩⟩
theorem z5g {ns ms:List Nd} (h:ShP ns ms) {i:Nat} {x:Nd} (hx:ns[i]?=some x):∃ y,ms[i]?=some y∧y.kind=x.kind∧y.kids=x.kids∧y.blank=x.blank:=by
 have hi:i<ms.length:=by rw[h.1];exact(List.getElem?_eq_some_iff.1 hx).1
 exact⟨ms[i],List.getElem?_eq_getElem hi,h.2 i x _ hx (List.getElem?_eq_getElem hi)⟩
theorem zo3 {ns ms:List Nd} (h:ShP ns ms) {q i:Nat} (hk:zcc ns q i):zcc ms q i:=by
 obtain⟨x,hx,hz⟩:=hk
 obtain⟨y,hy,_,h2,_⟩:=z5g h hx
 exact⟨y,hy,by rw[h2];exact hz⟩
theorem zcu {ns ms:List Nd} (h:ShP ns ms) {k:Nat}:∀ {f i:Nat},zg0 ns f k i→zg0 ms f k i
 | 0,_,h1=>h1
 | _+1,_,⟨q,h1,h2⟩=>⟨q,zcu h h1,zo3 h h2⟩
theorem zqx {ns ms:List Nd} (h:ShP ns ms) {k i:Nat}:Und ns k i↔Und ms k i:=⟨fun ⟨f,h1⟩=>⟨f,zcu h h1⟩,fun ⟨f,h1⟩=>⟨f,zcu (zdx h) h1⟩⟩
theorem zk3 {ns ms:List Nd} (h:ShP ns ms) {k:Nat} {x y:Nd} (h1:y.kind=x.kind) (h2:y.kids=x.kids) (h3:y.blank=x.blank) (hN:NodeP ns k x):NodeP ms k y:=by
 refine⟨by rw[h1];exact hN.kind,by rw[h1,h2];exact hN.cnt,by rw[h1,h3];exact hN.blank,by rw[h2];exact hN.place,by rw[h2];exact hN.once,fun i z u hz hu=>?_⟩
 rw[h2] at hz
 obtain⟨v,hv,k1,k2,_⟩:=z5g (zdx h) hu
 have hf:=hN.fits i z v hz hv
 rw[h1,h2]
 refine⟨fun h5=>?_,?_⟩
 ·obtain⟨z0,g1,g2,g3⟩:=hf.1 (by rw[k1];exact h5)
  exact⟨z0,by rw[← k2];exact g1,g2,by rw[h.1];exact g3⟩
 ·have hr:=hf.2
  generalize z0f x.kind i x.kids.length=r at hr ⊢
  match r,hr with
  | 0,hr=>exact hr.imp (fun h=>by rw[← k1];exact h) (fun h=>by rw[← k1];exact h)
  | 1,hr=>show zmj u.kind;rw[← k1];exact hr
  | 2,hr=>show u.kind=1;rw[← k1];exact hr
  | 3,hr =>
    obtain⟨g1,z0,w0,g2,g3,g4⟩:=hr
    obtain⟨w1,hw,k3,_,_⟩:=z5g h g3
    exact⟨by rw[← k1];exact g1,z0,w1,by rw[← k2];exact g2,hw,by rw[k3];exact g4⟩
  | 4,hr=>show u.kind=18;rw[← k1];exact hr
  | 5,hr=>show z3z u.kind;rw[← k1];exact hr
  | 6,hr=>show z3y u.kind;rw[← k1];exact hr
  | _+7,hr=>exact hr.imp (fun h=>by rw[← k1];exact h) (fun h=>by rw[← k1];exact h)
theorem zdt {ns ms:List Nd} (h:ShP ns ms):∀ {n:Nat} {ds:List Nat},z5q ns n ds→z5q ms n ds
 | 0,_,h1=>h1
 | n+1,_,⟨ds',x,h1,h2,h3,h4,h5⟩=>by
   obtain⟨y,hy,k1,k2,k3⟩:=z5g h h2
   exact⟨ds',y,zdt h h1,hy,zk3 h k1 k2 k3 h3,by rw[k2];exact h4,by rw[k2];exact h5⟩
theorem zgj {i:Nat}:∀ {ns ms:List Nd},ShP ns ms→z5m i ns=z5m i ms
 | [],[],_=>rfl
 | [],_::_,h=>by have:=h.1;simp at this
 | _::_,[],h=>by have:=h.1;simp at this
 | x::ns,y::ms,h=>by
   have h1:=(h.2 0 x y rfl rfl).2.1
   have h2:ShP ns ms:=⟨by have:=h.1;simpa using this,fun j a b ha hb=>h.2 (j+1) a b (by simpa using ha) (by simpa using hb)⟩
   rw[z5m,z5m,h1,zgj h2]
theorem zol {ns ms:List Nd} (h:ShP ns ms) (hT:TreeP ns):TreeP ms:=by
 refine⟨by rw[h.1];exact hT.least,by rw[h.1];exact hT.most,?_,?_,fun i hi=>?_⟩
 ·obtain⟨x,h1,h2⟩:=hT.last
  obtain⟨y,hy,k1,_⟩:=z5g h h1
  exact⟨y,by rw[h.1];exact hy,by rw[k1];exact h2⟩
 ·obtain⟨ds,hd⟩:=hT.deep
  rw[h.1]
  exact⟨ds,zdt h hd⟩
 ·rw[← zgj h]
  exact hT.used i (by rw[← h.1];exact hi)
def zas (ns ms:List Nd) (B:Nat→Prop) (f t:ByteArray):Prop:=ms.length=ns.length∧∀ (i:Nat) (x:Nd),ns[i]?=some x→(B i∧x.text=f→ms[i]?=some { x with text:=t })∧(¬ (B i∧x.text=f)→ms[i]?=some x)
theorem z43 {ns ms:List Nd} {B:Nat→Prop} {f t:ByteArray} (h:zas ns ms B f t):ShP ns ms:=⟨h.1,fun i x y hx hy=>by
 by_cases hb:B i∧x.text=f
 ·rw[(h.2 i x hx).1 hb] at hy
  injection hy with hy
  subst hy
  exact⟨rfl,rfl,rfl⟩
 ·rw[(h.2 i x hx).2 hb] at hy
  injection hy with hy
  subst hy
  exact⟨rfl,rfl,rfl⟩⟩
theorem zl4 {ns ms os:List Nd} {B:Nat→Prop} {f t:ByteArray} (h:zas ns ms B f t) (hno:∀ i x,B i→ns[i]?=some x→x.text≠t) (h2:zas ms os B t f):os=ns:=by
 apply List.ext_getElem?
 intro i
 rcases hx:ns[i]? with _|x
 ·have:ns.length≤i:=List.getElem?_eq_none_iff.1 hx
  exact List.getElem?_eq_none_iff.2 (by rw[h2.1,h.1];exact this)
 ·by_cases hb:B i∧x.text=f
  ·rw[(h2.2 i _ ((h.2 i x hx).1 hb)).1 ⟨hb.1,rfl⟩]
   obtain⟨kd,tx,ks,bl⟩:=x
   rw[show tx=f from hb.2]
  ·refine(h2.2 i _ ((h.2 i x hx).2 hb)).2 (fun h3=>hno i x h3.1 hx h3.2)
def z0y (ns:List Nd) (i:Nat):ByteArray:=(ns[i]?.map Nd.text).getD ByteArray.empty
def z1l (ns:List Nd) (i:Nat):Int:=(ns[i]?.map Nd.kind).getD 0
theorem z1e {ns:List Nd} {i:Nat} {x:Nd} (h:ns[i]?=some x):z0y ns i=x.text:=by unfold z0y;rw[h];rfl
theorem z1w {ns:List Nd} {i:Nat} {x:Nd} (h:ns[i]?=some x):z1l ns i=x.kind:=by unfold z1l;rw[h];rfl
theorem z4o {ns ms:List Nd} (h:ShP ns ms) (i:Nat):z1l ms i=z1l ns i:=by
 rcases hx:ns[i]? with _|x
 ·have h1:ms[i]?=none:=List.getElem?_eq_none_iff.2 (by rw[h.1];exact List.getElem?_eq_none_iff.1 hx)
  unfold z1l
  rw[hx,h1]
 ·obtain⟨y,hy,k1,_⟩:=z5g h hx
  rw[z1w hy,z1w hx,k1]
def brB (ns:List Nd) (i:Nat):Bool:=z1l ns i==1||z1l ns i==12||z1l ns i==13
def zau (ns:List Nd) (us:List Nat) (s:ByteArray):Nat:=(us.filter fun i=>brB ns i&&decide (z0y ns i=s)).length
theorem zlm {ns ms:List Nd} {us:List Nat} {f t:ByteArray} (h:zas ns ms (fun i=>i∈us∧brB ns i=true) f t) (hlt:∀ i∈us,i<ns.length) (hne:t≠f):zau ms us f=0:=by
 unfold zau
 rw[List.length_eq_zero_iff,List.filter_eq_nil_iff]
 intro i hi hb
 rw[Bool.and_eq_true,decide_eq_true_eq] at hb
 have hbr:brB ns i=true:=by have:=hb.1;unfold brB at this ⊢;rwa [z4o (z43 h)] at this
 obtain⟨x,hx⟩:∃ x,ns[i]?=some x:=⟨_,List.getElem?_eq_getElem (hlt i hi)⟩
 by_cases hf:x.text=f
 ·have:=z1e ((h.2 i _ hx).1 ⟨⟨hi,hbr⟩,hf⟩)
  rw[hb.2] at this
  exact hne this.symm
 ·have:=z1e ((h.2 i _ hx).2 (fun h=>hf h.2))
  rw[hb.2] at this
  exact hf this.symm
theorem zl2 {ns ms:List Nd} {us:List Nat} {f t:ByteArray} (h:zas ns ms (fun i=>i∈us∧brB ns i=true) f t) (hlt:∀ i∈us,i<ns.length) (hno:∀ i∈us,brB ns i=true→z0y ns i≠t):zau ms us t=zau ns us f:=by
 unfold zau
 congr 1
 apply List.filter_congr
 intro i hi
 have hk:brB ms i=brB ns i:=by unfold brB;rw[z4o (z43 h)]
 rw[hk]
 cases hbr:brB ns i with
 | false=>rfl
 | true =>
   rw[Bool.true_and,Bool.true_and]
   obtain⟨x,hx⟩:∃ x,ns[i]?=some x:=⟨_,List.getElem?_eq_getElem (hlt i hi)⟩
   by_cases hf:x.text=f
   ·rw[z1e ((h.2 i _ hx).1 ⟨⟨hi,hbr⟩,hf⟩),z1e hx]
    simp[hf]
   ·rw[z1e ((h.2 i _ hx).2 (fun h=>hf h.2)),z1e hx]
    have h1:=hno i hi hbr
    rw[z1e hx] at h1
    simp[hf,h1]
def phi (f t s:ByteArray):ByteArray:=if s=f then t else s
theorem zj0 {f t a b:ByteArray} (ha:a≠t) (hb:b≠t) (h:phi f t a=phi f t b):a=b:=by
 unfold phi at h
 by_cases h1:a=f
 ·by_cases h2:b=f
  ·rw[h1,h2]
  ·rw[if_pos h1,if_neg h2] at h
   exact absurd h.symm hb
 ·by_cases h2:b=f
  ·rw[if_neg h1,if_pos h2] at h
   exact absurd h ha
  ·rw[if_neg h1,if_neg h2] at h
   exact h
theorem z7n {ns ms:List Nd} {us:List Nat} {f t:ByteArray} (h:zas ns ms (fun i=>i∈us∧brB ns i=true) f t) {i:Nat} (hi:i∈us) (hlt:i<ns.length) (hb:brB ns i=true):z0y ms i=phi f t (z0y ns i):=by
 obtain⟨x,hx⟩:∃ x,ns[i]?=some x:=⟨_,List.getElem?_eq_getElem hlt⟩
 unfold phi
 by_cases hf:x.text=f
 ·rw[z1e ((h.2 i x hx).1 ⟨⟨hi,hb⟩,hf⟩),z1e hx,if_pos hf]
 ·rw[z1e ((h.2 i x hx).2 (fun h=>hf h.2)),z1e hx,if_neg hf]
theorem zp2 {ns ms:List Nd} {us:List Nat} {f t:ByteArray} {A N:Nat→Prop} (h:zas ns ms (fun i=>i∈us∧brB ns i=true) f t) (hlt:∀ i∈us,i<ns.length) (hno:∀ i∈us,brB ns i=true→z0y ns i≠t) (hA:∀ i∈us,A i→brB ns i=true) (hN:∀ i∈us,N i→brB ns i=true)
 {U V:List ByteArray} (hU:U.Nodup) (hV:V.Nodup) (mU:∀ s,s∈U↔(∃ i∈us,A i∧z0y ns i=s)∧¬ ∃ i∈us,N i∧z0y ns i=s) (mV:∀ s,s∈V↔(∃ i∈us,A i∧z0y ms i=s)∧¬ ∃ i∈us,N i∧z0y ms i=s):V.length=U.length:=by
 have hnt:∀ s∈U,s≠t:=fun s hs=>by
  obtain⟨⟨i,hi,h1,h2⟩,_⟩:=(mU s).1 hs
  rw[← h2]
  exact hno i hi (hA i hi h1)
 have hM:(U.map (phi f t)).Nodup:=by
  rw[List.nodup_iff_pairwise_ne,List.pairwise_map]
  rw[List.nodup_iff_pairwise_ne] at hU
  exact hU.imp_of_mem (fun {a b} ha hb hab e=>hab (zj0 (hnt a ha) (hnt b hb) e))
 have hp:V.Perm (U.map (phi f t)):=(List.perm_ext_iff_of_nodup hV hM).2 fun s=>by
  rw[mV,List.mem_map]
  constructor
  ·rintro⟨⟨i,hi,h1,h2⟩,h3⟩
   have e1:=z7n h hi (hlt i hi) (hA i hi h1)
   refine⟨z0y ns i,(mU _).2 ⟨⟨i,hi,h1,rfl⟩,?_⟩,by rw[← e1,h2]⟩
   rintro⟨j,hj,k1,k2⟩
   exact h3 ⟨j,hj,k1,by rw[z7n h hj (hlt j hj) (hN j hj k1),k2,← e1,h2]⟩
  ·rintro⟨r,hr,rfl⟩
   obtain⟨⟨i,hi,h1,h2⟩,h3⟩:=(mU r).1 hr
   refine⟨⟨i,hi,h1,by rw[z7n h hi (hlt i hi) (hA i hi h1),h2]⟩,?_⟩
   rintro⟨j,hj,k1,k2⟩
   rw[z7n h hj (hlt j hj) (hN j hj k1)] at k2
   exact h3 ⟨j,hj,k1,zj0 (hno j hj (hN j hj k1)) (hnt r hr) k2⟩
 rw[hp.length_eq,List.length_map]
open Go.RowKit Go.Lib Go.Sort
theorem z2i {α:Type} [Inhabited α] (enc:α→Value) {w:World} {g n:Nat} {os:Array Obj} (d:Array α):w.grownBy (grow (putRow enc (Sort.ahead w n) g 0 d) os) (some g):=by
 refine⟨rfl,rfl,rfl,?_,fun k hk hne=>?_⟩
 ·show w.heap.size≤((putRow enc (Sort.ahead w n) g 0 d).heap++os).size
  rw[Array.size_append]
  simp[putRow,mapBlock,Sort.ahead]
 ·show ((putRow enc (Sort.ahead w n) g 0 d).heap++os)[k]?=_
  have hgk:g≠k:=fun e=>hne (by rw[e])
  rw[Array.getElem?_append_left (by simp[putRow,mapBlock,Sort.ahead];exact hk)]
  simp[putRow,mapBlock,Sort.ahead,Array.getElem?_modify,hgk]
def zd8 (n:Nat):(us:List Nat)→(∀ u∈us,u<n)→List {i:Nat // i<n}
 | [],_=>[]
 | u::us,h=>⟨u,h u List.mem_cons_self⟩::zd8 n us (fun v hv=>h v (List.mem_cons_of_mem _ hv))
theorem z8n {n:Nat}:∀ (us:List Nat) (h:∀ u∈us,u<n),(zd8 n us h).map Subtype.val=us
 | [],_=>rfl
 | u::us,h=>by rw[zd8,List.map_cons,z8n us]
abbrev zsl (n:Nat):{i:Nat // i<n}→Value:=fun x=>.int .i64 (x.1:Int)
theorem zby {n:Nat} (p:Nat→Bool) (us:List Nat) (h:∀ u∈us,u<n):((zd8 n us h).filter fun x=>p x.1).map Subtype.val=us.filter p:=by
 have e:((zd8 n us h).filter fun x=>p x.1).map Subtype.val=((zd8 n us h).map Subtype.val).filter p:=by rw[List.filter_map];rfl
 rw[e,z8n]
structure KindW (qs:List Np) (ks:List Int) (xk xn:Nat) (a kb:Option Addr) (c kc:Nat) (W:World):Prop where
 k:W.cell? ⟨xk,0,none⟩=some (.slice kb ks.length kc)
 n:W.cell? ⟨xn,0,none⟩=some (.slice a qs.length c)
 kinds:∀ j,j<ks.length→∃ b,kb=some ⟨b,0,none⟩∧W.cell? ⟨b,j,none⟩=some (.int .i64 (ks.getD j 0))
 nodes:∀ i (q:Np),qs[i]?=some q→∃ b,a=some ⟨b,0,none⟩∧W.cell? ⟨b,i*4,none⟩=some (.int .i64 q.nd.kind)
theorem zpk {qs:List Np} {ks:List Int} {xk xn:Nat} {a kb:Option Addr} {c kc i:Nat} {W:World} (h:KindW qs ks xk xn a kb c kc W) (hi:i<qs.length) (h0:0<ks.length) (h1:ks.length≤1000) :
 FnGives Tryz.prog 127 #[.pointer (some ⟨xk,0,none⟩),.pointer (some ⟨xn,0,none⟩)] #[.int .i64 (i:Int)] (.bool (!ks.contains (z1l (qs.map Np.nd) i))) W:=by
 obtain⟨q,hq⟩:∃ q,qs[i]?=some q:=⟨_,List.getElem?_eq_getElem hi⟩
 have hk:z1l (qs.map Np.nd) i=q.nd.kind:=z1w (by rw[List.getElem?_map,hq];rfl)
 obtain⟨nb,rfl,cn⟩:=h.nodes i q hq
 obtain⟨b,rfl,_⟩:=h.kinds 0 h0
 have ck:=h.k
 have cl:=h.n
 have qC:=fun (W':World) (hW:W'=W.drew)=>Tryz.slices_Contains_int b 0 ks.length kc ks q.nd.kind W' (Nat.le_refl _) (by omega) (fun j hj=>by
  obtain⟨b',e,h2⟩:=h.kinds j hj
  injection e with e
  injection e with e
  rw[Nat.zero_add,e,hW]
  exact h2)
 rw[List.take_length] at qC
 rw[hk]
 obtain⟨bb,hbb⟩:∃ bb,bb=ks.contains q.nd.kind:=⟨_,rfl⟩
 rw[← hbb] at qC ⊢
 have hA:(0:Int)≤(i:Int):=by omega
 have hB:(i:Int)<(qs.length:Int):=by omega
 clear h hq hk hbb
 unfold FnGives
 go_enter Tryz.func127,Tryz.ntmps127
 go_wp2
 go_region_with (go_at_call 104;refine(qC _ ?_).mono ?_;rfl;rintro e w2 ⟨rfl,rfl⟩)
 all_goals
  go_wp2
  go_ret
  exact⟨rfl,1,rfl⟩
end Go.Proofs.YtekebloinobjnaaGreatDoor
