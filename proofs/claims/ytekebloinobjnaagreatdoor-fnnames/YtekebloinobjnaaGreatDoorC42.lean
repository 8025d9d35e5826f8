/- Texts of one proof, laid together: RnI, LtS. -/
import Derived.Test.YtekebloinobjnaaGreatDoorC41
import Derived.Test.YtekebloinobjnaaGreatDoorC37
set_option maxHeartbeats 16000000
set_option maxRecDepth 100000
namespace Go.Proofs.YtekebloinobjnaaGreatDoor
open Go.RowKit
open Go.RowKit Go.Lib
theorem z9f:∀ (qs:List Np) (k:Nat) (q:Np) (t:ByteArray),qs[k]?=some q→(z0r z0u qs).set (k*4+1) (.string t)=z0r z0u (qs.set k ⟨⟨q.nd.kind,t,q.nd.kids,q.nd.blank⟩,q.a,q.c⟩)
 | [],k,q,t,h=>by simp at h
 | p::qs,0,q,t,h=>by
   have e:p=q:=by simpa using h
   subst e
   rfl
 | p::qs,k+1,q,t,h=>by
   have ih:=z9f qs k q t (by simpa using h)
   show (z0u p++z0r z0u qs).set ((k+1)*4+1) _=z0u p++z0r z0u (qs.set k _)
   rw[← ih,show (k+1)*4+1=k*4+1+4 by omega]
   rfl
theorem zkk {w:World} {B nb c k:Nat} {qs:List Np} {q:Np} (h:Nds w B (some ⟨nb,0,none⟩) c qs) (hk:qs[k]?=some q) (t:ByteArray):Nds (w.setCell ⟨nb,k*4+1,none⟩ (.string t)) B (some ⟨nb,0,none⟩) c (qs.set k ⟨⟨q.nd.kind,t,q.nd.kids,q.nd.blank⟩,q.a,q.c⟩)∧w.grownBy (w.setCell ⟨nb,k*4+1,none⟩ (.string t)) (some nb):=by
 have st:=h.row.stored (k*4+1) (.string t)
 rw[z9f qs k q t hk] at st
 refine⟨⟨by rw[List.length_set];exact st.1,fun r hr=>?_⟩,st.2⟩
 have hkeep:∀ r∈qs,(w.setCell ⟨nb,k*4+1,none⟩ (.string t)).ownsRow B tI 1 (.slice r.a r.nd.kids.length r.c) r.nd.kids.length (z02 r.nd.kids):=fun r hr=>World.ownsRow.kept (h.each r hr) st.2 (z0k (h.each r hr) h.row (by decide))
 rcases List.mem_or_eq_of_mem_set hr with hr|rfl
 ·exact hkeep r hr
 ·exact hkeep q (List.mem_of_getElem? hk)
theorem zbx {ns ms:List Nd} {B B':Nat→Prop} {f t:ByteArray} (h:zas ns ms B f t) (hB:∀ i,B i↔B' i):zas ns ms B' f t:=
 ⟨h.1,fun i x hx=>⟨fun hh=>(h.2 i x hx).1 ⟨(hB i).2 hh.1,hh.2⟩,fun hh=>(h.2 i x hx).2 fun k=>hh ⟨(hB i).1 k.1,k.2⟩⟩⟩
theorem zv9 {x s:ByteArray}:(x.toList==s.toList)=true↔x=s:=by
 rw[beq_iff_eq,ByteArray.toList_eq,ByteArray.toList_eq]
 exact⟨fun h=>ByteArray.ext (Array.toList_inj.1 h),fun h=>by rw[h]⟩
theorem zbl {ns:List Nd} {n k:Nat} (hD:z2r ns n) (hk:k<n):∃ us,z9p ns k us:=by
 haveI:DecidablePred fun i=>Und ns k i:=fun i=>Classical.propDecidable _
 refine⟨(List.range (k+1)).filter fun i=>decide (Und ns k i),List.Pairwise.filter _ List.pairwise_lt_range,fun i=>?_⟩
 rw[List.mem_filter,List.mem_range,decide_eq_true_eq]
 exact⟨fun h=>h.2,fun h=>⟨by obtain⟨f,h1⟩:=h;have:=z4l hD hk h1;omega,h⟩⟩
theorem zs8 {ns ms:List Nd} {vs:List Nat} {j u:Nat} {x:Nd} {f t:ByteArray} (h:zas ns ms (·∈vs.take j) f t) (hu:vs[j]?=some u) (hx:ns[u]?=some x) (hne:x.text≠f):zas ns ms (·∈vs.take (j+1)) f t:=by
 refine⟨h.1,fun i y hy=>?_⟩
 rw[List.take_add_one,hu]
 have hm:∀ {P:Prop},(i∈vs.take j++(some u).toList∧y.text=f)↔(i∈vs.take j∧y.text=f):=by
  intro P
  refine⟨fun ⟨h1,h2⟩=>⟨?_,h2⟩,fun ⟨h1,h2⟩=>⟨List.mem_append_left _ h1,h2⟩⟩
  rcases List.mem_append.1 h1 with h1|h1
  ·exact h1
  ·obtain rfl:i=u:=by simpa using h1
   rw[hx] at hy
   obtain rfl:=Option.some.inj hy
   exact absurd h2 hne
 dsimp only
 rw[hm (P:=True)]
 exact h.2 i y hy
theorem zpr {ns ms:List Nd} {vs:List Nat} {j u:Nat} {x y:Nd} {f t:ByteArray} (h:zas ns ms (·∈vs.take j) f t) (hu:vs[j]?=some u) (hx:ns[u]?=some x) (he:x.text=f) (hy:ms[u]?=some y):zas ns (ms.set u ⟨y.kind,t,y.kids,y.blank⟩) (·∈vs.take (j+1)) f t:=by
 refine⟨by rw[List.length_set];exact h.1,fun i z hz=>?_⟩
 rw[List.take_add_one,hu]
 by_cases e:i=u
 ·subst e
  rw[hx] at hz
  obtain rfl:=Option.some.inj hz
  have hs:y.kind=x.kind∧y.kids=x.kids∧y.blank=x.blank:=(z43 h).2 i x y hx hy
  refine⟨fun _=>?_,fun hn=>absurd ⟨by simp,he⟩ hn⟩
  rw[List.getElem?_set_self (List.getElem?_eq_some_iff.1 hy).1,hs.1,hs.2.1,hs.2.2]
 ·rw[List.getElem?_set_ne (Ne.symm e)]
  have hm:(i∈vs.take j++(some u).toList)↔i∈vs.take j:=by simp[e]
  simp only[hm]
  exact h.2 i z hz
def zmr (ns:List Nd) (us:List Nat) (f t:ByteArray) (w:World) (e:Ending) (w':World):Prop:=
 ∃ (na:Option Addr) (nc:Nat) (ps:List Np),e=.returned (.tuple #[.slice na ps.length nc,.bool true])∧Nds w' w.heap.size na nc ps∧zas ns (ps.map Np.nd) (fun i=>i∈us∧brB ns i=true) f t∧Below w.heap.size w w'
theorem zq2 (hTree:zbz 78) {w:World} {B:Nat} {a:Option Addr} {c:Nat} {k:Nat} {us:List Nat} {qs:List Np} (h:Nds w B a c qs) (hS:∀ q∈qs,SafeNd q.nd) (hT:TreeP (qs.map Np.nd)) (hQ:UnQ (qs.map Np.nd) (k:Int) us) (hM:zc3 (qs.map Np.nd) k) {y:Nd} (hy:(qs.map Np.nd)[k]?=some y) (h21:y.kind≠21)
 {f t:ByteArray} (hf:f.size≤3000) (ht:z3b 1 t) (ht0:0<t.size) (ht1:t.size≤3000) (hc1:0<z2g (txs (qs.map Np.nd) (brL (qs.map Np.nd) us)) f) (hc2:z2g (txs (qs.map Np.nd) (brL (qs.map Np.nd) us)) t=0) :
 Calls Tryz.prog 21 #[.slice a qs.length c,.int .i64 (k:Int),.string f,.string t] w (zmr (qs.map Np.nd) us f t w):=by
 have hn:qs.length≤300:=by have:=hT.most;simpa using this
 have hn1:1≤qs.length:=by have:=hT.least;simpa using this
 have h12:∀ q∈qs,q.nd.kids.length≤12:=fun q hq=>by
  obtain⟨j,hj⟩:=List.getElem?_of_mem hq
  exact z34 (z0x hT.deep (by have:=(List.getElem?_eq_some_iff.1 hj).1;simpa using this) (show (qs.map Np.nd)[j]?=some q.nd by rw[List.getElem?_map,hj];rfl)).cnt
 have qC:=ztv h hn (fun q hq=>by have:=(hS q hq).few;omega) h12
 have HMy:=z00 (fun W (hW:Below w.heap.size w W)=>zq9 hTree (h.below hW) hS hT hQ hM hy h21 hf ht ht0 ht1 hc1 hc2)
 have HBr:=z00 (fun W (hW:Below w.heap.size w W)=>ze7 (h.below hW) hS hQ)
 have hlt:=z40 hQ
 rw[List.length_map] at hlt
 have hfew:=z5n hQ
 obtain⟨vs,hvs⟩:∃ vs,vs=brL (qs.map Np.nd) us:=⟨_,rfl⟩
 rw[← hvs] at HBr
 have hvl:vs.length≤300:=by rw[hvs];exact Nat.le_trans (List.length_filter_le _ _) hfew
 have HV:=z00 (show ∀ i,i∈vs↔(i∈us∧brB (qs.map Np.nd) i=true) from fun i=>by
  rw[hvs]
  unfold brL brB
  rw[List.mem_filter]
  refine and_congr_right fun _=>?_
  simp[Bool.or_eq_true,or_assoc])
 have HVL:=z00 (show ∀ i∈vs,i<qs.length from fun i hi=>by rw[hvs] at hi;exact hlt i (List.mem_filter.1 hi).1)
 have HH:=z00 h
 clear h hS hT hQ hM hy h21 hf ht ht0 hc1 hc2 h12 hlt hvs
 go_enter Tryz.func21,Tryz.ntmps21
 go_wp2_with fail
 refine qC.mono ?_
 rintro e w1 ⟨na,nc,ps,rfl,hN,hE,b1⟩
 have hpl:ps.length=qs.length:=by have:=congrArg List.length hE;simpa using this
 have qY:=HMy.out w1 b1
 have s1:=b1.size
 have HN:=z00 hN
 have HE:=z00 hE
 have HB1:=z00 b1
 clear qC HMy hN hE b1
 go_wp2_with fail
 refine qY.mono ?_
 rintro e w2 ⟨rfl,b2⟩
 have B2:=HB1.out.trans (b2.mono s1)
 have N2:=HN.out.below b2
 have qB:=HBr.out w2 B2
 have s2:=B2.size
 have HB2:=z00 B2
 have HN2:=z00 N2
 clear qY HBr HN b2 B2 N2
 go_wp2_with fail
 refine qB.mono ?_
 rintro e w3 ⟨ub,uc,rfl,o3,b3⟩
 have B3:=HB2.out.trans (b3.mono s2)
 have N3:=HN2.out.below b3
 obtain⟨nb,rfl⟩:=z0s N3.row (by omega)
 have HU:=z00 (z01 o3 s2)
 have HN3:=z00 N3
 have HB3:=z00 B3
 have hrl:=hpl
 clear qB HN2 HB2 b3 o3 N3 B3 hpl
 go_wp2
 go_loopw [26] (fun i wr=>∃ (j:Nat) (rs:List Np),j≤vs.length∧i=.int .i64 (j:Int)∧Hid (rs.length=qs.length)∧Hid (Nds wr w.heap.size (some ⟨nb,0,none⟩) nc rs)∧Hid (zas (qs.map Np.nd) (rs.map Np.nd) (·∈vs.take j) f t)∧Hid (wr.ownsRow w.heap.size tI 1 (.slice (some ⟨ub,0,none⟩) vs.length uc) vs.length (z02 (z1d vs)))∧Hid (Below w.heap.size w wr)) (fun i _=>vs.length-(intOf i).toNat)
 case atStart=>exact⟨0,ps,Nat.zero_le _,rfl,z00 hrl,HN3,z00 (by rw[HE.out];exact⟨rfl,fun i x hx=>⟨fun h=>by simp at h,fun _=>hx⟩⟩),HU,HB3⟩
 case round =>
  clear HN3 HU HB3
  obtain⟨j,rs,hj,rfl,HRL,HR,HP,HU,HW⟩:=hrel
  have hws:=HW.out.size
  by_cases hlt:j<vs.length
  ·obtain⟨u,hu⟩:∃ u,vs[j]?=some u:=⟨_,List.getElem?_eq_getElem hlt⟩
   have hun:=HVL.out u (List.mem_of_getElem? hu)
   have cu:=(HU.out.cellAt j (by omega)).trans (z5r hu)
   obtain⟨q,hq⟩:∃ q,qs[u]?=some q:=⟨_,List.getElem?_eq_getElem hun⟩
   obtain⟨r,hr⟩:∃ r,rs[u]?=some r:=⟨_,List.getElem?_eq_getElem (by rw[HRL.out];exact hun)⟩
   have hx:(qs.map Np.nd)[u]?=some q.nd:=by rw[List.getElem?_map,hq];rfl
   have hy:(rs.map Np.nd)[u]?=some r.nd:=by rw[List.getElem?_map,hr];rfl
   obtain⟨a0,rfl,hb0,d0,d1,d2,d3⟩:=(HH.out.below HW.out).node hq
   have hA:(0:Int)≤(j:Int):=by omega
   have hB1:(j:Int)<(vs.length:Int):=by omega
   have hA2:(0:Int)≤(u:Int):=by omega
   have hB2:(u:Int)<(qs.length:Int):=by omega
   have HX:=z00 (And.intro hu (And.intro hx (And.intro hr hy)))
   obtain⟨⟨kd,tx,kk,bl⟩,ka,kc⟩:=q
   simp only at d1
   clear hu hx hy hr hq hb0 d0 d2 d3
   cases he:(tx.toList==f.toList)
   ·have HP2:=z00 (zs8 HP.out HX.out.1 HX.out.2.1 (fun e=>by have:=zv9.2 e;rw[he] at this;cases this))
    go_wp2
    go_roundw
    case rel=>exact⟨j+1,rs,hlt,by go_num,HRL,HR,HP2,HU,HW⟩
    case measure=>simp[intOf];omega
   ·have HP2:=z00 (zpr HP.out HX.out.1 HX.out.2.1 (zv9.1 he) HX.out.2.2.2)
    have qT:=fun W=>z6h t W (by omega)
    have HF:=z00 (fun (W:World) (hW:Below wr.heap.size wr W)=>And.intro ((HR.out.below hW).node HX.out.2.2.1) ((HR.out.below hW).row.frozenAt (u*4+1)))
    go_wp2_with fail
    refine(qT _).mono ?_
    rintro e w5 ⟨rfl,b5⟩
    obtain⟨⟨b',hbb,hb2,e0,e1,e2,e3⟩,hfr⟩:=HF.out w5 b5
    obtain rfl:nb=b':=by injection hbb with hbb;injection hbb
    have N5:=HR.out.below b5
    have st:=zkk N5 HX.out.2.2.1 t
    have U5:=z07 HU.out b5
    have HST:=z00 st
    have HU6:=z00 (World.ownsRow.kept U5 st.2 (z0k U5 N5.row (by decide)))
    have B5:=HW.out.trans (b5.mono hws)
    have hnbl:=(N5.row.lt nb rfl).1
    have HB6:=z00 (B5.grown st.2 B5.size (fun k e=>by have h1:nb=k:=Option.some.inj e;omega))
    have hB3:(u:Int)<(rs.length:Int):=by rw[HRL.out];omega
    clear qT HF hbb e0 e2 e3 b5 N5 st U5 B5
    go_wp2
    go_roundw
    case rel=>exact⟨j+1,_,hlt,by go_num,z00 (by rw[List.length_set];exact HRL.out),z00 HST.out.1,z00 (by rw[List.map_set];exact HP2.out),HU6,HB6⟩
    case measure=>simp[intOf];omega
  ·obtain rfl:j=vs.length:=by omega
   have HP3:=HP.out
   rw[List.take_length] at HP3
   have HP4:=z00 (zbx HP3 HV.out)
   have hlq:¬ ((vs.length:Int)<(vs.length:Int)):=by omega
   clear HP3 HP
   go_wp2
   go_ret2
   exact⟨_,nc,rs,by rw[HRL.out];rfl,HR.out,HP4.out,HW.out⟩
def zfx (ns:List Nd) (us:List Nat) (n:Nat) (i:Nat):Prop:=∃ (m q:Nat) (x:Nd) (j:Nat),m<n∧us[m]?=some q∧ns[q]?=some x∧(x.kind=9∨x.kind=20)∧j+1<x.kids.length∧x.kids[j]?=some (i:Int)
def ztk (x:Nd) (jj i:Nat):Prop:=(x.kind=9∨x.kind=20)∧∃ j,j<jj∧j+1<x.kids.length∧x.kids[j]?=some (i:Int)
theorem zlb {ns:List Nd} {us:List Nat} {n q i:Nat} {x:Nd} (hq:us[n]?=some q) (hx:ns[q]?=some x):zfx ns us (n+1) i↔zfx ns us n i∨ztk x x.kids.length i:=by
 constructor
 ·rintro⟨m,q',x',j,h1,h2,h3,h4,h5,h6⟩
  by_cases e:m=n
  ·subst e
   rw[hq] at h2
   injection h2 with h2
   subst h2
   rw[hx] at h3
   injection h3 with h3
   subst h3
   exact .inr ⟨h4,j,by omega,h5,h6⟩
  ·exact .inl ⟨m,q',x',j,by omega,h2,h3,h4,h5,h6⟩
 ·rintro(⟨m,q',x',j,h1,h2⟩|⟨h4,j,h5,h6,h7⟩)
  ·exact⟨m,q',x',j,by omega,h2⟩
  ·exact⟨n,q,x,j,by omega,hq,hx,h4,h6,h7⟩
def zum (ns:List Nd) (us:List Nat) (n:Nat) (w:World) (e:Ending) (w':World):Prop:=∃ (ub:Nat) (bs:List Bool),e=.returned (.slice (some ⟨ub,0,none⟩) n n)∧w.heap.size≤ub∧w'.ownsRow w.heap.size tB 1 (.slice (some ⟨ub,0,none⟩) n n) n (z0b bs)∧Below w.heap.size w w'∧∀ i,Mk bs i↔zfx ns us us.length i
theorem zof {w:World} {B Bu:Nat} {a ua:Option Addr} {c k uc U:Nat} {qs:List Np} {us:List Nat} (h:Nds w B a c qs) (hT:TreeP (qs.map Np.nd)) (hk:k<qs.length) (hU:z9p (qs.map Np.nd) k us) (hul:U=us.length) (hu:w.ownsRow Bu tI 1 (.slice ua U uc) U (z02 (z1d us))):Calls Tryz.prog 53 #[.slice a qs.length c,.slice ua U uc] w (zum (qs.map Np.nd) us qs.length w):=by
 obtain⟨i1,hj,hy0,hy1,hy2⟩:=info_parts zbt
 have hn:qs.length≤300:=by have:=hT.most;simpa using this
 have hDn:z2r (qs.map Np.nd) qs.length:=by have:=z18 hT;simpa using this
 have hfew:=z6n hDn hk hU
 have h12:∀ q∈qs,q.nd.kids.length≤12:=fun q hq=>by
  obtain⟨j,hj⟩:=List.getElem?_of_mem hq
  exact z34 (z0x hT.deep (by have:=(List.getElem?_eq_some_iff.1 hj).1;simpa using this) (show (qs.map Np.nd)[j]?=some q.nd by rw[List.getElem?_map,hj];rfl)).cnt
 have hU3:U≤300:=by omega
 have HH:=z00 h
 have HD:=z00 hDn
 have HU:=z00 hu
 have HUL:=z00 (And.intro hU hul)
 have H12:=z00 h12
 obtain⟨a0,rfl⟩:=z0s h.row (by omega)
 clear h hT hDn hu hU hul hfew h12
 go_enter Tryz.func53,Tryz.ntmps53
 go_wp2_with (at_make;refine wpList_make_full _ rfl _ _ 64 rfl w.heap.size 4 i1 (.bool false) 1 Tryz.underlying64 hj hy0 hy1 .i64 .i64 _ _ qs.length rfl rfl rfl rfl (by rw[hy2];omega) (by unfold maxLen;omega) (Nat.le_refl _) ?_;intro w3 hown hgrow)
 rw[zkh] at hown
 have b3:Below w.heap.size w w3:=(Below.refl _ _).grown hgrow (Nat.le_refl _) (fun k e=>by cases e)
 obtain⟨ub,hub⟩:∃ ub,ub=w.heap.size:=⟨_,rfl⟩
 have hubw:w.heap.size≤ub:=by omega
 rw[show ({ block:=w.heap.size,off:=0 }:Addr)=⟨ub,0,none⟩ by rw[hub]] at hown ⊢
 clear hgrow hub hj hy0 hy1 hy2
 go_loopw [6] (fun i wr=>∃ (j:Nat) (bs:List Bool),j≤U∧i=.int .i64 (j:Int)∧wr.ownsRow w.heap.size tB 1 (.slice (some ⟨ub,0,none⟩) qs.length qs.length) qs.length (z0b bs)∧Hid (Below w.heap.size w wr)∧Hid (bs.length=qs.length∧∀ i,Mk bs i↔zfx (qs.map Np.nd) us j i)) (fun i _=>U-(intOf i).toNat)
 case atStart=>exact⟨0,_,Nat.zero_le _,rfl,hown,z00 b3,z00 ⟨by simp,fun i=>⟨fun h=>absurd h z89,fun ⟨m,_,_,_,h,_⟩=>by omega⟩⟩⟩
 case round =>
  clear hown b3
  obtain⟨j,bs,hj,rfl,ho,HW,HI⟩:=hrel
  have hws:=HW.out.size
  have hubl:=(ho.lt ub rfl).2
  by_cases hlt:j<U
  ·obtain⟨u,hu⟩:∃ u,us[j]?=some u:=⟨_,List.getElem?_eq_getElem (by rw[← HUL.out.2];exact hlt)⟩
   have hun:=ze0 HD.out hk HUL.out.1 hu
   have HUr:=z07 HU.out HW.out
   obtain⟨vb,rfl⟩:=z0s HUr (by omega)
   have cu:=(HUr.cellAt j (by omega)).trans (z5r hu)
   obtain⟨q,hq⟩:∃ q,qs[u]?=some q:=⟨_,List.getElem?_eq_getElem hun⟩
   obtain⟨b',hbb,hb2,d0,d1,d2,d3⟩:=(HH.out.below HW.out).node hq
   obtain rfl:a0=b':=by injection hbb with hbb;injection hbb
   have hx:(qs.map Np.nd)[u]?=some q.nd:=by rw[List.getElem?_map,hq];rfl
   have hm12:=H12.out q (List.mem_of_getElem? hq)
   have HX:=z00 hx
   have HUj:=z00 hu
   have HQ:=z00 hq
   have hA:(0:Int)≤(j:Int):=by omega
   have hB1:(j:Int)<(U:Int):=by omega
   have hA2:(0:Int)≤(u:Int):=by omega
   have hB2:(u:Int)<(qs.length:Int):=by omega
   obtain⟨W1,hW1⟩:∃ W1,W1=wr.alloc (.cells #[.int .i64 q.nd.kind,.string q.nd.text,.slice q.a q.nd.kids.length q.c,.bool q.nd.blank] 56):=⟨_,rfl⟩
   have G1:W1.heap[wr.heap.size]?=some (.cells #[.int .i64 q.nd.kind,.string q.nd.text,.slice q.a q.nd.kids.length q.c,.bool q.nd.blank] 56 (0,0)):=by rw[hW1];exact heap_alloc_new wr _
   have O1:W1.ownsRow w.heap.size tB 1 (.slice (some ⟨ub,0,none⟩) qs.length qs.length) qs.length (z0b bs):=by rw[hW1];exact ho.alloc _
   have B1:Below w.heap.size w W1:=by rw[hW1];exact HW.out.alloc hws _
   obtain⟨xb,hxb⟩:∃ xb,xb=wr.heap.size:=⟨_,rfl⟩
   rw[← hxb] at G1
   have s1:xb<W1.heap.size:=(Array.getElem?_eq_some_iff.1 G1).1
   have hne:xb≠ub:=by omega
   have HE:=z00 (fun i=>zlb (i:=i) HUj.out HX.out)
   have HG1:=z00 G1
   have HO1:=z00 O1
   have HB1:=z00 B1
   clear hu hq hx hbb ho HW HUr
   go_wp2
   rw[← hW1,← hxb]
   clear hW1 hxb
   go_loopw [8] (fun i wi=>∃ (jj:Nat) (bs':List Bool),jj≤q.nd.kids.length∧i=.int .i64 (jj:Int)∧wi.ownsRow w.heap.size tB 1 (.slice (some ⟨ub,0,none⟩) qs.length qs.length) qs.length (z0b bs')∧Hid (W1.grownBy wi (some ub))∧Hid (bs'.length=qs.length∧∀ i,Mk bs' i↔zfx (qs.map Np.nd) us j i∨ztk q.nd jj i)) (fun i _=>q.nd.kids.length-(intOf i).toNat)
   case atStart=>exact⟨0,bs,Nat.zero_le _,rfl,O1,z00 (World.grownBy.refl _ _),z00 ⟨HI.out.1,fun i=>(HI.out.2 i).trans ⟨.inl,fun h=>h.elim id (fun ⟨_,m,h,_⟩=>by omega)⟩⟩⟩
   case round =>
    clear HI cu d0 d1 d2 d3 G1 O1 B1
    obtain⟨jj,bs',hjj,rfl,ho,HGr,HI⟩:=hrel
    have Gi:=(HGr.out.block xb s1 (fun e=>hne (Option.some.inj e))).trans HG1.out
    have e0:wr.cell? ⟨xb,0,none⟩=some (.int .i64 q.nd.kind):=cell_of_row _ _ 0 _ _ _ Gi
    have e2:wr.cell? ⟨xb,2,none⟩=some (.slice q.a q.nd.kids.length q.c):=cell_of_row _ _ 2 _ _ _ Gi
    have Bi:=HB1.out.grown HGr.out HB1.out.size (fun k e=>by injection e with e;omega)
    have HBi:=z00 Bi
    clear Gi Bi
    have hkb:((q.nd.kind==9)=true∨((q.nd.kind==9)=false∧(q.nd.kind==20)=true))∨((q.nd.kind==9)=false∧(q.nd.kind==20)=false):=by
     by_cases h1:q.nd.kind=9
     ·exact .inl (.inl (by simpa using h1))
     ·by_cases h2:q.nd.kind=20
      ·exact .inl (.inr ⟨by simpa using h1,by simpa using h2⟩)
      ·exact .inr ⟨by simpa using h1,by simpa using h2⟩
    by_cases hl2:jj+1<q.nd.kids.length
    ·have hL:(jj:Int)+1<(q.nd.kids.length:Int):=by omega
     obtain⟨kd,hkd⟩:∃ kd,kd=q.nd.kind:=⟨_,rfl⟩
     have HKD:=z00 hkd
     rw[← hkd] at e0 hkb
     clear hkd
     rcases hkb with hkb|⟨hk9,hk20⟩
     ·obtain⟨z,ez⟩:∃ z,q.nd.kids[jj]?=some z:=⟨_,List.getElem?_eq_getElem (by omega)⟩
      have hzr:=HD.out u q.nd z hun HX.out (List.mem_of_getElem? ez)
      obtain⟨zn,rfl⟩:∃ zn:Nat,z=(zn:Int):=⟨z.toNat,by omega⟩
      obtain⟨kb,hkb2,hkbl,ck⟩:=(HH.out.below HBi.out).kid HQ.out ez
      rw[hkb2] at e2
      obtain⟨bz,hbz⟩:∃ bz,bs'[zn]?=some bz:=⟨_,List.getElem?_eq_getElem (by rw[HI.out.1];omega)⟩
      have cz:=(ho.cellAt zn (by omega)).trans (show (z0b bs')[zn]?=some (.bool bz) by unfold z0b;rw[List.getElem?_map,hbz];rfl)
      have hfz:=ho.frozenAt zn
      have hst:=ho.stored zn (.bool true)
      have hzl:zn<bs'.length:=by rw[HI.out.1];omega
      have HS:=z00 hst
      have HK9:=z00 (show q.nd.kind=9∨q.nd.kind=20 by
       rw[← HKD.out]
       rcases hkb with h|h
       ·exact .inl (by simpa using h)
       ·exact .inr (by simpa using h.2))
      have HI2:=z00 (show (bs'.set zn true).length=qs.length∧∀ i,Mk (bs'.set zn true) i↔zfx (qs.map Np.nd) us j i∨ztk q.nd (jj+1) i from⟨by simpa using HI.out.1,fun i=>by
       rw[zel hzl,HI.out.2 i]
       constructor
       ·rintro(h|h|⟨h,m,h1,h2⟩)
        ·exact .inr ⟨HK9.out,jj,by omega,hl2,by rw[h];exact ez⟩
        ·exact .inl h
        ·exact .inr ⟨h,m,by omega,h2⟩
       ·rintro(h|⟨h,m,h1,h2,h3⟩)
        ·exact .inr (.inl h)
        ·by_cases e:m=jj
         ·subst e
          rw[ez] at h3
          injection h3 with h3
          exact .inl (by omega)
         ·exact .inr (.inr ⟨h,m,by omega,h2,h3⟩)⟩)
      have hA3:(0:Int)≤(zn:Int):=by omega
      have hB3:(zn:Int)<(qs.length:Int):=by omega
      have hA4:(0:Int)≤(jj:Int):=by omega
      have hB4:(jj:Int)<(q.nd.kids.length:Int):=by omega
      have hul2:=(ho.lt ub rfl).2
      clear ez hst ho hbz
      rcases hkb with hk9|⟨hk9,hk20⟩
      ·go_wp2
       go_roundw
       case rel=>exact⟨jj+1,bs'.set zn true,by omega,by go_num,by have:=HS.out.1;rwa [show (z0b bs').set zn (.bool true)=z0b (bs'.set zn true) by unfold z0b;rw[List.map_set]] at this,z00 (z0w HGr.out HS.out.2),HI2⟩
       case measure=>simp[intOf];omega
      ·go_wp2
       go_roundw
       case rel=>exact⟨jj+1,bs'.set zn true,by omega,by go_num,by have:=HS.out.1;rwa [show (z0b bs').set zn (.bool true)=z0b (bs'.set zn true) by unfold z0b;rw[List.map_set]] at this,z00 (z0w HGr.out HS.out.2),HI2⟩
       case measure=>simp[intOf];omega
     ·have HI2:=z00 (show ∀ i,Mk bs' i↔zfx (qs.map Np.nd) us (j+1) i from fun i=>(HI.out.2 i).trans (((HE.out i).trans ⟨fun h=>h.elim .inl (fun h=>absurd h.1 (by rw[← HKD.out];simp at hk9 hk20;omega)),fun h=>h.elim .inl (fun h=>absurd h.1 (by rw[← HKD.out];simp at hk9 hk20;omega))⟩).symm))
      go_wp2
      go_roundw
      case rel=>exact⟨j+1,bs',by omega,by go_num,ho,HBi,z00 ⟨HI.out.1,HI2.out⟩⟩
      case measure=>simp[intOf];omega
    ·have hL:¬ (jj:Int)+1<(q.nd.kids.length:Int):=by omega
     have HI2:=z00 (show ∀ i,Mk bs' i↔zfx (qs.map Np.nd) us (j+1) i from fun i=>(HI.out.2 i).trans (((HE.out i).trans ⟨fun h=>h.elim .inl (fun ⟨h1,m,h2,h3,h4⟩=>.inr ⟨h1,m,by omega,h3,h4⟩),fun h=>h.elim .inl (fun ⟨h1,m,h2,h3,h4⟩=>.inr ⟨h1,m,by omega,h3,h4⟩)⟩).symm))
     clear hkb
     go_wp2
     go_roundw
     case rel=>exact⟨j+1,bs',by omega,by go_num,ho,HBi,z00 ⟨HI.out.1,HI2.out⟩⟩
     case measure=>simp[intOf];omega
  ·have hB1:¬ (j:Int)<(U:Int):=by omega
   obtain rfl:j=U:=by omega
   go_wp2
   go_ret
   exact⟨ub,bs,rfl,hubw,ho,HW.out,by rw[← HUL.out.2];exact HI.out.2⟩
end Go.Proofs.YtekebloinobjnaaGreatDoor
