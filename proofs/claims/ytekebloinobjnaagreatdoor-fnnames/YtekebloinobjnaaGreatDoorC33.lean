/- Texts of one proof, laid together: TrN, NmLib, BoLib, UnS, UnS2. -/
import Derived.Test.YtekebloinobjnaaGreatDoorC13
import Derived.Test.YtekebloinobjnaaGreatDoorC18
import Derived.Test.YtekebloinobjnaaGreatDoorC32
import Derived.Test.YtekebloinobjnaaGreatDoorC04
import Derived.Test.YtekebloinobjnaaGreatDoorC17
import Derived.Test.YtekebloinobjnaaGreatDoorC06
import Derived.Test.YtekebloinobjnaaGreatDoorC15
set_option maxHeartbeats 16000000
set_option maxRecDepth 100000
namespace Go.Proofs.YtekebloinobjnaaGreatDoor
open Go.RowKit
theorem zns {w:World} {B:Nat} {a:Option Addr} {c k:Nat} {qs:List Np} {q:Np} (h:Nds w B a c qs) (h1:qs[k]?=some q) (hS:SafeNd q.nd) :
 Calls Tryz.prog 143 #[.slice a qs.length c,.int .i64 (k:Int)] w (zag (NodeP (qs.map Np.nd) k q.nd) w):=by
 have hkl:k<qs.length:=(List.getElem?_eq_some_iff.1 h1).1
 obtain⟨b,rfl,hb,c0,c1,c2,c3⟩:=h.node h1
 obtain⟨P,hP⟩:∃ P,P=NodeP (qs.map Np.nd) k q.nd:=⟨_,rfl⟩
 rw[← hP]
 have HP:=z00 (show P↔NodeP (qs.map Np.nd) k q.nd by rw[hP])
 obtain⟨bp,hbp⟩:=z4g (q.nd.kids.length≤12∧PlK q.nd.kids k q.nd.kids.length)
 obtain⟨bk,hbk⟩:=z4g (zlx (qs.map Np.nd) q.nd)
 obtain⟨bb,hbb⟩:=z4g (q.nd.blank=true→z3z q.nd.kind∨q.nd.kind=20∨q.nd.kind=21)
 have hAll:P↔(bp=true∧bk=true∧bb=true):=by
  rw[HP.out,hbp,hbk,hbb]
  constructor
  ·intro n
   exact⟨⟨z34 n.cnt,fun i z _ hz=>n.place i z hz,fun i i' z h1 _ h3 h4=>n.once i i' z h1 h3 h4⟩,⟨n.kind,n.cnt,n.fits⟩,n.blank⟩
  ·rintro⟨⟨_,p1,p2⟩,⟨k1,k2,k3⟩,h3⟩
   exact⟨k1,k2,h3,fun i z hz=>p1 i z (List.getElem?_eq_some_iff.1 hz).1 hz,fun i j z hij hi hj=>p2 i j z hij (List.getElem?_eq_some_iff.1 hj).1 hi hj,k3⟩
 have HA:=z00 hAll
 obtain⟨W1,hW1⟩:∃ W1,W1=w.alloc (.cells #[.int .i64 q.nd.kind,.string q.nd.text,.slice q.a q.nd.kids.length q.c,.bool q.nd.blank] 56):=⟨_,rfl⟩
 have hB1:Below w.heap.size w W1:=by rw[hW1];exact z08 _ _
 have hs1:W1.heap.size=w.heap.size+1:=by rw[hW1];simp
 have HX:=z00 (show ∀ W,Below W1.heap.size W1 W→W.cell? ⟨w.heap.size,0,none⟩=some (.int .i64 q.nd.kind)∧W.cell? ⟨w.heap.size,1,none⟩=some (.string q.nd.text)∧W.cell? ⟨w.heap.size,2,none⟩=some (.slice q.a q.nd.kids.length q.c)∧W.cell? ⟨w.heap.size,3,none⟩=some (.bool q.nd.blank) from fun W hW=>by
  have hlt:w.heap.size<W1.heap.size:=by omega
  refine⟨(hW.cell (p:=⟨w.heap.size,0,none⟩) hlt).trans ?_,(hW.cell (p:=⟨w.heap.size,1,none⟩) hlt).trans ?_,(hW.cell (p:=⟨w.heap.size,2,none⟩) hlt).trans ?_,(hW.cell (p:=⟨w.heap.size,3,none⟩) hlt).trans ?_⟩<;>(rw[hW1,World.cell?_alloc_new];rfl))
 have qP:=(zq8 (h.below hB1) h1).mono (fun e w' t=>t.is hbp)
 have qK:=fun (hp:bp=true)=>(zul (h.below hB1) h1 hS (hbp.1 hp).1 (hbp.1 hp).2).mono (fun e w' t=>t.is hbk)
 have qT:=fun (hk:bk=true) (W:World)=>zsa (q:=q) W (hbk.1 hk).1 hS
 have qB:=fun (W:World)=>(zqd q W).mono (fun e w' t=>t.is hbb)
 have HW:=z00 hW1
 have QK:=z00 qK
 have QT:=z00 qT
 have QB:=z00 qB
 obtain⟨y0,y1,y2,y3⟩:=HX.out W1 (Below.refl _ _)
 clear h h1 hS hP hbp hbk hbb hAll hW1 qK qT qB hs1
 unfold agN at QK QT QB
 obtain⟨⟨kd,tx,ks,bl⟩,ka,kc⟩:=q
 simp only at c0 c1 c2 c3 HX QK QT QB qP y0 y1 y2 y3 HW
 obtain⟨nk,hnk⟩:∃ nk,nk=ks.length:=⟨_,rfl⟩
 obtain⟨nn,hnn⟩:∃ nn,nn=qs.length:=⟨_,rfl⟩
 rw[← hnk] at c2 HX QK QT QB qP y2 HW
 rw[← hnn] at QK hkl ⊢
 have hA1:(0:Int)≤(k:Int):=by omega
 have hA2:(k:Int)<(nn:Int):=by omega
 clear hnk hnn
 go_enter Tryz.func143,Tryz.ntmps143
 go_wp2_with fail
 rw[← HW.out]
 refine qP.mono ?_
 rintro e w2 ⟨rfl,rfl⟩
 cases bp
 ·have HF:=z00 (show ¬ P from fun hp=>by have:=(HA.out.1 hp).1;cases this)
  go_wp2
  go_ret
  exact z0o HF.out hB1
 ·go_wp2_with fail
  refine(QK.out (by first|rfl|trivial)).mono ?_
  rintro e w3 ⟨rfl,hb3⟩
  have hB3:=hB1.trans (hb3.mono hB1.size)
  obtain⟨z0,z1,z2,z3⟩:=HX.out w3 hb3
  cases bk
  ·have HF:=z00 (show ¬ P from fun hp=>by have:=(HA.out.1 hp).2.1;cases this)
   go_wp2
   go_ret
   exact z0o HF.out hB3
  ·go_wp2_with fail
   refine(QT.out (by first|rfl|trivial) w3).mono ?_
   rintro e w4 ⟨rfl,hb4⟩
   have hb34:=hb3.trans (hb4.mono hb3.size)
   have hB4:=hB1.trans (hb34.mono hB1.size)
   obtain⟨u0,u1,u2,u3⟩:=HX.out w4 hb34
   go_wp2_with fail
   refine(QB.out w4).mono ?_
   rintro e w5 ⟨rfl,hb5⟩
   have hB5:=hB4.trans (hb5.mono hB4.size)
   cases bb
   ·have HF:=z00 (show ¬ P from fun hp=>by have:=(HA.out.1 hp).2.2;cases this)
    go_wp2
    go_ret
    exact z0o HF.out hB5
   ·have HT:=z00 (HA.out.2 (by simp))
    go_wp2
    go_ret
    exact z12 HT.out hB5
theorem zhv:z78 143:=fun _ _ _ _ _ _ _ h h1 h2 _=>zns h h1 h2
theorem zhc:zbz 78:=fun B W a c qs h hS hn=>zuh zhv B W a c qs h hS hn
def zcc (ns:List Nd) (k i:Nat):Prop:=∃ x,ns[k]?=some x∧(i:Int)∈x.kids
def zg0 (ns:List Nd):Nat→Nat→Nat→Prop
 | 0,k,i=>i=k
 | f+1,k,i=>∃ q,zg0 ns f k q∧zcc ns q i
def Und (ns:List Nd) (k i:Nat):Prop:=∃ f,zg0 ns f k i
theorem z7g (ns:List Nd) (k:Nat):Und ns k k:=⟨0,rfl⟩
theorem zkt {ns:List Nd} {k i:Nat}:Und ns k i↔i=k∨∃ q,Und ns k q∧zcc ns q i:=by
 constructor
 ·rintro⟨f,h⟩
  cases f with
  | zero=>exact .inl h
  | succ f =>
    obtain⟨q,h1,h2⟩:=h
    exact .inr ⟨q,⟨f,h1⟩,h2⟩
 ·rintro(rfl|⟨q,⟨f,h1⟩,h2⟩)
  ·exact z7g _ _
  ·exact⟨f+1,q,h1,h2⟩
theorem z9r {ns:List Nd} {k z:Nat} (hk:zcc ns k z):∀ {f i:Nat},zg0 ns f z i→zg0 ns (f+1) k i
 | 0,i,h=>by
   have h:i=z:=h
   subst h
   exact⟨k,rfl,hk⟩
 | f+1,i,⟨q,h1,h2⟩=>⟨q,z9r hk h1,h2⟩
theorem zej {ns:List Nd} {k:Nat}:∀ {f i:Nat},zg0 ns (f+1) k i→∃ z,zcc ns k z∧zg0 ns f z i
 | 0,i,⟨q,h1,h2⟩=>by
   have h1:q=k:=h1
   subst h1
   exact⟨i,h2,rfl⟩
 | f+1,i,⟨q,h1,h2⟩=>by
   obtain⟨z,h3,h4⟩:=zej h1
   exact⟨z,h3,q,h4,h2⟩
theorem zbq {ns:List Nd} {k i:Nat}:Und ns k i↔i=k∨∃ z,zcc ns k z∧Und ns z i:=by
 constructor
 ·rintro⟨f,h⟩
  cases f with
  | zero=>exact .inl h
  | succ f =>
    obtain⟨z,h1,h2⟩:=zej h
    exact .inr ⟨z,h1,f,h2⟩
 ·rintro(rfl|⟨z,h1,f,h2⟩)
  ·exact z7g _ _
  ·exact⟨f+1,z9r h1 h2⟩
theorem zc1 {ns:List Nd} {a b:Nat} (h1:Und ns a b):∀ {f c:Nat},zg0 ns f b c→Und ns a c
 | 0,c,h=>by
   have h:c=b:=h
   subst h
   exact h1
 | f+1,c,⟨q,h2,h3⟩=>zkt.2 (.inr ⟨q,zc1 h1 h2,h3⟩)
def z2r (ns:List Nd) (n:Nat):Prop:=∀ k x z,k<n→ns[k]?=some x→z∈x.kids→0≤z∧z<(k:Int)
theorem zhf {ns:List Nd} {n:Nat} (h:z79 ns n):z2r ns n:=fun k x z hk hx hz=>by
 obtain⟨i,hi⟩:=List.mem_iff_getElem?.1 hz
 exact(z0x h hk hx).place i z hi
theorem z4l {ns:List Nd} {n k:Nat} (hD:z2r ns n) (hk:k<n):∀ {f i:Nat},zg0 ns f k i→i≤k
 | 0,i,h=>Nat.le_of_eq h
 | f+1,i,⟨q,h1,x,h2,h3⟩=>by
   have:=z4l hD hk h1
   have:=hD q x i (by omega) h2 h3
   omega
def zt0 (ns:List Nd):Prop:=∀ q q' i,zcc ns q i→zcc ns q' i→q=q'
theorem zbm {ns:List Nd} (hO:zt0 ns) {a b:Nat}:∀ {f g i:Nat},zg0 ns f a i→zg0 ns g b i→Und ns a b∨Und ns b a
 | 0,g,i,h1,h2=>by
   have h1:i=a:=h1
   subst h1
   exact .inr ⟨g,h2⟩
 | f+1,0,i,h1,h2=>by
   have h2:i=b:=h2
   subst h2
   exact .inl ⟨f+1,h1⟩
 | f+1,g+1,i,⟨q,h1,h2⟩,⟨q',h3,h4⟩=>by
   obtain rfl:=hO q q' i h2 h4
   exact zbm hO h1 h3
def zqj (ns:List Nd):Nat→Nat→List Nat
 | 0,_=>[]
 | f+1,k=>k::((ns[k]?.map Nd.kids).getD []).flatMap fun z=>zqj ns f z.toNat
def z41 (ns:List Nd) (k:Nat):List Int:=(ns[k]?.map Nd.kids).getD []
theorem zqi {ns:List Nd} {k:Nat} {z:Int}:z∈z41 ns k↔∃ x,ns[k]?=some x∧z∈x.kids:=by
 unfold z41
 cases h:ns[k]? with
 | none=>simp
 | some x=>simp
theorem z7p (ns:List Nd) (f k:Nat):zqj ns (f+1) k=k::(z41 ns k).flatMap fun z=>zqj ns f z.toNat:=rfl
theorem z57 {ns:List Nd} {n:Nat} (hD:z2r ns n):∀ {f k:Nat},k<n→k<f→∀ i,i∈zqj ns f k↔Und ns k i
 | 0,k,_,h,_=>by omega
 | f+1,k,hk,hf,i=>by
   rw[z7p,List.mem_cons,zbq,List.mem_flatMap]
   constructor
   ·rintro(h|⟨z,h1,h2⟩)
    ·exact .inl h
    ·obtain⟨x,hx,hz⟩:=zqi.1 h1
     have:=hD k x z hk hx hz
     obtain⟨zn,rfl⟩:∃ zn:Nat,z=(zn:Int):=⟨z.toNat,by omega⟩
     rw[Int.toNat_natCast] at h2
     exact .inr ⟨zn,⟨x,hx,hz⟩,(z57 hD (by omega) (by omega) i).1 h2⟩
   ·rintro(h|⟨z,⟨x,hx,hz⟩,h2⟩)
    ·exact .inl h
    ·have:=hD k x z hk hx hz
     refine .inr ⟨(z:Int),zqi.2 ⟨x,hx,hz⟩,?_⟩
     rw[Int.toNat_natCast]
     exact(z57 hD (by omega) (by omega) i).2 h2
def szF (ns:List Nd):Nat→Nat→Nat
 | 0,_=>0
 | f+1,k=>1+((z41 ns k).map fun z=>szF ns f z.toNat).sum
theorem zei (ns:List Nd):∀ (f k:Nat),(zqj ns f k).length=szF ns f k
 | 0,k=>rfl
 | f+1,k=>by
   rw[z7p,szF,List.length_cons,List.length_flatMap,Nat.add_comm]
   congr 2
   apply List.map_congr_left
   intro z _
   exact zei ns f z.toNat
def zq1 (ns:List Nd) (n:Nat):Prop:=∀ k x,k<n→ns[k]?=some x→x.kids.Nodup
theorem z5k {α:Type} {g:α→List Nat}:∀ {zs:List α},zs.Nodup→(∀ z∈zs,(g z).Nodup)→(∀ a∈zs,∀ b∈zs,a≠b→∀ i,i∈g a→i∈g b→False)→(zs.flatMap g).Nodup
 | [],_,_,_=>by simp
 | z::zs,hn,h1,h2=>by
   rw[List.flatMap_cons,List.nodup_append]
   have hn':=List.nodup_cons.1 hn
   refine⟨h1 z List.mem_cons_self,z5k hn'.2 (fun y hy=>h1 y (List.mem_cons_of_mem _ hy)) (fun a ha b hb=>h2 a (List.mem_cons_of_mem _ ha) b (List.mem_cons_of_mem _ hb)),?_⟩
   intro i hi j hj e
   subst e
   obtain⟨y,hy,hj⟩:=List.mem_flatMap.1 hj
   exact h2 z List.mem_cons_self y (List.mem_cons_of_mem _ hy) (fun e=>hn'.1 (e ▸ hy)) i hi hj
theorem z9b {ns:List Nd} {n:Nat} (hD:z2r ns n) (hO:zt0 ns) (hN:zq1 ns n):∀ {f k:Nat},k<n→k<f→(zqj ns f k).Nodup
 | 0,k,_,h=>by omega
 | f+1,k,hk,hf=>by
   have hkid:∀ z∈z41 ns k,∃ zn:Nat,z=(zn:Int)∧zn<k∧zcc ns k zn:=fun z hz=>by
    obtain⟨x,hx,hz'⟩:=zqi.1 hz
    have:=hD k x z hk hx hz'
    obtain⟨zn,rfl⟩:∃ zn:Nat,z=(zn:Int):=⟨z.toNat,by omega⟩
    exact⟨zn,rfl,by omega,x,hx,hz'⟩
   rw[z7p,List.nodup_cons]
   constructor
   ·intro h
    obtain⟨z,hz,hi⟩:=List.mem_flatMap.1 h
    obtain⟨zn,rfl,hlt,_⟩:=hkid z hz
    rw[Int.toNat_natCast] at hi
    obtain⟨g,hg⟩:=(z57 hD (by omega) (by omega) k).1 hi
    have:=z4l hD (show zn<n by omega) hg
    omega
   ·refine z5k ?_ ?_ ?_
    ·unfold z41
     cases h:ns[k]? with
     | none=>simp
     | some x=>simpa using hN k x hk h
    ·intro z hz
     obtain⟨zn,rfl,hlt,_⟩:=hkid z hz
     rw[Int.toNat_natCast]
     exact z9b hD hO hN (by omega) (by omega)
    ·intro a ha b hb hne i hi hj
     obtain⟨an,rfl,hla,ka⟩:=hkid a ha
     obtain⟨bn,rfl,hlb,kb⟩:=hkid b hb
     rw[Int.toNat_natCast] at hi hj
     obtain⟨f1,g1⟩:=(z57 hD (show an<n by omega) (by omega) i).1 hi
     obtain⟨f2,g2⟩:=(z57 hD (show bn<n by omega) (by omega) i).1 hj
     have hno:∀ p q:Nat,p≠q→p<k→zcc ns k q→Und ns p q→False:=fun p q hpq hp hq hu=>by
      rcases zkt.1 hu with h|⟨r,⟨fr,h1⟩,h2⟩
      ·exact hpq h.symm
      ·obtain rfl:=hO r k q h2 hq
       have:=z4l hD (show p<n by omega) h1
       omega
     rcases zbm hO g1 g2 with h|h
     ·exact hno an bn (fun e=>hne (by rw[e])) hla kb h
     ·exact hno bn an (fun e=>hne (by rw[e])) hlb ka h
def z9p (ns:List Nd) (k:Nat) (us:List Nat):Prop:=us.Pairwise (·<·)∧∀ i,i∈us↔Und ns k i
theorem z44 {ns:List Nd} {k:Nat} {us:List Nat} (h:z9p ns k us):us.Nodup:=h.1.imp (fun h=>Nat.ne_of_lt h)
theorem zjj {ns:List Nd} {n k:Nat} {us:List Nat} (hD:z2r ns n) (hO:zt0 ns) (hN:zq1 ns n) (hk:k<n) (h:z9p ns k us):us.length=szF ns (k+1) k:=by
 rw[← zei]
 refine List.Perm.length_eq ((List.perm_ext_iff_of_nodup (z44 h) (z9b hD hO hN hk (Nat.lt_succ_self k))).2 fun i=>?_)
 rw[h.2,z57 hD hk (Nat.lt_succ_self k)]
theorem zap {ns:List Nd} {n:Nat} (hD:z2r ns n):∀ {f g k:Nat},k<n→k<f→k<g→szF ns f k=szF ns g k
 | 0,_,_,_,h,_=>by omega
 | _,0,_,_,_,h=>by omega
 | f+1,g+1,k,hk,hf,hg=>by
   rw[szF,szF]
   congr 2
   apply List.map_congr_left
   intro z hz
   obtain⟨x,hx,hz'⟩:=zqi.1 hz
   have:=hD k x z hk hx hz'
   exact zap hD (by omega) (by omega) (by omega)
theorem z9v {i:Nat}:∀ {zs:List Int},(i:Int)∈zs→1≤occ i zs
 | [],h=>by cases h
 | z::zs,h=>by
   rw[occ]
   rcases List.mem_cons.1 h with h|h
   ·rw[if_pos h.symm]
    omega
   ·have:=z9v h
    omega
theorem zan {i q:Nat}:∀ {ns:List Nd},zcc ns q i→1≤z5m i ns
 | [],⟨x,h,_⟩=>by simp at h
 | y::ns,⟨x,h,h2⟩=>by
   rw[z5m]
   cases q with
   | zero =>
     obtain rfl:y=x:=by simpa using h
     have:=z9v h2
     omega
   | succ q =>
     have:=zan (ns:=ns) (q:=q) (i:=i) ⟨x,by simpa using h,h2⟩
     omega
theorem ze9 {i:Nat}:∀ {ns:List Nd} {q q':Nat},zcc ns q i→zcc ns q' i→q≠q'→2≤z5m i ns
 | [],_,_,⟨x,h,_⟩,_,_=>by simp at h
 | y::ns,0,0,_,_,h=>absurd rfl h
 | y::ns,0,q'+1,⟨x,h,h2⟩,⟨x',h',h2'⟩,_=>by
   rw[z5m]
   obtain rfl:y=x:=by simpa using h
   have:=z9v h2
   have:=zan (ns:=ns) (q:=q') (i:=i) ⟨x',by simpa using h',h2'⟩
   omega
 | y::ns,q+1,0,⟨x,h,h2⟩,⟨x',h',h2'⟩,_=>by
   rw[z5m]
   obtain rfl:y=x':=by simpa using h'
   have:=z9v h2'
   have:=zan (ns:=ns) (q:=q) (i:=i) ⟨x,by simpa using h,h2⟩
   omega
 | y::ns,q+1,q'+1,⟨x,h,h2⟩,⟨x',h',h2'⟩,hne=>by
   rw[z5m]
   have:=ze9 (ns:=ns) (q:=q) (q':=q') (i:=i) ⟨x,by simpa using h,h2⟩ ⟨x',by simpa using h',h2'⟩ (fun e=>hne (by rw[e]))
   omega
theorem z18 {ns:List Nd} (h:TreeP ns):z2r ns ns.length:=zhf h.deep
theorem zdf {ns:List Nd} (h:TreeP ns):zt0 ns:=fun q q' i h1 h2=>by
 have hq:q<ns.length:=by obtain⟨x,hx,_⟩:=h1;exact(List.getElem?_eq_some_iff.1 hx).1
 have hi:i<q:=by
  obtain⟨x,hx,hz⟩:=h1
  have:=z18 h q x i hq hx hz
  omega
 have hu:=h.used i (by omega)
 by_cases e:q=q'
 ·exact e
 ·have:=ze9 h1 h2 e
  omega
theorem zb9 {ns:List Nd} (h:TreeP ns):zq1 ns ns.length:=fun k x hk hx=>by
 have hP:=z0x h.deep hk hx
 rw[List.nodup_iff_pairwise_ne,List.pairwise_iff_getElem]
 intro i j hi hj hij e
 exact hP.once i j x.kids[i] hij (List.getElem?_eq_getElem hi) (by rw[e];exact List.getElem?_eq_getElem hj)
theorem zbn {ns:List Nd} {k:Nat} {us:List Nat} (h:TreeP ns) (hk:k<ns.length) (hu:z9p ns k us):us.length=szF ns (k+1) k:=zjj (z18 h) (zdf h) (zb9 h) hk hu
abbrev tB:Nat:=4
def z0b (bs:List Bool):List Value:=bs.map Value.bool
theorem zbt:(Tryz.prog.info? 4).map (fun i=>(i.zero,i.size,i.bytes))=some (some (.bool false),1,1):=by kernel_rfl
theorem zkh (n:Nat):(madeCells (Value.bool false).cells (n*1)).toList=z0b (List.replicate n false):=by
 apply List.ext_getElem
 ·simp[madeCells,z0b]
 ·intro i h1 h2
  simp[madeCells,z0b,Value.cells,Nat.mod_one]
theorem zdi {w X:World} {B b e s n:Nat} {a:Option Addr} {c:Nat} {qs:List Np} {v:Value} {xs:List Value} (h:Nds w B a c qs) (hr:w.ownsRow b e s v n xs) (hg:w.grownBy X v.ownBlock) (h1:z32≠e) (h2:tI≠e):Nds X B a c qs:=
 ⟨World.ownsRow.kept h.row hg (z0k h.row hr h1),fun q hq=>World.ownsRow.kept (h.each q hq) hg (z0k (h.each q hq) hr h2)⟩
def Mk (bs:List Bool) (i:Nat):Prop:=bs[i]?=some true
theorem zel {bs:List Bool} {k i:Nat} (hk:k<bs.length):Mk (bs.set k true) i↔i=k∨Mk bs i:=by
 unfold Mk
 by_cases e:k=i
 ·subst e
  simp[hk]
 ·rw[List.getElem?_set_ne e]
  constructor
  ·exact .inr
  ·rintro(h|h)
   ·exact absurd h.symm e
   ·exact h
theorem z89 {n i:Nat}:¬ Mk (List.replicate n false) i:=by
 unfold Mk
 intro h
 by_cases hi:i<n
 ·simp[hi] at h
 ·simp[hi] at h
def Clo (ns:List Nd) (k:Nat) (bs:List Bool):Prop:=∀ j,j≤k→Mk bs j→∀ i,Und ns j i→Mk bs i
theorem zsr {ns:List Nd} {a b c:Nat} (h1:Und ns a b) (h2:Und ns b c):Und ns a c:=by
 obtain⟨f,h⟩:=h2
 exact zc1 h1 h
def zet (ns:List Nd) (k:Nat) (ks:List Int) (jj:Nat) (bs us:List Bool):Prop:=us.length=bs.length∧∀ i,Mk us i↔Mk bs i∨i=k∨∃ (m z:Nat),m<jj∧ks[m]?=some (z:Int)∧Und ns z i
theorem zcr {ns:List Nd} {k:Nat} {bs:List Bool} (ks:List Int) (hk:k<bs.length):zet ns k ks 0 bs (bs.set k true):=⟨by simp,fun i=>by
 rw[zel hk]
 constructor
 ·rintro(h|h)
  ·exact .inr (.inl h)
  ·exact .inl h
 ·rintro(h|h|⟨m,z,h,_⟩)
  ·exact .inr h
  ·exact .inl h
  ·omega⟩
theorem zgh {ns:List Nd} {k zn jj:Nat} {ks:List Int} {bs us:List Bool} (hz:zn<k) (hC:Clo ns k bs) (h:zet ns k ks jj bs us):Clo ns zn us:=by
 intro j hj hm i hi
 rcases(h.2 j).1 hm with h1|h1|⟨m,z,h1,h2,h3⟩
 ·exact(h.2 i).2 (.inl (hC j (by omega) h1 i hi))
 ·omega
 ·exact(h.2 i).2 (.inr (.inr ⟨m,z,h1,h2,zsr h3 hi⟩))
theorem zia {ns:List Nd} {k zn jj:Nat} {ks:List Int} {bs us vs:List Bool} (h:zet ns k ks jj bs us) (hz:ks[jj]?=some (zn:Int)) (hl:vs.length=us.length) (hv:∀ i,Mk vs i↔Mk us i∨Und ns zn i):zet ns k ks (jj+1) bs vs:=⟨hl.trans h.1,fun i=>by
 rw[hv,h.2]
 constructor
 ·rintro((h1|h1|⟨m,z,h1,h2⟩)|h1)
  ·exact .inl h1
  ·exact .inr (.inl h1)
  ·exact .inr (.inr ⟨m,z,by omega,h2⟩)
  ·exact .inr (.inr ⟨jj,zn,by omega,hz,h1⟩)
 ·rintro(h1|h1|⟨m,z,h1,h2,h3⟩)
  ·exact .inl (.inl h1)
  ·exact .inl (.inr (.inl h1))
  ·by_cases e:m=jj
   ·subst e
    rw[hz] at h2
    injection h2 with h2
    obtain rfl:zn=z:=by omega
    exact .inr h3
   ·exact .inl (.inr (.inr ⟨m,z,by omega,h2,h3⟩))⟩
theorem zjq {ns:List Nd} {k:Nat} {x:Nd} {bs us:List Bool} (hx:ns[k]?=some x) (h:zet ns k x.kids x.kids.length bs us):∀ i,Mk us i↔Mk bs i∨Und ns k i:=fun i=>by
 rw[h.2,zbq]
 constructor
 ·rintro(h1|h1|⟨m,z,h1,h2,h3⟩)
  ·exact .inl h1
  ·exact .inr (.inl h1)
  ·exact .inr (.inr ⟨z,⟨x,hx,List.mem_of_getElem? h2⟩,h3⟩)
 ·rintro(h1|h1|⟨z,⟨y,hy,hz⟩,h3⟩)
  ·exact .inl h1
  ·exact .inr (.inl h1)
  ·rw[hx] at hy
   injection hy with hy
   subst hy
   obtain⟨m,hm⟩:=List.mem_iff_getElem?.1 hz
   exact .inr (.inr ⟨m,z,(List.getElem?_eq_some_iff.1 hm).1,hm,h3⟩)
def zpx (w:World) (ns:List Nd) (k mb B L:Nat) (bs:List Bool) (e:Ending) (w':World):Prop:=
 e=.returned (.tuple #[])∧∃ us:List Bool,us.length=bs.length∧w'.ownsRow B tB 1 (.slice (some ⟨mb,0,none⟩) L L) L (z0b us)∧w.grownBy w' (some mb)∧Hid (∀ i,Mk us i↔Mk bs i∨Und ns k i)
theorem zqq {B:Nat} {a:Option Addr} {c:Nat} {qs:List Np} (hD:z2r (qs.map Np.nd) qs.length) (h12:∀ q∈qs,q.nd.kids.length≤12) (hn:qs.length≤300):∀ (f k:Nat),k<f→k<qs.length→∀ (w:World) (Bm mb:Nat) (bs:List Bool),Nds w B a c qs→w.ownsRow Bm tB 1 (.slice (some ⟨mb,0,none⟩) qs.length qs.length) qs.length (z0b bs)→Clo (qs.map Np.nd) k bs →
 Calls Tryz.prog 96 #[.slice a qs.length c,.int .i64 (k:Int),.slice (some ⟨mb,0,none⟩) qs.length qs.length] w (zpx w (qs.map Np.nd) k mb Bm qs.length bs)
 | 0,k,h,_=>by omega
 | f+1,k,hf,hk=>by
   intro w Bm mb bs h ho hC
   have ih:=zqq (B:=B) (a:=a) (c:=c) hD h12 hn f
   have hbl:bs.length=qs.length:=by have:=ho.1;simpa[z0b] using this
   obtain⟨q,hq⟩:∃ q,qs[k]?=some q:=⟨_,List.getElem?_eq_getElem hk⟩
   have hx:(qs.map Np.nd)[k]?=some q.nd:=by rw[List.getElem?_map,hq];rfl
   have hm12:=h12 q (List.mem_of_getElem? hq)
   have hkid:∀ (j:Nat) (z:Int),q.nd.kids[j]?=some z→0≤z∧z<(k:Int):=fun j z hz=>hD k q.nd z hk hx (List.mem_of_getElem? hz)
   obtain⟨bk,hbk⟩:∃ bk,bs[k]?=some bk:=⟨_,List.getElem?_eq_getElem (by omega)⟩
   have cb:=(ho.cellAt k (by omega)).trans (show (z0b bs)[k]?=some (.bool bk) by unfold z0b;rw[List.getElem?_map,hbk];rfl)
   have hA:(0:Int)≤(k:Int):=by omega
   have hB:(k:Int)<(qs.length:Int):=by omega
   have hml:=(ho.lt mb rfl).2
   have hfz:=ho.frozenAt k
   have hst:=ho.stored k (.bool true)
   have hO:=z00 ho
   have HB:=z00 hbk
   have HC:=z00 hC
   have HH:=z00 h
   have HQ:=z00 hq
   have HX:=z00 hx
   have HK:=z00 hkid
   have IH:=z00 ih
   have HBL:=z00 hbl
   obtain⟨a0,rfl,ha0,-,-,-,-⟩:=h.node hq
   cases bk with
   | true =>
     clear ho hbk hC h hq hx hkid hD ih hst hbl h12
     go_enter Tryz.func96,Tryz.ntmps96
     go_wp2
     go_end0
     exact⟨rfl,bs,rfl,hO.out,World.grownBy.refl _ _,z00 fun i=>⟨.inl,fun h1=>h1.elim id (fun h2=>HC.out k (Nat.le_refl _) HB.out i h2)⟩⟩
   | false =>
     have HS:=z00 hst
     clear ho hbk hC h hq hx hkid hD ih hst hbl h12
     go_enter Tryz.func96,Tryz.ntmps96
     go_wp2
     go_loopw [6] (fun i wr=>∃ (jj:Nat) (us:List Bool),jj≤q.nd.kids.length∧i=.int .i64 (jj:Int)∧wr.ownsRow Bm tB 1 (.slice (some ⟨mb,0,none⟩) qs.length qs.length) qs.length (z0b us)∧Hid (w.grownBy wr (some mb))∧Hid (zet (qs.map Np.nd) k q.nd.kids jj bs us)) (fun i _=>q.nd.kids.length-(intOf i).toNat)
     case atStart=>exact⟨0,bs.set k true,Nat.zero_le _,rfl,by have:=HS.out.1;rwa [show (z0b bs).set k (.bool true)=z0b (bs.set k true) by unfold z0b;rw[List.map_set]] at this,z00 HS.out.2,z00 (zcr _ (by rw[HBL.out];exact hk))⟩
     case round =>
      clear cb hfz
      obtain⟨jj,us,hjj,rfl,ho,HG,HM⟩:=hrel
      have hN:=zdi HH.out hO.out HG.out (by decide) (by decide)
      obtain⟨b',hbb,hb2,-,-,d2,-⟩:=hN.node HQ.out
      obtain rfl:a0=b':=by injection hbb with hbb;injection hbb
      have HN:=z00 hN
      clear hbb
      by_cases hl2:jj<q.nd.kids.length
      ·obtain⟨z,ez⟩:∃ z,q.nd.kids[jj]?=some z:=⟨_,List.getElem?_eq_getElem hl2⟩
       have hzr:=HK.out jj z ez
       obtain⟨zn,rfl⟩:∃ zn:Nat,z=(zn:Int):=⟨z.toNat,by omega⟩
       obtain⟨kb,hkb,hkbl,ck⟩:=hN.kid HQ.out ez
       rw[hkb] at d2
       have hA6:(0:Int)≤(jj:Int):=by omega
       have hB6:(jj:Int)<(q.nd.kids.length:Int):=by omega
       have qM:=IH.out zn (by omega) (by omega) wr Bm mb us hN ho (zgh (by omega) HC.out HM.out)
       have HZ:=z00 ez
       clear ez hN ho
       go_wp2_with fail
       refine qM.mono ?_
       rintro e w2 ⟨rfl,vs,hvl,ho2,hg2,HV⟩
       have HG2:=z00 (z0w HG.out hg2)
       have HM2:=z00 (zia HM.out HZ.out hvl HV.out)
       clear qM HM HV HN hg2 d2 ck
       go_wp2
       go_roundw
       case rel=>exact⟨jj+1,vs,by omega,by go_num,ho2,HG2,HM2⟩
       case measure=>simp[intOf];omega
      ·have hB6:¬ (jj:Int)<(q.nd.kids.length:Int):=by omega
       obtain rfl:jj=q.nd.kids.length:=by omega
       go_wp2
       go_end0
       exact⟨rfl,us,HM.out.1,ho,HG.out,z00 (zjq HX.out HM.out)⟩
def z35 (bs:List Bool) (n:Nat):List Nat:=(List.range n).filter fun j=>bs.getD j false
theorem zc5 {bs:List Bool} {n:Nat} (h:bs[n]?=some true):z35 bs (n+1)=z35 bs n++[n]:=by
 unfold z35
 rw[List.range_succ,List.filter_append]
 simp[h]
theorem zdv {bs:List Bool} {n:Nat} (h:bs[n]?=some false):z35 bs (n+1)=z35 bs n:=by
 unfold z35
 rw[List.range_succ,List.filter_append]
 simp[h]
theorem zca (bs:List Bool) (n:Nat):(z35 bs n).length≤n:=by
 unfold z35
 have:=List.length_filter_le (fun j=>bs.getD j false) (List.range n)
 simpa using this
theorem zj8 {bs:List Bool} {n i:Nat}:i∈z35 bs n↔i<n∧Mk bs i:=by
 unfold z35 Mk
 rw[List.mem_filter,List.mem_range,List.getD_eq_getElem?_getD]
 cases h:bs[i]? with
 | none=>simp
 | some b=>cases b<;>simp
theorem zh8 {ns:List Nd} {n k:Nat} {bs:List Bool} (hD:z2r ns n) (hk:k<n) (h:∀ i,Mk bs i↔Und ns k i):z9p ns k (z35 bs n):=by
 refine⟨List.Pairwise.filter _ List.pairwise_lt_range,fun i=>?_⟩
 rw[zj8,h]
 exact⟨fun h1=>h1.2,fun h1=>⟨by obtain⟨f,hf⟩:=h1;have:=z4l hD hk hf;omega,h1⟩⟩
theorem ze0 {ns:List Nd} {n k:Nat} {us:List Nat} (hD:z2r ns n) (hk:k<n) (h:z9p ns k us) {m u:Nat} (hu:us[m]?=some u):u<n:=by
 obtain⟨f,hf⟩:=(h.2 u).1 (List.mem_of_getElem? hu)
 have:=z4l hD hk hf
 omega
theorem z6n {ns:List Nd} {n k:Nat} {us:List Nat} (hD:z2r ns n) (hk:k<n) (h:z9p ns k us):us.length≤n:=by
 have h1:us ⊆ List.range n:=fun u hu=>by
  obtain⟨m,hm⟩:=List.mem_iff_getElem?.1 hu
  exact List.mem_range.2 (ze0 hD hk h hm)
 have:=List.Nodup.length_le_of_subset (z44 h) h1
 simpa using this
def z1d (us:List Nat):List Int:=us.map fun i:Nat=>(i:Int)
theorem z1t (us:List Nat):(z1d us).length=us.length:=by simp[z1d]
theorem z5r {us:List Nat} {m u:Nat} (h:us[m]?=some u):(z02 (z1d us))[m]?=some (.int .i64 (u:Int)):=by
 unfold z02 z1d
 rw[List.getElem?_map,List.getElem?_map,h]
 rfl
def zmz (ns:List Nd) (k:Nat) (w:World) (e:Ending) (w':World):Prop:=∃ us:List Nat,z9p ns k us∧z7u (z1d us) tI w e w'
theorem zmw (hNode:z78 142) {w:World} {B:Nat} {a:Option Addr} {c k:Nat} {qs:List Np} (h:Nds w B a c qs) (hS:∀ q∈qs,SafeNd q.nd) (hT:TreeP (qs.map Np.nd)) (hk:k<qs.length):Calls Tryz.prog 52 #[.slice a qs.length c,.int .i64 (k:Int)] w (zmz (qs.map Np.nd) k w):=by
 obtain⟨i0,hi,hz0,hz1,hz2⟩:=info_parts z29
 obtain⟨i1,hj,hy0,hy1,hy2⟩:=info_parts zbt
 have hn:qs.length≤300:=by have:=hT.most;simpa using this
 have qD:=fun W (hW:Below w.heap.size w W)=>zgm (k:=k) hNode (h.below hW) hS hn hk
 have hd:=z00 (z8k hT.deep (show k+1≤(qs.map Np.nd).length by rw[List.length_map];exact hk))
 have hDn:z2r (qs.map Np.nd) qs.length:=by have:=z18 hT;simpa using this
 have h12:∀ q∈qs,q.nd.kids.length≤12:=fun q hq=>by
  obtain⟨j,hj⟩:=List.getElem?_of_mem hq
  exact z34 (z0x hT.deep (by have:=(List.getElem?_eq_some_iff.1 hj).1;simpa using this) (show (qs.map Np.nd)[j]?=some q.nd by rw[List.getElem?_map,hj];rfl)).cnt
 have qM:=zqq (B:=B) (a:=a) (c:=c) hDn h12 hn (k+1) k (Nat.lt_succ_self k) hk
 have HH:=z00 h
 have HD:=z00 hDn
 clear h hS hT h12 hDn
 go_enter Tryz.func52,Tryz.ntmps52
 have B0:Below w.heap.size w (w.alloc (.cells #[] tI)):=(Below.refl _ _).alloc (Nat.le_refl _) _
 go_wp2_with fail
 refine(qD _ B0).mono ?_
 rintro e w2 ⟨d,rfl,hd0,b2⟩
 have hdn:(d==0)=false:=by rw[beq_eq_false_iff_ne];exact fun e=>hd0.1 e hd.out
 have hown0:(w.alloc (.cells #[] tI)).ownsRow w.heap.size tI 1 (.slice (some ⟨w.heap.size,0,none⟩) 0 0) 0 []:=World.ownsRow_made w #[] 0 (Nat.le_refl _) (by decide) rfl
 have o2:=z07 hown0 b2
 have B2:=B0.trans (b2.mono B0.size)
 have hs2:=B2.size
 clear qD hd0 b2 hown0
 go_wp2_with (at_make;refine wpList_make_full _ rfl _ _ 64 rfl w2.heap.size 4 i1 (.bool false) 1 Tryz.underlying64 hj hy0 hy1 .i64 .i64 _ _ qs.length rfl rfl rfl rfl (by rw[hy2];omega) (by unfold maxLen;omega) (Nat.le_refl _) ?_;intro w3 hown hgrow)
 rw[zkh] at hown
 have b3:Below w2.heap.size w2 w3:=(Below.refl _ _).grown hgrow (Nat.le_refl _) (fun k e=>by cases e)
 have o3:=z07 o2 b3
 have B3:=B2.trans (b3.mono hs2)
 obtain⟨ub,hub⟩:∃ ub,ub=w2.heap.size:=⟨_,rfl⟩
 rw[← hub] at hown ⊢
 have hubw:w.heap.size≤ub:=by omega
 have hlen0:(List.replicate qs.length false).length=qs.length:=by simp
 have qM3:=qM w3 _ ub (List.replicate qs.length false) (HH.out.below B3) hown (fun j _ hm=>absurd hm z89)
 have HO3:=z00 hown
 clear hgrow b3 o2 hub qM hown B2
 go_wp2_with fail
 refine qM3.mono ?_
 rintro e w4 ⟨rfl,bs,hbl,ob,hg4,HMk⟩
 have o4:=World.ownsRow.kept o3 hg4 (z0k o3 HO3.out (by decide))
 have B4:=B3.grown hg4 B3.size (fun k e=>by injection e with e;omega)
 have HP:=z00 (zh8 HD.out hk (fun i=>(HMk.out i).trans ⟨fun h=>h.elim (fun h=>absurd h z89) id,.inr⟩))
 have hbl2:bs.length=qs.length:=hbl.trans hlen0
 have HBL:=z00 hbl2
 have HB:=z00 ob
 have hs4:=B4.size
 clear qM3 HMk hg4 o3 HO3 B3 hbl hbl2 ob hlen0
 go_wp2_with fail
 go_loopw [5,7] (fun v i wr=>∃ j:Nat,j≤qs.length∧i=.int .i64 (j:Int)∧wr.ownsRow w.heap.size tI 1 v (z1d (z35 bs j)).length (z02 (z1d (z35 bs j)))∧Hid (wr.ownsRow ub tB 1 (.slice (some ⟨ub,0,none⟩) qs.length qs.length) qs.length (z0b bs))∧Hid (Below w.heap.size w wr)) (fun _ i _=>qs.length-(intOf i).toNat)
 case atStart=>exact⟨0,Nat.zero_le _,rfl,o4,HB,z00 B4⟩
 case round =>
  clear o4 B4 HB
  obtain⟨j,hj,rfl,ho,HB,HW⟩:=hrel
  obtain⟨ao,cc,rfl⟩:=z06 ho
  have hws:=HW.out.size
  have hpl:=zca bs j
  have hnl:=z1t (z35 bs j)
  by_cases hlt:j<qs.length
  ·have hA:(0:Int)≤(j:Int):=by omega
   have hB1:(j:Int)<(qs.length:Int):=by omega
   obtain⟨bj,hbj⟩:∃ bj,bs[j]?=some bj:=⟨_,List.getElem?_eq_getElem (by rw[HBL.out];exact hlt)⟩
   have cb:=(HB.out.cellAt j (by omega)).trans (show (z0b bs)[j]?=some (.bool bj) by unfold z0b;rw[List.getElem?_map,hbj];rfl)
   have HJ:=z00 hbj
   clear hbj
   cases bj with
   | false =>
     have he:=zdv HJ.out
     have HE:=z00 he
     clear he
     go_wp2
     go_roundw
     case rel=>exact⟨j+1,by omega,by go_num,by rw[HE.out];exact ho,HB,HW⟩
     case measure=>simp[intOf];omega
   | true =>
     have HE:=z00 (zc5 HJ.out)
     have HO:=z00 ho
     clear ho
     obtain⟨n1,hn1⟩:∃ n1,n1=(z1d (z35 bs j)).length:=⟨_,rfl⟩
     have HN1:=z00 hn1
     have hn2:n1≤300:=by omega
     rw[← hn1] at HO ⊢
     clear hn1 hnl
     go_wp2_with (at_builtin;refine z04 rfl _ _ 29 rfl w.heap.size 3 i0 _ 1 8 Tryz.underlying29 hi hz0 hz1 hz2 rfl (by decide) (.slice ao n1 cc) n1 (z02 (z1d (z35 bs j))) rfl (HO.out.alloc _) ⟨wr.heap.size,0,none⟩ 1 1 [.int .i64 (j:Int)] rfl rfl (cell_one_new _ _ _) (by simp[Value.oneCell']) (by unfold maxLen;omega) (by omega) (by simp;omega) ?_;intro v' w5 hown' hgrow5 hpl5;clear hpl5)
     have o5:=z0c hown' HN1.out
     have e5:z1d (z35 bs (j+1))=z1d (z35 bs j)++[(j:Int)]:=by rw[HE.out];simp[z1d]
     have b5:=World.ownsRow.kept (HB.out.alloc (.cells #[.int .i64 (j:Int)] tI)) hgrow5 (z0k (HB.out.alloc _) (HO.out.alloc (.cells #[.int .i64 (j:Int)] tI)) (by decide))
     have B5:=(HW.out.alloc (by omega) (.cells #[.int .i64 (j:Int)] tI)).grown hgrow5 (by simp;omega) (fun q hq=>(HO.out.lt q hq).1)
     rw[← e5] at o5
     clear hown' hgrow5
     go_wp2
     go_roundw
     case rel=>exact⟨j+1,by omega,by go_num,o5,z00 b5,z00 B5⟩
     case measure=>simp[intOf];omega
  ·have hB1:¬ (j:Int)<(qs.length:Int):=by omega
   obtain rfl:j=qs.length:=by omega
   clear hnl hpl
   go_wp2
   go_ret
   exact⟨_,HP.out,za8 HW.out ho⟩
end Go.Proofs.YtekebloinobjnaaGreatDoor
