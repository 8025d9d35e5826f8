/- Texts of one proof, laid together: UkJ, GvLib, MbI, SoI, Ap3, GvI. -/
import Derived.Test.YtekebloinobjnaaGreatDoorC34
import Derived.Lib.AtoiErrMem
import Derived.Test.YtekebloinobjnaaGreatDoorC15
set_option maxHeartbeats 16000000
set_option maxRecDepth 100000
namespace Go.Proofs.YtekebloinobjnaaGreatDoor
open Go.RowKit
open Go.RowKit Go.Lib Go.Sort
theorem zi9 {n:Nat} (zs:List {i:Nat // i<n}):zs.map (zsl n)=z02 (z1d (zs.map Subtype.val)):=by
 unfold z02 z1d
 rw[List.map_map,List.map_map]
 rfl
theorem zl3 (w:World):(zeroValue 3).run Tryz.prog w=.ok (.int .i64 ((0:Nat):Int)) w:=by kernel_rfl
theorem zeb {n g cap base:Nat} {us:List Nat} {w:World} (p:Nat→Bool) (gf:Nat) (lb:Array Value) (eg:∀ args w,(callFunc gf args).run Tryz.prog w=.ok (.enter gf args) w) (hn:0<n) (hu:∀ u∈us,u<n)
 (ho:w.ownsRow base tI 1 (.slice (some ⟨g,0,none⟩) us.length cap) us.length (z02 (z1d us)))
 (hp:∀ (W:World) (i:Nat),i<n→w.grownBy W (some g)→FnGives Tryz.prog gf lb #[.int .i64 (i:Int)] (.bool (p i)) W) :
 Calls Tryz.prog 80 #[.slice (some ⟨g,0,none⟩) us.length cap,.func (.func gf) #[] lb] w fun e w'=>e=.returned (.slice (some ⟨g,0,none⟩) (us.filter fun u=>!p u).length cap)∧w.grownBy w' (some g)∧w'.ownsRow base tI 1 (.slice (some ⟨g,0,none⟩) (us.filter fun u=>!p u).length cap) (us.filter fun u=>!p u).length (z02 (z1d (us.filter fun u=>!p u))):=by
 letI:Inhabited {i:Nat // i<n}:=⟨⟨0,hn⟩⟩
 obtain⟨zs,hzs⟩:∃ zs,zs=zd8 n us hu:=⟨_,rfl⟩
 have hv:zs.map Subtype.val=us:=by rw[hzs];exact z8n us hu
 have hl:zs.length=us.length:=by rw[← hv,List.length_map]
 have hf:(zs.filter fun x=>!p x.1).map Subtype.val=us.filter fun u=>!p u:=by rw[hzs];exact zby (fun u=>!p u) us hu
 have hfl:(zs.filter fun x=>!p x.1).length=(us.filter fun u=>!p u).length:=by rw[← hf,List.length_map]
 have ho':w.ownsRow base tI 1 (.slice (some ⟨g,0,none⟩) us.length cap) us.length (zs.map (zsl n)):=by rw[zi9,hv];exact ho
 obtain⟨g',cap',e0,hb,hg,hc,hm,_,hH⟩:=holds_of_ownsRow ho' (by intro e;cases e)
 injection e0 with e1 _ e3
 injection e1 with e1
 injection e1 with e1
 subst e1;subst e3
 have q:=Tryz.slices_DeleteFunc (zsl n) (fun _=>rfl) (fun x=>p x.1) gf lb eg ⟨0,hn⟩ zl3 g 0 cap zs.toArray w (fun W x hb=>hp W x.1 x.2 (z0t hb _)) (fun m os dk x _=>hp _ x.1 x.2 (z2i (zsl n) dk)) hH (by have hm2:cap≤maxLen:=hm;unfold maxLen at hm2;simp;omega) (by simp;omega)
 rw[show zs.toArray.size=us.length from by simp[hl]] at q
 refine q.mono ?_
 rintro e w' ⟨rfl,m,rfl⟩
 have hle:(us.filter fun u=>!p u).length≤us.length:=List.length_filter_le _ _
 rw[hfl]
 refine⟨rfl,?_,?_⟩
 ·have:=z2i (zsl n) (w:=w) (g:=g) (n:=m) (os:=#[]) (List.toArray (α:={i:Nat // i<n}) ((zs.filter fun x=>!p x.1)++List.replicate (us.length-(us.filter fun u=>!p u).length) ⟨0,hn⟩))
  rw[grow_empty] at this
  exact this
 ·have:=ownsRow_putRow (q:=m) (k:=(us.filter fun u=>!p u).length) (ys:=(zs.filter fun x=>!p x.1)++List.replicate (us.length-(us.filter fun u=>!p u).length) ⟨0,hn⟩) ho' (by simp only[List.length_append,List.length_replicate];rw[hfl];omega) hle
  rw[List.take_left' hfl,zi9,hf] at this
  exact this
theorem KindW.below {qs:List Np} {ks:List Int} {xk xn:Nat} {a kb:Option Addr} {c kc g:Nat} {W W1 W2:World} (h:KindW qs ks xk xn a kb c kc W) (hb:Below W.heap.size W W1) (hg:W1.grownBy W2 (some g)) (hl:W.heap.size≤g):KindW qs ks xk xn a kb c kc W2:=by
 have B:Below W.heap.size W W2:=hb.grown hg hb.size (fun k e=>by injection e with e;omega)
 have cc:∀ (x:Addr) (v:Value),W.cell? x=some v→W2.cell? x=some v:=fun x v hx=>by rw[B.cell (lt_of_cell hx)];exact hx
 exact⟨cc _ _ h.k,cc _ _ h.n,fun j hj=>by obtain⟨b,e,h2⟩:=h.kinds j hj;exact⟨b,e,cc _ _ h2⟩,fun i q hq=>by obtain⟨b,e,h2⟩:=h.nodes i q hq;exact⟨b,e,cc _ _ h2⟩⟩
theorem zni:∀ (args:Array Value) (w:World),(callFunc 127 args).run Tryz.prog w=.ok (.enter 127 args) w:=enters_of Tryz.func127 (by kernel_rfl) rfl
def UnQ (ns:List Nd) (k:Int) (us:List Nat):Prop:=(∃ n:Nat,k=(n:Int)∧n<ns.length∧TreeP ns∧z9p ns n us)∨(k=-1∧us=[])
theorem zg3 {ns:List Nd} {k:Nat} {us vs:List Nat} (h:z9p ns k us) (h2:z9p ns k vs):us=vs:=
 List.Perm.eq_of_pairwise (le:=(·<·)) (fun a b _ _ h1 h2=>by omega) h.1 h2.1 ((List.perm_ext_iff_of_nodup (z44 h) (z44 h2)).2 fun i=>by rw[h.2,h2.2])
theorem z40 {ns:List Nd} {k:Int} {us:List Nat} (h:UnQ ns k us):∀ u∈us,u<ns.length:=fun u hu=>by
 rcases h with⟨n,_,hn,hT,hU⟩|⟨_,rfl⟩
 ·obtain⟨f,h1⟩:=(hU.2 u).1 hu
  have:=z4l (z18 hT) hn h1
  omega
 ·cases hu
theorem z5n {ns:List Nd} {k:Int} {us:List Nat} (h:UnQ ns k us):us.length≤300:=by
 rcases h with⟨n,_,hn,hT,hU⟩|⟨_,rfl⟩
 ·have:=z6n (z18 hT) hn hU
  have:=hT.most
  omega
 ·simp
theorem ziw {ns:List Nd} {k:Int} {us:List Nat} (h:UnQ ns k us):us.Pairwise (·<·):=by
 rcases h with⟨n,_,hn,hT,hU⟩|⟨_,rfl⟩
 ·exact hU.1
 ·exact .nil
def zbj (vs:List Nat) (w:World) (e:Ending) (w':World):Prop:=
 ∃ (g c:Nat),e=.returned (.slice (some ⟨g,0,none⟩) vs.length c)∧w'.ownsRow w.heap.size tI 1 (.slice (some ⟨g,0,none⟩) vs.length c) vs.length (z02 (z1d vs))∧Below w.heap.size w w'
theorem zfi {w:World} {a:Option Addr} {c n:Nat}:Calls Tryz.prog 25 #[.slice a n c,.int .i64 (-1)] w (zbj [] w):=by
 have q:=fun W=>zja (a:=a) (c:=c) (n:=n) (w:=W)
 have o1:(w.alloc (.cells #[] tI)).ownsRow w.heap.size tI 1 (.slice (some ⟨w.heap.size,0,none⟩) 0 0) 0 (z02 []):=World.ownsRow_made w #[] 0 (Nat.le_refl _) (by decide) rfl
 have B1:Below w.heap.size w (w.alloc (.cells #[] tI)):=(Below.refl _ _).alloc (Nat.le_refl _) _
 go_enter Tryz.func25,Tryz.ntmps25
 go_wp2_with (go_at_call 70;refine(q _).mono ?_;rintro e w' ⟨rfl,rfl⟩)
 go_ret
 exact⟨_,_,rfl,o1,B1⟩
theorem zjh {w:World} {B:Nat} {a:Option Addr} {c:Nat} {k:Int} {us:List Nat} {qs:List Np} (h:Nds w B a c qs) (hS:∀ q∈qs,SafeNd q.nd) (hQ:UnQ (qs.map Np.nd) k us):Calls Tryz.prog 25 #[.slice a qs.length c,.int .i64 k] w (zbj us w):=by
 rcases hQ with⟨n,rfl,hn,hT,hU⟩|⟨rfl,rfl⟩
 ·refine(zs7 h hS hT (by simpa using hn)).mono ?_
  rintro e w' ⟨vs,hv,hb,ua,uc,rfl,ho⟩
  obtain rfl:=zg3 hv hU
  have hp:0<vs.length:=List.length_pos_of_mem ((hv.2 n).2 (z7g _ _))
  rw[z1t] at ho
  obtain⟨ub,rfl⟩:=z0s ho hp
  exact⟨ub,uc,by rw[z1t],ho,hb⟩
 ·exact zfi
theorem zkn (a:Option Addr) (c:Nat) (fv:Value) (w:World):Calls Tryz.prog 80 #[.slice a 0 c,fv] w fun e w'=>e=.returned (.slice a 0 c)∧w'=w:=by
 have q:=fun W=>Tryz.slices_IndexFunc_empty (α:=Nat) a c fv W
 go_enter Tryz.func80,Tryz.ntmps80
 go_wp2_with (go_at_call 110;refine(q _).mono ?_;rintro e w' ⟨rfl,rfl⟩)
 go_ret
 exact⟨rfl,rfl⟩
theorem z9x {w:World} {B:Nat} {a:Option Addr} {c:Nat} {k:Int} {us:List Nat} {qs:List Np} (h:Nds w B a c qs) (hS:∀ q∈qs,SafeNd q.nd) (hQ:UnQ (qs.map Np.nd) k us) {kb kc:Nat} {ks:List Int} (hK:∀ j,j<ks.length→w.cell? ⟨kb,j,none⟩=some (.int .i64 (ks.getD j 0))) (h0:0<ks.length) (h1:ks.length≤1000) :
 Calls Tryz.prog 91 #[.slice a qs.length c,.int .i64 k,.slice (some ⟨kb,0,none⟩) ks.length kc] w (zbj (us.filter fun u=>ks.contains (z1l (qs.map Np.nd) u)) w):=by
 have qU:=fun W (hW:Below w.heap.size w W)=>zjh (h.below hW) hS hQ
 have hlt:=z40 hQ
 rw[List.length_map] at hlt
 obtain⟨W1,hW1⟩:∃ W1,W1=(w.alloc (.cells #[.slice a qs.length c] 24)).alloc (.cells #[.slice (some ⟨kb,0,none⟩) ks.length kc] 29):=⟨_,rfl⟩
 have B1:Below w.heap.size w W1:=by rw[hW1];exact((Below.refl _ _).alloc (Nat.le_refl _) _).alloc (by simp) _
 have s1:W1.heap.size=w.heap.size+2:=by rw[hW1];simp
 have KW:KindW qs ks (w.heap.size+1) w.heap.size a (some ⟨kb,0,none⟩) c kc W1:=by
  refine⟨?_,?_,fun j hj=>⟨kb,rfl,?_⟩,fun i q hq=>?_⟩
  ·rw[hW1,← show (w.alloc (.cells #[.slice a qs.length c] 24)).heap.size=w.heap.size+1 by simp];exact cell_one_new _ _ _ 0 _ rfl
  ·rw[hW1];exact(((Below.refl (w.alloc (.cells #[.slice a qs.length c] 24)).heap.size _).alloc (Nat.le_refl _) _).cell (by simp)).trans (cell_one_new w _ _ 0 _ rfl)
  ·rw[B1.cell (lt_of_cell (hK j hj))];exact hK j hj
  ·obtain⟨b,e,_,e2,_⟩:=(h.below B1).node hq
   exact⟨b,e,e2⟩
 obtain⟨vs,hvs⟩:∃ vs,vs=us.filter fun u=>ks.contains (z1l (qs.map Np.nd) u):=⟨_,rfl⟩
 rw[← hvs]
 have HV:=z00 hvs
 have HW:=z00 KW
 have HLT:=z00 hlt
 clear h hS hK KW hQ hlt hvs
 go_enter Tryz.func91,Tryz.ntmps91
 go_wp2_with fail
 rw[← hW1]
 refine(qU W1 B1).mono ?_
 rintro e w2 ⟨ub,uc,rfl,o2,b2⟩
 have hvs:=HV.out
 by_cases hem:us=[]
 ·subst hem
  obtain rfl:vs=[]:=hvs
  have qD:=fun W=>zkn (some ⟨ub,0,none⟩) uc (.func (.func 127) #[] #[.pointer (some ⟨w.heap.size+1,0,none⟩),.pointer (some ⟨w.heap.size,0,none⟩)]) W
  have HO:=z00 (And.intro o2 b2)
  clear qU o2 b2
  go_wp2_with (go_at_call 80;refine(qD _).mono ?_;rintro e w' ⟨rfl,rfl⟩)
  go_ret
  exact⟨ub,uc,rfl,z01 HO.out.1 (by omega),B1.trans (HO.out.2.mono (by omega))⟩
 ·obtain⟨u0,hu0⟩:=List.exists_mem_of_ne_nil _ hem
  have hpos:0<qs.length:=by have:=HLT.out u0 hu0;omega
  have hub:=(o2.lt ub rfl).1
  have qD:=zeb (fun i=>!ks.contains (z1l (qs.map Np.nd) i)) 127 #[.pointer (some ⟨w.heap.size+1,0,none⟩),.pointer (some ⟨w.heap.size,0,none⟩)] zni hpos HLT.out o2 (fun W i hi hg=>zpk (HW.out.below b2 hg hub) hi h0 h1)
  simp only[Bool.not_not] at qD
  rw[← hvs] at qD
  have HB2:=z00 b2
  clear qU hvs o2 b2 hu0 hem
  go_wp2_with fail
  refine qD.mono ?_
  rintro e w3 ⟨rfl,hg,o3⟩
  have B3:=(B1.trans (HB2.out.mono (by omega))).grown hg (by have:=HB2.out.size;omega) (fun k e=>by injection e with e;omega)
  go_wp2
  go_ret
  exact⟨ub,uc,rfl,z01 o3 (by omega),B3⟩
def zb4 (ns:List Nd) (u:Nat):List Nat:=(z41 ns u).dropLast.map Int.toNat
def gvB (ns:List Nd) (u:Nat):Bool:=([9,20]:List Int).contains (z1l ns u)
def za0 (ns:List Nd) (us:List Nat):List Nat:=(us.filter (gvB ns)).flatMap (zb4 ns)
theorem zip {ns:List Nd} {u:Nat} {x:Nd} (h:ns[u]?=some x):gvB ns u=true↔x.kind=9∨x.kind=20:=by
 unfold gvB
 rw[z1w h]
 simp
theorem zcd {ns:List Nd} {u:Nat} {x:Nd} (h:ns[u]?=some x):zb4 ns u=x.kids.dropLast.map Int.toNat:=by unfold zb4 z41;rw[h];rfl
def GvP (ns:List Nd) (q i:Nat):Prop:=∃ (x:Nd) (j:Nat),ns[q]?=some x∧(x.kind=9∨x.kind=20)∧j+1<x.kids.length∧x.kids[j]?=some (i:Int)
theorem z7b {ns:List Nd} {u i:Nat} {x:Nd} (h:ns[u]?=some x) (hP:NodeP ns u x):i∈zb4 ns u↔∃ j,j+1<x.kids.length∧x.kids[j]?=some (i:Int):=by
 rw[zcd h,List.mem_map]
 constructor
 ·rintro⟨z,hz,rfl⟩
  obtain⟨j,hj⟩:=List.getElem?_of_mem hz
  rw[List.getElem?_dropLast] at hj
  split at hj
  ·have:=hP.place j z hj
   exact⟨j,by omega,by rw[hj,Int.toNat_of_nonneg this.1]⟩
  ·cases hj
 ·rintro⟨j,h1,h2⟩
  exact⟨(i:Int),List.mem_of_getElem? (i:=j) (by rw[List.getElem?_dropLast,if_pos (by omega)];exact h2),by omega⟩
theorem zmo {ns:List Nd} {k:Int} {us:List Nat} (h:UnQ ns k us) {i:Nat}:i∈za0 ns us↔∃ q∈us,GvP ns q i:=by
 rcases h with⟨n,_,hn,hT,hU⟩|⟨_,rfl⟩
 ·unfold za0
  rw[List.mem_flatMap]
  have hat:∀ q∈us,∃ x,ns[q]?=some x∧NodeP ns q x:=fun q hq=>by
   obtain⟨f,h1⟩:=(hU.2 q).1 hq
   have:=z4l (z18 hT) hn h1
   exact⟨_,List.getElem?_eq_getElem (show q<ns.length by omega),z0x hT.deep (by omega) (List.getElem?_eq_getElem (by omega))⟩
  constructor
  ·rintro⟨q,hq,hi⟩
   obtain⟨hq1,hq2⟩:=List.mem_filter.1 hq
   obtain⟨x,hx,hP⟩:=hat q hq1
   obtain⟨j,h1,h2⟩:=(z7b hx hP).1 hi
   exact⟨q,hq1,x,j,hx,(zip hx).1 hq2,h1,h2⟩
  ·rintro⟨q,hq,x,j,hx,h9,h1,h2⟩
   obtain⟨x',hx',hP⟩:=hat q hq
   rw[hx] at hx'
   obtain rfl:=Option.some.inj hx'
   exact⟨q,List.mem_filter.2 ⟨hq,(zip hx).2 h9⟩,(z7b hx hP).2 ⟨j,h1,h2⟩⟩
 ·unfold za0
  simp
theorem z5a {ns:List Nd} {k:Int} {us:List Nat} (h:UnQ ns k us) {i:Nat} (hi:i∈za0 ns us):i∈us∧z1l ns i=1:=by
 obtain⟨q,hq,x,j,hx,h9,h1,h2⟩:=(zmo h).1 hi
 rcases h with⟨n,_,hn,hT,hU⟩|⟨_,rfl⟩
 ·have hql:q<ns.length:=(List.getElem?_eq_some_iff.1 hx).1
  have hP:=z0x hT.deep hql hx
  have hz:=hP.place j _ h2
  obtain⟨y,hy⟩:∃ y,ns[i]?=some y:=⟨_,List.getElem?_eq_getElem (by omega)⟩
  have hr:=(hP.fits j _ y h2 (by simpa using hy)).2
  have hr2:z0f x.kind j x.kids.length=2:=by
   unfold z0f
   rcases h9 with h9|h9<;>simp[h9,h1]
  rw[hr2] at hr
  exact⟨(hU.2 i).2 (zkt.2 (.inr ⟨q,(hU.2 q).1 hq,x,hx,List.mem_of_getElem? h2⟩)),by rw[z1w hy];exact hr⟩
 ·cases hq
theorem z9t {ns:List Nd} {k:Int} {us:List Nat} (h:UnQ ns k us):(za0 ns us).Nodup:=by
 rcases h with⟨n,hk,hn,hT,hU⟩|⟨_,rfl⟩
 ·have hlt:∀ q∈us,q<ns.length:=z40 (.inl ⟨n,hk,hn,hT,hU⟩)
  refine z5k ((z44 hU).filter _) (fun q hq=>?_) (fun p hp q hq hne i h1 h2=>?_)
  ·have hql:=hlt q (List.mem_filter.1 hq).1
   have hx:ns[q]?=some ns[q]:=List.getElem?_eq_getElem hql
   have hP:=z0x hT.deep hql hx
   rw[zcd hx,List.nodup_iff_pairwise_ne,List.pairwise_map]
   have hn2:=(zb9 hT q _ hql hx).sublist (List.dropLast_sublist _)
   rw[List.nodup_iff_pairwise_ne] at hn2
   refine hn2.imp_of_mem fun {a b} ha hb hab e=>hab ?_
   obtain⟨j,hj⟩:=List.getElem?_of_mem ((List.dropLast_sublist _).subset ha)
   obtain⟨j',hj'⟩:=List.getElem?_of_mem ((List.dropLast_sublist _).subset hb)
   have:=hP.place j a hj
   have:=hP.place j' b hj'
   omega
  ·have hpl:=hlt p (List.mem_filter.1 hp).1
   have hql:=hlt q (List.mem_filter.1 hq).1
   have hx:ns[p]?=some ns[p]:=List.getElem?_eq_getElem hpl
   have hy:ns[q]?=some ns[q]:=List.getElem?_eq_getElem hql
   obtain⟨j,_,hj⟩:=(z7b hx (z0x hT.deep hpl hx)).1 h1
   obtain⟨j',_,hj'⟩:=(z7b hy (z0x hT.deep hql hy)).1 h2
   exact hne (zdf hT p q i ⟨_,hx,List.mem_of_getElem? hj⟩ ⟨_,hy,List.mem_of_getElem? hj'⟩)
 ·exact List.nodup_nil
def gvS (ns:List Nd) (us:List Nat):List Nat:=(za0 ns us).mergeSort fun x y=>decide (x≤y)
theorem z7e (ns:List Nd) (us:List Nat):(gvS ns us).Perm (za0 ns us):=List.mergeSort_perm _ _
theorem zaz (zs:List Nat):z1d (zs.mergeSort fun x y=>decide (x≤y))=(z1d zs).mergeSort fun x y=>decide (x≤y):=by
 unfold z1d
 refine List.map_mergeSort fun a _ b _=>?_
 simp
theorem za5 {zs:List Int} (h:zs.Nodup):Lib.compact zs=zs:=by
 refine Lib.compact_all zs fun j hj=>?_
 unfold Lib.keeps
 rw[decide_eq_true_eq]
 by_cases h0:j=0
 ·exact .inl h0
 ·refine .inr fun e=>?_
  rw[List.getElem!_toArray,List.getElem!_toArray,getElem!_pos zs j hj,getElem!_pos zs (j-1) (by omega)] at e
  have:=(List.getElem_inj h).1 e
  omega
open Go.RowKit Go.Lib Go.Sort
structure NodeW (qs:List Np) (xn:Nat) (a:Option Addr) (c:Nat) (W:World):Prop where
 n:W.cell? ⟨xn,0,none⟩=some (.slice a qs.length c)
 nodes:∀ i (q:Np),qs[i]?=some q→∃ b,a=some ⟨b,0,none⟩∧W.cell? ⟨b,i*4,none⟩=some (.int .i64 q.nd.kind)
theorem NodeW.below {qs:List Np} {xn:Nat} {a:Option Addr} {c g:Nat} {W W1 W2:World} (h:NodeW qs xn a c W) (hb:Below W.heap.size W W1) (hg:W1.grownBy W2 (some g)) (hl:W.heap.size≤g):NodeW qs xn a c W2:=by
 have B:Below W.heap.size W W2:=hb.grown hg hb.size (fun k e=>by injection e with e;omega)
 have cc:∀ (x:Addr) (v:Value),W.cell? x=some v→W2.cell? x=some v:=fun x v hx=>by rw[B.cell (lt_of_cell hx)];exact hx
 exact⟨cc _ _ h.n,fun i q hq=>by obtain⟨b,e,h2⟩:=h.nodes i q hq;exact⟨b,e,cc _ _ h2⟩⟩
theorem zrn:∀ (args:Array Value) (w:World),(callFunc 79 args).run Tryz.prog w=.ok (.enter 79 args) w:=enters_of Tryz.func79 (by kernel_rfl) rfl
theorem zpq {qs:List Np} {xn:Nat} {a:Option Addr} {c i:Nat} {W:World} (h:NodeW qs xn a c W) (hi:i<qs.length) :
 FnGives Tryz.prog 79 #[.pointer (some ⟨xn,0,none⟩)] #[.int .i64 (i:Int)] (.bool (z1l (qs.map Np.nd) i==19)) W:=by
 obtain⟨q,hq⟩:∃ q,qs[i]?=some q:=⟨_,List.getElem?_eq_getElem hi⟩
 have hk:z1l (qs.map Np.nd) i=q.nd.kind:=z1w (by rw[List.getElem?_map,hq];rfl)
 obtain⟨nb,rfl,cn⟩:=h.nodes i q hq
 have cl:=h.n
 have hA:(0:Int)≤(i:Int):=by omega
 have hB:(i:Int)<(qs.length:Int):=by omega
 rw[hk]
 clear h hq hk
 unfold FnGives
 go_enter Tryz.func79,Tryz.ntmps79
 go_wp2
 go_ret
 exact⟨rfl,0,rfl⟩
open Go.RowKit Go.Lib Go.Sort
theorem below_grow (w:World) (os:Array Obj):Below w.heap.size w (grow w os):=
 ⟨rfl,rfl,rfl,by show w.heap.size≤(w.heap++os).size;rw[Array.size_append];omega,fun _ hj=>Sort.heap_grow_old w os hj⟩
theorem z8a {g cap base:Nat} {zs:List Int} {w:World} (ho:w.ownsRow base tI 1 (.slice (some ⟨g,0,none⟩) zs.length cap) zs.length (z02 zs)) (hl:zs.length≤100000) :
 Calls Tryz.prog 81 #[.slice (some ⟨g,0,none⟩) zs.length cap] w fun e w'=>e=.returned (.tuple #[])∧w.grownBy w' (some g)∧w'.ownsRow base tI 1 (.slice (some ⟨g,0,none⟩) zs.length cap) zs.length (z02 (zs.mergeSort fun x y=>decide (x≤y))):=by
 have ho':w.ownsRow base tI 1 (.slice (some ⟨g,0,none⟩) zs.length cap) zs.length (zs.map (Value.int .i64)):=ho
 obtain⟨g',cap',e0,hb,hg,hc,hm,_,hH⟩:=holds_of_ownsRow ho' (by intro e;cases e)
 injection e0 with e1 _ e3
 injection e1 with e1
 injection e1 with e1
 subst e1;subst e3
 have q:=Tryz.slices_Sort_int g 0 cap zs w hH hg (by omega)
 refine q.mono ?_
 rintro e w' ⟨rfl,m,os,rfl⟩
 refine⟨rfl,z2i (Value.int .i64) _,?_⟩
 have:=ownsRow_putRow (q:=m) (k:=zs.length) (ys:=zs.mergeSort fun x y=>decide (x≤y)) ho' (by simp) (Nat.le_refl _)
 rw[List.take_of_length_le (by simp)] at this
 exact z07 this (below_grow _ os)
theorem z1z {P:Program} {w:World} {ops:Array Oper} {rest:List Oper} {o:Oper} {a:Act} {Q:Exit→Act→World→Prop} (hgd:o.guard=none) (s x:Operand) (t:TypeId)
 (ho:o.op=.call { callee:=.builtin .append,args:=#[s,x],argTypes:=#[t,t] })
 (base:Nat) (e:TypeId) (i:TypeInfo) (z:Value) (size bytes:Nat) (ht:P.underlying t=some (.slice e)) (hi:P.info? e=some i) (hz:i.zero=some z)
 (hsize:i.size=size) (hby:i.bytes=bytes) (hzs:z.cells.size=size) (hsz:0<size)
 (v:Value) (n:Nat) (xs:List Value) (hs:a.eval s=v) (hown:w.ownsRow base e size v n xs)
 (ad:Addr) (m c:Nat) (news:List Value) (hx:a.eval x=.slice (some ad) m c) (hl:news.length=m*size) (hnews:∀ j u,news[j]?=some u→w.cell? (ad.add j)=some u) (h1:∀ u∈news,u.oneCell'=true)
 (h63:n+m≤maxLen) (hbytes:(n+m)*bytes≤140737488355328) (hbase:base≤w.heap.size)
 (h:∀ v' w',w'.ownsRow base e size v' (n+m) (xs++news)→w.grownBy w' v.ownBlock→(∀ g,v'.ownBlock=some g→v.ownBlock=some g∨w.heap.size≤g)→(v'=.slice none 0 0→v=.slice none 0 0)→wpList P ops Q rest (a.put o.dst v') w'):wpList P ops Q (o::rest) a w:=
 wpList_plain hgd fun _ hK=>by
  obtain⟨v',w',hr,h2,h3,h4⟩:=run_append_own (P:=P) w base t o.type e i z size bytes ht hi hz hsize hby hzs hsz v n xs hown ad m c news hl hnews h1 h63 hbytes hbase
  have h5:=z72 w base t o.type e i z size bytes ht hi hz hsize hby hzs hsz v n xs hown ad m c news hl hnews h1 h63 hbytes v' w' hr
  unfold Oper.wp execOp
  simp only[ho,resolve,invoke,builtin,Sem.run_bind,Sem.run_pure,Result.andThen_ok,List.map_toArray,List.map_cons,List.map_nil,hs,hx,hr]
  exact hK _ _ (h v' w' h2 h3 h5 fun e=>(h4.1 e).1)
open Go.RowKit Go.Lib Go.Sort
theorem znl (q m kc:Nat) (z:Int) (w:World) (hm:m≤1000) (hkc:m+1≤kc) (hc:w.cell? ⟨q,m,none⟩=some (.int .i64 z)) :
 Calls Tryz.prog 98 #[.slice (some ⟨q,0,none⟩) (m+1) kc] w fun e w'=>e=.returned (.tuple #[.slice (some ⟨q,0,none⟩) m kc,.int .i64 z])∧Below w.heap.size w w':=by
 have hD:=z0e w 1
 have hA:(0:Int)≤(m:Int):=by omega
 have hB:(m:Int)<(m:Int)+1:=by omega
 have hC:(m:Int)≤(kc:Int):=by omega
 go_enter Tryz.func98,Tryz.ntmps98
 go_wp2
 go_region
 all_goals
  go_wp2
  go_ret2
  exact⟨rfl,hD⟩
theorem ziz {g cap base:Nat} {zs:List Int} {w:World} (hn:zs.Nodup) (ho:w.ownsRow base tI 1 (.slice (some ⟨g,0,none⟩) zs.length cap) zs.length (z02 zs)) (hl:zs.length≤100000) :
 Calls Tryz.prog 99 #[.slice (some ⟨g,0,none⟩) zs.length cap] w fun e w'=>e=.returned (.slice (some ⟨g,0,none⟩) zs.length cap)∧w.grownBy w' (some g)∧w'.ownsRow base tI 1 (.slice (some ⟨g,0,none⟩) zs.length cap) zs.length (z02 zs):=by
 have ho':w.ownsRow base tI 1 (.slice (some ⟨g,0,none⟩) zs.length cap) zs.length (zs.map (Value.int .i64)):=ho
 obtain⟨g',cap',e0,hb,hg,hc,hm,_,hH⟩:=holds_of_ownsRow ho' (by intro e;cases e)
 injection e0 with e1 _ e3
 injection e1 with e1
 injection e1 with e1
 subst e1;subst e3
 have q:=Tryz.slices_Compact_int g 0 cap zs w hH (by omega) hc
 rw[za5 hn] at q
 refine q.mono ?_
 rintro e w' ⟨rfl,m,rfl⟩
 rw[Nat.sub_self,List.replicate_zero,List.append_nil]
 refine⟨rfl,?_,?_⟩
 ·have:=z2i (Value.int .i64) (w:=w) (g:=g) (n:=m) (os:=#[]) zs.toArray
  rw[grow_empty] at this
  exact this
 ·have:=ownsRow_putRow (q:=m) (k:=zs.length) (ys:=zs) ho' rfl (Nat.le_refl _)
  rw[List.take_length] at this
  exact this
def gvT (ns:List Nd) (vs:List Nat) (j:Nat):List Nat:=(vs.take j).flatMap (zb4 ns)
theorem zot {ns:List Nd} {vs:List Nat} {j u:Nat} (h:vs[j]?=some u):gvT ns vs (j+1)=gvT ns vs j++zb4 ns u:=by
 unfold gvT
 rw[List.take_add_one,h,List.flatMap_append]
 simp
theorem zpp {ns:List Nd} {k:Int} {us:List Nat} (h:UnQ ns k us) {u:Nat} (hu:u∈us.filter (gvB ns)):∃ (x:Nd) (ms:List Int) (z:Int),ns[u]?=some x∧x.kids=ms++[z]∧ms.length≤11∧z1d (zb4 ns u)=ms:=by
 obtain⟨hu1,hu2⟩:=List.mem_filter.1 hu
 have hul:=z40 h u hu1
 rcases h with⟨n,_,hn,hT,hU⟩|⟨_,rfl⟩
 ·have hx:ns[u]?=some ns[u]:=List.getElem?_eq_getElem hul
  have hP:=z0x hT.deep hul hx
  have h12:=z34 hP.cnt
  have hne:ns[u].kids≠[]:=fun e=>by
   have hc:=hP.cnt
   rw[e] at hc
   unfold zjy at hc
   rcases(zip hx).1 hu2 with h9|h9<;>rw[h9] at hc<;>simp at hc
  refine⟨_,_,_,hx,(List.dropLast_concat_getLast hne).symm,by rw[List.length_dropLast];omega,?_⟩
  rw[zcd hx]
  unfold z1d
  rw[List.map_map]
  conv=>rhs;rw[← List.map_id ns[u].kids.dropLast]
  refine List.map_congr_left fun z hz=>?_
  obtain⟨j,hj⟩:=List.getElem?_of_mem ((List.dropLast_sublist _).subset hz)
  have:=hP.place j z hj
  show ((z.toNat:Nat):Int)=z
  omega
 ·cases hu1
theorem zmt {w:World} {B:Nat} {a:Option Addr} {c:Nat} {k:Int} {us:List Nat} {qs:List Np} (h:Nds w B a c qs) (hS:∀ q∈qs,SafeNd q.nd) (hQ:UnQ (qs.map Np.nd) k us) :
 Calls Tryz.prog 57 #[.slice a qs.length c,.int .i64 k] w (zbj (gvS (qs.map Np.nd) us) w):=by
 obtain⟨i0,hi,hz0,hz1,hz2⟩:=info_parts z29
 obtain⟨W1,hW1⟩:∃ W1,W1=(w.alloc (.cells #[] tI)).alloc (.cells #[.int .i64 9,.int .i64 20] tI):=⟨_,rfl⟩
 have B1:Below w.heap.size w W1:=by rw[hW1];exact((Below.refl _ _).alloc (Nat.le_refl _) _).alloc (by simp) _
 have s1:W1.heap.size=w.heap.size+2:=by rw[hW1];simp
 have o1:W1.ownsRow w.heap.size tI 1 (.slice (some ⟨w.heap.size,0,none⟩) 0 0) 0 (z02 (z1d [])):=by
  rw[hW1]
  exact World.ownsRow.alloc (World.ownsRow_made w #[] 0 (Nat.le_refl _) (by decide) rfl) _
 have hks:∀ j,j<([9,20]:List Int).length→W1.cell? ⟨w.heap.size+1,j,none⟩=some (.int .i64 (([9,20]:List Int).getD j 0)):=fun j hj=>by
  have hj2:j=0∨j=1:=by simp at hj;omega
  have h:=fun j v=>z9d w (.cells #[] tI) #[.int .i64 9,.int .i64 20] tI j v
  rw[hW1]
  rcases hj2 with rfl|rfl
  ·exact h 0 _ rfl
  ·exact h 1 _ rfl
 have qK:=z9x (ks:=[9,20]) (kc:=2) (h.below B1) hS hQ hks (by decide) (by decide)
 have h300:=z5n hQ
 have hnod:=z9t hQ
 obtain⟨vs,hvs⟩:∃ vs,vs=us.filter fun u=>([9,20]:List Int).contains (z1l (qs.map Np.nd) u):=⟨_,rfl⟩
 have hvl:vs.length≤300:=by rw[hvs];exact Nat.le_trans (List.length_filter_le _ _) h300
 have hgv:za0 (qs.map Np.nd) us=gvT (qs.map Np.nd) vs vs.length:=by unfold za0 gvT;rw[List.take_length,hvs];rfl
 have HK:=z00 (fun u (hu:u∈vs)=>zpp hQ (u:=u) (by rw[hvs] at hu;exact hu))
 rw[← hvs] at qK
 have HG:=z00 hgv
 have HNO:=z00 hnod
 have HH:=z00 h
 have HB1:=z00 B1
 have HO1:=z00 o1
 clear h hS hQ hks h300 hnod hvs hgv B1 o1
 go_enter Tryz.func57,Tryz.ntmps57
 go_wp2_with fail
 rw[← hW1]
 refine qK.mono ?_
 rintro e w2 ⟨ub,uc,rfl,o2,b2⟩
 have B2:=HB1.out.trans (b2.mono (by omega))
 have og:=z07 HO1.out b2
 have hub:=(o2.lt ub rfl).1
 have HU:=z00 (z01 o2 (show w.heap.size+2≤W1.heap.size by omega))
 have HB2:=z00 B2
 have hs2:=B2.size
 clear qK o2 b2 B2
 go_wp2
 go_loopw [5,16] (fun v i wr=>∃ (j g cp:Nat) (gs:List Nat),j≤vs.length∧i=.int .i64 (j:Int)∧v=.slice (some ⟨g,0,none⟩) gs.length cp∧wr.ownsRow w.heap.size tI 1 (.slice (some ⟨g,0,none⟩) gs.length cp) gs.length (z02 (z1d gs))∧gs.length≤12*j∧Hid (gs=gvT (qs.map Np.nd) vs j)∧Hid (g≠ub)∧Hid (wr.ownsRow (w.heap.size+2) tI 1 (.slice (some ⟨ub,0,none⟩) vs.length uc) vs.length (z02 (z1d vs)))∧Hid (Below w.heap.size w wr)) (fun _ i _=>vs.length-(intOf i).toNat)
 case atStart=>exact⟨0,_,0,[],Nat.zero_le _,rfl,rfl,og,Nat.zero_le _,z00 rfl,z00 (by omega),HU,HB2⟩
 case round =>
  clear og HU HB2
  obtain⟨j,g,cp,gs,hj,rfl,rfl,ho,hgl,HGT,HNE,HU,HW⟩:=hrel
  have hws:=HW.out.size
  by_cases hlt:j<vs.length
  ·obtain⟨u,hu⟩:∃ u,vs[j]?=some u:=⟨_,List.getElem?_eq_getElem hlt⟩
   have cu:=(HU.out.cellAt j (by omega)).trans (z5r hu)
   obtain⟨x,ms,z,hx,hxk,hm11,hms⟩:=HK.out u (List.mem_of_getElem? hu)
   have hun:u<qs.length:=by have:=(List.getElem?_eq_some_iff.1 hx).1;simpa using this
   obtain⟨q,hq⟩:∃ q,qs[u]?=some q:=⟨_,List.getElem?_eq_getElem hun⟩
   have hqx:q.nd.kids=ms++[z]:=by
    rw[List.getElem?_map,hq] at hx
    have:=Option.some.inj hx
    rw[← hxk,← this]
   have hNr:=HH.out.below HW.out
   obtain⟨a0,rfl,hb0,d0,d1,d2,d3⟩:=hNr.node hq
   have hke:=hNr.each q (List.mem_of_getElem? hq)
   have hkl:q.nd.kids.length=ms.length+1:=by rw[hqx];simp
   rw[hkl] at hke d2
   obtain⟨gk,hgk⟩:=z0s hke (by omega)
   rw[hgk] at hke d2
   have hkc:=hke.cells (g:=gk) rfl
   rw[hqx] at hkc
   have cz:wr.cell? ⟨gk,ms.length,none⟩=some (.int .i64 z):=(hke.cellAt ms.length (by omega)).trans (by rw[hqx];unfold z02;simp)
   have hkcap:ms.length+1≤q.c:=by
    rcases hke.2 with⟨e,_⟩|⟨g',cap',cur,e,_,_,r1,_⟩
    ·cases e
    ·injection e with _ _ e
     omega
   have hn5:∀ (j:Nat) (v:Value),(z02 ms)[j]?=some v→wr.cell? ((⟨gk,0,none⟩:Addr).add j)=some v:=fun j v hv=>hkc j v (by
    have hjl:=(List.getElem?_eq_some_iff.1 hv).1
    unfold z02 at hv hjl ⊢
    rw[List.map_append,List.getElem?_append_left hjl]
    exact hv)
   have HN5:=z00 (show ∀ W,Below wr.heap.size wr W→∀ (j:Nat) (v:Value),(z02 ms)[j]?=some v→W.cell? ((⟨gk,0,none⟩:Addr).add j)=some v from fun W hW j v hv=>by rw[hW.cell (lt_of_cell (hn5 j v hv))];exact hn5 j v hv)
   have qN:=fun W (hW:Below wr.heap.size wr W)=>znl gk ms.length q.c z W (by omega) hkcap (by rw[hW.cell (lt_of_cell cz)];exact cz)
   have HT:=z00 (show gs++zb4 (qs.map Np.nd) u=gvT (qs.map Np.nd) vs (j+1) by rw[zot hu,HGT.out])
   have HMS:=z00 hms
   have hA:(0:Int)≤(j:Int):=by omega
   have hB1:(j:Int)<(vs.length:Int):=by omega
   have hA2:(0:Int)≤(u:Int):=by omega
   have hB2:(u:Int)<(qs.length:Int):=by omega
   have hgb:=(ho.lt g rfl)
   clear hu hx hxk hms hq hqx hNr hb0 d0 d1 d3 hke hkl hgk hkc cz hn5
   go_wp2_with fail
   refine(qN _ (Below.refl _ _)).mono ?_
   rintro e w5 ⟨rfl,b5⟩
   have o5:=z07 ho b5
   have hs5:=b5.size
   go_wp2_with (at_builtin;go_loud (refine z1z rfl _ _ 29 rfl w.heap.size 3 i0 (.int .i64 0) 1 8 Tryz.underlying29 hi hz0 hz1 hz2 rfl (by decide) (.slice (some ⟨g,0,none⟩) gs.length cp) gs.length (z02 (z1d gs)) rfl o5 ⟨gk,0,none⟩ ms.length q.c (z02 ms) rfl (by rw[z5l];omega) (HN5.out w5 b5) (fun x hx=>by unfold z02 at hx;rw[List.mem_map] at hx;obtain⟨y,-,rfl⟩:=hx;rfl) (by unfold maxLen;omega) (by omega) (by omega) ?_);intro v' w6 hown6 hg6 hpl6 hnil6)
   go_wp2
   go_roundw
   case rel =>
    have hl6:gs.length+ms.length=(gs++zb4 (qs.map Np.nd) u).length:=by rw[List.length_append,← z1t (zb4 _ u),HMS.out]
    have e6:z02 (z1d gs)++z02 ms=z02 (z1d (gs++zb4 (qs.map Np.nd) u)):=by
     have h6:z1d (gs++zb4 (qs.map Np.nd) u)=z1d gs++ms:=by rw[← HMS.out];unfold z1d;rw[List.map_append]
     rw[h6]
     unfold z02
     rw[List.map_append]
    rw[hl6,e6] at hown6
    rcases hown6.2 with⟨e,_⟩|⟨g6,c6,_,e,-⟩
    ·cases hnil6 e
    ·subst e
     have hub:=HU.out.lt ub rfl
     have U5:=z07 HU.out b5
     refine⟨j+1,g6,c6,_,by omega,by go_num,rfl,hown6,by rw[← hl6];omega,z00 HT.out,z00 (fun e=>?_),z00 (U5.kept hg6 (.inr fun e=>?_)),z00 ((HW.out.trans (b5.mono hws)).grown hg6 (by omega) (fun k e=>by have h1:g=k:=Option.some.inj e;omega))⟩
     ·rcases hpl6 g6 rfl with h|h
      ·exact HNE.out ((Option.some.inj h).trans e)
      ·omega
     ·exact HNE.out (Option.some.inj e).symm
   case measure=>simp[intOf];omega
  ·obtain rfl:j=vs.length:=by omega
   have hgb:=(ho.lt g rfl)
   have hnl:=z1t gs
   have hgd:(z1d gs).Nodup:=by
    have:=HNO.out
    rw[HG.out,← HGT.out] at this
    unfold z1d
    rw[List.nodup_iff_pairwise_ne,List.pairwise_map]
    rw[List.nodup_iff_pairwise_ne] at this
    exact this.imp fun {x y} h e=>h (by omega)
   obtain⟨ss,hss⟩:∃ ss,ss=gs.mergeSort fun x y=>decide (x≤y):=⟨_,rfl⟩
   have hsl:ss.length=gs.length:=by rw[hss,List.length_mergeSort]
   have hsn:z1d ss=(z1d gs).mergeSort fun x y=>decide (x≤y):=by rw[hss];exact zaz gs
   have hsd:(z1d ss).Nodup:=by rw[hsn];exact(List.mergeSort_perm _ _).nodup_iff.2 hgd
   have qS:=z8a (zs:=z1d gs) (g:=g) (cap:=cp) (base:=w.heap.size) (w:=wr) (by rw[hnl];exact ho) (by rw[hnl];omega)
   rw[← hsn,hnl] at qS
   have HSS:=z00 (show ss=gvS (qs.map Np.nd) us by rw[hss,HGT.out];unfold gvS;rw[HG.out])
   have hsl2:=z1t ss
   rw[hsl] at hsl2
   have qC:=fun W (hW:W.ownsRow w.heap.size tI 1 (.slice (some ⟨g,0,none⟩) gs.length cp) gs.length (z02 (z1d ss)))=>ziz (g:=g) (cap:=cp) (base:=w.heap.size) (w:=W) hsd (by rw[hsl2];exact hW) (by rw[hsl2];omega)
   rw[hsl2] at qC
   have hlq:¬ ((vs.length:Int)<(vs.length:Int)):=by omega
   have HSL:=z00 hsl
   clear ho hss hsl hsn hsd hgd hsl2 hnl hlt
   go_wp2_with fail
   refine qS.mono ?_
   rintro e w3 ⟨rfl,hg3,o3⟩
   have B3:=HW.out.grown hg3 hws (fun k e=>by injection e with e;omega)
   have qC3:=qC w3 o3
   have HB3:=z00 B3
   clear qS hg3 o3 qC B3
   go_wp2_with fail
   refine qC3.mono ?_
   rintro e w4 ⟨rfl,hg4,o4⟩
   have B4:=HB3.out.grown hg4 HB3.out.size (fun k e=>by injection e with e;omega)
   go_wp2
   go_ret
   rw[← HSS.out]
   exact⟨g,cp,by rw[HSL.out];rfl,by rw[HSL.out];exact o4,B4⟩
end Go.Proofs.YtekebloinobjnaaGreatDoor
