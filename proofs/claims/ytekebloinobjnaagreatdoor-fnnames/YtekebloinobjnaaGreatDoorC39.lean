/- Texts of one proof, laid together: NsI, InI, TrS6. -/
import Derived.Test.YtekebloinobjnaaGreatDoorC35
import Derived.Test.YtekebloinobjnaaGreatDoorC38
import Derived.Test.YtekebloinobjnaaGreatDoorC17
import Derived.Test.YtekebloinobjnaaGreatDoorC07
import Derived.Test.YtekebloinobjnaaGreatDoorC32
set_option maxHeartbeats 16000000
set_option maxRecDepth 100000
namespace Go.Proofs.YtekebloinobjnaaGreatDoor
open Go.RowKit
open Go.RowKit Go.Lib Go.Sort Go.Maps
def nmL (ns:List Nd) (us:List Nat):List Nat:=us.filter fun u=>([1]:List Int).contains (z1l ns u)
def vrL (ns:List Nd) (us:List Nat):List Nat:=us.filter fun u=>([12]:List Int).contains (z1l ns u)
def brL (ns:List Nd) (us:List Nat):List Nat:=us.filter fun u=>([1,12,13]:List Int).contains (z1l ns u)
def ltL (ns:List Nd) (us:List Nat):List Nat:=(gvS ns us++vrL ns us).mergeSort fun x y=>decide (x≤y)
abbrev txs (ns:List Nd) (l:List Nat):List ByteArray:=l.map (z0y ns)
theorem zg6 {ns:List Nd} {k:Int} {us:List Nat} (h:UnQ ns k us):(∀ u∈gvS ns us,u<ns.length)∧(gvS ns us).length≤300:=by
 have hp:=z7e ns us
 refine⟨fun u hu=>z40 h u (z5a h (hp.mem_iff.1 hu)).1,?_⟩
 rw[hp.length_eq]
 have hs:(za0 ns us).Perm (us.filter fun u=>(za0 ns us).contains u):=(List.perm_ext_iff_of_nodup (z9t h) (((ziw h).imp fun h=>Nat.ne_of_lt h:us.Nodup).filter _)).2 fun i=>by
  rw[List.mem_filter]
  exact⟨fun hi=>⟨(z5a h hi).1,by simpa using hi⟩,fun hi=>by simpa using hi.2⟩
 rw[hs.length_eq]
 exact Nat.le_trans (List.length_filter_le _ _) (z5n h)
theorem zn8 {ns:List Nd} {k:Int} {us:List Nat} (h:UnQ ns k us):(∀ u∈ltL ns us,u<ns.length)∧(ltL ns us).length≤600:=by
 obtain⟨h1,h2⟩:=zg6 h
 constructor
 ·intro u hu
  unfold ltL at hu
  rw[List.mem_mergeSort,List.mem_append] at hu
  rcases hu with hu|hu
  ·exact h1 u hu
  ·exact z40 h u (List.mem_filter.1 hu).1
 ·unfold ltL
  rw[List.length_mergeSort,List.length_append]
  have h3:(vrL ns us).length≤us.length:=List.length_filter_le _ _
  have:=z5n h
  omega
theorem z6v (w:World) (ks:List Int):∀ j,j<ks.length→(w.alloc (.cells (ks.map (Value.int .i64)).toArray tI)).cell? ⟨w.heap.size,j,none⟩=some (.int .i64 (ks.getD j 0)):=fun j hj=>by
 have:=zg5 w (ks.map (Value.int .i64)).toArray tI j (.int .i64 (ks.getD j 0)) (by simp[List.getElem?_eq_getElem hj])
 rwa [show (⟨w.heap.size,0,none⟩:Addr).add j=⟨w.heap.size,j,none⟩ by cases j<;>simp[Addr.add]] at this
section
variable {w:World} {B:Nat} {a:Option Addr} {c:Nat} {k:Int} {us:List Nat} {qs:List Np}
theorem zcx (h:Nds w B a c qs) (hS:∀ q∈qs,SafeNd q.nd) (hQ:UnQ (qs.map Np.nd) k us) :
 Calls Tryz.prog 51 #[.slice a qs.length c,.int .i64 k] w (zdh (·∈txs (qs.map Np.nd) (nmL (qs.map Np.nd) us)) (z2g (txs (qs.map Np.nd) (nmL (qs.map Np.nd) us))) w):=by
 obtain⟨W1,hW1⟩:∃ W1,W1=w.alloc (.cells #[.int .i64 1] tI):=⟨_,rfl⟩
 have B1:Below w.heap.size w W1:=by rw[hW1];exact(Below.refl _ _).alloc (Nat.le_refl _) _
 have qK:=z9x (ks:=[1]) (kc:=1) (kb:=w.heap.size) (h.below B1) hS hQ (by rw[hW1];exact z6v w [1]) (by decide) (by decide)
 have hlt:=z40 hQ
 rw[List.length_map] at hlt
 have hfew:=z5n hQ
 have s1:w.heap.size≤W1.heap.size:=B1.size
 have HQ:=z00 (fun W (hW:Below w.heap.size w W) {B' ua uc} hu=>zll (w:=W) (h.below hW) hS (B':=B') (uc:=uc) (ua:=ua) (us:=nmL (qs.map Np.nd) us) hu (fun u hu=>hlt u (List.mem_filter.1 hu).1) (Nat.le_trans (List.length_filter_le _ _) (by omega)))
 obtain⟨vs,hvs⟩:∃ vs,vs=nmL (qs.map Np.nd) us:=⟨_,rfl⟩
 change Calls Tryz.prog _ _ _ (zbj (nmL (qs.map Np.nd) us) W1) at qK
 rw[← hvs] at qK HQ ⊢
 clear h hS hQ hlt hvs
 go_enter Tryz.func51,Tryz.ntmps51
 go_wp2_with fail
 rw[← hW1]
 refine qK.mono ?_
 rintro e w2 ⟨g,gc,rfl,o2,b2⟩
 have B2:=B1.trans (b2.mono s1)
 have qU:=HQ.out w2 B2 o2
 have s2:=B2.size
 clear qK o2 HQ hW1
 go_wp2_with (go_at_call 56;refine qU.mono ?_;rintro e w3 ⟨mb,mn,D,rfl,hm1,hm2,hm3,hm4,b3⟩)
 go_ret
 exact⟨mb,mn,D,rfl,by omega,hm2,hm3,hm4,B2.trans (b3.mono s2)⟩
theorem ze7 (h:Nds w B a c qs) (hS:∀ q∈qs,SafeNd q.nd) (hQ:UnQ (qs.map Np.nd) k us) :
 Calls Tryz.prog 66 #[.slice a qs.length c,.int .i64 k] w (zbj (brL (qs.map Np.nd) us) w):=by
 obtain⟨W1,hW1⟩:∃ W1,W1=w.alloc (.cells #[.int .i64 1,.int .i64 12,.int .i64 13] tI):=⟨_,rfl⟩
 have B1:Below w.heap.size w W1:=by rw[hW1];exact(Below.refl _ _).alloc (Nat.le_refl _) _
 have qK:=z9x (ks:=[1,12,13]) (kc:=3) (kb:=w.heap.size) (h.below B1) hS hQ (by rw[hW1];exact z6v w [1,12,13]) (by decide) (by decide)
 have s1:w.heap.size≤W1.heap.size:=B1.size
 change Calls Tryz.prog _ _ _ (zbj (brL (qs.map Np.nd) us) W1) at qK
 obtain⟨vs,hvs⟩:∃ vs,vs=brL (qs.map Np.nd) us:=⟨_,rfl⟩
 rw[← hvs] at qK ⊢
 clear h hS hQ hvs
 go_enter Tryz.func66,Tryz.ntmps66
 go_wp2_with fail
 rw[← hW1]
 refine qK.mono ?_
 rintro e w2 ⟨g,gc,rfl,o2,b2⟩
 have B2:=B1.trans (b2.mono s1)
 have O2:=z01 o2 s1
 clear qK o2 hW1 b2 B1
 go_wp2
 go_ret
 exact⟨g,gc,rfl,O2,B2⟩
theorem zjk (h:Nds w B a c qs) (hS:∀ q∈qs,SafeNd q.nd) (hQ:UnQ (qs.map Np.nd) k us) :
 Calls Tryz.prog 49 #[.slice a qs.length c,.int .i64 k] w (zdh (·∈txs (qs.map Np.nd) (ltL (qs.map Np.nd) us)) (z2g (txs (qs.map Np.nd) (ltL (qs.map Np.nd) us))) w):=by
 obtain⟨i0,hi,hz0,hz1,hz2⟩:=info_parts z29
 have qG:=zmt h hS hQ
 have hl1:=(zg6 hQ).2
 have hl2:(vrL (qs.map Np.nd) us).length≤300:=Nat.le_trans (List.length_filter_le _ _) (z5n hQ)
 have hlt:=(zn8 hQ).1
 have hl3:=(zn8 hQ).2
 rw[List.length_map] at hlt
 have HK:=z00 (fun W W1 (hW:Below w.heap.size w W) (e:W1=W.alloc (.cells #[.int .i64 12] tI))=>z9x (ks:=[12]) (kc:=1) (kb:=W.heap.size) (w:=W1) (h.below (hW.trans (by rw[e];exact(Below.refl _ _).alloc hW.size _))) hS hQ (by rw[e];exact z6v W [12]) (by decide) (by decide))
 have HQ:=z00 (fun W (hW:Below w.heap.size w W) {B' ua uc} hu=>zll (w:=W) (h.below hW) hS (B':=B') (uc:=uc) (ua:=ua) (us:=ltL (qs.map Np.nd) us) hu hlt (by omega))
 have hsrt:z1d (ltL (qs.map Np.nd) us)=(z1d (gvS (qs.map Np.nd) us++vrL (qs.map Np.nd) us)).mergeSort fun x y=>decide (x≤y):=zaz _
 have hlen:(ltL (qs.map Np.nd) us).length=(gvS (qs.map Np.nd) us).length+(vrL (qs.map Np.nd) us).length:=by unfold ltL;rw[List.length_mergeSort,List.length_append]
 change Hid (∀ W W1,Below w.heap.size w W→W1=W.alloc (.cells #[.int .i64 12] tI)→Calls Tryz.prog _ _ _ (zbj (vrL (qs.map Np.nd) us) W1)) at HK
 obtain⟨gs,hgs⟩:∃ gs,gs=gvS (qs.map Np.nd) us:=⟨_,rfl⟩
 obtain⟨vs,hvs⟩:∃ vs,vs=vrL (qs.map Np.nd) us:=⟨_,rfl⟩
 obtain⟨ls,hls⟩:∃ ls,ls=ltL (qs.map Np.nd) us:=⟨_,rfl⟩
 rw[← hgs] at qG hl1 hsrt hlen
 rw[← hvs] at HK hl2 hsrt hlen
 rw[← hls] at HQ hl3 hsrt hlen ⊢
 have HSR:=z00 hsrt
 have HLE:=z00 hlen
 clear h hS hQ hgs hvs hls hlt hsrt hlen
 go_enter Tryz.func49,Tryz.ntmps49
 go_wp2_with fail
 refine qG.mono ?_
 rintro e w1 ⟨g,gc,rfl,o1,b1⟩
 obtain⟨W1,hW1⟩:∃ W1,W1=w1.alloc (.cells #[.int .i64 12] tI):=⟨_,rfl⟩
 have BW:Below w.heap.size w W1:=by rw[hW1];exact b1.alloc b1.size _
 have qK:=HK.out w1 W1 b1 hW1
 have o1':W1.ownsRow w.heap.size tI 1 (.slice (some ⟨g,0,none⟩) gs.length gc) gs.length (z02 (z1d gs)):=by rw[hW1];exact o1.alloc _
 have s1:w1.heap.size<W1.heap.size:=by rw[hW1];simp
 have s0:=b1.size
 clear qG o1 b1 HK
 go_wp2_with fail
 rw[← hW1]
 refine qK.mono ?_
 rintro e w2 ⟨g2,gc2,rfl,o2,b2⟩
 have B2:=BW.trans (b2.mono BW.size)
 have og:=z07 o1' b2
 have hgb:=og.lt g rfl
 have hcs:=o2.cells (g:=g2) rfl
 have s2:=B2.size
 clear qK o1' hW1 BW
 go_wp2_with (at_builtin;go_loud (refine z1z rfl _ _ 29 rfl w.heap.size 3 i0 (.int .i64 0) 1 8 Tryz.underlying29 hi hz0 hz1 hz2 rfl (by decide) (.slice (some ⟨g,0,none⟩) gs.length gc) gs.length (z02 (z1d gs)) rfl og ⟨g2,0,none⟩ vs.length gc2 (z02 (z1d vs)) rfl (by rw[z5l,z1t];omega) hcs (fun x hx=>by unfold z02 at hx;rw[List.mem_map] at hx;obtain⟨y,-,rfl⟩:=hx;rfl) (by unfold maxLen;omega) (by omega) (by omega) ?_);intro v' w3 o3 hg3 _ hnil3)
 have e3:z02 (z1d gs)++z02 (z1d vs)=z02 (z1d (gs++vs)):=by unfold z02 z1d;rw[List.map_append,List.map_append]
 rw[e3] at o3
 have B3:=B2.grown hg3 (by omega) (fun k e=>by have h1:g=k:=Option.some.inj e;omega)
 have hv':∃ g3 c3,v'=.slice (some ⟨g3,0,none⟩) (gs.length+vs.length) c3:=by
  rcases o3.2 with⟨e,_⟩|⟨g6,c6,_,e,-⟩
  ·cases hnil3 e
  ·exact⟨g6,c6,e⟩
 obtain⟨g3,c3,rfl⟩:=hv'
 have hnl:(z1d (gs++vs)).length=gs.length+vs.length:=by rw[z1t,List.length_append]
 have qS:=z8a (zs:=z1d (gs++vs)) (g:=g3) (cap:=c3) (base:=w.heap.size) (w:=w3) (by rw[hnl];exact o3) (by rw[hnl];omega)
 rw[← HSR.out,hnl,← HLE.out] at qS
 have HB3:=z00 B3
 have hgb3:=(o3.lt g3 rfl).1
 have hle:=HLE.out
 rw[← hle]
 clear og hcs o2 b2 B2 e3 o3 hg3 hnil3 hnl B3 hle
 go_wp2_with fail
 refine qS.mono ?_
 rintro e w4 ⟨rfl,hg4,o4⟩
 have B4:=HB3.out.grown hg4 HB3.out.size (fun k e=>by have h1:g3=k:=Option.some.inj e;omega)
 have qU:=HQ.out w4 B4 o4
 have s4:=B4.size
 clear qS HQ hg4 o4
 go_wp2_with (go_at_call 56;refine qU.mono ?_;rintro e w5 ⟨mb,mn,D,rfl,hm1,hm2,hm3,hm4,b5⟩)
 go_ret
 exact⟨mb,mn,D,rfl,by omega,hm2,hm3,hm4,B4.trans (b5.mono s4)⟩
end
open Go.RowKit Go.Lib Go.Maps
theorem zt8 {l:List ByteArray} {s:ByteArray}:0<z2g l s↔s∈l:=by
 unfold z2g
 rw[List.length_pos_iff_exists_mem]
 constructor
 ·rintro⟨x,hx⟩
  obtain⟨h1,h2⟩:=List.mem_filter.1 hx
  rwa [← of_decide_eq_true h2]
 ·intro h
  exact⟨s,List.mem_filter.2 ⟨h,by simp⟩⟩
theorem zj5 {D:Dt} {K:ByteArray→Prop} {f f':ByteArray→Nat} (h:UM D K f) (hf:∀ s,K s→f' s=f s):UM D K f':=
 ⟨h.1,h.2.1,fun s hs=>by rw[hf s hs];exact h.2.2 s hs⟩
theorem z7z {qs:List Np} (hS:∀ q∈qs,SafeNd q.nd) {l:List Nat} {s:ByteArray} (h:s∈txs (qs.map Np.nd) l):s.size≤3000:=by
 obtain⟨u,_,rfl⟩:=List.mem_map.1 h
 unfold z0y
 rw[List.getElem?_map]
 cases hq:qs[u]? with
 | none=>decide
 | some q=>exact(hS q (List.mem_of_getElem? hq)).few
section
variable {w:World} {B:Nat} {a:Option Addr} {c:Nat} {k:Int} {us:List Nat} {qs:List Np}
theorem zk6 (h:Nds w B a c qs) (hS:∀ q∈qs,SafeNd q.nd) (hQ:UnQ (qs.map Np.nd) k us) :
 Calls Tryz.prog 14 #[.slice a qs.length c,.int .i64 k] w (z9l (·∈txs (qs.map Np.nd) (nmL (qs.map Np.nd) us)) w):=by
 have qN:=zcx h hS hQ
 have hz:=fun s (hs:s∈txs (qs.map Np.nd) (nmL (qs.map Np.nd) us))=>z7z hS hs
 clear h hS hQ
 go_enter Tryz.func14,Tryz.ntmps14
 go_wp2_with fail
 refine qN.mono ?_
 rintro e w1 ⟨b,n,D,rfl,h1,h2,h3,h4,b1⟩
 have qT:=zeo h3 h4 (fun s hs=>z5o hs) h2 hz
 have s1:=b1.size
 clear qN h3 h4 hz
 go_wp2_with (go_at_call 50;refine qT.mono ?_;rintro e w2 ⟨v,ys,rfl,k1,k2,k3,k4,b2,hv⟩)
 go_ret
 exact⟨v,ys,rfl,k1,k2,k3,z01 k4 s1,b1.trans (b2.mono s1),hv⟩
theorem zpn (h:Nds w B a c qs) (hS:∀ q∈qs,SafeNd q.nd) (hQ:UnQ (qs.map Np.nd) k us) :
 Calls Tryz.prog 13 #[.slice a qs.length c,.int .i64 k] w (z9l (·∈txs (qs.map Np.nd) (ltL (qs.map Np.nd) us)) w):=by
 have qN:=zjk h hS hQ
 have hz:=fun s (hs:s∈txs (qs.map Np.nd) (ltL (qs.map Np.nd) us))=>z7z hS hs
 clear h hS hQ
 go_enter Tryz.func13,Tryz.ntmps13
 go_wp2_with fail
 refine qN.mono ?_
 rintro e w1 ⟨b,n,D,rfl,h1,h2,h3,h4,b1⟩
 have qT:=zeo h3 h4 (fun s hs=>z5o hs) h2 hz
 have s1:=b1.size
 clear qN h3 h4 hz
 go_wp2_with (go_at_call 50;refine qT.mono ?_;rintro e w2 ⟨v,ys,rfl,k1,k2,k3,k4,b2,hv⟩)
 go_ret
 exact⟨v,ys,rfl,k1,k2,k3,z01 k4 s1,b1.trans (b2.mono s1),hv⟩
theorem zgx (h:Nds w B a c qs) (hS:∀ q∈qs,SafeNd q.nd) (hQ:UnQ (qs.map Np.nd) k us) :
 Calls Tryz.prog 17 #[.slice a qs.length c,.int .i64 k] w (z9l (fun s=>s∈txs (qs.map Np.nd) (nmL (qs.map Np.nd) us)∧¬ 0<z2g (txs (qs.map Np.nd) (ltL (qs.map Np.nd) us)) s) w):=by
 have qN:=zcx h hS hQ
 have HL:=z00 (fun W (hW:Below w.heap.size w W)=>zjk (h.below hW) hS hQ)
 have hz:=fun s (hs:s∈txs (qs.map Np.nd) (nmL (qs.map Np.nd) us)∧¬ 0<z2g (txs (qs.map Np.nd) (ltL (qs.map Np.nd) us)) s)=>z7z hS hs.1
 clear h hS hQ
 obtain⟨ns,hns⟩:∃ ns,ns=txs (qs.map Np.nd) (nmL (qs.map Np.nd) us):=⟨_,rfl⟩
 obtain⟨ls,hls⟩:∃ ls,ls=txs (qs.map Np.nd) (ltL (qs.map Np.nd) us):=⟨_,rfl⟩
 rw[← hns,← hls] at hz ⊢
 rw[← hns] at qN
 rw[← hls] at HL
 clear hns hls
 go_enter Tryz.func17,Tryz.ntmps17
 go_wp2_with fail
 refine qN.mono ?_
 rintro e w1 ⟨b,n,D,rfl,h1,h2,h3,h4,b1⟩
 have qL:=HL.out w1 b1
 have HM:=z00 (And.intro h3 h4)
 have s1:=b1.size
 clear qN HL h3 h4
 go_wp2_with fail
 refine qL.mono ?_
 rintro e w2 ⟨bl,nl,Dl,rfl,k1,k2,k3,k4,b2⟩
 have hb1:=World.ownsMap.lt HM.out.1
 have qW:=ze4 (HM.out.1.below b2) HM.out.2 k3 k4 (fun s hs=>z5o hs) (by omega)
 have B2:=b1.trans (b2.mono s1)
 have s2:=B2.size
 clear qL k3 k4
 go_wp2_with fail
 refine qW.mono ?_
 rintro e w3 ⟨D3,rfl,m1,m2,g3⟩
 have B3:=B2.grown g3 s2 (fun k e=>by have h1:b=k:=Option.some.inj e;omega)
 have qT:=zeo m1 (zj5 (f':=fun s=>if 0<z2g ns s∧¬ 0<z2g ls s then z2g ns s else 0) m2 (fun s hs=>if_pos ⟨zt8.2 hs.1,hs.2⟩)) (fun s hs=>if_neg fun h=>hs ⟨zt8.1 h.1,h.2⟩) h2 hz
 have s3:=B3.size
 clear qW m1 m2 g3 hz
 go_wp2_with (go_at_call 50;refine qT.mono ?_;rintro e w4 ⟨v,ys,rfl,k1,k2,k3,k4,b4,hv⟩)
 go_ret
 exact⟨v,ys,rfl,k1,k2,k3,z01 k4 s3,B3.trans (b4.mono s3),hv⟩
theorem zn5 (h:Nds w B a c qs) (hS:∀ q∈qs,SafeNd q.nd) (hQ:UnQ (qs.map Np.nd) k us) {s:ByteArray} (hs:s.size≤maxLen) :
 Calls Tryz.prog 22 #[.slice a qs.length c,.int .i64 k,.string s] w fun e w'=>e=.returned (.int .i64 (z2g (txs (qs.map Np.nd) (brL (qs.map Np.nd) us)) s:Nat))∧Below w.heap.size w w':=by
 have qN:=ze7 h hS hQ
 have hlt:=z40 hQ
 rw[List.length_map] at hlt
 have hfew:=z5n hQ
 have HQ:=z00 (fun W (hW:Below w.heap.size w W) {B' ua uc} hu=>zll (w:=W) (h.below hW) hS (B':=B') (uc:=uc) (ua:=ua) (us:=brL (qs.map Np.nd) us) hu (fun u hu=>hlt u (List.mem_filter.1 hu).1) (Nat.le_trans (List.length_filter_le _ _) (by omega)))
 obtain⟨vs,hvs⟩:∃ vs,vs=brL (qs.map Np.nd) us:=⟨_,rfl⟩
 rw[← hvs] at qN HQ ⊢
 clear h hS hQ hvs hlt
 go_enter Tryz.func22,Tryz.ntmps22
 go_wp2_with fail
 refine qN.mono ?_
 rintro e w1 ⟨g,gc,rfl,o1,b1⟩
 have qU:=HQ.out w1 b1 o1
 have s1:=b1.size
 clear qN HQ o1
 go_wp2_with fail
 refine qU.mono ?_
 rintro e w2 ⟨b,n,D,rfl,h1,h2,h3,h4,b2⟩
 obtain⟨x,hat,hL⟩:=z56 h4 (fun s hs=>z5o hs) hs
 have hL2:=hL w2 b n h3
 have hf:=fun W=>z80 W x (z2g (txs (qs.map Np.nd) vs) s)
 have B2:=b1.trans (b2.mono s1)
 clear qU h3 h4 hat hL
 go_wp2
 go_ret
 exact⟨rfl,B2⟩
theorem zd9 (h:Nds w B a c qs) (hS:∀ q∈qs,SafeNd q.nd) (hQ:UnQ (qs.map Np.nd) k us) :
 Calls Tryz.prog 18 #[.slice a qs.length c,.int .i64 k] w (z9l (fun s=>s∈txs (qs.map Np.nd) (ltL (qs.map Np.nd) us)∧¬ (s∈txs (qs.map Np.nd) (nmL (qs.map Np.nd) us)∧z2g (txs (qs.map Np.nd) (nmL (qs.map Np.nd) us)) s≠z2g (txs (qs.map Np.nd) (gvS (qs.map Np.nd) us)) s)) w):=by
 have qN:=zcx h hS hQ
 have HG:=z00 (fun W (hW:Below w.heap.size w W)=>zmt (h.below hW) hS hQ)
 obtain⟨hgl,hgf⟩:=zg6 hQ
 rw[List.length_map] at hgl
 have HQ:=z00 (fun W (hW:Below w.heap.size w W) {B' ua uc} hu=>zll (w:=W) (h.below hW) hS (B':=B') (uc:=uc) (ua:=ua) (us:=gvS (qs.map Np.nd) us) hu hgl (by omega))
 have HL:=z00 (fun W (hW:Below w.heap.size w W)=>zjk (h.below hW) hS hQ)
 have hz:=fun s (hs:s∈txs (qs.map Np.nd) (ltL (qs.map Np.nd) us))=>z7z hS hs
 clear h hS hQ hgl hgf
 obtain⟨gl,hgl⟩:∃ gl,gl=gvS (qs.map Np.nd) us:=⟨_,rfl⟩
 rw[← hgl] at HG HQ ⊢
 obtain⟨ns,hns⟩:∃ ns,ns=txs (qs.map Np.nd) (nmL (qs.map Np.nd) us):=⟨_,rfl⟩
 obtain⟨ls,hls⟩:∃ ls,ls=txs (qs.map Np.nd) (ltL (qs.map Np.nd) us):=⟨_,rfl⟩
 obtain⟨gs,hgs⟩:∃ gs,gs=txs (qs.map Np.nd) gl:=⟨_,rfl⟩
 rw[← hns,← hls,← hgs]
 rw[← hls] at hz
 change Hid (∀ W,Below w.heap.size w W→∀ {B':Nat} {ua:Option Addr} {uc:Nat},W.ownsRow B' tI 1 (.slice ua gl.length uc) gl.length (z02 (z1d gl))→Calls Tryz.prog _ _ W (zdh (·∈txs (qs.map Np.nd) gl) (z2g (txs (qs.map Np.nd) gl)) W)) at HQ
 rw[← hns] at qN
 rw[← hls] at HL
 rw[← hgs] at HQ
 have HZ:=z00 hz
 clear hns hls hgl hgs hz
 go_enter Tryz.func18,Tryz.ntmps18
 go_wp2_with fail
 refine qN.mono ?_
 rintro e w1 ⟨b,n,D,rfl,h1,h2,h3,h4,b1⟩
 have qG:=HG.out w1 b1
 have HM:=z00 (And.intro h3 h4)
 have s1:=b1.size
 clear qN HG h3 h4
 go_wp2_with fail
 refine qG.mono ?_
 rintro e w2 ⟨g,gc,rfl,o2,b2⟩
 have B2:=b1.trans (b2.mono s1)
 have M2:=z00 (HM.out.1.below b2)
 have qU:=HQ.out w2 B2 o2
 have s2:=B2.size
 have hb1:=World.ownsMap.lt M2.out
 clear qG HQ o2 b1 b2
 go_wp2_with fail
 refine qU.mono ?_
 rintro e w3 ⟨bg,ng,Dg,rfl,k1,k2,k3,k4,b3⟩
 have B3:=B2.trans (b3.mono s2)
 have s3:=b3.size
 obtain⟨W4,hW4⟩:∃ W4,W4=w3.alloc (.cells #[.map (some bg)] 61):=⟨_,rfl⟩
 have G4:w3.grownBy W4 none:=by rw[hW4];exact World.grownBy_alloc w3 _ none
 have B4:Below w.heap.size w W4:=by rw[hW4];exact B3.alloc B3.size _
 have c4:W4.cell? ⟨w3.heap.size,0,none⟩=some (.map (some bg)):=by rw[hW4];exact cell_one_new w3 _ _ 0 _ rfl
 have M4:z2d W4 b n D:=World.ownsMap.kept (M2.out.below b3) G4 (by simp)
 have N4:z2d W4 bg ng Dg:=World.ownsMap.kept k3 G4 (by simp)
 have eg:∀ (args:Array Value) (w:World),(callFunc 59 args).run Tryz.prog w=.ok (.enter 59 args) w:=enters_of Tryz.func59 (by kernel_rfl) rfl
 have qD:=zi8 (zfe Dg) 59 #[.pointer (some ⟨w3.heap.size,0,none⟩)] eg M4 (fun W s x y hW hs=>zq6 (World.ownsMap.kept N4 hW (by intro e;injection e with e;omega)) k4 (fun s hs=>z5o hs) (hW.cell c4 (by intro e;injection e with e;simp only at e;omega)) hs x y)
 have hU:=zmq M4 (string_keyed Tryz.underlying9) HM.out.2 (pd:=zfe Dg) (p:=fun s=>(z2g ns s:Int)==(z2g gs s:Int)) (fun s a _=>by
  obtain⟨x,hx⟩:=zor k4 (fun s hs=>z5o hs) s
  unfold zfe
  rw[hx]
  rfl)
 have HU:=z00 hU
 have HB4:=z00 B4
 have s4:=B4.size
 have s34:w3.heap.size<W4.heap.size:=by rw[hW4];simp
 clear qU k3 k4 b3 G4 c4 M4 N4 eg hU B2 B3 B4
 go_wp2_with fail
 rw[← hW4]
 refine qD.mono ?_
 rintro e w5 ⟨rfl,m5,g5⟩
 have B5:=HB4.out.grown g5 s4 (fun k e=>by have h1:b=k:=Option.some.inj e;omega)
 have c5:=g5.cell (show W4.cell? ⟨w3.heap.size,0,none⟩=some (.map (some bg)) by rw[hW4];exact cell_one_new w3 _ _ 0 _ rfl) (by intro e;injection e with e;simp only at e;omega)
 have qL:=HL.out w5 B5
 have HM5:=z00 m5
 have s5:=B5.size
 clear qD m5 g5 HL hW4
 go_wp2_with fail
 refine qL.mono ?_
 rintro e w6 ⟨bl,nl,Dl,rfl,k1,k2,k3,k4,b6⟩
 have hb5:=World.ownsMap.lt HM5.out
 have hu5:=zj5 (f':=fun s=>if 0<z2g ns s∧((z2g ns s:Int)==(z2g gs s:Int))=false then z2g ns s else 0) HU.out (fun s hs=>if_pos ⟨zt8.2 hs.1,hs.2⟩)
 have qW:=ze4 k3 k4 (HM5.out.below b6) hu5 (fun s hs=>if_neg fun h=>hs ⟨zt8.1 h.1,h.2⟩) (by omega)
 have B6:=B5.trans (b6.mono s5)
 have s6:=B6.size
 clear qL k3 k4 hu5 HU HM5
 go_wp2_with fail
 refine qW.mono ?_
 rintro e w7 ⟨D7,rfl,m1,m2,g7⟩
 have B7:=B6.grown g7 s6 (fun k e=>by have h1:bl=k:=Option.some.inj e;omega)
 have qT:=zeo m1 (zj5 (f':=fun s=>if 0<z2g ls s∧¬ 0<(if 0<z2g ns s∧((z2g ns s:Int)==(z2g gs s:Int))=false then z2g ns s else 0) then z2g ls s else 0) m2 (fun s hs=>if_pos ⟨zt8.2 hs.1,hs.2⟩)) (fun s hs=>if_neg fun h=>hs ⟨zt8.1 h.1,h.2⟩) k2 (fun s hs=>HZ.out s hs.1)
 have s7:=B7.size
 clear qW m1 m2 g7
 go_wp2_with (go_at_call 50;refine qT.mono ?_;rintro e w8 ⟨v,ys,rfl,j1,j2,j3,j4,b8,hv⟩)
 go_ret
 refine⟨v,ys,rfl,j1,fun s=>(j2 s).trans ?_,j3,z01 j4 s7,B7.trans (b8.mono s7),hv⟩
 refine and_congr_right fun _=>not_congr ?_
 by_cases hp:0<z2g ns s
 ·have hp2:=zt8.1 hp
  by_cases he:z2g ns s=z2g gs s
  ·simp[he]
  ·have he2:((z2g ns s:Int)==(z2g gs s:Int))=false:=by rw[beq_eq_false_iff_ne];omega
   simp[hp,hp2,he,he2]
 ·have hp2:¬ s∈ns:=fun h=>hp (zt8.2 h)
  simp[hp,hp2]
end
theorem zdc:z78 142:=fun _ _ _ _ _ _ _ h h1 h2 h3=>ztn h h1 h2 h3
theorem z68:zbz 24:=zo0 zdc
theorem z8m (t:ByteArray) (w:World) (hs:t.size≤4194304):Calls Tryz.prog 47 #[.string t] w (zi0 t w):=zd2 t w hs z68
end Go.Proofs.YtekebloinobjnaaGreatDoor
