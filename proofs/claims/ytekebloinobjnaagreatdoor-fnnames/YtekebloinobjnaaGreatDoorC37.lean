/- Texts of one proof, laid together: NmS, InfoT, CopyLib, CloneI. -/
import Derived.Test.YtekebloinobjnaaGreatDoorC33
import Derived.Test.YtekebloinobjnaaGreatDoorProg
import Derived.Test.YtekebloinobjnaaGreatDoorC00
import Derived.Deep.AppendSrc
import Derived.Deep.DeepAppendWide
import Derived.Lib.SliceRun
set_option maxHeartbeats 16000000
set_option maxRecDepth 100000
namespace Go.Proofs.YtekebloinobjnaaGreatDoor
open Go.RowKit
abbrev tS:Nat:=9
theorem zj4:(Tryz.prog.info? 9).map (fun i=>(i.zero,i.size,i.bytes))=some (some (.string ByteArray.empty),1,16):=by kernel_rfl
theorem zh3 {w:World} {B n c:Nat} {a:Option Addr} {xs:List ByteArray} (h:w.ownsRow B tS 1 (.slice a n c) n (z0h xs)) {j:Nat} {x:ByteArray} (hx:xs[j]?=some x):∃ b,a=some ⟨b,0,none⟩∧b<w.heap.size∧w.cell? ⟨b,j,none⟩=some (.string x):=by
 have hl:xs.length=n:=by have:=h.1;simpa[z0h] using this
 have hj:j<xs.length:=(List.getElem?_eq_some_iff.1 hx).1
 obtain⟨b,rfl⟩:=z0s h (by omega)
 refine⟨b,rfl,(h.lt b rfl).2,(h.cellAt j (by omega)).trans ?_⟩
 unfold z0h
 rw[List.getElem?_map,hx]
 rfl
def zqv (n:Nat) (w:World) (e:Ending) (w':World):Prop:=(∃ b:Bool,e=.returned (.bool b)∧(b=true→0<n))∧w'=w
theorem zv7 {w:World} {B c:Nat} {a:Option Addr} {xs:List ByteArray} (s:ByteArray) (hn:xs.length≤1000) (h:w.ownsRow B tS 1 (.slice a xs.length c) xs.length (z0h xs)):Calls Tryz.prog 76 #[.slice a xs.length c,.string s] w (zqv xs.length w):=by
 have HH:=z00 h
 clear h
 go_enter Tryz.func76,Tryz.ntmps76
 go_wp2
 go_loop [5] (fun i=>∃ j:Nat,j≤xs.length∧i=.int .i64 (j:Int)) (fun i=>xs.length-(intOf i).toNat)
 case atStart=>exact⟨0,Nat.zero_le _,rfl⟩
 case round =>
  obtain⟨j,hj,rfl⟩:=hrel
  by_cases hlt:j<xs.length
  ·obtain⟨x,hx⟩:∃ x,xs[j]?=some x:=⟨_,List.getElem?_eq_getElem hlt⟩
   obtain⟨b,rfl,hb,cx⟩:=zh3 HH.out hx
   have hj1:j+1≤xs.length:=hlt
   have hm1:xs.length-(j+1)<xs.length-j:=by omega
   have hA:(0:Int)≤(j:Int):=by omega
   have hB1:(j:Int)<(xs.length:Int):=by omega
   clear hx
   cases he:(x.toList==s.toList)
   ·go_wp2
    go_round
    case rel=>exact⟨j+1,hj1,by go_num⟩
    case measure=>simp[intOf];omega
   ·go_wp2
    go_ret
    exact⟨⟨true,rfl,fun _=>by omega⟩,rfl⟩
  ·have hB1:¬ (j:Int)<(xs.length:Int):=by omega
   go_wp2
   go_ret
   exact⟨⟨false,rfl,fun h=>by cases h⟩,rfl⟩
def zru (w:World) (B:Nat) (v:Value) (n:Nat) (e:Ending) (w':World):Prop:=∃ (v':Value) (ys:List ByteArray),e=.returned v'∧1≤ys.length∧ys.length≤n+1∧w'.ownsRow B tS 1 v' ys.length (z0h ys)∧w.grownBy w' v.ownBlock
theorem ztp {w:World} {B c:Nat} {a:Option Addr} {xs:List ByteArray} (s:ByteArray) (h:w.ownsRow B tS 1 (.slice a xs.length c) xs.length (z0h xs)) (hB:B≤w.heap.size) (hn:xs.length≤1000):Calls Tryz.prog 54 #[.slice a xs.length c,.string s] w (zru w B (.slice a xs.length c) xs.length):=by
 obtain⟨i0,hi,hz0,hz1,hz2⟩:=info_parts zj4
 have qH:=fun W=>@zv7 W B c a xs s hn
 obtain⟨n1,hn1⟩:∃ n1,n1=xs.length:=⟨_,rfl⟩
 have HN:=z00 hn1
 rw[← hn1] at h hn qH ⊢
 have HH:=z00 h
 clear h hn1
 go_enter Tryz.func54,Tryz.ntmps54
 go_wp2_with fail
 refine(qH _ HH.out).mono ?_
 rintro e w ⟨⟨b,rfl,hb⟩,rfl⟩
 clear qH
 cases b with
 | true =>
   have hb1:=hb rfl
   clear hb
   go_wp2
   go_ret
   exact⟨_,xs,rfl,by rw[← HN.out];exact hb1,by rw[← HN.out];omega,by rw[← HN.out];exact HH.out,World.grownBy.refl _ _⟩
 | false =>
   clear hb
   go_wp2_with (at_builtin;refine wpList_append_own _ rfl _ _ 27 rfl B 9 i0 (.string ByteArray.empty) 1 16 Tryz.underlying27 hi hz0 hz1 hz2 rfl (by decide) (.slice a n1 c) n1 (z0h xs) rfl (HH.out.alloc _) ⟨w.heap.size,0,none⟩ 1 1 [.string s] rfl rfl (cell_one_new _ _ _) (fun x hx=>by simp at hx;subst hx;rfl) (by unfold maxLen;omega) (by omega) (by simp;omega) ?_;intro v' w3 hown' hgrow3 hnil3;clear hnil3)
   go_ret
   have hl:(xs++[s]).length=n1+1:=by rw[HN.out];simp
   refine⟨_,xs++[s],rfl,by rw[hl];omega,by rw[hl];omega,?_,z0w (World.grownBy_alloc w (.cells #[.string s] tS) _) hgrow3⟩
   rw[hl]
   simpa[z0h] using hown'
def zcv (P:Prop) (w:World) (e:Ending) (w':World):Prop:=∃ (v:Value) (ys:List ByteArray),e=.returned v∧ys.length≤1000∧w'.ownsRow w.heap.size tS 1 v ys.length (z0h ys)∧(0<ys.length↔P)∧Below w.heap.size w w'
def zss (ns:List Nd) (u:Nat):Prop:=∃ x,ns[u]?=some x∧x.kind=1
theorem zkr (hNode:z78 142) {w:World} {B:Nat} {a:Option Addr} {c k:Nat} {qs:List Np} (h:Nds w B a c qs) (hS:∀ q∈qs,SafeNd q.nd) (hT:TreeP (qs.map Np.nd)) (hk:k<qs.length):Calls Tryz.prog 16 #[.slice a qs.length c,.int .i64 (k:Int)] w (zcv (∃ u,Und (qs.map Np.nd) k u∧zss (qs.map Np.nd) u) w):=by
 have hn:qs.length≤300:=by have:=hT.most;simpa using this
 have hDn:z2r (qs.map Np.nd) qs.length:=by have:=z18 hT;simpa using this
 have qU:=fun W (hW:Below w.heap.size w W)=>zmw hNode (h.below hW) hS hT hk
 have B0:Below w.heap.size w (w.alloc (.cells #[] tS)):=(Below.refl _ _).alloc (Nat.le_refl _) _
 have HH:=z00 h
 have HD:=z00 hDn
 have hbk:=h.row
 obtain⟨a0,rfl⟩:=z0s hbk (by omega)
 clear h hS hT hDn hbk
 go_enter Tryz.func16,Tryz.ntmps16
 go_wp2_with fail
 refine(qU _ B0).mono ?_
 rintro e w2 ⟨us,hU,b2,ua,uc,rfl,hu⟩
 have hown0:(w.alloc (.cells #[] tS)).ownsRow w.heap.size tS 1 (.slice (some ⟨w.heap.size,0,none⟩) 0 0) 0 (z0h []):=World.ownsRow_made w #[] 0 (Nat.le_refl _) (by decide) rfl
 have o2:=z07 hown0 b2
 have B2:=B0.trans (b2.mono B0.size)
 have hfew:=z6n HD.out hk hU
 have hul:(z1d us).length=us.length:=z1t us
 rw[hul] at hu ⊢
 obtain⟨U,hUe⟩:∃ U,U=us.length:=⟨_,rfl⟩
 rw[← hUe] at hu hfew ⊢
 have HUE:=z00 hUe
 have HUL:=z00 hU
 have HU:=z00 hu
 clear qU B0 hown0 b2 hul hUe hU hu
 go_wp2_with fail
 go_loopw [5,7] (fun v i wr=>∃ (j:Nat) (ys:List ByteArray),j≤U∧i=.int .i64 (j:Int)∧ys.length≤j∧wr.ownsRow w.heap.size tS 1 v ys.length (z0h ys)∧Hid (wr.ownsRow (w.heap.size+1) tI 1 (.slice ua U uc) U (z02 (z1d us)))∧Hid (Below w.heap.size w wr)∧Hid (0<ys.length↔∃ (m u:Nat),m<j∧us[m]?=some u∧zss (qs.map Np.nd) u)) (fun _ i _=>U-(intOf i).toNat)
 case atStart=>exact⟨0,[],Nat.zero_le _,rfl,Nat.le_refl _,o2,by have:=HU.out;rwa [z5s] at this,z00 B2,z00 ⟨fun h=>by simp at h,fun ⟨m,u,h,_⟩=>by omega⟩⟩
 case round =>
  clear o2 B2 HU
  obtain⟨j,ys,hj,rfl,hyj,ho,HU,HW,HI⟩:=hrel
  obtain⟨ao,cc,rfl⟩:=z06 ho
  have hws:=HW.out.size
  by_cases hlt:j<U
  ·obtain⟨u,hu⟩:∃ u,us[j]?=some u:=⟨_,List.getElem?_eq_getElem (by rw[← HUE.out];exact hlt)⟩
   have hun:=ze0 HD.out hk HUL.out hu
   obtain⟨ub,rfl⟩:=z0s HU.out (by omega)
   have cu:=(HU.out.cellAt j (by omega)).trans (z5r hu)
   obtain⟨q,hq⟩:∃ q,qs[u]?=some q:=⟨_,List.getElem?_eq_getElem hun⟩
   obtain⟨b',hbb,hb2,d0,d1,d2,d3⟩:=(HH.out.below HW.out).node hq
   obtain rfl:a0=b':=by injection hbb with hbb;injection hbb
   have hx:(qs.map Np.nd)[u]?=some q.nd:=by rw[List.getElem?_map,hq];rfl
   obtain⟨⟨kd,tx,kk,bl⟩,ka,kc⟩:=q
   have HX:=z00 hx
   have HUj:=z00 hu
   simp only at d0 d1 d2 d3
   have hA:(0:Int)≤(j:Int):=by omega
   have hB1:(j:Int)<(U:Int):=by omega
   have hA2:(0:Int)≤(u:Int):=by omega
   have hB2:(u:Int)<(qs.length:Int):=by omega
   clear hu hq hx hbb d2 d3
   by_cases h1:kd=1
   ·have he1:(kd==1)=true:=by simpa using h1
    have HO:=z00 ho
    have qA:=ztp tx ho (by omega) (by omega)
    have HK:=z00 h1
    clear h1 ho
    go_wp2_with fail
    refine qA.mono ?_
    rintro e w5 ⟨v',zs,rfl,hz1,hz2,o5,hg5⟩
    have B5:=HW.out.grown hg5 hws (fun q hq=>(HO.out.lt q hq).1)
    have U5:=World.ownsRow.kept HU.out hg5 (z0k HU.out HO.out (by decide))
    clear qA hg5 d0 d1 cu
    go_wp2
    go_roundw
    case rel=>exact⟨j+1,zs,by omega,by go_num,by omega,o5,z00 U5,z00 B5,z00 ⟨fun _=>⟨j,u,by omega,HUj.out,_,HX.out,HK.out⟩,fun _=>by omega⟩⟩
    case measure=>simp[intOf];omega
   ·have he1:(kd==1)=false:=by simpa using h1
    have HK:=z00 h1
    have HI2:=z00 (show 0<ys.length↔∃ (m u:Nat),m<j+1∧us[m]?=some u∧zss (qs.map Np.nd) u from HI.out.trans ⟨fun ⟨m,v,h1,h2,h3⟩=>⟨m,v,by omega,h2,h3⟩,fun ⟨m,v,h1,h2,x,h3,h4⟩=>by
     by_cases e:m=j
     ·subst e
      rw[HUj.out] at h2
      injection h2 with h2
      subst h2
      rw[HX.out] at h3
      injection h3 with h3
      subst h3
      exact absurd h4 HK.out
     ·exact⟨m,v,by omega,h2,x,h3,h4⟩⟩)
    clear h1
    go_wp2
    go_roundw
    case rel=>exact⟨j+1,ys,by omega,by go_num,by omega,ho,HU,HW,HI2⟩
    case measure=>simp[intOf];omega
  ·have hB1:¬ (j:Int)<(U:Int):=by omega
   obtain rfl:j=U:=by omega
   have HP:=z00 (show 0<ys.length↔∃ u,Und (qs.map Np.nd) k u∧zss (qs.map Np.nd) u from HI.out.trans ⟨fun ⟨m,u,_,h2,h3⟩=>⟨u,(HUL.out.2 u).1 (List.mem_of_getElem? h2),h3⟩,fun ⟨u,h2,h3⟩=>by
    obtain⟨m,hm⟩:=List.mem_iff_getElem?.1 ((HUL.out.2 u).2 h2)
    exact⟨m,u,by rw[HUE.out];exact(List.getElem?_eq_some_iff.1 hm).1,hm,h3⟩⟩)
   go_wp2
   go_ret
   exact⟨_,ys,rfl,by omega,ho,HP.out,HW.out⟩
theorem zkp:(Tryz.prog.info? 3).map (fun i=>(i.zero,i.size,i.bytes))=some (some (.int .i64 0),1,8):=by kernel_rfl
theorem zjg {α:Type} {s:Nat} {cells:α→List Value} (hs:∀ x,(cells x).length=s) (hs0:0<s) {w:World} {b off:Nat} {xs:List α} (h:∀ k x,xs[k]?=some x→∀ j,j<s→w.cell? ⟨b,off+k*s+j,none⟩=(cells x)[j]?) :
 ∀ j u,(z0r cells xs)[j]?=some u→w.cell? ((⟨b,off,none⟩:Addr).add j)=some u:=by
 intro j u hu
 have hl:=(List.getElem?_eq_some_iff.1 hu).1
 rw[z2w hs] at hl
 have hm:j % s<s:=Nat.mod_lt _ hs0
 have hk:j / s<xs.length:=Nat.div_lt_of_lt_mul (by rw[Nat.mul_comm];exact hl)
 have hx:xs[j / s]?=some xs[j / s]:=List.getElem?_eq_getElem hk
 have hj:j / s*s+j % s=j:=by rw[Nat.mul_comm];exact Nat.div_add_mod j s
 have h1:=h (j / s) _ hx (j % s) hm
 have h2:=z58 hs xs (j / s) _ hx (j % s) hm
 rw[hj,hu] at h2
 have hadd:(⟨b,off,none⟩:Addr).add j=⟨b,off+j / s*s+j % s,none⟩:=by
  rw[Nat.add_assoc,hj]
  unfold Addr.add
  split<;>simp_all
 rw[hadd,h1,h2]
theorem zbb {α:Type} {cells:α→List Value} (h:∀ x,∀ u∈cells x,u.oneCell'=true) (xs:List α):∀ u∈z0r cells xs,u.oneCell'=true:=fun u hu=>by
 obtain⟨x,_,hx⟩:=List.mem_flatMap.1 hu
 exact h x u hx
section
variable {P:Program}
theorem zhq {α:Type} {s:Nat} {cells:α→List Value} (hs:∀ x,(cells x).length=s) (hone:∀ x,∀ u∈cells x,u.oneCell'=true) (t ty e:TypeId) (i:TypeInfo) (z:Value) (bytes:Nat) (ht:P.underlying t=some (.slice e)) (hi:P.info? e=some i) (hz:i.zero=some z)
 (hsize:i.size=s) (hby:i.bytes=bytes) (hzs:z.cells.size=s) (hsz:0<s) (w:World) (base z0:Nat) (hb0:base≤z0) (hz0:w.heap[z0]?=some (.cells #[] e (0,0)))
 (a:Option Addr) (c:Nat) (xs:List α) (h:zeh s cells w a xs) (hn:xs.length≤1048576) (hbb:bytes≤1048576) :
 ∃ a' c' w',(Builtin.append_ #[t,t] ty #[.slice (some ⟨z0,0,none⟩) 0 0,.slice a xs.length c]).run P w=.ok (.slice a' xs.length c') w'∧w'.ownsRow base e s (.slice a' xs.length c') xs.length (z0r cells xs)∧w.grownBy w' none∧(∀ g,(Value.slice a' xs.length c').ownBlock=some g→g=z0∨w.heap.size≤g):=by
 subst hsize
 subst hby
 have hz0l:z0<w.heap.size:=(Array.getElem?_eq_some_iff.1 hz0).1
 by_cases hx:xs.length=0
 ·have he:xs=[]:=List.eq_nil_of_length_eq_zero hx
  subst he
  have hsrc:Src P i.size t (.slice a 0 c) 0 [] w:=by
   cases a with
   | none=>exact Src.ofNil w ht c
   | some ad=>exact Src.ofSlice w ht ad 0 c [] (by simp) (fun j u hu=>by simp at hu) (fun u hu=>by cases hu)
  have hr:=run_append_room_src (P:=P) w t t ty e i ht hi z0 0 0 0 _ 0 [] hsrc (by omega) (fun j hj=>by simp at hj) (fun j hj=>by simp at hj)
  refine⟨some ⟨z0,0,none⟩,0,w,?_,⟨by simp[z0r],.inr ⟨z0,0,#[],rfl,hb0,hz0,Nat.le_refl _,by unfold maxLen;omega,by simp,by simp[z0r]⟩⟩,World.grownBy.refl w none,fun g e=>.inl (by injection e with e;exact e.symm)⟩
  simpa[World.setCells] using hr
 ·obtain⟨b,off,rfl,hlt,hc⟩:=h (by omega)
  have hsrc:Src P i.size t (.slice (some ⟨b,off,none⟩) xs.length c) xs.length (z0r cells xs) w:=Src.ofSlice w ht _ _ c _ (z2w hs xs) (zjg hs hsz hc) (zbb hone xs)
  have hfit:Builtin.nextslicecap (0+xs.length) 0*i.bytes≤281474976710656:=growslice_fits_wide (by omega) (Nat.le_trans (Nat.mul_le_mul (show 0+xs.length+(0+xs.length) / 4+192≤2097152 by omega) hbb) (by omega))
  have hr:=run_append_grow_src (P:=P) w t t ty e i z ht hi hz (some ⟨z0,0,none⟩) 0 0 [] (run_firstCells_some w.drew i.size 0 ⟨z0,0,none⟩ 0 0 [] (by simp) (fun j v hv=>by simp at hv)) _ xs.length _ hsrc (by omega) (by omega) hfit
  have hge:=grownCap_ge w (0+xs.length) 0 e
  have hcm:grownCap w (0+xs.length) 0 e≤maxLen:=grownCap_le_maxLen w (0+xs.length) 0 e (by unfold maxLen;omega)
  rw[Nat.zero_add] at hr hge hcm
  refine⟨_,_,_,hr,⟨z2w hs xs,.inr ⟨w.heap.size,_,_,rfl,by omega,heap_alloc_new w.drew _,hge,hcm,?_,?_⟩⟩,⟨rfl,rfl,rfl,by simp,fun k hk _=>Below.heap_alloc w.drew _ k hk⟩,fun g e=>.inr (by injection e with e;subst e;exact Nat.le_refl _)⟩
  ·simp only[List.nil_append,Array.size_append,List.size_toArray,size_zeroCells,hzs,z2w hs,← Nat.add_mul]
   congr 1
   omega
  ·simp only[List.nil_append,Array.toList_append]
   rw[← z2w hs xs]
   exact List.take_left
theorem zma {α:Type} {s:Nat} {cells:α→List Value} (hs:∀ x,(cells x).length=s) (hone:∀ x,∀ u∈cells x,u.oneCell'=true) (t ty e:TypeId) (i:TypeInfo) (z:Value) (bytes:Nat) (ht:P.underlying t=some (.slice e)) (hi:P.info? e=some i) (hz:i.zero=some z)
 (hsize:i.size=s) (hby:i.bytes=bytes) (hzs:z.cells.size=s) (hsz:0<s) (w:World) (base z0:Nat) (hb0:base≤z0) (hz0:w.heap[z0]?=some (.cells #[] e (0,0)))
 (a:Option Addr) (c:Nat) (xs:List α) (h:zeh s cells w a xs) (hn:xs.length≤1048576) (hbb:bytes≤1048576) :
 ∃ a' c' w',(Builtin.append_ #[t,t] ty #[.slice (some ⟨z0,0,none⟩) 0 0,.slice a xs.length c]).run P w=.ok (.slice a' xs.length c') w'∧w'.ownsRow base e s (.slice a' xs.length c') xs.length (z0r cells xs)∧w.grownBy w' none:=by
 obtain⟨a',c',w',h1,h2,h3,_⟩:=zhq (P:=P) hs hone t ty e i z bytes ht hi hz hsize hby hzs hsz w base z0 hb0 hz0 a c xs h hn hbb
 exact⟨a',c',w',h1,h2,h3⟩
theorem zod {α:Type} {s:Nat} {cells:α→List Value} (hs:∀ x,(cells x).length=s) (hone:∀ x,∀ u∈cells x,u.oneCell'=true) {o:Oper} {ac:Act} {K:Act→World→Prop} {Q:Exit→Act→World→Prop} (x y:Operand) (t:TypeId)
 (ho:o.op=.call { callee:=.builtin .append,args:=#[x,y],argTypes:=#[t,t] }) (e:TypeId) (i:TypeInfo) (z:Value) (bytes:Nat) (ht:P.underlying t=some (.slice e)) (hi:P.info? e=some i) (hz:i.zero=some z)
 (hsize:i.size=s) (hby:i.bytes=bytes) (hzs:z.cells.size=s) (hsz:0<s) (w:World) (base z0:Nat) (hb0:base≤z0) (hz0:w.heap[z0]?=some (.cells #[] e (0,0)))
 (a:Option Addr) (c:Nat) (xs:List α) (hx:ac.eval x=.slice (some ⟨z0,0,none⟩) 0 0) (hy:ac.eval y=.slice a xs.length c) (h:zeh s cells w a xs) (hn:xs.length≤1048576) (hbb:bytes≤1048576)
 (hk:∀ a' c' w',w'.ownsRow base e s (.slice a' xs.length c') xs.length (z0r cells xs)→w.grownBy w' none→K (ac.put o.dst (.slice a' xs.length c')) w'):o.wp P ac w K Q:=by
 obtain⟨a',c',w',hr,h2,h3⟩:=zma (P:=P) hs hone t o.type e i z bytes ht hi hz hsize hby hzs hsz w base z0 hb0 hz0 a c xs h hn hbb
 unfold Oper.wp execOp
 simp only[ho,resolve,invoke,builtin,Sem.run_bind,Sem.run_pure,Result.andThen_ok,List.map_toArray,List.map_cons,List.map_nil,hx,hy,hr]
 exact hk a' c' w' h2 h3
end
def z7r (z:Int):List Value:=[.int .i64 z]
theorem zez (z:Int):(z7r z).length=1:=rfl
theorem zft (z:Int):∀ u∈z7r z,u.oneCell'=true:=fun u hu=>by
 unfold z7r at hu
 rw[List.mem_singleton] at hu
 subst hu
 rfl
theorem z8u:∀ (vs:List Int),z0r z7r vs=z02 vs
 | []=>rfl
 | v::vs=>by
   show z7r v++z0r z7r vs=_
   rw[z8u vs]
   rfl
theorem zji {w:World} {a:Option Addr} {vs:List Int} (h:z73 w a vs):zeh 1 z7r w a vs:=by
 intro hn
 obtain⟨b,off,ha,hlt,hc⟩:=h hn
 refine⟨b,off,ha,hlt,fun k x hx j hj=>?_⟩
 have hj0:j=0:=by omega
 subst hj0
 rw[Nat.mul_one,Nat.add_zero,hc k x hx]
 rfl
theorem z97 {ops:Array Oper} {rest:List Oper} {o:Oper} {ac:Act} {Q:Exit→Act→World→Prop} (hgd:o.guard=none) (x y:Operand)
 (ho:o.op=.call { callee:=.builtin .append,args:=#[x,y],argTypes:=#[29,29] }) (w:World) (base z0:Nat) (hb0:base≤z0) (hz0:w.heap[z0]?=some (.cells #[] 3 (0,0)))
 (a:Option Addr) (c:Nat) (vs:List Int) (hx:ac.eval x=.slice (some ⟨z0,0,none⟩) 0 0) (hy:ac.eval y=.slice a vs.length c) (h:z73 w a vs) (hn:vs.length≤1048576)
 (hk:∀ a' c' w',w'.ownsRow base 3 1 (.slice a' vs.length c') vs.length (z02 vs)→w.grownBy w' none→wpList Tryz.prog ops Q rest (ac.put o.dst (.slice a' vs.length c')) w'):wpList Tryz.prog ops Q (o::rest) ac w:=by
 obtain⟨i0,hi,hz0',hz1,hz2⟩:=info_parts zkp
 exact wpList_plain hgd fun _ hK=>zod zez zft x y 29 ho 3 i0 (.int .i64 0) 8 Tryz.underlying29 hi hz0' hz1 hz2 rfl (by decide) w base z0 hb0 hz0 a c vs hx hy (zji h) hn (by omega) fun a' c' w' h2 h3=>hK _ _ (hk a' c' w' (by rw[z8u] at h2;exact h2) h3)
theorem zhp (a:Option Addr) (c:Nat) (vs:List Int) (w:World) (hn:vs.length≤1048576) (h:z73 w a vs) :
 Calls Tryz.prog 103 #[.slice a vs.length c] w fun e w'=>z7u vs 3 w e w':=by
 have qT:∀ (w:World) (a:Option Addr) (n c n' c':Nat),(binOp .eql 29 (.slice a n c) (.slice none n' c')).run Tryz.prog w=.ok (.bool a.isNone) w:=fun w a n c n' c'=>Lib.run_eql_slice_nil w _ _ a n c n' c' Tryz.underlying29
 cases a with
 | none =>
   have hl:vs=[]:=by
    cases vs with
    | nil=>rfl
    | cons x xs=>obtain⟨b,off,ha,-⟩:=h (by simp);cases ha
   subst hl
   go_enter Tryz.func103,Tryz.ntmps103
   go_wp2
   go_ret
   exact⟨Below.refl _ _,none,0,rfl,rfl,.inl ⟨rfl,rfl⟩⟩
 | some ad =>
   go_enter Tryz.func103,Tryz.ntmps103
   have B1:Below w.heap.size w (w.alloc (.cells #[] 3)):=(Below.refl _ _).alloc (Nat.le_refl _) _
   go_wp2_with (at_builtin;refine z97 rfl _ _ rfl _ w.heap.size w.heap.size (Nat.le_refl _) (heap_alloc_new w _) (some ad) c vs rfl rfl (h.below B1 (Nat.le_refl _)) hn ?_;intro a' c' w1 hown hg)
   go_ret
   exact⟨B1.grown hg B1.size (fun k e=>by cases e),a',c',rfl,hown⟩
end Go.Proofs.YtekebloinobjnaaGreatDoor
