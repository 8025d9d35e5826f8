/- Texts of one proof, laid together: SgnS2, TrimS, SgnS3, SgnS4. -/
import Derived.Test.YtekebloinobjnaaGreatDoorC04
import Derived.Test.YtekebloinobjnaaGreatDoorProg
import Derived.Test.YtekebloinobjnaaGreatDoorC02
import Derived.WalkKit
import Derived.Deep.MidRow
import Derived.Laws.ResultCell
set_option maxHeartbeats 16000000
set_option maxRecDepth 100000
namespace Go.Proofs.YtekebloinobjnaaGreatDoor
open Go.RowKit
def z6r (t:ByteArray) (k:Nat):Nat:=if k+1+spn z6z t (k+1)<t.size∧by8 t (k+1+spn z6z t (k+1))=39 then spn z6z t (k+1)+2 else 0
theorem zir {t:ByteArray} {k:Nat} (hk:k<t.size):zfz (t.extract k t.size)=z6r t k:=by
 unfold zfz z6r
 rw[zal,z2h,z3g,show k+(1+spn z6z t (k+1))=k+1+spn z6z t (k+1) by omega]
 by_cases h:k+1+spn z6z t (k+1)<t.size∧by8 t (k+1+spn z6z t (k+1))=39
 ·rw[if_pos h,if_pos ⟨by omega,h.2⟩]
  omega
 ·rw[if_neg h,if_neg (fun h'=>h ⟨by omega,h'.2⟩)]
theorem z86 (t:ByteArray) (k:Nat) (w:World) (hs:t.size≤4194304) (hk:k<t.size) :
 Calls Tryz.prog 160 #[.string t,.int .i64 k] w fun e w'=>e=.returned (.int .i64 (z6r t k))∧w'=w:=by
 have hby:=z3x t
 go_enter Tryz.func160,Tryz.ntmps160
 go_wp2
 go_loop [5] (fun i=>∃ j:Nat,k+1+j≤t.size∧i=.int .i64 ((k:Int)+1+j)∧Hid (∀ m,m<j→z6z (by8 t (k+1+m))=true)) (fun i=>t.size-(intOf i).toNat)
 case atStart=>exact⟨0,by omega,by go_num,z00 fun m h=>by omega⟩
 case round =>
  obtain⟨j,hj,rfl,HA⟩:=hrel
  by_cases hlt:k+1+j<t.size
  ·have hA:(0:Int)≤(k:Int)+1+j:=by omega
   have hB:(k:Int)+1+j<(t.size:Int):=by omega
   have hbr:=z1f t (k+1+j)
   have hix:((k:Int)+1+j).toNat=k+1+j:=by omega
   by_cases h39:by8 t (k+1+j)=39
   ·have hS:spn z6z t (k+1)=j:=z2s j (k+1) hj HA.out (fun _=>by rw[h39];rfl)
    have hr:z6r t k=j+2:=by unfold z6r;rw[hS,if_pos ⟨hlt,h39⟩]
    have HR:=z00 hr
    have h39':(by8 t (k+1+j)==39)=true:=by simp[h39]
    clear h39 hS hr
    go_wp2
    go_ret
    exact⟨z2z (by rw[HR.out];omega),rfl⟩
   ·have h39':(by8 t (k+1+j)==39)=false:=by simpa using h39
    have hP:=fun W=>zdk (by8 t (k+1+j)) W
    have ht:z6z (by8 t (k+1+j))=z2v (by8 t (k+1+j)):=by
     unfold z6z
     rw[bne,h39']
     simp
    cases hpl:z2v (by8 t (k+1+j))
    ·rw[hpl] at hP ht
     have hS:spn z6z t (k+1)=j:=z2s j (k+1) hj HA.out (fun _=>ht)
     have hr:z6r t k=0:=by unfold z6r;rw[hS,if_neg (fun h=>h39 h.2)]
     have HR:=z00 hr
     clear hS hpl h39 ht hr
     go_wp2_with fail
     refine(hP _).mono ?_
     rintro e w ⟨rfl,rfl⟩
     go_wp2
     go_ret
     exact⟨z2z (by rw[HR.out];rfl),rfl⟩
    ·rw[hpl] at hP ht
     have HP:=z00 ht
     clear hpl h39 ht
     go_wp2_with fail
     refine(hP _).mono ?_
     rintro e w ⟨rfl,rfl⟩
     go_wp2
     go_round
     case rel=>exact⟨j+1,by omega,by go_num,z00 fun m hm=>by
      by_cases e:m=j
      ·subst e;exact HP.out
      ·exact HA.out m (by omega)⟩
     case measure=>simp[intOf];omega
  ·have hS:spn z6z t (k+1)=j:=z2s j (k+1) hj HA.out (fun h=>by omega)
   have hr:z6r t k=0:=by unfold z6r;rw[hS,if_neg (fun h=>hlt h.1)]
   have HR:=z00 hr
   clear hS hr
   go_wp2
   go_ret
   exact⟨z2z (by rw[HR.out];rfl),rfl⟩
def z87 (t:ByteArray) (k:Nat) (m:ByteArray):Prop:=k+m.size≤t.size∧t.extract k (k+m.size)=m
theorem zd5:∀ j,j<21→(z3q.getD j ByteArray.empty).size=if j<5 then 2 else 1:=by decide
theorem zcz {j:Nat} {m:ByteArray} (h:z3q[j]?=some m):m.size=if j<5 then 2 else 1:=by
 have hj:j<21:=(List.getElem?_eq_some_iff.1 h).1
 have:=zd5 j hj
 rw[List.getD_eq_getElem?_getD,h] at this
 exact this
theorem z8j {l:List UInt8} (h:zko l=true):∃ (j:Nat) (m:ByteArray),z3q[j]?=some m∧m.data.toList=l:=by
 unfold zko at h
 rw[List.any_eq_true] at h
 obtain⟨p,hp,he⟩:=h
 obtain⟨j,hj,e⟩:=List.getElem_of_mem hp
 refine⟨j,⟨p.1.toArray⟩,?_,?_⟩
 ·simp[z3q,hj,e]
 ·simpa using he
theorem z5u {t:ByteArray} {k n:Nat} {m:ByteArray} (hk:k≤t.size) (hn:n≤t.size-k) (h:m.data.toList=(t.extract k t.size).data.toList.take n):m.size=n∧z87 t k m:=by
 have hs:m.size=n:=by
  have:=congrArg List.length h
  rw[z3h] at this
  simp at this
  omega
 refine⟨hs,by omega,?_⟩
 apply z8z
 rw[z1k,h,z3h,hs,List.take_drop]
theorem zjd {t:ByteArray} {k j:Nat} {m:ByteArray} (hm:z3q[j]?=some m) (h:z87 t k m):zko ((t.extract k t.size).data.toList.take m.size)=true:=by
 refine zoa hm ?_
 rw[ByteArray.toList_eq,z3h,List.take_drop,← z1k,h.2]
theorem zl7 {t:ByteArray} {k:Nat} (hk:k≤t.size) (h:∀ (j:Nat) (m:ByteArray),z3q[j]?=some m→¬ z87 t k m):zat (t.extract k t.size)=0:=by
 unfold zat
 rw[z2h,if_neg,if_neg]
 ·rintro⟨h1,h2⟩
  obtain⟨j,m,hm,he⟩:=z8j h2
  exact h j m hm (z5u hk h1 he).2
 ·rintro⟨h1,h2⟩
  obtain⟨j,m,hm,he⟩:=z8j h2
  exact h j m hm (z5u hk h1 he).2
theorem zf6 {t:ByteArray} {k i:Nat} {m:ByteArray} (hk:k≤t.size) (h:∀ (j:Nat) (m:ByteArray),j<i→z3q[j]?=some m→¬ z87 t k m) (hm:z3q[i]?=some m) (hst:z87 t k m):zat (t.extract k t.size)=m.size:=by
 have hs:=zcz hm
 have hi:=zjd hm hst
 have hle:=hst.1
 unfold zat
 rw[z2h]
 by_cases h5:i<5
 ·rw[if_pos h5] at hs
  rw[hs] at hi ⊢
  rw[if_pos ⟨by omega,hi⟩]
 ·rw[if_neg h5] at hs
  rw[hs] at hi ⊢
  rw[if_neg,if_pos ⟨by omega,hi⟩]
  rintro⟨h1,h2⟩
  obtain⟨j,m2,hm2,he⟩:=z8j h2
  obtain⟨hs2,hst2⟩:=z5u hk h1 he
  have hj:=zcz hm2
  rw[hs2] at hj
  by_cases hj5:j<5
  ·exact h j m2 (by omega) hm2 hst2
  ·rw[if_neg hj5] at hj
   omega
theorem zcf (t:ByteArray) (k:Nat) (w:World) (hs:t.size≤4194304) (hk:k<t.size) :
 Calls Tryz.prog 161 #[.string t,.int .i64 k] w fun e w'=>e=.returned (.string (t.extract k (k+zat (t.extract k t.size))))∧Below w.heap.size w w':=by
 go_enter Tryz.func161,Tryz.ntmps161
 go_wp2_with fail
 refine(zf2 _).mono ?_
 rintro e w1 ⟨hb,v,rfl,ho⟩
 rw[z6s] at ho
 rcases ho.2 with⟨_,e⟩|⟨g,cap,cur,rfl,_⟩
 ·omega
 go_wp2
 go_loopw [6] (fun i wr=>∃ (j q:Nat),j≤21∧i=.int .i64 j∧wr=w1.drewN q∧Hid (∀ (n:Nat) (m:ByteArray),n<j→z3q[n]?=some m→¬ z87 t k m)) (fun i _=>21-(intOf i).toNat)
 case atStart=>exact⟨0,0,by omega,rfl,rfl,z00 fun n m h=>by omega⟩
 case round =>
  obtain⟨j,q,hj,rfl,rfl,HB⟩:=hrel
  by_cases hlt:j<21
  ·obtain⟨m,hm⟩:∃ m,z3q[j]?=some m:=⟨_,List.getElem?_eq_getElem (by rw[z6s];exact hlt)⟩
   have hc:=ho.cellAt j (by omega)
   rw[show (z0h z3q)[j]?=some (.string m) by simp[z0h,hm]] at hc
   have hmsz:m.size≤2:=by have:=zcz hm;split at this<;>omega
   have HM:=z00 hm
   clear hm
   have hA:(0:Int)≤(j:Int):=by omega
   have hB:(j:Int)<21:=by omega
   by_cases hfit:k+m.size≤t.size
   ·have hfd:decide ((k:Int)+m.size≤(t.size:Int))=true:=by simp;omega
    have hfi:(k:Int)+m.size≤(t.size:Int):=by omega
    have hsl:=z30 (P:=Tryz.prog) 9 t k (k+m.size) (k:Int) ((k:Int)+m.size) Tryz.underlying9 rfl (by omega) (by omega) hfit
    obtain⟨u,hu⟩:∃ u,u=t.extract k (k+m.size):=⟨_,rfl⟩
    rw[← hu] at hsl
    have HU:=z00 hu
    clear hu
    have hwr:IntKind.i64.wrap ((k:Int)+m.size)=(k:Int)+m.size:=IntWalk.i64_in _ ⟨by omega,by omega⟩
    cases hE:(u.toList==m.toList)
    ·go_wp2
     go_quiet (fail)
     go_wp2
     go_roundw
     case rel=>exact⟨j+1,q+nq,by omega,by go_num,rfl,z00 fun n m' h1 h2=>by
      by_cases e:n=j
      ·subst e
       have:=HM.out
       rw[h2] at this
       cases this
       intro h
       have h3:=h.2
       rw[← HU.out] at h3
       rw[h3] at hE
       simp at hE
      ·exact HB.out n m' (by omega) h2⟩
     case measure=>simp[intOf];omega
    ·go_wp2
     go_quiet (fail)
     go_wp2
     go_ret
     have hum:u=m:=by rw[zae,decide_eq_true_eq] at hE;exact hE
     have hst:z87 t k m:=⟨hfit,by rw[← HU.out];exact hum⟩
     refine⟨zaa ?_,z1x hb _⟩
     rw[zf6 (by omega) HB.out HM.out hst]
     exact hst.2.symm
   ·have hfd:decide ((k:Int)+m.size≤(t.size:Int))=false:=by simp;omega
    have hwr:IntKind.i64.wrap ((k:Int)+m.size)=(k:Int)+m.size:=IntWalk.i64_in _ ⟨by omega,by omega⟩
    go_wp2
    go_quiet (fail)
    go_wp2
    go_roundw
    case rel=>exact⟨j+1,q+nq,by omega,by go_num,rfl,z00 fun n m' h1 h2=>by
     by_cases e:n=j
     ·subst e
      have:=HM.out
      rw[h2] at this
      cases this
      exact fun h=>hfit h.1
     ·exact HB.out n m' (by omega) h2⟩
    case measure=>simp[intOf];omega
  ·go_wp2
   go_ret
   refine⟨zaa ?_,z1x hb _⟩
   rw[zl7 (by omega) (fun n m h=>HB.out n m (by have:=(List.getElem?_eq_some_iff.1 h).1;rw[z6s] at this;omega) h)]
   apply z8z
   rw[z1k]
   simp
theorem zbd (s:ByteArray) (w:World) (hs:s.size≤4194304) :
 Calls Tryz.prog 159 #[.string s] w fun e w'=>e=.returned (.string (z2u s))∧w'=w:=by
 have hby:=z3x s
 go_enter Tryz.func159,Tryz.ntmps159
 go_wp2
 go_loop [3] (fun i=>∃ k:Nat,k≤s.size∧i=.int .i64 k∧Hid (∀ j,k≤j→j<s.size→by8 s j=32)) (fun i=>(intOf i).toNat)
 case atStart=>exact⟨s.size,Nat.le_refl _,rfl,fun j h1 h2=>by omega⟩
 case round =>
  obtain⟨k,hk,rfl,HB⟩:=hrel
  cases k with
  | zero =>
    have hsl:=zgc (P:=Tryz.prog) 9 s 0 (0:Int) Tryz.underlying9 rfl (Nat.zero_le _)
    go_wp2
    go_ret
    exact⟨zaa (by have h:=z4c (Nat.zero_le _) HB.out (fun h=>by omega);rw[← h];simp),rfl⟩
  | succ k =>
    have hr:=z1f s k
    by_cases h32:by8 s k=32
    ·have h32':(by8 s k==32)=true:=by simp[h32]
     have H32:=z00 h32
     clear h32
     go_wp2
     go_round
     case rel=>exact⟨k,by omega,by go_num,z00 fun j h1 h2=>by
      by_cases e:j=k
      ·subst e;exact H32.out
      ·exact HB.out j (by omega) h2⟩
     case measure=>simp[intOf]
    ·have h32':(by8 s k==32)=false:=by rw[beq_eq_false_iff_ne];exact h32
     have H32:=z00 h32
     clear h32
     have hsl:=zgc (P:=Tryz.prog) 9 s (k+1) ((k:Int)+1) Tryz.underlying9 (by omega) hk
     go_wp2
     go_ret
     exact⟨zaa (z4c hk HB.out (fun _=>by simpa using H32.out)),rfl⟩
theorem z16 {P:Program} {fn:Func} {p u:Tmp} {ty:TypeId} (h:fn.results=#[.cell p ty,.tmp u]) (tmps:Array Value) (w:World) (g:Nat) (c0 c1 c2 c3:Value) (d:TypeDesc)
 (hp:tmps.getD p undef=.pointer (some ⟨g,0,none⟩)) (h0:w.cell? ⟨g,0,none⟩=some c0) (h1:w.cell? ⟨g,1,none⟩=some c1) (h2:w.cell? ⟨g,2,none⟩=some c2) (h3:w.cell? ⟨g,3,none⟩=some c3)
 (hu:P.underlying ty=some d) (hd:d.isRow=true) (hi:(P.info? ty).map (·.size)=some 4) :
 (results fn tmps).run P w=.ok (.tuple #[.agg #[c0,c1,c2,c3],tmps.getD u undef]) w:=by
 have hr:w.rangeAt g 0 [c0,c1,c2,c3]:=by
  intro j v hv
  match j with
  | 0=>simpa using h0.trans hv
  | 1=>simpa using h1.trans hv
  | 2=>simpa using h2.trans hv
  | 3=>simpa using h3.trans hv
  | j+4=>simp at hv
 rw[results_cell_tmp h,hp]
 simp only[asAddr,Sem.run_pure,Result.andThen_ok]
 rw[run_loadVar_mid w g 0 ty [c0,c1,c2,c3] d hr hu hd (by simpa using hi)]
 rfl
def z2m (t:ByteArray) (k:Nat) (kd:Int) (x:ByteArray) (n:Nat):Prop:=
 ((hd (t.extract k t.size)).2=0∧n=0) ∨
 ((hd (t.extract k t.size)).2≠0∧kd=(hd (t.extract k t.size)).1∧x=t.extract k (k+(hd (t.extract k t.size)).2)∧(hd (t.extract k t.size)).2≤n∧k+n≤t.size∧∀ j,(hd (t.extract k t.size)).2≤j→j<n→by8 t (k+j)=32)
theorem z42 {t:ByteArray} {k n:Nat} {kd:Int} (h:hd (t.extract k t.size)=(kd,n)) (hk:k≤t.size):z2m t k kd (t.extract k (k+n)) n:=by
 have hl:=zb0 (t.extract k t.size)
 rw[z2h,h] at hl
 simp only at hl
 unfold z2m
 rw[h]
 by_cases hn:n=0
 ·exact .inl ⟨hn,hn⟩
 ·exact .inr ⟨hn,rfl,rfl,Nat.le_refl _,by omega,fun j h1 h2=>by simp only at h1;omega⟩
theorem z4s {t:ByteArray} {k:Nat} {kd:Int} {x:ByteArray} (h:(hd (t.extract k t.size)).2=0):z2m t k kd x 0:=.inl ⟨h,rfl⟩
theorem z6e (p:Int→Bool) (t:ByteArray) (k:Nat):spn p (t.extract k t.size) 0=spn p t k:=by rw[zal,Nat.add_zero]
theorem z1r (t:ByteArray) (k:Nat):by8 (t.extract k t.size) 0=by8 t k:=by rw[z3g,Nat.add_zero]
theorem zgd {t:ByteArray} {k n:Nat} (h:k+n≤t.size):(t.extract k t.size).extract 0 n=t.extract k (k+n):=by
 rw[zam,Nat.add_zero,Nat.min_eq_left h]
theorem zgg {t:ByteArray} {k:Nat} (hk:k<t.size) (h:0<z2b t k):z2m t k 5 (z2u (t.extract k (k+z2b t k))) (z2b t k)∧k+z2b t k≤t.size:=by
 by_cases h47:by8 t k=47∧by8 t (k+1)=47
 ·by_cases hbad:k+spn z2v t k<t.size∧by8 t (k+spn z2v t k)≠10
  ·have:z2b t k=0:=by unfold z2b;rw[if_pos h47,if_pos hbad]
   omega
  ·have e:z2b t k=spn z2v t k:=by unfold z2b;rw[if_pos h47,if_neg hbad]
   have hle:=z3d (p:=z2v) (s:=t) (k:=k) (by omega)
   rw[← e] at hle hbad
   have hz:zar (t.extract k t.size)=(z2u (t.extract k (k+z2b t k))).size:=by
    unfold zar
    rw[z6e,← e,z3g,z2h,if_neg (fun h=>hbad ⟨by omega,h.2⟩),zgd hle]
   have hh:hd (t.extract k t.size)=(5,(z2u (t.extract k (k+z2b t k))).size):=by
    rw[z7s (by rw[z1r,z3g];exact h47),hz]
   obtain⟨m,hm1,hm2,hm3,hm4⟩:=zbi (t.extract k (k+z2b t k))
   have hsz:(t.extract k (k+z2b t k)).size=z2b t k:=by simp;omega
   rw[hsz] at hm1 hm4
   have hpos:m≠0:=by
    intro e0
    have:=hm4 0 (by omega) h
    rw[z5i (by omega),Nat.add_zero] at this
    omega
   refine⟨.inr ?_,hle⟩
   rw[hh]
   refine⟨by rw[hm3];exact hpos,rfl,?_,by rw[hm3];exact hm1,hle,fun j h1 h2=>?_⟩
   ·show z2u _=t.extract k (k+(z2u (t.extract k (k+z2b t k))).size)
    rw[hm3,hm2]
    apply z8z
    rw[z1k,z1k,z1k,List.drop_zero,List.drop_take,List.drop_take,List.take_take]
    congr 1
    omega
   ·have h3:=hm4 j (by rw[hm3] at h1;exact h1) h2
    rw[z5i (by omega)] at h3
    exact h3
 ·have:z2b t k=0:=by unfold z2b;rw[if_neg h47]
  omega
theorem zgk:(zv5.all fun p=>p.1.head? != some 47)=true:=by decide
theorem zbk {l:List UInt8} (h:l.head?=some 47):zko l=false:=by
 unfold zko
 rw[List.any_eq_false]
 intro p hp he
 have h1:=List.all_eq_true.1 zgk p hp
 have h2:p.1=l:=by simpa using he
 rw[h2,h] at h1
 simp at h1
theorem zle {r:ByteArray} {c:UInt8} (hc:c≠0) (h:by8 r 0=(c.toNat:Int)):∀ n,0<n→(r.data.toList.take n).head?=some c:=by
 intro n hn
 unfold by8 at h
 cases hl:r.data.toList with
 | nil =>
   rw[hl] at h
   have:c.toNat=0:=by simp at h;omega
   exact absurd (UInt8.toNat_inj.1 (by rw[this];rfl)) hc
 | cons u l =>
   rw[hl] at h
   simp only[List.getD_cons_zero] at h
   obtain⟨m,rfl⟩:∃ m,n=m+1:=⟨n-1,by omega⟩
   rw[List.take_succ_cons]
   simp only[List.head?_cons,Option.some.injEq]
   exact UInt8.toNat_inj.1 (by omega)
theorem zgw {r:ByteArray} (h:by8 r 0=47):zat r=0:=by
 have hh:=zle (r:=r) (c:=47) (by decide) h
 unfold zat
 rw[if_neg (fun x=>by rw[zbk (hh 2 (by omega))] at x;exact absurd x.2 (by decide)),if_neg (fun x=>by rw[zbk (hh 1 (by omega))] at x;exact absurd x.2 (by decide))]
theorem zgv {t:ByteArray} {k:Nat} (hk:k<t.size) (hn:z2b t k=0) (h1:z2f (by8 t k)=false) (h2:z3u (by8 t k)=false) (h3:by8 t k≠39) :
 z2m t k 4 (t.extract k (k+zat (t.extract k t.size))) (t.extract k (k+zat (t.extract k t.size))).size:=by
 by_cases h47:by8 t k=47∧by8 t (k+1)=47
 ·have hz:zat (t.extract k t.size)=0:=zgw (by rw[z1r];exact h47.1)
  have hh:hd (t.extract k t.size)=(5,zar (t.extract k t.size)):=z7s (by rw[z1r,z3g];exact h47)
  have hle:=z3d (p:=z2v) (s:=t) (k:=k) (by omega)
  have h0:zar (t.extract k t.size)=0:=by
   unfold z2b at hn
   rw[if_pos h47] at hn
   unfold zar
   rw[z6e,z3g,z2h]
   by_cases hbad:k+spn z2v t k<t.size∧by8 t (k+spn z2v t k)≠10
   ·rw[if_pos ⟨by omega,hbad.2⟩]
   ·rw[if_neg hbad] at hn
    have:0<spn z2v t k:=(z8l hk).2 (by rw[h47.1];decide)
    omega
  have hsz:(t.extract k (k+zat (t.extract k t.size))).size=0:=by rw[hz];simp
  rw[hsz]
  exact z4s (by rw[hh];exact h0)
 ·have hh:hd (t.extract k t.size)=(4,zat (t.extract k t.size)):=zc4 (by rw[z1r];exact h1) (by rw[z1r];exact h2) (by rw[z1r];exact h3) (by rw[z1r,z3g];exact h47)
  have hl:=zb0 (t.extract k t.size)
  rw[z2h,hh] at hl
  simp only at hl
  have hsz:(t.extract k (k+zat (t.extract k t.size))).size=zat (t.extract k t.size):=by simp;omega
  rw[hsz]
  exact z42 hh (by omega)
theorem z3i:(Tryz.prog.info? 105).map (·.size)=some 4:=by kernel_rfl
theorem zep {a:Value} {i j:Int} (h:i=j):Ending.returned (.tuple #[a,.int .i64 i])=.returned (.tuple #[a,.int .i64 j]):=by rw[h]
def z6p (t:ByteArray) (k:Nat) (w:World) (e:Ending) (w':World):Prop:=
 Below w.heap.size w w'∧∃ (kd:Int) (x:ByteArray) (p:Int) (n:Nat),e=.returned (.tuple #[.agg #[.int .i64 kd,.string x,.int .i64 p,.bool false],.int .i64 n])∧(n≠0→p=k)∧z2m t k kd x n
theorem zf7 (t:ByteArray) (k:Nat) (w:World) (hs:t.size≤4194304) (hk:k<t.size) (hn:0<z2b t k) :
 Calls Tryz.prog 118 #[.string t,.int .i64 k] w fun e w'=>z6p t k w e w':=by
 obtain⟨hok,hle⟩:=zgg hk hn
 have hN:=fun W=>z48 t k W hs hk
 obtain⟨n,en⟩:∃ n,n=z2b t k:=⟨_,rfl⟩
 rw[← en] at hok hle hN hn
 clear en
 have hsl:=z30 (P:=Tryz.prog) 9 t k (k+n) (k:Int) ((k:Int)+n) Tryz.underlying9 rfl (by omega) (by omega) hle
 have hT:=fun W=>zbd (t.extract k (k+n)) W (by simp;omega)
 obtain⟨u,hu⟩:∃ u,u=z2u (t.extract k (k+n)):=⟨_,rfl⟩
 rw[← hu] at hT hok
 clear hu
 have HO:=z00 hok
 clear hok
 go_enter Tryz.func118,Tryz.ntmps118
 go_wp2_with fail
 refine(hN _).mono ?_
 rintro e w1 ⟨rfl,rfl⟩
 go_wp2_with fail
 refine(hT _).mono ?_
 rintro e w1 ⟨rfl,rfl⟩
 go_wp2
 refine bodyPost_ret (z16 rfl _ _ w.heap.size (.int .i64 5) (.string u) (.int .i64 k) (.bool false) _ rfl (by simp) (by simp) (by simp) (by simp) Tryz.underlying105 rfl z3i) rfl ?_
 exact⟨(Below.refl _ _).alloc (Nat.le_refl _) _,_,_,_,n,rfl,fun _=>rfl,HO.out⟩
theorem zff (t:ByteArray) (k:Nat) (w:World) (hs:t.size≤4194304) (hk:k<t.size) (hn:z2b t k=0) (hf:z2f (by8 t k)=false) (hF:z3u (by8 t k)=true) :
 Calls Tryz.prog 118 #[.string t,.int .i64 k] w fun e w'=>z6p t k w e w':=by
 have hhd:hd (t.extract k t.size)=(1,z5h 30 (spn z3r t k)):=by rw[z5f (by rw[z1r];exact hf) (by rw[z1r];exact hF),z6e]
 have hN:=fun W=>z48 t k W hs hk
 rw[hn] at hN
 have hC:=fun W=>z4i (by8 t k) W
 rw[hF] at hC
 have hby:=z3x t
 have hbr:=z1f t k
 have HH:=z00 hhd
 clear hhd hn hf hF
 go_enter Tryz.func118,Tryz.ntmps118
 go_wp2_with fail
 refine(hN _).mono ?_
 rintro e w1 ⟨rfl,rfl⟩
 go_wp2_with fail
 refine(hC _).mono ?_
 rintro e w1 ⟨rfl,rfl⟩
 go_wp2
 go_loop [6] (fun i=>∃ j:Nat,k+j≤t.size∧i=.int .i64 ((k:Int)+j)∧Hid (∀ m,m<j→z3r (by8 t (k+m))=true)) (fun i=>t.size-(intOf i).toNat)
 case atStart=>exact⟨0,by omega,by go_num,z00 fun m h=>by omega⟩
 case round =>
  obtain⟨j,hj,rfl,HA⟩:=hrel
  clear hN hC
  by_cases hlt:k+j<t.size
  ·have hA:(0:Int)≤(k:Int)+j:=by omega
   have hB:(k:Int)+j<(t.size:Int):=by omega
   have hbj:=z1f t (k+j)
   have hix:((k:Int)+j).toNat=k+j:=by omega
   have h1:=fun W=>z4i (by8 t (k+j)) W
   have h2:=fun W=>z4b (by8 t (k+j)) W
   cases hP:z3u (by8 t (k+j))
   ·rw[hP] at h1
    cases hQ:z2f (by8 t (k+j))
    ·rw[hQ] at h2
     have hS:spn z3r t k=j:=z2s j k hj HA.out (fun _=>by unfold z3r;rw[hP,hQ];rfl)
     rw[hS] at HH
     clear hS hP hQ
     by_cases hbg:30<j
     ·have hok:z2m t k 0 ⟨#[]⟩ 0:=z4s (by rw[HH.out];unfold z5h;rw[if_pos hbg])
      have HO:=z00 hok
      clear hok
      go_wp2_with (first|(go_at_call 113;refine(h1 _).mono ?_;rintro e w1 ⟨rfl,rfl⟩)|(go_at_call 115;refine(h2 _).mono ?_;rintro e w1 ⟨rfl,rfl⟩))
      refine bodyPost_ret (z16 rfl _ _ w.heap.size (.int .i64 0) (.string ⟨#[]⟩) (.int .i64 0) (.bool false) _ rfl (by simp) (by simp) (by simp) (by simp) Tryz.underlying105 rfl z3i) rfl ?_
      exact⟨(Below.refl _ _).alloc (Nat.le_refl _) _,_,_,_,0,rfl,fun h=>absurd rfl h,HO.out⟩
     ·have hok:z2m t k 1 (t.extract k (k+j)) j:=z42 (by rw[HH.out];unfold z5h;rw[if_neg hbg]) (by omega)
      have hsl:=z30 (P:=Tryz.prog) 9 t k (k+j) (k:Int) ((k:Int)+j) Tryz.underlying9 rfl (by omega) (by omega) hj
      obtain⟨u,hu⟩:∃ u,u=t.extract k (k+j):=⟨_,rfl⟩
      rw[← hu] at hok hsl
      clear hu
      have HO:=z00 hok
      clear hok
      go_wp2_with (first|(go_at_call 113;refine(h1 _).mono ?_;rintro e w1 ⟨rfl,rfl⟩)|(go_at_call 115;refine(h2 _).mono ?_;rintro e w1 ⟨rfl,rfl⟩))
      refine bodyPost_ret (z16 rfl _ _ w.heap.size (.int .i64 1) (.string u) (.int .i64 k) (.bool false) _ rfl (by simp) (by simp) (by simp) (by simp) Tryz.underlying105 rfl z3i) rfl ?_
      exact⟨(Below.refl _ _).alloc (Nat.le_refl _) _,_,_,_,j,zep (by omega),fun _=>rfl,HO.out⟩
    ·rw[hQ] at h2
     have HP:=z00 (show z3r (by8 t (k+j))=true by unfold z3r;rw[hP,hQ];rfl)
     clear hP hQ
     go_wp2_with (first|(go_at_call 113;refine(h1 _).mono ?_;rintro e w1 ⟨rfl,rfl⟩)|(go_at_call 115;refine(h2 _).mono ?_;rintro e w1 ⟨rfl,rfl⟩))
     refine⟨⟨j+1,by omega,by go_num,z00 fun m hm=>?_⟩,?_⟩
     ·by_cases e:m=j
      ·subst e;exact HP.out
      ·exact HA.out m (by omega)
     ·simp only[intOf];omega
   ·rw[hP] at h1
    have HP:=z00 (show z3r (by8 t (k+j))=true by unfold z3r;rw[hP];rfl)
    clear hP
    go_wp2_with (first|(go_at_call 113;refine(h1 _).mono ?_;rintro e w1 ⟨rfl,rfl⟩)|(go_at_call 115;refine(h2 _).mono ?_;rintro e w1 ⟨rfl,rfl⟩))
    refine⟨⟨j+1,by omega,by go_num,z00 fun m hm=>?_⟩,?_⟩
    ·by_cases e:m=j
     ·subst e;exact HP.out
     ·exact HA.out m (by omega)
    ·simp only[intOf];omega
  ·have hS:spn z3r t k=j:=z2s j k hj HA.out (fun h=>by omega)
   rw[hS] at HH
   clear hS
   by_cases hbg:30<j
   ·have hok:z2m t k 0 ⟨#[]⟩ 0:=z4s (by rw[HH.out];unfold z5h;rw[if_pos hbg])
    have HO:=z00 hok
    clear hok
    go_wp2
    refine bodyPost_ret (z16 rfl _ _ w.heap.size (.int .i64 0) (.string ⟨#[]⟩) (.int .i64 0) (.bool false) _ rfl (by simp) (by simp) (by simp) (by simp) Tryz.underlying105 rfl z3i) rfl ?_
    exact⟨(Below.refl _ _).alloc (Nat.le_refl _) _,_,_,_,0,rfl,fun h=>absurd rfl h,HO.out⟩
   ·have hok:z2m t k 1 (t.extract k (k+j)) j:=z42 (by rw[HH.out];unfold z5h;rw[if_neg hbg]) (by omega)
    have hsl:=z30 (P:=Tryz.prog) 9 t k (k+j) (k:Int) ((k:Int)+j) Tryz.underlying9 rfl (by omega) (by omega) hj
    obtain⟨u,hu⟩:∃ u,u=t.extract k (k+j):=⟨_,rfl⟩
    rw[← hu] at hok hsl
    clear hu
    have HO:=z00 hok
    clear hok
    go_wp2
    refine bodyPost_ret (z16 rfl _ _ w.heap.size (.int .i64 1) (.string u) (.int .i64 k) (.bool false) _ rfl (by simp) (by simp) (by simp) (by simp) Tryz.underlying105 rfl z3i) rfl ?_
    exact⟨(Below.refl _ _).alloc (Nat.le_refl _) _,_,_,_,j,zep (by omega),fun _=>rfl,HO.out⟩
theorem zhb (t:ByteArray) (k:Nat) (w:World) (hs:t.size≤4194304) (hk:k<t.size) (hn:z2b t k=0) (hf:z2f (by8 t k)=true) (hF:z3u (by8 t k)=false) :
 Calls Tryz.prog 118 #[.string t,.int .i64 k] w fun e w'=>z6p t k w e w':=by
 have hhd:hd (t.extract k t.size)=(2,z5h 12 (spn z2f t k)):=by rw[z5y (by rw[z1r];exact hf),z6e]
 have hN:=fun W=>z48 t k W hs hk
 rw[hn] at hN
 have hC:=fun W=>z4i (by8 t k) W
 rw[hF] at hC
 have hD:=fun W=>z4b (by8 t k) W
 rw[hf] at hD
 have hby:=z3x t
 have hbr:=z1f t k
 have HH:=z00 hhd
 clear hhd hn hf hF
 go_enter Tryz.func118,Tryz.ntmps118
 go_wp2_with fail
 refine(hN _).mono ?_
 rintro e w1 ⟨rfl,rfl⟩
 go_wp2_with fail
 refine(hC _).mono ?_
 rintro e w1 ⟨rfl,rfl⟩
 go_wp2_with fail
 refine(hD _).mono ?_
 rintro e w1 ⟨rfl,rfl⟩
 go_wp2
 go_loop [6] (fun i=>∃ j:Nat,k+j≤t.size∧i=.int .i64 ((k:Int)+j)∧Hid (∀ m,m<j→z2f (by8 t (k+m))=true)) (fun i=>t.size-(intOf i).toNat)
 case atStart=>exact⟨0,by omega,by go_num,z00 fun m h=>by omega⟩
 case round =>
  obtain⟨j,hj,rfl,HA⟩:=hrel
  clear hN hC hD
  by_cases hlt:k+j<t.size
  ·have hA:(0:Int)≤(k:Int)+j:=by omega
   have hB:(k:Int)+j<(t.size:Int):=by omega
   have hbj:=z1f t (k+j)
   have hix:((k:Int)+j).toNat=k+j:=by omega
   have h2:=fun W=>z4b (by8 t (k+j)) W
   cases hQ:z2f (by8 t (k+j))
   ·rw[hQ] at h2
    have hS:spn z2f t k=j:=z2s j k hj HA.out (fun _=>hQ)
    rw[hS] at HH
    clear hS hQ
    by_cases hbg:12<j
    ·have hok:z2m t k 0 ⟨#[]⟩ 0:=z4s (by rw[HH.out];unfold z5h;rw[if_pos hbg])
     have HO:=z00 hok
     clear hok
     go_wp2_with (go_at_call 115;refine(h2 _).mono ?_;rintro e w1 ⟨rfl,rfl⟩)
     refine bodyPost_ret (z16 rfl _ _ w.heap.size (.int .i64 0) (.string ⟨#[]⟩) (.int .i64 0) (.bool false) _ rfl (by simp) (by simp) (by simp) (by simp) Tryz.underlying105 rfl z3i) rfl ?_
     exact⟨(Below.refl _ _).alloc (Nat.le_refl _) _,_,_,_,0,rfl,fun h=>absurd rfl h,HO.out⟩
    ·have hok:z2m t k 2 (t.extract k (k+j)) j:=z42 (by rw[HH.out];unfold z5h;rw[if_neg hbg]) (by omega)
     have hsl:=z30 (P:=Tryz.prog) 9 t k (k+j) (k:Int) ((k:Int)+j) Tryz.underlying9 rfl (by omega) (by omega) hj
     obtain⟨u,hu⟩:∃ u,u=t.extract k (k+j):=⟨_,rfl⟩
     rw[← hu] at hok hsl
     clear hu
     have HO:=z00 hok
     clear hok
     go_wp2_with (go_at_call 115;refine(h2 _).mono ?_;rintro e w1 ⟨rfl,rfl⟩)
     refine bodyPost_ret (z16 rfl _ _ w.heap.size (.int .i64 2) (.string u) (.int .i64 k) (.bool false) _ rfl (by simp) (by simp) (by simp) (by simp) Tryz.underlying105 rfl z3i) rfl ?_
     exact⟨(Below.refl _ _).alloc (Nat.le_refl _) _,_,_,_,j,zep (by omega),fun _=>rfl,HO.out⟩
   ·rw[hQ] at h2
    have HP:=z00 hQ
    clear hQ
    go_wp2_with (go_at_call 115;refine(h2 _).mono ?_;rintro e w1 ⟨rfl,rfl⟩)
    refine⟨⟨j+1,by omega,by go_num,z00 fun m hm=>?_⟩,?_⟩
    ·by_cases e:m=j
     ·subst e;exact HP.out
     ·exact HA.out m (by omega)
    ·simp only[intOf];omega
  ·have hS:spn z2f t k=j:=z2s j k hj HA.out (fun h=>by omega)
   rw[hS] at HH
   clear hS
   by_cases hbg:12<j
   ·have hok:z2m t k 0 ⟨#[]⟩ 0:=z4s (by rw[HH.out];unfold z5h;rw[if_pos hbg])
    have HO:=z00 hok
    clear hok
    go_wp2
    refine bodyPost_ret (z16 rfl _ _ w.heap.size (.int .i64 0) (.string ⟨#[]⟩) (.int .i64 0) (.bool false) _ rfl (by simp) (by simp) (by simp) (by simp) Tryz.underlying105 rfl z3i) rfl ?_
    exact⟨(Below.refl _ _).alloc (Nat.le_refl _) _,_,_,_,0,rfl,fun h=>absurd rfl h,HO.out⟩
   ·have hok:z2m t k 2 (t.extract k (k+j)) j:=z42 (by rw[HH.out];unfold z5h;rw[if_neg hbg]) (by omega)
    have hsl:=z30 (P:=Tryz.prog) 9 t k (k+j) (k:Int) ((k:Int)+j) Tryz.underlying9 rfl (by omega) (by omega) hj
    obtain⟨u,hu⟩:∃ u,u=t.extract k (k+j):=⟨_,rfl⟩
    rw[← hu] at hok hsl
    clear hu
    have HO:=z00 hok
    clear hok
    go_wp2
    refine bodyPost_ret (z16 rfl _ _ w.heap.size (.int .i64 2) (.string u) (.int .i64 k) (.bool false) _ rfl (by simp) (by simp) (by simp) (by simp) Tryz.underlying105 rfl z3i) rfl ?_
    exact⟨(Below.refl _ _).alloc (Nat.le_refl _) _,_,_,_,j,zep (by omega),fun _=>rfl,HO.out⟩
end Go.Proofs.YtekebloinobjnaaGreatDoor
