/- Texts of one proof, laid together: TrLib, MkSa, SgnS1. -/
import Derived.Test.YtekebloinobjnaaGreatDoorC03
import Derived.Test.YtekebloinobjnaaGreatDoorProg
import Derived.Test.YtekebloinobjnaaGreatDoorC02
import Derived.Laws.OwnMore
import Derived.BigQuiet
import Derived.Deep.QuietTactic
set_option maxHeartbeats 16000000
set_option maxRecDepth 100000
namespace Go.Proofs.YtekebloinobjnaaGreatDoor
open Go.RowKit
def zmj (k:Int):Prop:=1≤k∧k≤11
def z3z (k:Int):Prop:=(12≤k∧k≤17)∨k=19
def z3y (k:Int):Prop:=k=12∨k=20∨k=19
def zjy (k:Int) (n:Nat):Prop:=
 if k=4∨k=18∨k=21∨k=22 then n≤12
 else if k=5∨k=9∨k=20 then 1≤n∧n≤12
 else if k=6∨k=11∨k=13∨k=14 then n=1
 else if k=7∨k=10 then 2≤n∧n≤12
 else if k=8 then n=3
 else if k=12∨k=15 then n≤1
 else if k=16 then 2≤n∧n≤3
 else if k=17 then n=2
 else n=0
def z0f (k:Int) (i n:Nat):Nat:=
 if k=9 then (if i+1<n then 2 else 1)
 else if k=20 then (if i+1<n then 2 else 4)
 else if k=10 then (if 0<i then 3 else 1)
 else if k=16∨k=17 then (if 0<i then 4 else 1)
 else if k=18 then 5
 else if k=21 then 6
 else if k=22 then 7
 else 1
def z3s (ns:List Nd) (y:Nd):Prop:=y.kind=5→∃ z:Int,y.kids[0]?=some z∧0≤z∧z<(ns.length:Int)
def z7j (ns:List Nd) (y:Nd):Prop:=y.kind=5∧∃ (z:Int) (u:Nd),y.kids[0]?=some z∧ns[z.toNat]?=some u∧u.kind=1
def z11 (ns:List Nd) (y:Nd) (r:Nat):Prop:=
 match r with
 | 1=>zmj y.kind
 | 2=>y.kind=1
 | 3=>z7j ns y
 | 4=>y.kind=18
 | 5=>z3z y.kind
 | 6=>z3y y.kind
 | _=>z3y y.kind∨y.kind=21
structure NodeP (ns:List Nd) (k:Nat) (x:Nd):Prop where
 kind:1≤x.kind∧x.kind≤22
 cnt:zjy x.kind x.kids.length
 blank:x.blank=true→z3z x.kind∨x.kind=20∨x.kind=21
 place:∀ (i:Nat) (z:Int),x.kids[i]?=some z→0≤z∧z<(k:Int)
 once:∀ (i j:Nat) (z:Int),i<j→x.kids[i]?=some z→x.kids[j]?=some z→False
 fits:∀ (i:Nat) (z:Int) (y:Nd),x.kids[i]?=some z→ns[z.toNat]?=some y→z3s ns y∧z11 ns y (z0f x.kind i x.kids.length)
theorem z34 {k:Int} {n:Nat} (h:zjy k n):n≤12:=by
 unfold zjy at h
 split at h
 ·exact h
 split at h
 ·exact h.2
 split at h
 ·omega
 split at h
 ·exact h.2
 split at h
 ·omega
 split at h
 ·omega
 split at h
 ·omega
 split at h<;>omega
def z94 (ds:List Nat):List Int→Nat
 | []=>0
 | z::zs=>max (ds.getD z.toNat 0) (z94 ds zs)
theorem zhm (ds:List Nat) (zs:List Int) (z:Int):z94 ds (zs++[z])=max (z94 ds zs) (ds.getD z.toNat 0):=by
 induction zs with
 | nil=>simp[z94]
 | cons a tl ih =>
   simp only[List.cons_append,z94,ih]
   omega
def z5q (ns:List Nd):Nat→List Nat→Prop
 | 0,ds=>ds=[]
 | k+1,ds=>∃ (ds':List Nat) (x:Nd),z5q ns k ds'∧ns[k]?=some x∧NodeP ns k x∧z94 ds' x.kids<14∧ds=ds'++[z94 ds' x.kids+1]
theorem z3m {ns:List Nd}:∀ {k:Nat} {ds:List Nat},z5q ns k ds→ds.length=k
 | 0,_,h=>by rw[h];rfl
 | k+1,_,⟨ds',x,h1,_,_,_,h5⟩=>by rw[h5];simp[z3m h1]
theorem z7x {ns:List Nd}:∀ {k:Nat} {ds ds':List Nat},z5q ns k ds→z5q ns k ds'→ds=ds'
 | 0,_,_,h1,h2=>h1.trans h2.symm
 | k+1,_,_,⟨a,x,h1,h2,_,_,h5⟩,⟨b,y,g1,g2,_,_,g5⟩=>by
   have e:=z7x h1 g1
   rw[h2] at g2
   injection g2 with g2
   rw[h5,g5,e,g2]
theorem z6g {ns:List Nd}:∀ {k:Nat} {ds:List Nat},z5q ns k ds→∀ d∈ds,1≤d∧d≤14
 | 0,_,h,d,hd=>by rw[h] at hd;cases hd
 | k+1,_,⟨ds',x,h1,_,_,h4,h5⟩,d,hd=>by
   rw[h5] at hd
   rcases List.mem_append.1 hd with h6|h6
   ·exact z6g h1 d h6
   ·have:d=z94 ds' x.kids+1:=by simpa using h6
    omega
def z79 (ns:List Nd) (k:Nat):Prop:=∃ ds,z5q ns k ds
theorem zb6 {ns:List Nd}:∀ {k:Nat},z79 ns (k+1)→z79 ns k
 | _,⟨_,ds',_,h1,_⟩=>⟨ds',h1⟩
theorem z8k {ns:List Nd} {j:Nat}:∀ {k:Nat},z79 ns k→j≤k→z79 ns j
 | 0,h,hj=>by rw[show j=0 by omega];exact h
 | k+1,h,hj=>by
   rcases Nat.lt_or_ge j (k+1) with h1|h1
   ·exact z8k (zb6 h) (by omega)
   ·rw[show j=k+1 by omega];exact h
def occ (i:Nat):List Int→Nat
 | []=>0
 | z::zs=>(if z=(i:Int) then 1 else 0)+occ i zs
theorem zka (i:Nat) (zs:List Int) (z:Int):occ i (zs++[z])=occ i zs+(if z=(i:Int) then 1 else 0):=by
 induction zs with
 | nil=>simp[occ]
 | cons a tl ih=>simp only[List.cons_append,occ,ih];omega
theorem zim (i:Nat):∀ (zs:List Int),occ i zs≤zs.length
 | []=>Nat.le_refl _
 | z::zs=>by
   have:=zim i zs
   simp only[occ,List.length_cons]
   split<;>omega
def z5m (i:Nat):List Nd→Nat
 | []=>0
 | x::xs=>occ i x.kids+z5m i xs
theorem zik (i:Nat) (xs:List Nd) (x:Nd):z5m i (xs++[x])=z5m i xs+occ i x.kids:=by
 induction xs with
 | nil=>simp[z5m]
 | cons a tl ih=>simp only[List.cons_append,z5m,ih];omega
theorem zi5 (i:Nat):∀ (xs:List Nd),(∀ x∈xs,x.kids.length≤12)→z5m i xs≤12*xs.length
 | [],_=>Nat.le_refl _
 | x::xs,h=>by
   have h1:=zi5 i xs (fun y hy=>h y (List.mem_cons_of_mem _ hy))
   have h2:=zim i x.kids
   have h3:=h x List.mem_cons_self
   simp only[z5m,List.length_cons]
   omega
structure TreeP (ns:List Nd):Prop where
 least:1≤ns.length
 most:ns.length≤300
 last:∃ x,ns[ns.length-1]?=some x∧x.kind=22
 deep:z79 ns ns.length
 used:∀ i,i+1<ns.length→z5m i ns=1
theorem z0x {ns:List Nd} {k j:Nat} {x:Nd} (h:z79 ns k) (hj:j<k) (hx:ns[j]?=some x):NodeP ns j x:=by
 obtain⟨ds,ds',y,h1,h2,h3,_⟩:=z8k h (show j+1≤k from hj)
 rw[hx] at h2
 injection h2 with h2
 rw[h2]
 exact h3
def z3q:List ByteArray:=zv5.map fun p=>⟨p.1.toArray⟩
theorem z6s:z3q.length=21:=rfl
theorem zbe:(#[.string ⟨#[38,38]⟩,.string ⟨#[124,124]⟩,.string ⟨#[61,61]⟩,.string ⟨#[61,62]⟩,.string ⟨#[46,46]⟩,.string ⟨#[40]⟩,.string ⟨#[41]⟩,.string ⟨#[123]⟩,.string ⟨#[125]⟩,.string ⟨#[91]⟩,.string ⟨#[93]⟩,.string ⟨#[59]⟩,.string ⟨#[44]⟩,.string ⟨#[46]⟩,.string ⟨#[61]⟩,.string ⟨#[43]⟩,.string ⟨#[45]⟩,.string ⟨#[42]⟩,.string ⟨#[60]⟩,.string ⟨#[63]⟩,.string ⟨#[58]⟩]:Array Value).toList=z0h z3q:=rfl
theorem zf2 (w:World):Calls Tryz.prog 187 #[] w fun e w'=>zhk z3q 9 w e w':=by
 go_enter Tryz.func187,Tryz.ntmps187
 go_wp2
 go_ret
 refine⟨(Below.refl _ _).alloc (Nat.le_refl _) _,_,rfl,?_⟩
 exact⟨rfl,.inr ⟨w.heap.size,21,_,rfl,Nat.le_refl _,heap_alloc_new w _,by decide,by decide,rfl,by rw[List.take_of_length_le (by decide)];exact zbe⟩⟩
theorem zoa {l:List UInt8} {k:Nat} {t:ByteArray} (h:z3q[k]?=some t) (he:t.toList=l):zko l=true:=by
 subst he
 obtain⟨hk,e⟩:=List.getElem?_eq_some_iff.1 h
 unfold zko
 rw[List.any_eq_true]
 simp[z3q] at e hk
 refine⟨zv5[k],List.getElem_mem _,?_⟩
 rw[← e]
 simp[ByteArray.toList_eq]
theorem z4b (r:Int) (w:World):Calls Tryz.prog 115 #[.int .u8 r] w fun e w'=>e=.returned (.bool (z2f r))∧w'=w:=by
 by_cases h1:48≤r
 all_goals go_enter Tryz.func115,Tryz.ntmps115
 all_goals go_wp2
 all_goals go_ret
 all_goals exact⟨z0l (by first|(simp[z2f, *];done)|(simp[z2f];omega)),rfl⟩
theorem zdk (r:Int) (w:World):Calls Tryz.prog 186 #[.int .u8 r] w fun e w'=>e=.returned (.bool (z2v r))∧w'=w:=by
 by_cases h1:32≤r
 all_goals go_enter Tryz.func186,Tryz.ntmps186
 all_goals go_wp2
 all_goals go_ret
 all_goals exact⟨z0l (by first|(simp[z2v, *];done)|(simp[z2v];omega)),rfl⟩
theorem z4i (r:Int) (w:World):Calls Tryz.prog 113 #[.int .u8 r] w fun e w'=>e=.returned (.bool (z3u r))∧w'=w:=by
 have key:(97≤r∧r≤122)∨(97≤r∧122<r∧65≤r∧90<r∧(r==95)=false)∨(r<97∧65≤r∧r≤90)∨(r<97∧65≤r∧90<r∧(r==95)=true)∨(r<97∧65≤r∧90<r∧(r==95)=false)∨(r<97∧r<65∧(r==95)=false):=by
  simp only[beq_iff_eq,beq_eq_false_iff_ne]
  omega
 rcases key with⟨h1,h2⟩|⟨h1,h2,h3,h4,h5⟩|⟨h1,h3,h4⟩|⟨h1,h3,h4,h5⟩|⟨h1,h3,h4,h5⟩|⟨h1,h3,h5⟩
 all_goals go_enter Tryz.func113,Tryz.ntmps113
 all_goals go_wp2
 all_goals go_ret
 all_goals refine⟨z0l ?_,rfl⟩
 all_goals (rw[Bool.eq_iff_iff];simp[z3u];(try simp at h5);(try omega))
theorem zsv {t:ByteArray} {k:Nat} (h:k+2≤t.size):((t.extract k (k+2)).toList==[47,47])=((by8 t k==47)&&(by8 t (k+1)==47)):=by
 have key:∀ u:UInt8,(u==(47:UInt8))=((u.toNat:Int)==47):=fun u=>by
  rw[Bool.eq_iff_iff]
  simp only[beq_iff_eq]
  constructor
  ·rintro rfl;rfl
  ·intro h
   have h47:u.toNat=47:=by omega
   exact UInt8.toNat_inj.1 (by rw[h47];rfl)
 rw[ByteArray.toList_eq,z1k,List.drop_take,show k+2-k=2 by omega,zab t k (by omega),zab t (k+1) (by omega)]
 unfold by8
 rw[← key,← key]
 simp[List.take_succ_cons]
def z2b (t:ByteArray) (k:Nat):Nat:=if by8 t k=47∧by8 t (k+1)=47 then (if k+spn z2v t k<t.size∧by8 t (k+spn z2v t k)≠10 then 0 else spn z2v t k) else 0
theorem z48 (t:ByteArray) (k:Nat) (w:World) (hs:t.size≤4194304) (hk:k<t.size) :
 Calls Tryz.prog 158 #[.string t,.int .i64 k] w fun e w'=>e=.returned (.int .i64 (z2b t k))∧w'=w:=by
 by_cases h2:k+2≤t.size
 ·have hT:=zsv h2
  have hsl:=z30 (P:=Tryz.prog) 9 t k (k+2) (k:Int) ((k:Int)+2) Tryz.underlying9 rfl (by omega) (by omega) h2
  obtain⟨u,hu⟩:∃ u,u=t.extract k (k+2):=⟨_,rfl⟩
  rw[← hu] at hT hsl
  clear hu
  cases hN:((by8 t k==47)&&(by8 t (k+1)==47))
  ·have hM:(u.toList==[47,47])=false:=by rw[hT,hN]
   have hr:z2b t k=0:=by
    unfold z2b
    rw[if_neg (fun h=>by simp[h.1,h.2] at hN)]
   rw[hr]
   clear hT hN hr
   go_enter Tryz.func158,Tryz.ntmps158
   go_wp2
   go_ret
   exact⟨rfl,rfl⟩
  ·have hM:(u.toList==[47,47])=true:=by rw[hT,hN]
   have hr:z2b t k=(if k+spn z2v t k<t.size∧by8 t (k+spn z2v t k)≠10 then 0 else spn z2v t k):=by
    unfold z2b
    rw[if_pos (by simpa using hN)]
   have HR:=z00 hr
   clear hT hN hr
   have hby:=z3x t
   go_enter Tryz.func158,Tryz.ntmps158
   go_wp2
   go_loop [5] (fun i=>∃ j:Nat,k+j≤t.size∧i=.int .i64 ((k:Int)+j)∧Hid (∀ m,m<j→z2v (by8 t (k+m))=true)) (fun i=>t.size-(intOf i).toNat)
   case atStart=>exact⟨0,by omega,by go_num,z00 fun m h=>by omega⟩
   case round =>
    obtain⟨j,hj,rfl,HA⟩:=hrel
    by_cases hlt:k+j<t.size
    ·have hA:(0:Int)≤(k:Int)+j:=by omega
     have hB:(k:Int)+j<(t.size:Int):=by omega
     have hbr:=z1f t (k+j)
     have hix:((k:Int)+j).toNat=k+j:=by omega
     by_cases h10:by8 t (k+j)=10
     ·have hS:spn z2v t k=j:=z2s j k hj HA.out (fun _=>by rw[h10];rfl)
      have HS:=z00 hS
      have h10':(by8 t (k+j) != 10)=false:=by simp[h10]
      have H10:=z00 h10
      clear h10 hS
      go_wp2
      go_ret
      exact⟨z2z (by rw[HR.out,HS.out,if_neg (fun h=>h.2 H10.out)];omega),rfl⟩
     ·have h10':(by8 t (k+j) != 10)=true:=by simpa using h10
      have H10:=z00 h10
      clear h10
      have hP:=fun W=>zdk (by8 t (k+j)) W
      cases hpl:z2v (by8 t (k+j))
      ·rw[hpl] at hP
       have hS:spn z2v t k=j:=z2s j k hj HA.out (fun _=>hpl)
       have HS:=z00 hS
       clear hS hpl
       go_wp2_with fail
       refine(hP _).mono ?_
       rintro e w ⟨rfl,rfl⟩
       go_wp2
       go_ret
       exact⟨z2z (by rw[HR.out,HS.out,if_pos ⟨by omega,H10.out⟩];rfl),rfl⟩
      ·rw[hpl] at hP
       have HP:=z00 hpl
       clear hpl
       go_wp2_with fail
       refine(hP _).mono ?_
       rintro e w ⟨rfl,rfl⟩
       go_wp2
       go_round
       case rel=>exact⟨j+1,by omega,by go_num,z00 fun m hm=>by
        by_cases e:m=j
        ·subst e;exact HP.out
        ·exact HA.out m (by omega)⟩
       case measure=>simp[intOf];omega
    ·have hS:spn z2v t k=j:=z2s j k hj HA.out (fun h=>by omega)
     have HS:=z00 hS
     clear hS
     go_wp2
     go_ret
     exact⟨z2z (by rw[HR.out,HS.out,if_neg (fun h=>hlt h.1)];omega),rfl⟩
 ·have hr:z2b t k=0:=by
   unfold z2b
   rw[if_neg (fun h=>by have:=z67 (t:=t) (k:=k+1) (by omega);omega)]
  rw[hr]
  clear hr
  go_enter Tryz.func158,Tryz.ntmps158
  go_wp2
  go_ret
  exact⟨rfl,rfl⟩
end Go.Proofs.YtekebloinobjnaaGreatDoor
