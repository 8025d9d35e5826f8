/- Texts of one proof, laid together: RdAr, RdAw, SpI13. -/
import Derived.Test.YtekebloinobjnaaGreatDoorC02
import Derived.Test.YtekebloinobjnaaGreatDoorC23
set_option maxHeartbeats 16000000
set_option maxRecDepth 100000
namespace Go.Proofs.YtekebloinobjnaaGreatDoor
open Go.RowKit
section
variable {xs:List Sg} {O:Bool→Ps→Rs Nat}
theorem zsy:¬ ((⟨#[44]⟩:ByteArray):ByteArray)=(⟨#[40]⟩:ByteArray)∧¬ ((⟨#[44]⟩:ByteArray):ByteArray)=(⟨#[46]⟩:ByteArray)∧¬ ((⟨#[44]⟩:ByteArray):ByteArray)=(⟨#[63]⟩:ByteArray)∧¬ ((⟨#[44]⟩:ByteArray):ByteArray)=(⟨#[46,46]⟩:ByteArray)∧¬ ((⟨#[44]⟩:ByteArray):ByteArray)=(⟨#[41]⟩:ByteArray)∧lvl (⟨#[44]⟩:ByteArray)=0:=by decide
theorem zce {f v:Nat} {s:Ps} (h:txt xs s.p=(⟨#[44]⟩:ByteArray)):z4w xs O (f+1) v s=yes v s:=by
 unfold z4w
 rw[h,if_neg zsy.1,if_neg zsy.2.1]
theorem zgu {nx:Ps→Rs Nat} {lv f v:Nat} {s:Ps} (hl:lv≠0) (h:txt xs s.p=(⟨#[44]⟩:ByteArray)):chL xs nx lv (f+1) v s=yes v s:=by
 unfold chL
 rw[h,zsy.2.2.2.2.2,if_neg (fun e=>hl e.symm)]
def z4x {α:Type} (p:Nat) (r:Rs α):Prop:=∀ a s,r=yes a s→s.p=p
theorem z4x.bnd {α β:Type} {p p':Nat} {x:Rs α} {f:α→Ps→Rs β} (h:z4x p x) (hf:∀ a s,s.p=p→z4x p' (f a s)):z4x p' (bnd x f):=by
 match x,h with
 | none,_=>exact fun _ _ e=>by cases e
 | some none,_=>exact fun _ _ e=>by cases e
 | some (some (a,s)),h=>exact hf a s (h a s rfl)
theorem z4x.ok {α:Type} {a:α} {s:Ps}:z4x s.p (yes a s):=fun _ _ e=>by injection e with e;injection e with e;injection e with _ e;rw[e]
theorem zox {k:Int} {s:Ps}:z4x (s.p+1) (z7y xs k s):=by
 unfold z7y z0z
 intro a t e
 split at e
 ·cases e
 ·injection e with e
  injection e with e
  injection e with _ e
  rw[← e]
  rfl
theorem zng {s:Ps} (hn:z4r xs s.p=true):z4x (s.p+1) (z3l xs O s):=by
 unfold z3l
 rw[if_pos hn]
 exact zox
theorem zpw {s:Ps} (hn:z4r xs s.p=true) (h:txt xs (s.p+1)=(⟨#[44]⟩:ByteArray)):z4x (s.p+1) (za6 xs O s):=by
 unfold za6
 refine(zng hn).bnd fun k s1 h1=>?_
 unfold lim
 rw[zce (by rw[h1];exact h),← h1]
 exact z4x.ok
theorem zdg {s:Ps} (hn:z4r xs s.p=true) (h:txt xs (s.p+1)=(⟨#[44]⟩:ByteArray)):∀ j,j≤6→z4x (s.p+1) (z1o xs O j s)
 | 0,_=>zpw hn h
 | j+1,hj=>by
   unfold z1o
   refine(zdg hn h j (by omega)).bnd fun k s1 h1=>?_
   unfold lim
   rw[zgu (by omega) (by rw[h1];exact h),← h1]
   exact z4x.ok
theorem zo6 {s:Ps} (hn:z4r xs s.p=true) (h:txt xs (s.p+1)=(⟨#[44]⟩:ByteArray)):z4x (s.p+1) (z4u xs O s):=by
 unfold z4u
 split
 ·exact fun _ _ e=>by cases e
 refine(zdg (s:=⟨s.p,s.d+1,s.ns⟩) hn h 6 (Nat.le_refl _)).bnd fun k s1 h1=>?_
 have h1':s1.p=s.p+1:=h1
 rw[if_neg (by rw[h1',h];exact zsy.2.2.1),← h1']
 exact z4x.ok (s:=⟨s1.p,s1.d-1,s1.ns⟩)
theorem zk2 {s:Ps} (hn:z4r xs s.p=true) (h:txt xs (s.p+1)=(⟨#[44]⟩:ByteArray)):z4x (s.p+1) (z6j xs O s):=by
 unfold z6j
 refine(zo6 hn h).bnd fun k s1 h1=>?_
 unfold lim z75
 rw[if_neg (by rw[h1,h];exact zsy.2.2.2.1),z1a,if_pos (show [(k:Int)].length=1 from rfl),← h1]
 exact z4x.ok
theorem ztb {n:Nat} {s:Ps} (hn:z4r xs s.p=true) (h:txt xs (s.p+1)=(⟨#[44]⟩:ByteArray)):z4x (s.p+1) (vpF xs n true s):=by
 cases n with
 | zero=>exact fun _ _ e=>by cases e
 | succ n=>exact zk2 hn h
theorem zfu {n:Nat} {s:Ps} {o:Option (Nat×Ps)} (hp:txt xs s.p=(⟨#[40]⟩:ByteArray)) (hk:knd xs s.p=4) (ha:zh5 xs s.p=false) (hn:z4r xs (s.p+1)=true) (h:txt xs (s.p+2)=(⟨#[44]⟩:ByteArray)) (hr:z3l xs (vpF xs n) s=some o):o=none:=by
 unfold z3l at hr
 have h0:¬ z4r xs s.p=true:=by
  unfold z4r
  rw[hk]
  simp
 rw[if_neg h0,if_neg (by rw[hk];decide),if_neg (by rw[hk];decide),if_neg (by rw[hp];decide),if_neg (by rw[ha];decide),if_pos hp] at hr
 have hA:=ztb (xs:=xs) (n:=n) (s:=s.next) hn h
 match hv:vpF xs n true s.next,hr with
 | none,hr=>cases hr
 | some none,hr=>injection hr with hr;exact hr.symm
 | some (some (k,s1)),hr =>
   have h1:s1.p=s.p+2:=hA k s1 hv
   rw[z1a] at hr
   unfold z0p at hr
   rw[if_neg (by rw[h1,h];exact zsy.2.2.2.2.1),zn6] at hr
   injection hr with hr
   exact hr.symm
end
section
variable (xs:List Sg)
def zg1:Nat→Nat→Nat
 | 0,a=>a
 | f+1,a=>if a+1<xs.length∧knd xs a=1 then (if txt xs (a+1)=(⟨#[44]⟩:ByteArray) then zg1 f (a+2) else a+1) else a
def ze1 (p:Nat):Bool:=decide (txt xs p=(⟨#[40]⟩:ByteArray))&&(decide (txt xs (zg1 xs (lim xs) (p+1))=(⟨#[41]⟩:ByteArray))&&decide (txt xs (zg1 xs (lim xs) (p+1)+1)=(⟨#[61,62]⟩:ByteArray)))
def z7t:Nat→Nat→Prop
 | 0,a=>knd xs a=1∧z4r xs a=false
 | j+1,a=>z4r xs a=true∧txt xs (a+1)=(⟨#[44]⟩:ByteArray)∧z7t j (a+2)
end
section
variable {xs:List Sg}
theorem z7c {a:Nat} (h:z4r xs a=true):knd xs a=1:=by
 unfold z4r at h
 simp only[Bool.and_eq_true,beq_iff_eq] at h
 exact h.1
theorem zea (hm:∀ p,txt xs p=(⟨#[41]⟩:ByteArray)→knd xs p=4):∀ (f a:Nat),txt xs (zg1 xs f a)=(⟨#[41]⟩:ByteArray)→zn1 xs f a=zg1 xs f a∨∃ j,z7t xs j a
 | 0,a,_=>.inl rfl
 | f+1,a,h=>by
   unfold zg1 at h ⊢
   unfold zn1
   by_cases hc:a+1<xs.length∧knd xs a=1
   ·rw[if_pos hc] at h ⊢
    by_cases hn:z4r xs a=true
    ·rw[if_pos hn]
     by_cases ht:txt xs (a+1)=(⟨#[44]⟩:ByteArray)
     ·rw[if_pos ht] at h ⊢
      rw[if_pos ht]
      rcases zea hm f (a+2) h with h1|⟨j,h1⟩
      ·exact .inl h1
      ·exact .inr ⟨j+1,hn,ht,h1⟩
     ·rw[if_neg ht,if_neg ht]
      exact .inl rfl
    ·exact .inr ⟨0,hc.2,by simpa using hn⟩
   ·rw[if_neg hc] at h ⊢
    by_cases hn:z4r xs a=true
    ·have h1:=z7c hn
     have h2:=hm a h
     omega
    ·rw[if_neg hn]
     exact .inl rfl
theorem zg4 (hm:∀ p,txt xs p=(⟨#[41]⟩:ByteArray)→knd xs p=4):∀ (f a:Nat),txt xs (zn1 xs f a)=(⟨#[41]⟩:ByteArray)→zg1 xs f a=zn1 xs f a
 | 0,a,_=>rfl
 | f+1,a,h=>by
   unfold zn1 at h ⊢
   unfold zg1
   by_cases hn:z4r xs a=true
   ·rw[if_pos hn] at h ⊢
    by_cases ht:txt xs (a+1)=(⟨#[44]⟩:ByteArray)
    ·have hl:=z3c ht (z17 _ _)
     rw[if_pos ht] at h ⊢
     rw[if_pos ⟨hl,z7c hn⟩,if_pos ht]
     exact zg4 hm f (a+2) h
    ·rw[if_neg ht] at h ⊢
     have hl:=z3c h (z17 _ _)
     rw[if_pos ⟨hl,z7c hn⟩,if_neg ht]
   ·rw[if_neg hn] at h ⊢
    have h2:=hm a h
    rw[if_neg (fun e=>by have:=e.2;omega)]
theorem zig (hm:∀ p,txt xs p=(⟨#[41]⟩:ByteArray)→knd xs p=4) (p:Nat):ze1 xs p=zh5 xs p∨(ze1 xs p=true∧zh5 xs p=false∧txt xs p=(⟨#[40]⟩:ByteArray)∧∃ j,z7t xs j (p+1)):=by
 by_cases hA:zh5 xs p=true
 ·left
  rw[hA]
  unfold zh5 at hA
  unfold ze1
  simp only[Bool.and_eq_true,decide_eq_true_eq] at hA ⊢
  obtain⟨h1,h2,h3⟩:=hA
  rw[zg4 hm _ _ h2]
  exact⟨h1,h2,h3⟩
 ·by_cases hB:ze1 xs p=true
  ·right
   have hB':=hB
   unfold ze1 at hB'
   simp only[Bool.and_eq_true,decide_eq_true_eq] at hB'
   obtain⟨h1,h2,h3⟩:=hB'
   refine⟨hB,by simpa using hA,h1,?_⟩
   rcases zea hm _ _ h2 with h4|h4
   ·exfalso
    apply hA
    unfold zh5
    simp only[Bool.and_eq_true,decide_eq_true_eq]
    rw[h4]
    exact⟨h1,h2,h3⟩
   ·exact h4
  ·left
   rw[Bool.not_eq_true] at hA hB
   rw[hA,hB]
theorem zo8 {s:Ps} (h:z4r xs s.p=false):z4n xs s=some none:=by
 unfold z4n z4j
 rw[if_neg (by rw[h];decide)]
 rfl
theorem z8r (hm:∀ p,txt xs p=(⟨#[41]⟩:ByteArray)→knd xs p=4) {o:Option (List Int×Ps)}:∀ (j f:Nat) (ks:List Int) (s:Ps),z7t xs j s.p→z0v xs (z4n xs) (⟨#[41]⟩:ByteArray) f ks s=some o→o=none
 | _,0,_,_,_,h=>by simp[z0v] at h
 | 0,f+1,ks,s,hp,h=>by
   unfold z0v at h
   rw[if_neg (fun e=>by have:=hm _ e;have:=hp.1;omega),zo8 hp.2] at h
   injection h with h
   exact h.symm
 | j+1,f+1,ks,s,hp,h=>by
   obtain⟨h1,h2,h3⟩:=hp
   unfold z0v at h
   rw[if_neg (fun e=>by have:=hm _ e;have:=z7c h1;omega)] at h
   have hN:z4n xs s=z0z 1 (txt xs s.p) [] s.next:=by
    unfold z4n z4j
    rw[if_pos h1,z1a]
   match hx:z0z 1 (txt xs s.p) [] s.next,hN with
   | none,_=>unfold z0z at hx;split at hx<;>cases hx
   | some none,hN =>
     rw[hN] at h
     injection h with h
     exact h.symm
   | some (some (k,s1)),hN =>
     have hp1:s1.p=s.p+1:=by
      unfold z0z at hx
      split at hx
      ·cases hx
      ·injection hx with hx
       injection hx with hx
       injection hx with _ hx
       rw[← hx]
       rfl
     rw[hN,z1a,if_pos (by rw[hp1];exact h2)] at h
     exact z8r hm j f _ _ (show z7t xs j (s1.p+1) by rw[hp1];exact h3) h
theorem zfn (hm:∀ p,txt xs p=(⟨#[41]⟩:ByteArray)→knd xs p=4) {s:Ps} {j:Nat} {o:Option (List Int×Ps)} (hp:z7t xs j (s.p+1)) (h:z4p xs s=some o):o=none:=by
 unfold z4p z0p at h
 by_cases ht:txt xs s.p=(⟨#[40]⟩:ByteArray)
 ·rw[if_pos ht,z1a] at h
  exact z8r hm j _ _ s.next hp h
 ·rw[if_neg ht] at h
  injection h with h
  exact h.symm
theorem znu {O:Bool→Ps→Rs Nat} (h1:∀ p,txt xs p=(⟨#[91]⟩:ByteArray)→knd xs p=4) (h2:∀ p,txt xs p=(⟨#[40]⟩:ByteArray)→knd xs p=4) {s:Ps} (hk:knd xs s.p=1) (hn:z4r xs s.p=false):z3l xs O s=some none:=by
 have h3:¬ txt xs s.p=(⟨#[40]⟩:ByteArray):=fun e=>by have:=h2 _ e;omega
 unfold z3l
 rw[if_neg (by rw[hn];decide),if_neg (by rw[hk];decide),if_neg (by rw[hk];decide),if_neg (fun e=>by have:=h1 _ e;omega),if_neg (fun e=>by unfold zh5 at e;simp[h3] at e),if_neg h3]
theorem zdm {O:Bool→Ps→Rs Nat} {s:Ps} (h:z3l xs O s=some none):∀ j,z1o xs O j s=some none
 | 0=>by unfold z1o za6;rw[h];rfl
 | j+1=>by unfold z1o;rw[zdm h j];rfl
theorem zm6 {O:Bool→Ps→Rs Nat} {s:Ps} (h:z3l xs O ⟨s.p,s.d+1,s.ns⟩=some none):z6j xs O s=some none:=by
 unfold z6j z4u
 by_cases hd:20<s.d+1
 ·rw[if_pos hd];rfl
 ·rw[if_neg hd,zdm h 6];rfl
theorem zh4 (h1:∀ p,txt xs p=(⟨#[91]⟩:ByteArray)→knd xs p=4) (h2:∀ p,txt xs p=(⟨#[40]⟩:ByteArray)→knd xs p=4) {n j:Nat} {s:Ps} {o:Option (Nat×Ps)} (ht:txt xs s.p=(⟨#[40]⟩:ByteArray)) (ha:zh5 xs s.p=false) (hp:z7t xs j (s.p+1)) (hr:z3l xs (vpF xs n) s=some o):o=none:=by
 have hk:=h2 _ ht
 cases j with
 | zero =>
   unfold z3l at hr
   have h3:¬ z4r xs s.p=true:=by
    unfold z4r
    rw[hk]
    simp
   rw[if_neg h3,if_neg (by rw[hk];decide),if_neg (by rw[hk];decide),if_neg (by rw[ht];decide),if_neg (by rw[ha];decide),if_pos ht] at hr
   cases n with
   | zero=>simp[vpF,bnd] at hr
   | succ n =>
     have hv:vpF xs (n+1) true s.next=some none:=zm6 (znu h1 h2 (s:=⟨s.p+1,s.d+1,s.ns⟩) hp.1 hp.2)
     rw[hv] at hr
     injection hr with hr
     exact hr.symm
 | succ j=>exact zfu ht hk ha hp.1 hp.2.1 hr
end
theorem Sd.signs {B g:Nat} {xs:List Sg} {A:Nat→Prop} {w:World} {s:Ps} {bd:Bool} (h:Sd B g xs A w bd s) (h0:0<xs.length):∃ b sc,b<w.heap.size∧w.cell? ⟨g,0,none⟩=some (.slice (some ⟨b,0,none⟩) xs.length sc)∧∀ p,p<xs.length→w.cell? ⟨b,p*4,none⟩=some (.int .i64 (knd xs p))∧w.cell? ⟨b,p*4+1,none⟩=some (.string (txt xs p)):=by
 obtain⟨b,sc,pl,hb,hc,-⟩:=h.sign 0 h0
 refine⟨b,sc,hb,hc,fun p hp=>?_⟩
 obtain⟨b',sc',pl',hb',hc',e0,e1,-⟩:=h.sign p hp
 rw[hc] at hc'
 injection hc' with hc'
 injection hc' with hc' _ _
 injection hc' with hc'
 injection hc' with hc'
 subst hc'
 exact⟨e0,e1⟩
section
variable {B g:Nat} {xs:List Sg} {A:Nat→Prop} {w:World}
theorem zsn {s:Ps} (h:SR B g xs A w (some s)) (hX:xs.length≤3000) (hM:z3w xs):Calls Tryz.prog 243 #[.pointer (some ⟨g,0,none⟩)] w fun e w'=>e=.returned (.bool (ze1 xs s.p))∧Below w.heap.size w w':=by
 have qI:=sIs h 4 (⟨#[40]⟩:ByteArray) (by decide)
 rw[z0q (hM (⟨#[40]⟩:ByteArray) (by decide))] at qI
 obtain⟨sa,sc,na,nc,-,c1,-,-,-,-⟩:=h.1.cells
 have hps:=h.1.pos
 have hpi:(s.p:Int)≤3000:=by omega
 have hw1:IntKind.i64.wrap ((s.p:Int)+1)=(s.p:Int)+1:=IntWalk.i64_in _ ⟨by omega,by omega⟩
 have HS:=z00 h
 clear h
 by_cases ht:txt xs s.p=(⟨#[40]⟩:ByteArray)
 ·rw[decide_eq_true ht] at qI
  have hlen:=z3c ht (z17 _ _)
  have H0:=z00 ht
  obtain⟨L,hL⟩:∃ L,L=zg1 xs (lim xs) (s.p+1):=⟨_,rfl⟩
  have HL:=z00 hL
  clear ht hL
  go_enter Tryz.func243,Tryz.ntmps243
  go_wp2_with fail
  refine qI.mono ?_
  rintro e w1 ⟨rfl,m,hm⟩
  have B1:Below w.heap.size w w1:=by rw[hm];exact z0a w m
  have HB1:=z00 B1
  clear hm B1 qI c1
  go_wp2
  go_loopw [3] (fun i wr=>∃ (f a:Nat),i=.int .i64 (a:Int)∧a≤xs.length+1∧xs.length<a+f∧Below w.heap.size w wr∧Hid (zg1 xs f a=L)) (fun i _=>xs.length+2-(intOf i).toNat)
  case atStart=>exact⟨lim xs,s.p+1,by simp,by omega,by unfold lim;omega,HB1.out,z00 HL.out.symm⟩
  case round =>
   obtain⟨f,a,rfl,ha,hf,Br,HE⟩:=hrel
   clear HB1
   have S:=HS.out.below Br
   have hgr:=S.1.lt
   obtain⟨b,sc,hbl,g0,hcs⟩:=S.1.signs (by omega)
   clear S
   have hw3:IntKind.i64.wrap ((a:Int)+1)=(a:Int)+1:=IntWalk.i64_in _ ⟨by omega,by omega⟩
   by_cases hl:a+1<xs.length
   ·have hl1:(a:Int)+1<(xs.length:Int):=by omega
    have hl2:(a:Int)<(xs.length:Int):=by omega
    have hl3:(0:Int)≤(a:Int):=by omega
    have hl4:(0:Int)≤(a:Int)+1:=by omega
    have hld:decide ((a:Int)+1<(xs.length:Int))=true:=decide_eq_true hl1
    obtain⟨p0,p1⟩:=hcs a (by omega)
    cases f with
    | zero=>omega
    | succ f =>
      have he:=HE.out
      unfold zg1 at he
      by_cases hk:knd xs a=1
      ·rw[if_pos ⟨hl,hk⟩] at he
       have hkb:(knd xs a==1)=true:=by rw[hk];rfl
       have HK:=z00 hk
       obtain⟨e0,e1⟩:=hcs (a+1) hl
       by_cases hc:txt xs (a+1)=(⟨#[44]⟩:ByteArray)
       ·rw[if_pos hc] at he
        have lc:((txt xs (a+1)).toList==[44])=true:=by rw[z3a];exact decide_eq_true hc
        have hw4:IntKind.i64.wrap ((a:Int)+1+1)=(a:Int)+1+1:=IntWalk.i64_in _ ⟨by omega,by omega⟩
        have HE2:=z00 he
        clear hk hc he HE hcs
        go_wp2
        go_roundw
        case rel=>exact⟨f,a+2,by rw[show ((a+2:Nat):Int)=(a:Int)+1+1 by omega],by omega,by omega,Br,z00 (HE2.out.trans (by rfl))⟩
        case measure=>simp[intOf];omega
       ·rw[if_neg hc] at he
        have lc:((txt xs (a+1)).toList==[44])=false:=by rw[z3a];exact decide_eq_false hc
        have HE3:=z00 he.symm
        clear HE
        have HE:=HE3
        clear HE3 hk hc he
        have hAw:ze1 xs s.p=(decide (txt xs (a+1)=(⟨#[41]⟩:ByteArray))&&decide (txt xs (a+1+1)=(⟨#[61,62]⟩:ByteArray))):=by
         unfold ze1
         rw[← HL.out,HE.out,decide_eq_true H0.out,Bool.true_and]
        have HA:=z00 hAw
        clear hAw HE
        have hw2:IntKind.i64.wrap ((a:Int)+1+1)=(a:Int)+1+1:=IntWalk.i64_in _ ⟨by omega,by omega⟩
        by_cases hb1:a+1+1<xs.length
        ·have hq1:(a:Int)+1+1<(xs.length:Int):=by omega
         have hq2:(a:Int)+1<(xs.length:Int):=by omega
         have hq3:(0:Int)≤(a:Int)+1:=by omega
         have hq4:(0:Int)≤(a:Int)+1+1:=by omega
         obtain⟨d0,d1⟩:=hcs (a+1) (by omega)
         obtain⟨f0,f1⟩:=hcs (a+1+1) hb1
         have hm1:=hM (⟨#[41]⟩:ByteArray) (by decide) (a+1)
         have hm2:=hM (⟨#[61,62]⟩:ByteArray) (by decide) (a+1+1)
         obtain⟨u1,hu1⟩:∃ u,u=txt xs (a+1):=⟨_,rfl⟩
         obtain⟨u2,hu2⟩:∃ u,u=txt xs (a+1+1):=⟨_,rfl⟩
         obtain⟨n1,hn1⟩:∃ u,u=knd xs (a+1):=⟨_,rfl⟩
         obtain⟨n2,hn2⟩:∃ u,u=knd xs (a+1+1):=⟨_,rfl⟩
         rw[← hu1] at d1 HA hm1 lc e1
         rw[← hu2] at f1 HA hm2
         rw[← hn1] at d0 hm1 e0
         rw[← hn2] at f0 hm2
         clear hu1 hu2 hn1 hn2
         by_cases ht1:u1=(⟨#[41]⟩:ByteArray)
         ·have hk1:=hm1 ht1
          have l1:(u1.toList==[41])=true:=by rw[z3a];exact decide_eq_true ht1
          have l1k:(n1==4)=true:=by rw[hk1];rfl
          by_cases ht2:u2=(⟨#[61,62]⟩:ByteArray)
          ·have hk2:=hm2 ht2
           have l2:(u2.toList==[61,62])=true:=by rw[z3a];exact decide_eq_true ht2
           have l2k:(n2==4)=true:=by rw[hk2];rfl
           have HT:=z00 (And.intro ht1 ht2)
           clear ht1 ht2 hk1 hk2 hm1 hm2 hcs
           go_wp2
           go_ret
           exact⟨z0l (by rw[HA.out,decide_eq_true HT.out.1,decide_eq_true HT.out.2];rfl),Br⟩
          ·have l2:(u2.toList==[61,62])=false:=by rw[z3a];exact decide_eq_false ht2
           have HT:=z00 ht2
           clear ht1 ht2 hk1 hm1 hm2 hcs
           go_wp2
           go_ret
           exact⟨z0l (by rw[HA.out,decide_eq_false HT.out,Bool.and_false]),Br⟩
         ·have l1:(u1.toList==[41])=false:=by rw[z3a];exact decide_eq_false ht1
          have HT:=z00 ht1
          clear ht1 hm1 hm2 hcs
          go_wp2
          go_ret
          exact⟨z0l (by rw[HA.out,decide_eq_false HT.out,Bool.false_and]),Br⟩
        ·have hq1:¬ (a:Int)+1+1<(xs.length:Int):=by omega
         have hqd:decide ((a:Int)+1+1<(xs.length:Int))=false:=decide_eq_false hq1
         have HT:=z00 (show txt xs (a+1+1)≠(⟨#[61,62]⟩:ByteArray) from fun e=>hb1 (z3c e (z17 _ _)))
         clear hcs
         go_wp2
         go_ret
         exact⟨z0l (by rw[HA.out,decide_eq_false HT.out,Bool.and_false]),Br⟩
      ·rw[if_neg (fun e=>hk e.2)] at he
       have hkb:(knd xs a==1)=false:=by rw[beq_eq_false_iff_ne];exact hk
       have HE3:=z00 he.symm
       clear HE
       have HE:=HE3
       clear HE3 hk he
       have hAw:ze1 xs s.p=(decide (txt xs (a)=(⟨#[41]⟩:ByteArray))&&decide (txt xs (a+1)=(⟨#[61,62]⟩:ByteArray))):=by
        unfold ze1
        rw[← HL.out,HE.out,decide_eq_true H0.out,Bool.true_and]
       have HA:=z00 hAw
       clear hAw HE
       have hw2:IntKind.i64.wrap ((a:Int)+1)=(a:Int)+1:=IntWalk.i64_in _ ⟨by omega,by omega⟩
       have hb1:=hl
       have hq1:(a:Int)+1<(xs.length:Int):=by omega
       have hq2:(a:Int)<(xs.length:Int):=by omega
       have hq3:(0:Int)≤(a:Int):=by omega
       have hq4:(0:Int)≤(a:Int)+1:=by omega
       obtain⟨d0,d1⟩:=hcs (a) (by omega)
       obtain⟨f0,f1⟩:=hcs (a+1) hb1
       have hm1:=hM (⟨#[41]⟩:ByteArray) (by decide) (a)
       have hm2:=hM (⟨#[61,62]⟩:ByteArray) (by decide) (a+1)
       obtain⟨u1,hu1⟩:∃ u,u=txt xs (a):=⟨_,rfl⟩
       obtain⟨u2,hu2⟩:∃ u,u=txt xs (a+1):=⟨_,rfl⟩
       obtain⟨n1,hn1⟩:∃ u,u=knd xs (a):=⟨_,rfl⟩
       obtain⟨n2,hn2⟩:∃ u,u=knd xs (a+1):=⟨_,rfl⟩
       rw[← hu1] at d1 HA hm1 p1
       rw[← hu2] at f1 HA hm2
       rw[← hn1] at d0 hm1 hkb p0
       rw[← hn2] at f0 hm2
       clear hu1 hu2 hn1 hn2
       by_cases ht1:u1=(⟨#[41]⟩:ByteArray)
       ·have hk1:=hm1 ht1
        have l1:(u1.toList==[41])=true:=by rw[z3a];exact decide_eq_true ht1
        have l1k:(n1==4)=true:=by rw[hk1];rfl
        by_cases ht2:u2=(⟨#[61,62]⟩:ByteArray)
        ·have hk2:=hm2 ht2
         have l2:(u2.toList==[61,62])=true:=by rw[z3a];exact decide_eq_true ht2
         have l2k:(n2==4)=true:=by rw[hk2];rfl
         have HT:=z00 (And.intro ht1 ht2)
         clear ht1 ht2 hk1 hk2 hm1 hm2 hcs
         go_wp2
         go_ret
         exact⟨z0l (by rw[HA.out,decide_eq_true HT.out.1,decide_eq_true HT.out.2];rfl),Br⟩
        ·have l2:(u2.toList==[61,62])=false:=by rw[z3a];exact decide_eq_false ht2
         have HT:=z00 ht2
         clear ht1 ht2 hk1 hm1 hm2 hcs
         go_wp2
         go_ret
         exact⟨z0l (by rw[HA.out,decide_eq_false HT.out,Bool.and_false]),Br⟩
       ·have l1:(u1.toList==[41])=false:=by rw[z3a];exact decide_eq_false ht1
        have HT:=z00 ht1
        clear ht1 hm1 hm2 hcs
        go_wp2
        go_ret
        exact⟨z0l (by rw[HA.out,decide_eq_false HT.out,Bool.false_and]),Br⟩
   ·have hl1:¬ (a:Int)+1<(xs.length:Int):=by omega
    have hld:decide ((a:Int)+1<(xs.length:Int))=false:=decide_eq_false hl1
    have he:=HE.out
    have he2:a=L:=by
     cases f with
     | zero=>exact he
     | succ f=>unfold zg1 at he;rw[if_neg (fun e=>hl e.1)] at he;exact he
    have HE3:=z00 he2.symm
    clear HE
    have HE:=HE3
    clear HE3 he he2
    have hAw:ze1 xs s.p=(decide (txt xs (a)=(⟨#[41]⟩:ByteArray))&&decide (txt xs (a+1)=(⟨#[61,62]⟩:ByteArray))):=by
     unfold ze1
     rw[← HL.out,HE.out,decide_eq_true H0.out,Bool.true_and]
    have HA:=z00 hAw
    clear hAw HE
    have hw2:IntKind.i64.wrap ((a:Int)+1)=(a:Int)+1:=IntWalk.i64_in _ ⟨by omega,by omega⟩
    have hb1:=hl
    have hq1:¬ (a:Int)+1<(xs.length:Int):=by omega
    have hqd:decide ((a:Int)+1<(xs.length:Int))=false:=decide_eq_false hq1
    have HT:=z00 (show txt xs (a+1)≠(⟨#[61,62]⟩:ByteArray) from fun e=>hb1 (z3c e (z17 _ _)))
    clear hcs
    go_wp2
    go_ret
    exact⟨z0l (by rw[HA.out,decide_eq_false HT.out,Bool.and_false]),Br⟩
 ·rw[decide_eq_false ht] at qI
  have HA:=z00 (show ze1 xs s.p=false by unfold ze1;rw[decide_eq_false ht,Bool.false_and])
  clear ht
  go_enter Tryz.func243,Tryz.ntmps243
  go_wp2_with fail
  refine qI.mono ?_
  rintro e w1 ⟨rfl,m,hm⟩
  have B1:Below w.heap.size w w1:=by rw[hm];exact z0a w m
  have HB1:=z00 B1
  clear hm B1 qI c1
  go_wp2
  go_ret
  exact⟨z0l HA.out.symm,HB1.out⟩
end
end Go.Proofs.YtekebloinobjnaaGreatDoor
