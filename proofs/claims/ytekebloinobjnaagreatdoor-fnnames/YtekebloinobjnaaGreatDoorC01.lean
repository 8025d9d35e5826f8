/- Texts of one proof, laid together: RdLib. -/
import Derived.Test.YtekebloinobjnaaGreatDoorC00
set_option maxHeartbeats 16000000
set_option maxRecDepth 100000
namespace Go.Proofs.YtekebloinobjnaaGreatDoor
open Go.RowKit
structure Ps where
 p:Nat
 d:Nat
 ns:List Nd
abbrev Rs (α:Type):=Option (Option (α×Ps))
section
variable {α β:Type}
def bnd (x:Rs α) (f:α→Ps→Rs β):Rs β:=
 match x with
 | none=>none
 | some none=>some none
 | some (some (a,s))=>f a s
theorem zn6 (f:α→Ps→Rs β):bnd (some none) f=some none:=rfl
theorem z1a (a:α) (s:Ps) (f:α→Ps→Rs β):bnd (some (some (a,s))) f=f a s:=rfl
abbrev yes (a:α) (s:Ps):Rs α:=some (some (a,s))
end
section
variable (xs:List Sg)
def txt (p:Nat):ByteArray:=match xs[p]? with|some x=>x.text|none=>ByteArray.empty
def knd (p:Nat):Int:=match xs[p]? with|some x=>x.kind|none=>0
def blk (p:Nat):Bool:=match xs[p]? with|some x=>x.blank|none=>false
def z4r (p:Nat):Bool:=(knd xs p==1)&&!kw (txt xs p)
def Ps.next (s:Ps):Ps:=⟨s.p+1,s.d,s.ns⟩
def z0p (t:ByteArray) (s:Ps):Rs Unit:=if txt xs s.p=t then yes () s.next else some none
def z0z (kind:Int) (t:ByteArray) (ks:List Int) (s:Ps):Rs Nat:=if s.ns.length=300 then some none else yes s.ns.length ⟨s.p,s.d,s.ns++[⟨kind,t,ks,false⟩]⟩
def z4j (s:Ps):Rs ByteArray:=if z4r xs s.p=true then yes (txt xs s.p) s.next else some none
def z7y (kind:Int) (s:Ps):Rs Nat:=z0z kind (txt xs s.p) [] s.next
def z4n (s:Ps):Rs Nat:=bnd (z4j xs s) fun t s1=>z0z 1 t [] s1
def lim:Nat:=xs.length+1
def z0v (one:Ps→Rs Nat) (en:ByteArray):Nat→List Int→Ps→Rs (List Int)
 | 0,_,_=>none
 | f+1,ks,s=>if txt xs s.p=en then yes ks s.next else bnd (one s) fun k s1=>if txt xs s1.p=(⟨#[44]⟩:ByteArray) then z0v one en f (ks++[(k:Int)]) s1.next else bnd (z0p xs en s1) fun _ s2=>yes (ks++[(k:Int)]) s2
def z4p (s:Ps):Rs (List Int):=bnd (z0p xs (⟨#[40]⟩:ByteArray) s) fun _ s1=>z0v xs (z4n xs) (⟨#[41]⟩:ByteArray) (lim xs) [] s1
def zn1:Nat→Nat→Nat
 | 0,a=>a
 | f+1,a=>if z4r xs a=true then (if txt xs (a+1)=(⟨#[44]⟩:ByteArray) then zn1 f (a+2) else a+1) else a
def zh5 (p:Nat):Bool:=decide (txt xs p=(⟨#[40]⟩:ByteArray))&&(decide (txt xs (zn1 xs (lim xs) (p+1))=(⟨#[41]⟩:ByteArray))&&decide (txt xs (zn1 xs (lim xs) (p+1)+1)=(⟨#[61,62]⟩:ByteArray)))
section
variable (O:Bool→Ps→Rs Nat)
def z95 (c:Nat) (s:Ps):Rs Nat:=bnd (z0p xs (⟨#[40]⟩:ByteArray) s) fun _ s1=>bnd (z0v xs (O true) (⟨#[41]⟩:ByteArray) (lim xs) [] s1) fun ks s2=>z0z 5 ByteArray.empty ((c:Int)::ks) s2
def zdn (s:Ps):Rs Nat:=bnd (z4p xs s) fun ks s1=>bnd (z0p xs (⟨#[61,62]⟩:ByteArray) s1) fun _ s2=>bnd (O false s2) fun k s3=>z0z 9 ByteArray.empty (ks++[(k:Int)]) s3
def z3l (s:Ps):Rs Nat:=
 if z4r xs s.p=true then z7y xs 1 s
 else if knd xs s.p=2 then z7y xs 2 s
 else if knd xs s.p=3 then z7y xs 3 s
 else if txt xs s.p=(⟨#[91]⟩:ByteArray) then bnd (z0v xs (O true) (⟨#[93]⟩:ByteArray) (lim xs) [] s.next) fun ks s1=>z0z 4 ByteArray.empty ks s1
 else if zh5 xs s.p=true then zdn xs O s
 else if txt xs s.p=(⟨#[40]⟩:ByteArray) then bnd (O true s.next) fun k s1=>bnd (z0p xs (⟨#[41]⟩:ByteArray) s1) fun _ s2=>z0z 11 ByteArray.empty [(k:Int)] s2
 else some none
def z4w:Nat→Nat→Ps→Rs Nat
 | 0,_,_=>none
 | f+1,v,s=>if txt xs s.p=(⟨#[40]⟩:ByteArray) then bnd (z95 xs O v s) fun k s1=>z4w f k s1 else if txt xs s.p=(⟨#[46]⟩:ByteArray) then bnd (z4j xs s.next) fun t s1=>bnd (z0z 6 t [(v:Int)] s1) fun k s2=>z4w f k s2 else yes v s
def za6 (s:Ps):Rs Nat:=bnd (z3l xs O s) fun k s1=>z4w xs O (lim xs) k s1
def lvl (t:ByteArray):Nat:=if t=(⟨#[124,124]⟩:ByteArray) then 1 else if t=(⟨#[38,38]⟩:ByteArray) then 2 else if t=(⟨#[61,61]⟩:ByteArray) then 3 else if t=(⟨#[60]⟩:ByteArray) then 4 else if t=(⟨#[43]⟩:ByteArray) then 5 else if t=(⟨#[45]⟩:ByteArray) then 5 else if t=(⟨#[42]⟩:ByteArray) then 6 else 0
def z5z (nx:Ps→Rs Nat) (mark:ByteArray):Nat→List Int→Ps→Rs Nat
 | 0,_,_=>none
 | f+1,ks,s=>if txt xs s.p=mark then bnd (nx s.next) fun k s1=>z5z nx mark f (ks++[(k:Int)]) s1 else z0z 7 mark ks s
def chL (nx:Ps→Rs Nat) (lv:Nat):Nat→Nat→Ps→Rs Nat
 | 0,_,_=>none
 | f+1,v,s=>if lvl (txt xs s.p)=lv then bnd (z5z xs nx (txt xs s.p) (lim xs) [(v:Int)] s) fun k s1=>chL nx lv f k s1 else yes v s
def z1o:Nat→Ps→Rs Nat
 | 0,s=>za6 xs O s
 | j+1,s=>bnd (z1o j s) fun v s1=>chL xs (z1o j) (6-j) (lim xs) v s1
def z4u (s:Ps):Rs Nat:=if 20<s.d+1 then some none else bnd (z1o xs O 6 ⟨s.p,s.d+1,s.ns⟩) fun v s1=>if txt xs s1.p=(⟨#[63]⟩:ByteArray) then bnd (O false s1.next) fun y s2=>bnd (z0p xs (⟨#[58]⟩:ByteArray) s2) fun _ s3=>bnd (O false s3) fun n s4=>bnd (z0z 8 ByteArray.empty [(v:Int),(y:Int),(n:Int)] s4) fun k s5=>yes k ⟨s5.p,s5.d-1,s5.ns⟩ else yes v ⟨s1.p,s1.d-1,s1.ns⟩
def z75:Nat→List Int→Ps→Rs (List Int)
 | 0,_,_=>none
 | f+1,ks,s=>if txt xs s.p=(⟨#[46,46]⟩:ByteArray) then bnd (z4n xs s.next) fun c s1=>bnd (z95 xs O c s1) fun k s2=>z75 f (ks++[(k:Int)]) s2 else yes ks s
def z6j (s:Ps):Rs Nat:=bnd (z4u xs O s) fun v s1=>bnd (z75 xs O (lim xs) [(v:Int)] s1) fun ks s2=>if ks.length=1 then yes v s2 else z0z 10 ByteArray.empty ks s2
end
def vpF:Nat→Bool→Ps→Rs Nat
 | 0,_,_=>none
 | n+1,true,s=>z6j xs (vpF n) s
 | n+1,false,s=>z4u xs (vpF n) s
def zde (s:Ps):Rs Nat:=vpF xs (lim xs) true s
def z19 (s:Ps) (k:Nat) (b:Bool):Ps:=⟨s.p,s.d,match s.ns[k]? with|some x=>s.ns.set k ⟨x.kind,x.text,x.kids,b⟩|none=>s.ns⟩
def z3v (one:Ps→Rs Nat) (en:ByteArray):Nat→List Int→Ps→Rs (List Int)
 | 0,_,_=>none
 | f+1,ks,s=>if txt xs s.p=en then yes ks s else bnd (one s) fun k s1=>z3v one en f (ks++[(k:Int)]) (z19 s1 k (blk xs s.p&&decide (0<ks.length)))
def zdd (s:Ps):Rs Nat:=bnd (z4j xs s) fun t s1=>if txt xs s1.p=(⟨#[61]⟩:ByteArray) then bnd (zde xs s1.next) fun v s2=>bnd (z0p xs (⟨#[59]⟩:ByteArray) s2) fun _ s3=>z0z 12 t [(v:Int)] s3 else bnd (z0p xs (⟨#[59]⟩:ByteArray) s1) fun _ s3=>z0z 12 t [] s3
def zcg (s:Ps):Rs Nat:=bnd (z0p xs (⟨#[40]⟩:ByteArray) s) fun _ s1=>bnd (zde xs s1) fun v s2=>bnd (z0p xs (⟨#[41]⟩:ByteArray) s2) fun _ s3=>yes v s3
def z3k (st:Ps→Rs Nat) (s:Ps):Rs Nat:=if 20<s.d+1 then some none else bnd (z0p xs (⟨#[123]⟩:ByteArray) ⟨s.p,s.d+1,s.ns⟩) fun _ s1=>bnd (z3v xs st (⟨#[125]⟩:ByteArray) (lim xs) [] s1) fun ks s2=>bnd (z0p xs (⟨#[125]⟩:ByteArray) s2) fun _ s3=>z0z 18 ByteArray.empty ks ⟨s3.p,s3.d-1,s3.ns⟩
def zb3 (s:Ps):Rs Nat:=if txt xs s.p=(⟨#[59]⟩:ByteArray) then bnd (z0p xs (⟨#[59]⟩:ByteArray) s) fun _ s1=>z0z 15 ByteArray.empty [] s1 else bnd (zde xs s) fun v s1=>bnd (z0p xs (⟨#[59]⟩:ByteArray) s1) fun _ s2=>z0z 15 ByteArray.empty [(v:Int)] s2
def zjx (st:Ps→Rs Nat) (s:Ps):Rs Nat:=bnd (zcg xs s) fun v s1=>bnd (z3k xs st s1) fun b s2=>if txt xs s2.p=(⟨#[101,108,115,101]⟩:ByteArray) then bnd (z3k xs st s2.next) fun c s3=>z0z 16 ByteArray.empty [(v:Int),(b:Int),(c:Int)] s3 else z0z 16 ByteArray.empty [(v:Int),(b:Int)] s2
def zij (st:Ps→Rs Nat) (s:Ps):Rs Nat:=bnd (zcg xs s) fun v s1=>bnd (z3k xs st s1) fun b s2=>z0z 17 ByteArray.empty [(v:Int),(b:Int)] s2
def zii (s:Ps):Rs Nat:=bnd (z4j xs s) fun t s1=>bnd (z0p xs (⟨#[61]⟩:ByteArray) s1) fun _ s2=>bnd (zde xs s2) fun v s3=>bnd (z0p xs (⟨#[59]⟩:ByteArray) s3) fun _ s4=>z0z 13 t [(v:Int)] s4
def z91 (st:Ps→Rs Nat) (s:Ps):Rs Nat:=
 if knd xs s.p=5 then z7y xs 19 s
 else if txt xs s.p=(⟨#[118,97,114]⟩:ByteArray) then zdd xs s.next
 else if txt xs s.p=(⟨#[114,101,116,117,114,110]⟩:ByteArray) then zb3 xs s.next
 else if txt xs s.p=(⟨#[105,102]⟩:ByteArray) then zjx xs st s.next
 else if txt xs s.p=(⟨#[119,104,105,108,101]⟩:ByteArray) then zij xs st s.next
 else if (z4r xs s.p&&decide (txt xs (s.p+1)=(⟨#[61]⟩:ByteArray)))=true then zii xs s
 else bnd (zde xs s) fun v s1=>bnd (z0p xs (⟨#[59]⟩:ByteArray) s1) fun _ s2=>z0z 14 ByteArray.empty [(v:Int)] s2
def stF:Nat→Ps→Rs Nat
 | 0,_=>none
 | n+1,s=>z91 xs (stF n) s
def zqn (s:Ps):Rs Nat:=z3k xs (stF xs (lim xs)) s
def zfq (s:Ps):Rs Nat:=bnd (z4j xs s) fun t s1=>bnd (z4p xs s1) fun ks s2=>bnd (zqn xs s2) fun b s3=>z0z 20 t (ks++[(b:Int)]) s3
def z2k (s:Ps):Rs Nat:=if knd xs s.p=5 then z7y xs 19 s else if txt xs s.p=(⟨#[118,97,114]⟩:ByteArray) then zdd xs s.next else zfq xs s
def zld (s:Ps):Rs Nat:=bnd (z4j xs s) fun t s1=>bnd (z0p xs (⟨#[123]⟩:ByteArray) s1) fun _ s2=>bnd (z3v xs (z2k xs) (⟨#[125]⟩:ByteArray) (lim xs) [] s2) fun ks s3=>bnd (z0p xs (⟨#[125]⟩:ByteArray) s3) fun _ s4=>z0z 21 t ks s4
def z2x (s:Ps):Rs Nat:=if txt xs s.p=(⟨#[99,108,97,115,115]⟩:ByteArray) then zld xs s.next else z2k xs s
def zai:Rs Nat:=bnd (z3v xs (z2x xs) ByteArray.empty (lim xs) [] ⟨0,0,[]⟩) fun ks s=>z0z 22 ByteArray.empty ks s
end
section
variable {α β:Type} {xs:List Sg}
structure Ends (xs:List Sg) (lo:Nat) (r:Rs α):Prop where
 told:r≠none
 at_:∀ a s,r=yes a s→lo≤s.p∧s.p≤xs.length
theorem Ends.no {lo:Nat}:Ends (α:=α) xs lo (some none):=⟨by simp,fun a s h=>by simp at h⟩
theorem Ends.ok {lo:Nat} {a:α} {s:Ps} (h1:lo≤s.p) (h2:s.p≤xs.length):Ends xs lo (yes a s):=⟨by simp,fun b t h=>by simp only[Option.some.injEq,Prod.mk.injEq] at h;obtain⟨rfl,rfl⟩:=h;exact⟨h1,h2⟩⟩
theorem Ends.less {lo lo':Nat} {r:Rs α} (h:Ends xs lo r) (hl:lo'≤lo):Ends xs lo' r:=⟨h.told,fun a s e=>⟨Nat.le_trans hl (h.at_ a s e).1,(h.at_ a s e).2⟩⟩
theorem Ends.bnd {lo lo':Nat} {x:Rs α} {f:α→Ps→Rs β} (h:Ends xs lo x) (hf:∀ a s,lo≤s.p→s.p≤xs.length→Ends xs lo' (f a s)):Ends xs lo' (bnd x f):=by
 match x,h with
 | none,h=>exact absurd rfl h.told
 | some none,_=>exact Ends.no
 | some (some (a,s)),h=>exact hf a s (h.at_ a s rfl).1 (h.at_ a s rfl).2
theorem za2 {p:Nat} (h:xs.length≤p):txt xs p=ByteArray.empty:=by unfold txt;rw[List.getElem?_eq_none h]
theorem z5c {p:Nat} (h:xs.length≤p):knd xs p=0:=by unfold knd;rw[List.getElem?_eq_none h]
theorem z3c {p:Nat} {t:ByteArray} (h:txt xs p=t) (ht:t≠ByteArray.empty):p<xs.length:=by
 rcases Nat.lt_or_ge p xs.length with h1|h1
 ·exact h1
 ·exact absurd (h.symm.trans (za2 h1)) ht
theorem z6f {p:Nat} {k:Int} (h:knd xs p=k) (hk:k≠0):p<xs.length:=by
 rcases Nat.lt_or_ge p xs.length with h1|h1
 ·exact h1
 ·exact absurd (h.symm.trans (z5c h1)) hk
theorem zcw {p:Nat} (h:z4r xs p=true):p<xs.length:=by
 unfold z4r at h
 simp only[Bool.and_eq_true,beq_iff_eq] at h
 exact z6f h.1 (by decide)
theorem z17 (a:UInt8) (l:List UInt8):(⟨(a::l).toArray⟩:ByteArray)≠ByteArray.empty:=by
 intro h
 have:=congrArg (fun b=>b.data.size) h
 simp at this
theorem z3a (u:ByteArray) (l:List UInt8):(u.toList==l)=decide (u=(⟨l.toArray⟩:ByteArray)):=by
 rw[Bool.eq_iff_iff]
 simp only[beq_iff_eq,decide_eq_true_eq,ByteArray.toList_eq]
 exact⟨fun h=>ByteArray.ext (Array.ext' (by simpa using h)),fun h=>by rw[h]⟩
theorem z13 {t:ByteArray} {s:Ps} (ht:t≠ByteArray.empty):Ends xs (s.p+1) (z0p xs t s):=by
 unfold z0p
 split
 ·rename_i h
  exact Ends.ok (Nat.le_refl _) (z3c h ht)
 ·exact Ends.no
theorem z1b {kind:Int} {t:ByteArray} {ks:List Int} {s:Ps} (h:s.p≤xs.length):Ends xs s.p (z0z kind t ks s):=by
 unfold z0z
 split
 ·exact Ends.no
 ·exact Ends.ok (Nat.le_refl _) h
theorem zks {s:Ps}:Ends xs (s.p+1) (z4j xs s):=by
 unfold z4j
 split
 ·rename_i h
  exact Ends.ok (Nat.le_refl _) (zcw h)
 ·exact Ends.no
theorem z63 {kind:Int} {s:Ps} (h:s.p<xs.length):Ends xs (s.p+1) (z7y xs kind s):=z1b (s:=s.next) h
theorem ze2 {s:Ps}:Ends xs (s.p+1) (z4n xs s):=zks.bnd fun _ _ h1 h2=>(z1b h2).less h1
def zaq (xs:List Sg) (lo:Nat) (one:Ps→Rs Nat):Prop:=∀ s:Ps,lo≤s.p→s.p≤xs.length→Ends xs (s.p+1) (one s)
theorem z4z {lo:Nat} {one:Ps→Rs Nat} {en:ByteArray} (he:en≠ByteArray.empty) (hg:zaq xs lo one):∀ (f:Nat) (ks:List Int) (s:Ps),lo≤s.p→s.p≤xs.length→xs.length-s.p<f→Ends xs (s.p+1) (z0v xs one en f ks s)
 | 0,_,_,_,_,h=>by omega
 | f+1,ks,s,h1,h2,h3=>by
   unfold z0v
   split
   ·rename_i h
    exact Ends.ok (Nat.le_refl _) (z3c h he)
   ·refine(hg s h1 h2).bnd fun k s1 h4 h5=>?_
    split
    ·rename_i h
     have hl:=z3c h (z17 _ _)
     exact(z4z he hg f _ s1.next (by show lo≤s1.p+1;omega) (by show s1.p+1≤_;omega) (by show _-(s1.p+1)<_;omega)).less (by show s.p+1≤s1.p+1+1;omega)
    ·exact(z13 he).bnd fun _ s2 h6 h7=>Ends.ok (by omega) h7
theorem zgp {s:Ps}:Ends xs (s.p+1) (z4p xs s):=by
 refine(z13 (z17 _ _)).bnd fun _ s1 h1 h2=>?_
 exact(z4z (lo:=0) (z17 _ _) (fun _ _ _=>ze2) _ _ s1 (by omega) h2 (by unfold lim;omega)).less (by omega)
section
variable {O:Bool→Ps→Rs Nat} {q:Nat}
theorem zee {c:Nat} {s:Ps} (hO:zaq xs q (O true)) (hs:q≤s.p+1):Ends xs (s.p+1) (z95 xs O c s):=by
 refine(z13 (z17 _ _)).bnd fun _ s1 h1 h2=>?_
 refine(z4z (z17 _ _) hO _ _ s1 (by omega) h2 (by unfold lim;omega)).bnd fun ks s2 h3 h4=>?_
 exact(z1b h4).less (by omega)
theorem zhy {s:Ps} (hO:zaq xs q (O false)) (hs:q≤s.p+1):Ends xs (s.p+1) (zdn xs O s):=by
 refine zgp.bnd fun ks s1 h1 h2=>?_
 refine(z13 (z17 _ _)).bnd fun _ s2 h3 h4=>?_
 refine(hO s2 (by omega) h4).bnd fun k s3 h5 h6=>?_
 exact(z1b h6).less (by omega)
theorem zla {s:Ps} (hO:∀ b,zaq xs q (O b)) (hs:q≤s.p+1):Ends xs (s.p+1) (z3l xs O s):=by
 unfold z3l
 split
 ·rename_i h;exact z63 (zcw h)
 split
 ·rename_i h;exact z63 (z6f h (by decide))
 split
 ·rename_i h;exact z63 (z6f h (by decide))
 split
 ·rename_i h
  have hl:=z3c h (z17 _ _)
  refine(z4z (z17 _ _) (hO true) _ _ s.next (by show q≤s.p+1;omega) (by show s.p+1≤_;omega) (by unfold lim;omega)).bnd fun ks s2 h3 h4=>?_
  exact(z1b h4).less (by have:s.next.p=s.p+1:=rfl;omega)
 split
 ·exact zhy (hO false) hs
 split
 ·rename_i h
  have hl:=z3c h (z17 _ _)
  refine(hO true s.next (by show q≤s.p+1;omega) (by show s.p+1≤_;omega)).bnd fun k s1 h1 h2=>?_
  refine(z13 (z17 _ _)).bnd fun _ s2 h3 h4=>?_
  exact(z1b h4).less (by have:s.next.p=s.p+1:=rfl;omega)
 ·exact Ends.no
theorem z8b (hO:zaq xs q (O true)):∀ (f v:Nat) (s:Ps),q≤s.p+1→s.p≤xs.length→xs.length-s.p<f→Ends xs s.p (z4w xs O f v s)
 | 0,_,_,_,_,h=>by omega
 | f+1,v,s,h1,h2,h3=>by
   unfold z4w
   split
   ·refine(zee hO h1).bnd fun k s1 h4 h5=>?_
    exact(z8b hO f k s1 (by omega) h5 (by omega)).less (by omega)
   split
   ·refine(zks (s:=s.next)).bnd fun t s1 h4 h5=>?_
    have e:s.next.p=s.p+1:=rfl
    refine(z1b h5).bnd fun k s2 h6 h7=>?_
    exact(z8b hO f k s2 (by omega) h7 (by omega)).less (by omega)
   ·exact Ends.ok (Nat.le_refl _) h2
theorem zkj {s:Ps} (hO:∀ b,zaq xs q (O b)) (hs:q≤s.p+1):Ends xs (s.p+1) (za6 xs O s):=by
 refine(zla hO hs).bnd fun k s1 h1 h2=>?_
 exact(z8b (hO true) _ _ s1 (by omega) h2 (by unfold lim;omega)).less h1
theorem zdz {nx:Ps→Rs Nat} {mark:ByteArray} (hm:mark≠ByteArray.empty) (hn:zaq xs q nx):∀ (f:Nat) (ks:List Int) (s:Ps),q≤s.p+1→s.p≤xs.length→xs.length-s.p<f→Ends xs s.p (z5z xs nx mark f ks s)
 | 0,_,_,_,_,h=>by omega
 | f+1,ks,s,h1,h2,h3=>by
   unfold z5z
   split
   ·rename_i h
    have hl:=z3c h hm
    refine(hn s.next (by show q≤s.p+1;omega) (by show s.p+1≤_;omega)).bnd fun k s1 h4 h5=>?_
    have e:s.next.p=s.p+1:=rfl
    exact(zdz hm hn f _ s1 (by omega) h5 (by omega)).less (by omega)
   ·exact z1b h2
theorem zi6 {nx:Ps→Rs Nat} {s:Ps} {ks:List Int} (hm:txt xs s.p≠ByteArray.empty) (hn:zaq xs q nx) (h1:q≤s.p+1):Ends xs (s.p+1) (z5z xs nx (txt xs s.p) (lim xs) ks s):=by
 unfold lim z5z
 rw[if_pos rfl]
 have hl:=z3c rfl hm
 refine(hn s.next (by show q≤s.p+1;omega) (by show s.p+1≤_;omega)).bnd fun k s1 h4 h5=>?_
 have e:s.next.p=s.p+1:=rfl
 exact(zdz hm hn _ _ s1 (by omega) h5 (by omega)).less (by omega)
theorem z8o {lv:Nat} {t:ByteArray} (h:lvl t=lv) (hv:lv≠0):t≠ByteArray.empty:=by
 rintro rfl
 exact hv (h.symm.trans (by decide))
theorem zgi {nx:Ps→Rs Nat} {lv:Nat} (hv:lv≠0) (hn:zaq xs q nx):∀ (f v:Nat) (s:Ps),q≤s.p+1→s.p≤xs.length→xs.length-s.p<f→Ends xs s.p (chL xs nx lv f v s)
 | 0,_,_,_,_,h=>by omega
 | f+1,v,s,h1,h2,h3=>by
   unfold chL
   split
   ·rename_i h
    refine(zi6 (z8o h hv) hn h1).bnd fun k s1 h4 h5=>?_
    exact(zgi hv hn f k s1 (by omega) h5 (by omega)).less (by omega)
   ·exact Ends.ok (Nat.le_refl _) h2
theorem z8v (hO:∀ b,zaq xs q (O b)):∀ (j:Nat),j≤6→∀ s:Ps,q≤s.p+1→Ends xs (s.p+1) (z1o xs O j s)
 | 0,_,s,hs=>zkj hO hs
 | j+1,hj,s,hs=>by
   refine(z8v hO j (by omega) s hs).bnd fun v s1 h1 h2=>?_
   exact(zgi (q:=q) (by omega) (fun u h3 _=>z8v hO j (by omega) u (by omega)) _ _ s1 (by omega) h2 (by unfold lim;omega)).less h1
theorem zec {s:Ps} (hO:∀ b,zaq xs q (O b)) (hs:q≤s.p+1):Ends xs (s.p+1) (z4u xs O s):=by
 unfold z4u
 split
 ·exact Ends.no
 refine(z8v hO 6 (by omega) ⟨s.p,s.d+1,s.ns⟩ hs).bnd fun v s1 h1 h2=>?_
 have h1':s.p+1≤s1.p:=h1
 split
 ·rename_i h
  have hl:=z3c h (z17 _ _)
  have e:s1.next.p=s1.p+1:=rfl
  refine(hO false s1.next (by omega) (by omega)).bnd fun y s2 h3 h4=>?_
  refine(z13 (z17 _ _)).bnd fun _ s3 h5 h6=>?_
  refine(hO false s3 (by omega) h6).bnd fun n s4 h7 h8=>?_
  refine(z1b h8).bnd fun k s5 h9 ha=>?_
  exact Ends.ok (by show _≤s5.p;omega) ha
 ·exact Ends.ok h1' h2
theorem zdj (hO:zaq xs q (O true)):∀ (f:Nat) (ks:List Int) (s:Ps),q≤s.p+1→s.p≤xs.length→xs.length-s.p<f→Ends xs s.p (z75 xs O f ks s)
 | 0,_,_,_,_,h=>by omega
 | f+1,ks,s,h1,h2,h3=>by
   unfold z75
   split
   ·refine(ze2 (s:=s.next)).bnd fun c s1 h4 h5=>?_
    have e:s.next.p=s.p+1:=rfl
    refine(zee hO (by omega)).bnd fun k s2 h6 h7=>?_
    exact(zdj hO f _ s2 (by omega) h7 (by omega)).less (by omega)
   ·exact Ends.ok (Nat.le_refl _) h2
theorem zj6 {s:Ps} (hO:∀ b,zaq xs q (O b)) (hs:q≤s.p+1):Ends xs (s.p+1) (z6j xs O s):=by
 refine(zec hO hs).bnd fun v s1 h1 h2=>?_
 refine(zdj (hO true) _ _ s1 (by omega) h2 (by unfold lim;omega)).bnd fun ks s2 h3 h4=>?_
 split
 ·exact Ends.ok (by omega) h4
 ·exact(z1b h4).less (by omega)
end
theorem zj3:∀ (n:Nat) (b:Bool) (s:Ps),s.p≤xs.length→xs.length-s.p<n→Ends xs (s.p+1) (vpF xs n b s)
 | 0,_,_,_,h=>by omega
 | n+1,true,s,h1,h2=>zj6 (O:=vpF xs n) (q:=s.p+1) (fun b u h3 h4=>zj3 n b u h4 (by omega)) (Nat.le_refl _)
 | n+1,false,s,h1,h2=>zec (O:=vpF xs n) (q:=s.p+1) (fun b u h3 h4=>zj3 n b u h4 (by omega)) (Nat.le_refl _)
theorem z7v {s:Ps} (h:s.p≤xs.length):Ends xs (s.p+1) (zde xs s):=zj3 _ _ s h (by unfold lim;omega)
theorem z5w {lo:Nat} {one:Ps→Rs Nat} {en:ByteArray} (hg:zaq xs lo one):∀ (f:Nat) (ks:List Int) (s:Ps),lo≤s.p→s.p≤xs.length→xs.length-s.p<f→Ends xs s.p (z3v xs one en f ks s)
 | 0,_,_,_,_,h=>by omega
 | f+1,ks,s,h1,h2,h3=>by
   unfold z3v
   split
   ·exact Ends.ok (Nat.le_refl _) h2
   ·refine(hg s h1 h2).bnd fun k s1 h4 h5=>?_
    exact(z5w hg f _ (z19 s1 k _) (by show lo≤s1.p;omega) h5 (by show _-s1.p<_;omega)).less (by show s.p≤s1.p;omega)
theorem zdp {s:Ps}:Ends xs (s.p+1) (zdd xs s):=by
 refine zks.bnd fun t s1 h1 h2=>?_
 split
 ·rename_i h
  have hl:=z3c h (z17 _ _)
  have e:s1.next.p=s1.p+1:=rfl
  refine(z7v (s:=s1.next) (by omega)).bnd fun v s2 h3 h4=>?_
  refine(z13 (z17 _ _)).bnd fun _ s3 h5 h6=>?_
  exact(z1b h6).less (by omega)
 ·refine(z13 (z17 _ _)).bnd fun _ s3 h5 h6=>?_
  exact(z1b h6).less (by omega)
theorem zt2 {s:Ps}:Ends xs (s.p+1) (zcg xs s):=by
 refine(z13 (z17 _ _)).bnd fun _ s1 h1 h2=>?_
 refine(z7v h2).bnd fun v s2 h3 h4=>?_
 exact(z13 (z17 _ _)).bnd fun _ s3 h5 h6=>Ends.ok (by omega) h6
theorem z83 {q:Nat} {st:Ps→Rs Nat} {s:Ps} (hg:zaq xs q st) (hs:q≤s.p+1):Ends xs (s.p+1) (z3k xs st s):=by
 unfold z3k
 split
 ·exact Ends.no
 refine(z13 (z17 _ _)).bnd fun _ s1 h1 h2=>?_
 have h1':s.p+1≤s1.p:=h1
 refine(z5w hg _ _ s1 (by omega) h2 (by unfold lim;omega)).bnd fun ks s2 h3 h4=>?_
 refine(z13 (z17 _ _)).bnd fun _ s3 h5 h6=>?_
 exact(z1b (s:=⟨s3.p,s3.d-1,s3.ns⟩) h6).less (by show s.p+1≤s3.p;omega)
theorem zly {s:Ps} (hs:s.p≤xs.length):Ends xs s.p (zb3 xs s):=by
 unfold zb3
 split
 ·refine(z13 (z17 _ _)).bnd fun _ s1 h1 h2=>?_
  exact(z1b h2).less (by omega)
 ·refine(z7v hs).bnd fun v s1 h1 h2=>?_
  refine(z13 (z17 _ _)).bnd fun _ s3 h5 h6=>?_
  exact(z1b h6).less (by omega)
theorem zlt {q:Nat} {st:Ps→Rs Nat} {s:Ps} (hg:zaq xs q st) (hs:q≤s.p+1):Ends xs (s.p+1) (zjx xs st s):=by
 refine zt2.bnd fun v s1 h1 h2=>?_
 refine(z83 hg (by omega)).bnd fun b s2 h3 h4=>?_
 split
 ·have e:s2.next.p=s2.p+1:=rfl
  refine(z83 (s:=s2.next) hg (by omega)).bnd fun c s3 h5 h6=>?_
  exact(z1b h6).less (by omega)
 ·exact(z1b h4).less (by omega)
theorem zku {q:Nat} {st:Ps→Rs Nat} {s:Ps} (hg:zaq xs q st) (hs:q≤s.p+1):Ends xs (s.p+1) (zij xs st s):=by
 refine zt2.bnd fun v s1 h1 h2=>?_
 refine(z83 hg (by omega)).bnd fun b s2 h3 h4=>?_
 exact(z1b h4).less (by omega)
theorem zm5 {s:Ps}:Ends xs (s.p+1) (zii xs s):=by
 refine zks.bnd fun t s1 h1 h2=>?_
 refine(z13 (z17 _ _)).bnd fun _ s2 h3 h4=>?_
 refine(z7v h4).bnd fun v s3 h5 h6=>?_
 refine(z13 (z17 _ _)).bnd fun _ s4 h7 h8=>?_
 exact(z1b h8).less (by omega)
theorem zk4 {q:Nat} {st:Ps→Rs Nat} {s:Ps} (hg:zaq xs q st) (hs:q≤s.p+1) (hp:s.p≤xs.length):Ends xs (s.p+1) (z91 xs st s):=by
 have e:s.next.p=s.p+1:=rfl
 unfold z91
 split
 ·rename_i h;exact z63 (z6f h (by decide))
 split
 ·exact(zdp (s:=s.next)).less (by omega)
 split
 ·rename_i h
  have hl:=z3c h (z17 _ _)
  exact(zly (s:=s.next) (by omega)).less (by omega)
 split
 ·exact(zlt (s:=s.next) hg (by omega)).less (by omega)
 split
 ·exact(zku (s:=s.next) hg (by omega)).less (by omega)
 split
 ·exact zm5
 ·refine(z7v hp).bnd fun v s1 h1 h2=>?_
  refine(z13 (z17 _ _)).bnd fun _ s3 h5 h6=>?_
  exact(z1b h6).less (by omega)
theorem zn7:∀ (n:Nat) (s:Ps),s.p≤xs.length→xs.length-s.p<n→Ends xs (s.p+1) (stF xs n s)
 | 0,_,_,h=>by omega
 | n+1,s,h1,h2=>zk4 (q:=s.p+1) (st:=stF xs n) (fun u h3 h4=>zn7 n u h4 (by omega)) (Nat.le_refl _) h1
theorem ztz {s:Ps}:Ends xs (s.p+1) (zqn xs s):=by
 unfold zqn z3k
 split
 ·exact Ends.no
 refine(z13 (z17 _ _)).bnd fun _ s1 h1 h2=>?_
 have h1':s.p+1≤s1.p:=h1
 refine(z5w (lo:=s1.p) (fun u h3 h4=>zn7 _ u h4 (by unfold lim;omega)) _ _ s1 (Nat.le_refl _) h2 (by unfold lim;omega)).bnd fun ks s2 h3 h4=>?_
 refine(z13 (z17 _ _)).bnd fun _ s3 h5 h6=>?_
 exact(z1b (s:=⟨s3.p,s3.d-1,s3.ns⟩) h6).less (by show s.p+1≤s3.p;omega)
theorem zlf {s:Ps}:Ends xs (s.p+1) (zfq xs s):=by
 refine zks.bnd fun t s1 h1 h2=>?_
 refine zgp.bnd fun ks s2 h3 h4=>?_
 refine ztz.bnd fun b s3 h5 h6=>?_
 exact(z1b h6).less (by omega)
theorem ze6 {s:Ps}:Ends xs (s.p+1) (z2k xs s):=by
 have e:s.next.p=s.p+1:=rfl
 unfold z2k
 split
 ·rename_i h;exact z63 (z6f h (by decide))
 split
 ·exact(zdp (s:=s.next)).less (by omega)
 ·exact zlf
theorem zlp {s:Ps}:Ends xs (s.p+1) (zld xs s):=by
 refine zks.bnd fun t s1 h1 h2=>?_
 refine(z13 (z17 _ _)).bnd fun _ s2 h3 h4=>?_
 refine(z5w (lo:=0) (fun _ _ _=>ze6) _ _ s2 (by omega) h4 (by unfold lim;omega)).bnd fun ks s3 h5 h6=>?_
 refine(z13 (z17 _ _)).bnd fun _ s4 h7 h8=>?_
 exact(z1b h8).less (by omega)
theorem zlh {s:Ps}:Ends xs (s.p+1) (z2x xs s):=by
 have e:s.next.p=s.p+1:=rfl
 unfold z2x
 split
 ·exact(zlp (s:=s.next)).less (by omega)
 ·exact ze6
theorem zls:Ends xs 0 (zai xs):=by
 refine(z5w (lo:=0) (fun _ _ _=>zlh) _ _ ⟨0,0,[]⟩ (Nat.le_refl _) (Nat.zero_le _) (by unfold lim;show _-0<_;omega)).bnd fun ks s h1 h2=>?_
 exact(z1b h2).less (by omega)
end
end Go.Proofs.YtekebloinobjnaaGreatDoor
