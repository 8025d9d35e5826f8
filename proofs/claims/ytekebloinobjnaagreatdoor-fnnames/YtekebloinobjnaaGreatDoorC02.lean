/- Texts of one proof, laid together: RdSp, LineLib, MkLib, SignLib. -/
import Derived.Test.YtekebloinobjnaaGreatDoorC01
import Derived.Test.YtekebloinobjnaaGreatDoorC00
import Derived.Lib.IndexMore
import Derived.Lib.LastIndexByte
import Derived.Lib.TrimByte
import Derived.Lib.Bytealg
import Derived.Maps.OwnOps
import Derived.Maps.OwnSet
import Derived.Maps.Views
import Derived.StringKeys
set_option maxHeartbeats 16000000
set_option maxRecDepth 100000
namespace Go.Proofs.YtekebloinobjnaaGreatDoor
open Go.RowKit
section
variable {xs:List Sg}
theorem z1y {α β γ:Type} (x:Rs α) (f:α→Ps→Rs β) (k:β→Ps→Rs γ):bnd (bnd x f) k=bnd x fun a s=>bnd (f a s) k:=by
 match x with
 | none=>rfl
 | some none=>rfl
 | some (some (_,_))=>rfl
theorem z2l {α β:Type} (x:Rs α) {f k:α→Ps→Rs β} (h:∀ a s,f a s=k a s):bnd x f=bnd x k:=by
 match x with
 | none=>rfl
 | some none=>rfl
 | some (some (a,s))=>exact h a s
theorem z5p (one:Ps→Rs Nat) (en:ByteArray) (c:Int):∀ (f:Nat) (ks:List Int) (s:Ps),z0v xs one en f (c::ks) s=bnd (z0v xs one en f ks s) fun l s1=>yes (c::l) s1
 | 0,_,_=>rfl
 | f+1,ks,s=>by
   unfold z0v
   by_cases h:txt xs s.p=en
   ·rw[if_pos h,if_pos h]
    rfl
   ·rw[if_neg h,if_neg h,z1y]
    refine z2l _ fun k s1=>?_
    by_cases h1:txt xs s1.p=(⟨#[44]⟩:ByteArray)
    ·rw[if_pos h1,if_pos h1,List.cons_append,z5p one en c f]
    ·rw[if_neg h1,if_neg h1,z1y]
     rfl
theorem zoi (O:Bool→Ps→Rs Nat) (c:Nat) (s:Ps) (h:txt xs s.p=(⟨#[40]⟩:ByteArray)):z95 xs O c s=bnd (z0v xs (O true) (⟨#[41]⟩:ByteArray) (lim xs) [(c:Int)] s.next) fun ks s2=>z0z 5 ByteArray.empty ks s2:=by
 unfold z95 z0p
 rw[if_pos h,z1a,z5p,z1y]
 rfl
end
def z2u (s:ByteArray):ByteArray:=⟨(Lib.trimRightB s.data.toList 32).toArray⟩
theorem z6u (s:ByteArray):(z2u s).size≤s.size:=by
 have h:(Lib.trimRightB s.data.toList 32).length≤s.data.toList.length:=by
  unfold Lib.trimRightB
  rw[List.length_reverse]
  have:=(List.dropWhile_suffix (fun x:UInt8=>x==32) (l:=s.data.toList.reverse)).length_le
  simpa using this
 have hs:s.data.toList.length=s.size:=by simp
 have ht:(z2u s).size=(Lib.trimRightB s.data.toList 32).length:=by simp[z2u,ByteArray.size]
 omega
theorem z4c {s:ByteArray} {n:Nat} (hn:n≤s.size) (h1:∀ j,n≤j→j<s.size→by8 s j=32) (h2:0<n→by8 s (n-1)≠32):s.extract 0 n=z2u s:=by
 unfold z2u
 rw[Lib.trimRightB_take s.data.toList 32 n (by simpa using hn) ?_ ?_]
 ·apply ByteArray.ext
  rw[ByteArray.data_extract,← Array.toList_inj,Array.toList_extract]
  simp[List.extract]
 ·intro j b hj hb
  have hjs:=(List.getElem?_eq_some_iff.1 hb).1
  have:=h1 j hj (by simpa using hjs)
  unfold by8 at this
  rw[List.getD_eq_getElem?_getD,hb] at this
  apply UInt8.toNat_inj.1
  have h3:b.toNat=32:=by simp at this;omega
  rw[h3];rfl
 ·intro b h0 hb e
  subst e
  apply h2 h0
  unfold by8
  rw[List.getD_eq_getElem?_getD,hb]
  rfl
open Go.RowKit Go.Maps Go.WideMaps
def zv5:List (List UInt8×Int):=[([38,38],2),([124,124],2),([61,61],2),([61,62],2),([46,46],2),([40],1),([41],1),([123],1),([125],1),([91],1),([93],1),([59],1),([44],1),([46],1),([61],1),([43],1),([45],1),([42],1),([60],1),([63],1),([58],1)]
def zko (l:List UInt8):Bool:=zv5.any fun p=>p.1==l
theorem z1k (t:ByteArray) (a b:Nat):(t.extract a b).data.toList=(t.data.toList.take b).drop a:=by
 rw[ByteArray.data_extract,Array.toList_extract]
 simp[List.extract,List.drop_take]
theorem z5i {t:ByteArray} {a b j:Nat} (h:a+j<b):by8 (t.extract a b) j=by8 t (a+j):=by
 unfold by8
 rw[z1k,List.getD_eq_getElem?_getD,List.getElem?_drop,List.getElem?_take,if_pos h,← List.getD_eq_getElem?_getD]
theorem z3h (t:ByteArray) (a:Nat):(t.extract a t.size).data.toList=t.data.toList.drop a:=by
 rw[z1k,List.take_of_length_le (by simp)]
theorem z3g (t:ByteArray) (a j:Nat):by8 (t.extract a t.size) j=by8 t (a+j):=by
 unfold by8
 rw[z3h,List.getD_eq_getElem?_getD,List.getElem?_drop,← List.getD_eq_getElem?_getD]
theorem z67 {t:ByteArray} {k:Nat} (h:t.size≤k):by8 t k=0:=by
 unfold by8
 rw[List.getD_eq_getElem?_getD,List.getElem?_eq_none (by simpa using h)]
 rfl
theorem z2h (t:ByteArray) (a:Nat):(t.extract a t.size).size=t.size-a:=by simp
theorem z8z {a b:ByteArray} (h:a.data.toList=b.data.toList):a=b:=ByteArray.ext (Array.ext' h)
theorem zam {t:ByteArray} {a i j:Nat}:(t.extract a t.size).extract i j=t.extract (a+i) (min (a+j) t.size):=by
 apply z8z
 rw[z1k,z3h,z1k,List.take_drop,List.drop_drop]
 congr 1
 rw[List.take_eq_take_iff]
 simp
def spn (p:Int→Bool) (s:ByteArray) (k:Nat):Nat:=((s.data.toList.drop k).takeWhile fun u=>p (u.toNat:Int)).length
theorem zaf {p:Int→Bool} {s:ByteArray} {k:Nat} (hk:k<s.size) (h:p (by8 s k)=true):spn p s k=spn p s (k+1)+1:=by
 unfold spn
 rw[zab s k hk,List.takeWhile_cons_of_pos (p:=fun u:UInt8=>p (u.toNat:Int)) h,List.length_cons]
theorem zgb {p:Int→Bool} {s:ByteArray} {k:Nat} (hk:k<s.size) (h:p (by8 s k)=false):spn p s k=0:=by
 unfold spn
 rw[zab s k hk,List.takeWhile_cons_of_neg (by rw[show p (((s.data.toList.getD k 0).toNat:Nat):Int)=false from h];simp)]
 rfl
theorem zdu {p:Int→Bool} {s:ByteArray} {k:Nat} (hk:s.size≤k):spn p s k=0:=by
 unfold spn
 rw[List.drop_of_length_le (by simpa using hk)]
 rfl
theorem zal (p:Int→Bool) (t:ByteArray) (a k:Nat):spn p (t.extract a t.size) k=spn p t (a+k):=by
 unfold spn
 rw[z3h,List.drop_drop]
theorem z2s {p:Int→Bool} {s:ByteArray}:∀ (n k:Nat),k+n≤s.size→(∀ j,j<n→p (by8 s (k+j))=true)→(k+n<s.size→p (by8 s (k+n))=false)→spn p s k=n
 | 0,k,hk,_,h2=>by
   rcases Nat.lt_or_ge k s.size with h|h
   ·exact zgb h (h2 (by omega))
   ·exact zdu h
 | n+1,k,hk,h1,h2=>by
   rw[zaf (by omega) (by simpa using h1 0 (by omega)),z2s n (k+1) (by omega) (fun j hj=>by have:=h1 (j+1) (by omega);rw[show k+1+j=k+(j+1) by omega];exact this) (fun h=>by have:=h2 (by omega);rw[show k+1+n=k+(n+1) by omega];exact this)]
theorem z88 {p:Int→Bool} {s:ByteArray}:∀ (d k:Nat),s.size-k=d→k≤s.size→k+spn p s k≤s.size∧(∀ j,j<spn p s k→p (by8 s (k+j))=true)∧(k+spn p s k<s.size→p (by8 s (k+spn p s k))=false)
 | 0,k,hd,hk=>by
   rw[zdu (by omega)]
   exact⟨by omega,fun j hj=>by omega,fun h=>by omega⟩
 | d+1,k,hd,hk=>by
   cases hp:p (by8 s k)
   ·rw[zgb (by omega) hp]
    exact⟨by omega,fun j hj=>by omega,fun _=>hp⟩
   ·obtain⟨h1,h2,h3⟩:=z88 (p:=p) (s:=s) d (k+1) (by omega) (by omega)
    rw[zaf (by omega) hp]
    refine⟨by omega,fun j hj=>?_,fun h=>?_⟩
    ·cases j with
     | zero=>exact hp
     | succ j=>rw[show k+(j+1)=k+1+j by omega];exact h2 j (by omega)
    ·rw[show k+(spn p s (k+1)+1)=k+1+spn p s (k+1) by omega]
     exact h3 (by omega)
theorem z3d {p:Int→Bool} {s:ByteArray} {k:Nat} (hk:k≤s.size):k+spn p s k≤s.size:=(z88 _ k rfl hk).1
theorem z6y {p:Int→Bool} {s:ByteArray} {k:Nat} (hk:k≤s.size):∀ j,j<spn p s k→p (by8 s (k+j))=true:=(z88 _ k rfl hk).2.1
theorem z8l {p:Int→Bool} {s:ByteArray} {k:Nat} (hk:k<s.size):(0<spn p s k)↔p (by8 s k)=true:=by
 cases h:p (by8 s k)
 ·rw[zgb hk h];simp
 ·rw[zaf hk h];simp
def z2f (b:Int):Bool:=decide (48≤b)&&decide (b≤57)
def z3u (b:Int):Bool:=(decide (97≤b)&&decide (b≤122))||(decide (65≤b)&&decide (b≤90))||(b==95)
def z3r (b:Int):Bool:=z3u b||z2f b
def z2v (b:Int):Bool:=decide (32≤b)&&decide (b≤126)
def z6z (b:Int):Bool:=z2v b&&(b != 39)
theorem zbi (s:ByteArray):∃ m,m≤s.size∧z2u s=s.extract 0 m∧(z2u s).size=m∧∀ j,m≤j→j<s.size→by8 s j=32:=by
 have H:∀ k,k≤s.size→(∀ j,k≤j→j<s.size→by8 s j=32)→∃ m,m≤s.size∧s.extract 0 m=z2u s∧∀ j,m≤j→j<s.size→by8 s j=32:=by
  intro k
  induction k with
  | zero=>exact fun hk h=>⟨0,hk,z4c hk h (fun h=>by omega),h⟩
  | succ k ih =>
    intro hk h
    by_cases e:by8 s k=32
    ·exact ih (by omega) (fun j h1 h2=>by
      by_cases e':j=k
      ·subst e';exact e
      ·exact h j (by omega) h2)
    ·exact⟨k+1,hk,z4c hk h (fun _=>by simpa using e),h⟩
 obtain⟨m,h1,h2,h3⟩:=H s.size (Nat.le_refl _) (fun j h1 h2=>by omega)
 refine⟨m,h1,h2.symm,?_,h3⟩
 rw[← h2]
 simp
 omega
def z5h (m n:Nat):Nat:=if m<n then 0 else n
def zfz (r:ByteArray):Nat:=if 1+spn z6z r 1<r.size∧by8 r (1+spn z6z r 1)=39 then 1+spn z6z r 1+1 else 0
def zar (r:ByteArray):Nat:=if spn z2v r 0<r.size∧by8 r (spn z2v r 0)≠10 then 0 else (z2u (r.extract 0 (spn z2v r 0))).size
def zat (r:ByteArray):Nat:=if 2≤r.size∧zko (r.data.toList.take 2)=true then 2 else if 1≤r.size∧zko (r.data.toList.take 1)=true then 1 else 0
def hd (r:ByteArray):Int×Nat:=
 if z2f (by8 r 0)=true then (2,z5h 12 (spn z2f r 0))
 else if z3u (by8 r 0)=true then (1,z5h 30 (spn z3r r 0))
 else if by8 r 0=39 then (3,zfz r)
 else if by8 r 0=47∧by8 r 1=47 then (5,zar r)
 else (4,zat r)
theorem z5y {r:ByteArray} (h:z2f (by8 r 0)=true):hd r=(2,z5h 12 (spn z2f r 0)):=by unfold hd;rw[if_pos h]
theorem z5f {r:ByteArray} (h:z2f (by8 r 0)=false) (h2:z3u (by8 r 0)=true):hd r=(1,z5h 30 (spn z3r r 0)):=by unfold hd;rw[if_neg (by rw[h];decide),if_pos h2]
theorem zak {r:ByteArray} (h:z2f (by8 r 0)=false) (h2:z3u (by8 r 0)=false) (h3:by8 r 0=39):hd r=(3,zfz r):=by unfold hd;rw[if_neg (by rw[h];decide),if_neg (by rw[h2];decide),if_pos h3]
theorem z7s {r:ByteArray} (h4:by8 r 0=47∧by8 r 1=47):hd r=(5,zar r):=by
 unfold hd;rw[h4.1,if_neg (by decide),if_neg (by decide),if_neg (by decide),if_pos ⟨rfl,h4.2⟩]
theorem zc4 {r:ByteArray} (h:z2f (by8 r 0)=false) (h2:z3u (by8 r 0)=false) (h3:by8 r 0≠39) (h4:¬ (by8 r 0=47∧by8 r 1=47)):hd r=(4,zat r):=by
 unfold hd;rw[if_neg (by rw[h];decide),if_neg (by rw[h2];decide),if_neg h3,if_neg h4]
theorem ziq (m n:Nat):z5h m n≤n:=by unfold z5h;split<;>omega
theorem zb0 (r:ByteArray):(hd r).2≤r.size:=by
 unfold hd
 split
 ·exact Nat.le_trans (ziq _ _) (by have:=z3d (p:=z2f) (s:=r) (k:=0) (Nat.zero_le _);omega)
 ·split
  ·exact Nat.le_trans (ziq _ _) (by have:=z3d (p:=z3r) (s:=r) (k:=0) (Nat.zero_le _);omega)
  ·split
   ·unfold zfz
    split
    ·show 1+spn z6z r 1+1≤r.size
     omega
    ·exact Nat.zero_le _
   ·split
    ·unfold zar
     split
     ·exact Nat.zero_le _
     ·have h1:=z6u (r.extract 0 (spn z2v r 0))
      have h2:=z3d (p:=z2v) (s:=r) (k:=0) (Nat.zero_le _)
      simp at h1
      show (z2u _).size≤r.size
      omega
    ·unfold zat
     split
     ·show 2≤r.size
      omega
     ·split
      ·show 1≤r.size
       omega
      ·exact Nat.zero_le _
def z96 (t:ByteArray):Nat→Nat→Nat→List Sg→List Sg×Nat×Bool
 | 0,_,_,pre=>(pre,0,true)
 | f+1,k,ends,pre =>
   if k<t.size then
    if by8 t k=32 then z96 t f (k+1) ends pre
    else if by8 t k=10 then z96 t f (k+1) (ends+1) pre
    else if (hd (t.extract k t.size)).2=0 then ([],k,false)
    else z96 t f (k+(hd (t.extract k t.size)).2) 0 (pre++[⟨(hd (t.extract k t.size)).1,t.extract k (k+(hd (t.extract k t.size)).2),k,decide (1<ends)⟩])
   else (pre,0,true)
theorem z4d (t:ByteArray) (f k ends:Nat) (pre:List Sg) (h:¬ k<t.size):z96 t f k ends pre=(pre,0,true):=by
 cases f with
 | zero=>rfl
 | succ f=>rw[z96,if_neg h]
theorem z6d (t:ByteArray):∀ (f g k ends:Nat) (pre:List Sg),t.size-k≤f→t.size-k≤g→z96 t f k ends pre=z96 t g k ends pre
 | 0,g,k,ends,pre,hf,_=>by
   rw[z4d t 0 k ends pre (by omega),z4d t g k ends pre (by omega)]
 | f+1,0,k,ends,pre,_,hg=>by
   rw[z4d t 0 k ends pre (by omega),z4d t (f+1) k ends pre (by omega)]
 | f+1,g+1,k,ends,pre,hf,hg=>by
   by_cases hk:k<t.size
   ·rw[z96,z96,if_pos hk,if_pos hk]
    by_cases h32:by8 t k=32
    ·rw[if_pos h32,if_pos h32]
     exact z6d t f g (k+1) ends pre (by omega) (by omega)
    ·rw[if_neg h32,if_neg h32]
     by_cases h10:by8 t k=10
     ·rw[if_pos h10,if_pos h10]
      exact z6d t f g (k+1) (ends+1) pre (by omega) (by omega)
     ·rw[if_neg h10,if_neg h10]
      by_cases hn:(hd (t.extract k t.size)).2=0
      ·rw[if_pos hn,if_pos hn]
      ·rw[if_neg hn,if_neg hn]
       exact z6d t f g _ 0 _ (by omega) (by omega)
   ·rw[z4d t (f+1) k ends pre hk,z4d t (g+1) k ends pre hk]
def zc6 (t:ByteArray) (k ends:Nat) (pre:List Sg):List Sg×Nat×Bool:=z96 t (t.size-k) k ends pre
theorem zli {t:ByteArray} {k ends:Nat} {pre:List Sg} (h:¬ k<t.size):zc6 t k ends pre=(pre,0,true):=z4d t _ k ends pre h
theorem z8h {t:ByteArray} {f k ends:Nat} {pre:List Sg} (h:t.size-k≤f):z96 t f k ends pre=zc6 t k ends pre:=z6d t f _ k ends pre h (Nat.le_refl _)
theorem z64 {t:ByteArray} {k ends:Nat} {pre:List Sg} (h:k<t.size):zc6 t k ends pre=z96 t (t.size-k-1+1) k ends pre:=by
 rw[show t.size-k-1+1=t.size-k by omega]
 rfl
theorem z9h {t:ByteArray} {k ends:Nat} {pre:List Sg} (h:k<t.size) (hb:by8 t k=32):zc6 t k ends pre=zc6 t (k+1) ends pre:=by
 rw[z64 h,z96,if_pos h,if_pos hb,z8h (by omega)]
theorem zhu {t:ByteArray} {k ends:Nat} {pre:List Sg} (h:k<t.size) (hb:by8 t k=10):zc6 t k ends pre=zc6 t (k+1) (ends+1) pre:=by
 rw[z64 h,z96,if_pos h,if_neg (by omega),if_pos hb,z8h (by omega)]
theorem zi1 {t:ByteArray} {k ends:Nat} {pre:List Sg} (h:k<t.size) (h1:by8 t k≠32) (h2:by8 t k≠10) (hn:(hd (t.extract k t.size)).2=0):zc6 t k ends pre=([],k,false):=by
 rw[z64 h,z96,if_pos h,if_neg h1,if_neg h2,if_pos hn]
theorem zhh {t:ByteArray} {k ends:Nat} {pre:List Sg} (h:k<t.size) (h1:by8 t k≠32) (h2:by8 t k≠10) (hn:(hd (t.extract k t.size)).2≠0) :
 zc6 t k ends pre=zc6 t (k+(hd (t.extract k t.size)).2) 0 (pre++[⟨(hd (t.extract k t.size)).1,t.extract k (k+(hd (t.extract k t.size)).2),k,decide (1<ends)⟩]):=by
 rw[z64 h,z96,if_pos h,if_neg h1,if_neg h2,if_neg hn,z8h (by omega)]
theorem z8x {t:ByteArray} {ends:Nat} {pre:List Sg}:∀ (n k:Nat),k+n≤t.size→(∀ j,j<n→by8 t (k+j)=32)→zc6 t k ends pre=zc6 t (k+n) ends pre
 | 0,k,_,_=>rfl
 | n+1,k,hk,h=>by
   rw[z9h (by omega) (by simpa using h 0 (by omega)),z8x n (k+1) (by omega) (fun j hj=>by rw[show k+1+j=k+(j+1) by omega];exact h (j+1) (by omega)),show k+1+n=k+(n+1) by omega]
def sgn (t:ByteArray):List Sg×Nat×Bool:=if 3000<t.size then ([],3000,false) else zc6 t 0 0 []
theorem zlo {t:ByteArray} (h:3000<t.size):sgn t=([],3000,false):=by unfold sgn;rw[if_pos h]
theorem zh1 {t:ByteArray} (h:¬ 3000<t.size):sgn t=zc6 t 0 0 []:=by unfold sgn;rw[if_neg h]
def zgy (t:ByteArray) (T:Nat) (w:World) (e:Ending) (w':World):Prop:=
 Below w.heap.size w w'∧∃ v,e=.returned (.tuple #[v,.int .i64 (sgn t).2.1,.bool (sgn t).2.2])∧w'.ownsRow w.heap.size T 4 v (sgn t).1.length (z3j (sgn t).1)
theorem zgy.mk {t:ByteArray} {T:Nat} {w w':World} {v:Value} {l:List Sg} {p:Nat} {b:Bool} {q:Int} (hr:sgn t=(l,p,b)) (hq:q=(p:Int)) (hb:Below w.heap.size w w') (ho:w'.ownsRow w.heap.size T 4 v l.length (z3j l)) :
 zgy t T w (.returned (.tuple #[v,.int .i64 q,.bool b])) w':=by
 refine⟨hb,v,?_,?_⟩
 ·rw[hr,hq]
 ·rw[hr];exact ho
theorem zg5 (w:World) (c:Array Value) (T:Nat):∀ j u,c.toList[j]?=some u→(w.alloc (.cells c T)).cell? ((⟨w.heap.size,0,none⟩:Addr).add j)=some u:=by
 intro j u h
 have e:(⟨w.heap.size,0,none⟩:Addr).add j=⟨w.heap.size,j,none⟩:=by unfold Addr.add;split<;>simp_all
 rw[e,World.cell?_alloc_new]
 simpa using h
theorem z9d (w:World) (o:Obj) (c:Array Value) (T:Nat):∀ j u,c.toList[j]?=some u→((w.alloc o).alloc (.cells c T)).cell? ((⟨w.heap.size+1,0,none⟩:Addr).add j)=some u:=by
 intro j u h
 have e:(⟨w.heap.size+1,0,none⟩:Addr).add j=⟨w.heap.size+1,j,none⟩:=by unfold Addr.add;split<;>simp_all
 rw[e,World.cell?_alloc2_new]
 simpa using h
theorem zcj (x:Sg):∀ u∈z4q x,u.oneCell'=true:=by
 intro u hu
 simp[z4q] at hu
 rcases hu with rfl|rfl|rfl|rfl<;>rfl
end Go.Proofs.YtekebloinobjnaaGreatDoor
