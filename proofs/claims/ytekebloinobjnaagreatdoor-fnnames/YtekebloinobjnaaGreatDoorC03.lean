/- Texts of one proof, laid together: SgOk, SgWh, RdIv. -/
import Derived.Test.YtekebloinobjnaaGreatDoorC02
set_option maxHeartbeats 16000000
set_option maxRecDepth 100000
namespace Go.Proofs.YtekebloinobjnaaGreatDoor
open Go.RowKit
def kOf (t:ByteArray):Int:=
 if z2f (by8 t 0)=true then 2 else if z3u (by8 t 0)=true then 1 else if by8 t 0=39 then 3 else if by8 t 0=47∧by8 t 1=47 then 5 else 4
structure SgOk (x:Sg):Prop where
 kind:x.kind=kOf x.text
 some:0<x.text.size
 few:x.text.size≤3000
theorem zix {r:ByteArray} (h:by8 r 0=47∧by8 r 1=47) (hn:zar r≠0):2≤zar r:=by
 have h2:2≤r.size:=by
  rcases Nat.lt_or_ge 1 r.size with h1|h1
  ·omega
  ·rw[z67 h1] at h
   exact absurd h.2 (by decide)
 unfold zar at hn ⊢
 split
 ·rename_i h3
  rw[if_pos h3] at hn
  exact absurd rfl hn
 ·obtain⟨m,h4,_,h6,h7⟩:=zbi (r.extract 0 (spn z2v r 0))
  rw[h6]
  have e0:0<spn z2v r 0:=(z8l (by omega)).2 (by rw[h.1];decide)
  have e1:2≤spn z2v r 0:=by
   have e:=zaf (p:=z2v) (s:=r) (k:=0) (by omega) (by rw[h.1];decide)
   rw[Nat.zero_add] at e
   have:0<spn z2v r 1:=(z8l (by omega)).2 (by rw[h.2];decide)
   omega
  have hs:(r.extract 0 (spn z2v r 0)).size=spn z2v r 0:=by
   have:=z3d (p:=z2v) (s:=r) (k:=0) (Nat.zero_le _)
   simp
   omega
  rcases Nat.lt_or_ge m 2 with hm|hm
  ·exfalso
   have:=h7 1 (by omega) (by omega)
   rw[z5i (by omega),Nat.zero_add,h.2] at this
   exact absurd this (by decide)
  ·exact hm
theorem zoo (r:ByteArray) (hn:(hd r).2≠0):(hd r).1=kOf (r.extract 0 (hd r).2):=by
 have hl:=zb0 r
 have b0:by8 (r.extract 0 (hd r).2) 0=by8 r 0:=by rw[z5i (by omega)]
 unfold kOf
 rw[b0]
 by_cases h1:z2f (by8 r 0)=true
 ·rw[if_pos h1,z5y h1]
 ·have h1':z2f (by8 r 0)=false:=by simpa using h1
  rw[if_neg h1]
  by_cases h2:z3u (by8 r 0)=true
  ·rw[if_pos h2,z5f h1' h2]
  ·have h2':z3u (by8 r 0)=false:=by simpa using h2
   rw[if_neg h2]
   by_cases h3:by8 r 0=39
   ·rw[if_pos h3,zak h1' h2' h3]
   ·rw[if_neg h3]
    by_cases h4:by8 r 0=47∧by8 r 1=47
    ·have h5:2≤(hd r).2:=by
      rw[z7s h4] at hn ⊢
      exact zix h4 hn
     have b1:by8 (r.extract 0 (hd r).2) 1=by8 r 1:=by rw[z5i (by omega)]
     rw[b1,if_pos h4,z7s h4]
    ·rw[if_neg (fun h=>h4 ⟨h.1,?_⟩),zc4 h1' h2' h3 h4]
     have h5:=h.2
     rcases Nat.lt_or_ge 1 (hd r).2 with h6|h6
     ·rw[z5i (by omega),Nat.zero_add] at h5
      exact h5
     ·rw[z67 (by simp;omega)] at h5
      exact absurd h5 (by decide)
theorem zao (t:ByteArray) (ht:t.size≤3000):∀ (f k ends:Nat) (pre:List Sg),(∀ x∈pre,SgOk x)→pre.length≤k→(∀ x∈(z96 t f k ends pre).1,SgOk x)∧(z96 t f k ends pre).1.length≤max k t.size
 | 0,k,ends,pre,h,hp=>⟨h,by show pre.length≤_;omega⟩
 | f+1,k,ends,pre,h,hp=>by
   rw[z96]
   split
   ·rename_i hk
    split
    ·obtain⟨h1,h2⟩:=zao t ht f (k+1) ends pre h (by omega)
     exact⟨h1,by omega⟩
    split
    ·obtain⟨h1,h2⟩:=zao t ht f (k+1) (ends+1) pre h (by omega)
     exact⟨h1,by omega⟩
    split
    ·exact⟨fun x hx=>by simp at hx,Nat.zero_le _⟩
    ·rename_i hn
     have hl:=zb0 (t.extract k t.size)
     rw[z2h] at hl
     have hx:t.extract k (k+(hd (t.extract k t.size)).2)=(t.extract k t.size).extract 0 (hd (t.extract k t.size)).2:=by
      rw[zam,Nat.add_zero,Nat.min_eq_left (by omega)]
     obtain⟨h1,h2⟩:=zao t ht f (k+(hd (t.extract k t.size)).2) 0 (pre++[⟨(hd (t.extract k t.size)).1,t.extract k (k+(hd (t.extract k t.size)).2),k,decide (1<ends)⟩]) (fun x hx'=>by
      rcases List.mem_append.1 hx' with h3|h3
      ·exact h x h3
      ·have e:x=⟨(hd (t.extract k t.size)).1,t.extract k (k+(hd (t.extract k t.size)).2),k,decide (1<ends)⟩:=by simpa using h3
       subst e
       refine⟨?_,?_,?_⟩
       ·show (hd (t.extract k t.size)).1=kOf (t.extract k (k+(hd (t.extract k t.size)).2))
        rw[hx]
        exact zoo _ hn
       ·show 0<(t.extract k (k+(hd (t.extract k t.size)).2)).size
        simp
        omega
       ·show (t.extract k (k+(hd (t.extract k t.size)).2)).size≤3000
        simp
        omega) (by simp;omega)
     exact⟨h1,by omega⟩
   ·exact⟨h,by show pre.length≤_;omega⟩
theorem zme (t:ByteArray):(∀ x∈(sgn t).1,SgOk x)∧(sgn t).1.length≤3000:=by
 unfold sgn
 split
 ·exact⟨fun x hx=>by simp at hx,Nat.zero_le _⟩
 ·rename_i h
  obtain⟨h1,h2⟩:=zao t (by omega) (t.size-0) 0 0 [] (fun x hx=>by simp at hx) (Nat.zero_le _)
  exact⟨h1,by unfold zc6;omega⟩
theorem z6a {r:ByteArray} {n:Nat} (h:n≤r.size):(r.extract 0 n).size=n:=by
 simp
 omega
theorem zmb {r:ByteArray} {n j:Nat} (h:j<n):by8 (r.extract 0 n) j=by8 r j:=by rw[z5i (by omega),Nat.zero_add]
theorem zjr (r:ByteArray):r.extract 0 r.size=r:=by simp
theorem zjl {r:ByteArray} {n m:Nat} (h:m≤n):(r.extract 0 n).extract 0 m=r.extract 0 m:=by
 apply z8z
 rw[z1k,z1k,z1k,List.drop_zero,List.drop_zero,List.drop_zero,List.take_take,Nat.min_eq_left h]
theorem z99 (s:ByteArray):∃ m,m≤s.size∧z2u s=s.extract 0 m∧(z2u s).size=m∧(0<m→by8 s (m-1)≠32):=by
 have H:∀ k,k≤s.size→(∀ j,k≤j→j<s.size→by8 s j=32)→∃ m,m≤s.size∧s.extract 0 m=z2u s∧(0<m→by8 s (m-1)≠32):=by
  intro k
  induction k with
  | zero=>exact fun hk h=>⟨0,hk,z4c hk h (fun h=>by omega),fun h=>by omega⟩
  | succ k ih =>
    intro hk h
    by_cases e:by8 s k=32
    ·exact ih (by omega) (fun j h1 h2=>by
      by_cases e':j=k
      ·subst e';exact e
      ·exact h j (by omega) h2)
    ·exact⟨k+1,hk,z4c hk h (fun _=>by simpa using e),fun _=>by simpa using e⟩
 obtain⟨m,h1,h2,h3⟩:=H s.size (Nat.le_refl _) (fun j h1 h2=>by omega)
 refine⟨m,h1,h2.symm,?_,h3⟩
 rw[← h2]
 exact z6a h1
theorem zk9 (r:ByteArray) (hn:(hd r).2≠0) (h4:(hd r).1≠4):hd (r.extract 0 (hd r).2)=hd r:=by
 have hl:=zb0 r
 have hs:=z6a hl
 have hb:=fun j (h:j<(hd r).2)=>zmb (r:=r) h
 have hpos:0<(hd r).2:=by omega
 by_cases h1:z2f (by8 r 0)=true
 ·have e:=z5y h1
  have hsp:=z3d (p:=z2f) (s:=r) (k:=0) (Nat.zero_le _)
  have ha:=z6y (p:=z2f) (s:=r) (k:=0) (Nat.zero_le _)
  have hc:(hd r).2=spn z2f r 0∧spn z2f r 0≤12:=by
   rw[e] at hn ⊢
   unfold z5h at hn ⊢
   split at hn
   ·exact absurd rfl hn
   ·rename_i h;rw[if_neg h];exact⟨rfl,by omega⟩
  have e2:spn z2f (r.extract 0 (hd r).2) 0=(hd r).2:=z2s _ 0 (by omega) (fun j hj=>by rw[Nat.zero_add,hb j hj];have:=ha j (by omega);rwa [Nat.zero_add] at this) (fun h=>by omega)
  rw[z5y (by rw[hb 0 hpos];exact h1),e2,e]
  have hc1:z5h 12 (hd r).2=(hd r).2:=by unfold z5h;rw[if_neg (by omega)]
  rw[← e,hc1,e]
 have h1':z2f (by8 r 0)=false:=by simpa using h1
 by_cases h2:z3u (by8 r 0)=true
 ·have e:=z5f h1' h2
  have hsp:=z3d (p:=z3r) (s:=r) (k:=0) (Nat.zero_le _)
  have ha:=z6y (p:=z3r) (s:=r) (k:=0) (Nat.zero_le _)
  have hc:(hd r).2=spn z3r r 0∧spn z3r r 0≤30:=by
   rw[e] at hn ⊢
   unfold z5h at hn ⊢
   split at hn
   ·exact absurd rfl hn
   ·rename_i h;rw[if_neg h];exact⟨rfl,by omega⟩
  have e2:spn z3r (r.extract 0 (hd r).2) 0=(hd r).2:=z2s _ 0 (by omega) (fun j hj=>by rw[Nat.zero_add,hb j hj];have:=ha j (by omega);rwa [Nat.zero_add] at this) (fun h=>by omega)
  rw[z5f (by rw[hb 0 hpos];exact h1') (by rw[hb 0 hpos];exact h2),e2]
  have hc1:z5h 30 (hd r).2=(hd r).2:=by unfold z5h;rw[if_neg (by omega)]
  rw[hc1]
  rw[e]
 have h2':z3u (by8 r 0)=false:=by simpa using h2
 by_cases h3:by8 r 0=39
 ·have e:=zak h1' h2' h3
  have ha:=z6y (p:=z6z) (s:=r) (k:=1)
  obtain⟨m,hm⟩:∃ m,m=spn z6z r 1:=⟨_,rfl⟩
  rw[← hm] at ha
  have hc:(hd r).2=m+2∧1+m<r.size∧by8 r (1+m)=39:=by
   rw[e] at hn ⊢
   unfold zfz at hn ⊢
   rw[← hm] at hn ⊢
   split at hn
   ·rename_i h;rw[if_pos h];exact⟨by show 1+m+1=m+2;omega,h⟩
   ·exact absurd rfl hn
  obtain⟨c1,c2,c3⟩:=hc
  have e2:spn z6z (r.extract 0 (hd r).2) 1=m:=z2s _ 1 (by omega) (fun j hj=>by rw[hb _ (by omega)];exact ha (by omega) j hj) (fun h=>by rw[hb _ (by omega),c3];decide)
  rw[zak (by rw[hb 0 hpos];exact h1') (by rw[hb 0 hpos];exact h2') (by rw[hb 0 hpos];exact h3)]
  have e3:zfz (r.extract 0 (hd r).2)=(hd r).2:=by
   unfold zfz
   rw[e2,if_pos ⟨by omega,by rw[hb _ (by omega)];exact c3⟩]
   omega
  rw[e3]
  rw[e]
 by_cases h5:by8 r 0=47∧by8 r 1=47
 ·have e:=z7s h5
  have h2n:2≤(hd r).2:=by
   rw[e] at hn ⊢
   exact zix h5 hn
  have hsp:=z3d (p:=z2v) (s:=r) (k:=0) (Nat.zero_le _)
  have ha:=z6y (p:=z2v) (s:=r) (k:=0) (Nat.zero_le _)
  obtain⟨m,hm1,hm2,hm3,hm4⟩:=z99 (r.extract 0 (spn z2v r 0))
  rw[z6a (by omega)] at hm1
  have hc:(hd r).2=m:=by
   rw[e] at hn ⊢
   unfold zar at hn ⊢
   split at hn
   ·exact absurd rfl hn
   ·rename_i h;rw[if_neg h];exact hm3
  rw[z7s ⟨by rw[hb 0 hpos];exact h5.1,by rw[hb 1 (by omega)];exact h5.2⟩]
  have e2:spn z2v (r.extract 0 (hd r).2) 0=(hd r).2:=z2s _ 0 (by omega) (fun j hj=>by rw[Nat.zero_add,hb j hj];have:=ha j (by omega);rwa [Nat.zero_add] at this) (fun h=>by omega)
  have e3:z2u (r.extract 0 (hd r).2)=r.extract 0 (hd r).2:=by
   have:=z4c (s:=r.extract 0 (hd r).2) (n:=(hd r).2) (by omega) (fun j h6 h7=>by omega) (fun h6=>by
    rw[hb _ (by omega),hc]
    have:=hm4 (by omega)
    rwa [zmb (by omega)] at this)
   rw[← this,zjl (Nat.le_refl _)]
  have e4:zar (r.extract 0 (hd r).2)=(hd r).2:=by
   unfold zar
   rw[e2,if_neg (by omega),zjl (Nat.le_refl _),e3,hs]
  rw[e4]
  rw[e]
 ·exact absurd (by rw[zc4 h1' h2' h3 h5]) h4
def z3b (k:Int) (t:ByteArray):Prop:=hd t=(k,t.size)
theorem z54 (t:ByteArray):∀ (f k ends:Nat) (pre:List Sg),(∀ x∈pre,x.kind≠4→z3b x.kind x.text)→∀ x∈(z96 t f k ends pre).1,x.kind≠4→z3b x.kind x.text
 | 0,k,ends,pre,h=>h
 | f+1,k,ends,pre,h=>by
   rw[z96]
   split
   ·split
    ·exact z54 t f (k+1) ends pre h
    split
    ·exact z54 t f (k+1) (ends+1) pre h
    split
    ·exact fun x hx=>by simp at hx
    ·rename_i hk _ _ hn
     have hl:=zb0 (t.extract k t.size)
     rw[z2h] at hl
     have hx:t.extract k (k+(hd (t.extract k t.size)).2)=(t.extract k t.size).extract 0 (hd (t.extract k t.size)).2:=by
      rw[zam,Nat.add_zero,Nat.min_eq_left (by omega)]
     refine z54 t f _ 0 _ (fun x hx'=>?_)
     rcases List.mem_append.1 hx' with h3|h3
     ·exact h x h3
     ·have e:x=⟨(hd (t.extract k t.size)).1,t.extract k (k+(hd (t.extract k t.size)).2),k,decide (1<ends)⟩:=by simpa using h3
      subst e
      intro h4
      show hd (t.extract k (k+(hd (t.extract k t.size)).2))=((hd (t.extract k t.size)).1,(t.extract k (k+(hd (t.extract k t.size)).2)).size)
      rw[hx,zk9 _ hn h4,z6a (zb0 _)]
   ·exact h
theorem zit (t:ByteArray):∀ x∈(sgn t).1,x.kind≠4→z3b x.kind x.text:=by
 unfold sgn
 split
 ·exact fun x hx=>by simp at hx
 ·exact z54 t _ 0 0 [] (fun x hx=>by simp at hx)
def zj9 (t:ByteArray):Prop:=z3b 1 t∧kw t=false
def zk0 (k:Int) (t:ByteArray):Prop:=
 if k=1∨k=6∨k=12∨k=13∨k=20∨k=21 then zj9 t
 else if k=2 then z3b 2 t
 else if k=3 then z3b 3 t
 else if k=19 then z3b 5 t
 else if k=7 then lvl t≠0
 else t=ByteArray.empty
structure SafeNd (x:Nd):Prop where
 text:zk0 x.kind x.text
 few:x.text.size≤3000
 casc:x.kind=10→x.kids.length≠1
def SA (s:Ps):Prop:=∀ x∈s.ns,SafeNd x
def Iv {α:Type} (Q:α→Ps→Prop) (r:Rs α):Prop:=∀ a s,r=yes a s→Q a s
structure SgsOk (xs:List Sg):Prop where
 whole:∀ x∈xs,x.kind≠4→z3b x.kind x.text
 few:∀ x∈xs,x.text.size≤3000
section
variable {α β:Type} {xs:List Sg}
theorem Iv.no {Q:α→Ps→Prop}:Iv Q (some none):=fun _ _ h=>by simp at h
theorem Iv.out {Q:α→Ps→Prop}:Iv Q none:=fun _ _ h=>by simp at h
theorem Iv.ok {Q:α→Ps→Prop} {a:α} {s:Ps} (h:Q a s):Iv Q (yes a s):=fun b t e=>by simp only[Option.some.injEq,Prod.mk.injEq] at e;obtain⟨rfl,rfl⟩:=e;exact h
theorem Iv.bnd {Q:α→Ps→Prop} {R:β→Ps→Prop} {x:Rs α} {f:α→Ps→Rs β} (h:Iv Q x) (hf:∀ a s,Q a s→Iv R (f a s)):Iv R (bnd x f):=by
 match x,h with
 | none,_=>exact Iv.out
 | some none,_=>exact Iv.no
 | some (some (a,s)),h=>exact hf a s (h a s rfl)
abbrev QA:α→Ps→Prop:=fun _ s=>SA s
theorem zbh (h:SgsOk xs) {p:Nat} {k:Int} (hk:knd xs p=k) (h0:k≠0) (h4:k≠4):z3b k (txt xs p):=by
 have hl:=z6f hk h0
 unfold knd at hk
 unfold txt
 rw[List.getElem?_eq_getElem hl] at hk ⊢
 have hk':xs[p].kind=k:=hk
 have:=h.whole xs[p] (List.getElem_mem _) (by rw[hk'];exact h4)
 rw[hk'] at this
 exact this
theorem zct (h:SgsOk xs) (p:Nat):(txt xs p).size≤3000:=by
 unfold txt
 cases hx:xs[p]? with
 | none=>exact Nat.zero_le _
 | some x=>exact h.few x (List.mem_of_getElem? hx)
theorem z1u {t:ByteArray} {s:Ps} (h:SA s):Iv QA (z0p xs t s):=by
 unfold z0p
 split
 ·exact Iv.ok h
 ·exact Iv.no
theorem zay {kind:Int} {t:ByteArray} {ks:List Int} {s:Ps} (h:SA s) (hx:SafeNd ⟨kind,t,ks,false⟩):Iv QA (z0z kind t ks s):=by
 unfold z0z
 split
 ·exact Iv.no
 ·refine Iv.ok fun x hx'=>?_
  rcases List.mem_append.1 hx' with h1|h1
  ·exact h x h1
  ·have:x=⟨kind,t,ks,false⟩:=by simpa using h1
   subst this
   exact hx
theorem z2y {kind:Int} {ks:List Int} {s:Ps} (h:SA s) (hk:zk0 kind ByteArray.empty) (h10:kind≠10):Iv QA (z0z kind ByteArray.empty ks s):=zay h ⟨hk,Nat.zero_le _,fun e=>absurd e h10⟩
theorem z4y {kind:Int} {t:ByteArray} {ks:List Int} {s:Ps} (h:SA s) (hn:zj9 t∧t.size≤3000) (hk:kind=1∨kind=6∨kind=12∨kind=13∨kind=20∨kind=21):Iv QA (z0z kind t ks s):=
 zay h ⟨by unfold zk0;rw[if_pos hk];exact hn.1,hn.2,fun e=>by have e':kind=10:=e;omega⟩
theorem zmf (hg:SgsOk xs) {p:Nat} (h:z4r xs p=true):zj9 (txt xs p)∧(txt xs p).size≤3000:=by
 unfold z4r at h
 simp only[Bool.and_eq_true,beq_iff_eq,Bool.not_eq_true'] at h
 exact⟨⟨zbh hg h.1 (by decide) (by decide),h.2⟩,zct hg p⟩
theorem z6w (hg:SgsOk xs) {s:Ps} (h:SA s):Iv (fun t s1=>(zj9 t∧t.size≤3000)∧SA s1) (z4j xs s):=by
 unfold z4j
 split
 ·rename_i hn
  exact Iv.ok ⟨zmf hg hn,h⟩
 ·exact Iv.no
theorem z9u (hg:SgsOk xs) {s:Ps} {k:Int} {kind:Int} (h:SA s) (hk:knd xs s.p=k) (h0:k≠0) (h4:k≠4) (ht:∀ t,z3b k t→zk0 kind t) (h10:kind≠10):Iv QA (z7y xs kind s):=
 zay (s:=s.next) h ⟨ht _ (zbh hg hk h0 h4),zct hg _,fun e=>absurd e h10⟩
theorem zl6 (hg:SgsOk xs) {s:Ps} (h:SA s) (hn:z4r xs s.p=true):Iv QA (z7y xs 1 s):=z4y (s:=s.next) h (zmf hg hn) (.inl rfl)
theorem zis (hg:SgsOk xs) {s:Ps} (h:SA s):Iv QA (z4n xs s):=(z6w hg h).bnd fun _ _ h1=>z4y h1.2 h1.1 (.inl rfl)
def z4a (one:Ps→Rs Nat):Prop:=∀ s:Ps,SA s→Iv QA (one s)
theorem z6k {one:Ps→Rs Nat} {en:ByteArray} (ho:z4a one):∀ (f:Nat) (ks:List Int) (s:Ps),SA s→Iv QA (z0v xs one en f ks s)
 | 0,_,_,_=>Iv.out
 | f+1,ks,s,h=>by
   unfold z0v
   split
   ·exact Iv.ok h
   ·refine(ho s h).bnd fun k s1 h1=>?_
    split
    ·exact z6k ho f _ s1.next h1
    ·exact(z1u h1).bnd fun _ s2 h2=>Iv.ok h2
theorem zen (hg:SgsOk xs) {s:Ps} (h:SA s):Iv QA (z4p xs s):=(z1u h).bnd fun _ s1 h1=>z6k (fun _ h=>zis hg h) _ _ s1 h1
section
variable {O:Bool→Ps→Rs Nat}
theorem zhl {c:Nat} {s:Ps} (hO:z4a (O true)) (h:SA s):Iv QA (z95 xs O c s):=(z1u h).bnd fun _ s1 h1=>(z6k hO _ _ s1 h1).bnd fun _ _ h2=>z2y h2 rfl (by decide)
theorem zl0 (hg:SgsOk xs) {s:Ps} (hO:z4a (O false)) (h:SA s):Iv QA (zdn xs O s):=(zen hg h).bnd fun _ _ h1=>(z1u h1).bnd fun _ s2 h2=>(hO s2 h2).bnd fun _ _ h3=>z2y h3 rfl (by decide)
theorem zne (hg:SgsOk xs) {s:Ps} (hO:∀ b,z4a (O b)) (h:SA s):Iv QA (z3l xs O s):=by
 unfold z3l
 split
 ·rename_i hn;exact zl6 hg h hn
 split
 ·rename_i hk;exact z9u hg h hk (by decide) (by decide) (fun t ht=>ht) (by decide)
 split
 ·rename_i hk;exact z9u hg h hk (by decide) (by decide) (fun t ht=>ht) (by decide)
 split
 ·exact(z6k (hO true) _ _ s.next h).bnd fun _ _ h1=>z2y h1 rfl (by decide)
 split
 ·exact zl0 hg (hO false) h
 split
 ·exact(hO true s.next h).bnd fun _ _ h1=>(z1u h1).bnd fun _ _ h2=>z2y h2 rfl (by decide)
 ·exact Iv.no
theorem za9 (hg:SgsOk xs) (hO:z4a (O true)):∀ (f v:Nat) (s:Ps),SA s→Iv QA (z4w xs O f v s)
 | 0,_,_,_=>Iv.out
 | f+1,v,s,h=>by
   unfold z4w
   split
   ·exact(zhl hO h).bnd fun k s1 h1=>za9 hg hO f k s1 h1
   split
   ·exact(z6w hg (s:=s.next) h).bnd fun _ _ h1=>(z4y h1.2 h1.1 (.inr (.inl rfl))).bnd fun k s2 h2=>za9 hg hO f k s2 h2
   ·exact Iv.ok h
theorem zq0 (hg:SgsOk xs) {s:Ps} (hO:∀ b,z4a (O b)) (h:SA s):Iv QA (za6 xs O s):=(zne hg hO h).bnd fun k s1 h1=>za9 hg (hO true) _ k s1 h1
theorem zh2 (hg:SgsOk xs) {nx:Ps→Rs Nat} {p:Nat} (hm:lvl (txt xs p)≠0) (hn:z4a nx):∀ (f:Nat) (ks:List Int) (s:Ps),SA s→Iv QA (z5z xs nx (txt xs p) f ks s)
 | 0,_,_,_=>Iv.out
 | f+1,ks,s,h=>by
   unfold z5z
   split
   ·exact(hn s.next h).bnd fun k s1 h1=>zh2 hg hm hn f _ s1 h1
   ·exact zay h ⟨hm,zct hg _,fun e=>by have e':(7:Int)=10:=e;omega⟩
theorem zn2 (hg:SgsOk xs) {nx:Ps→Rs Nat} {lv:Nat} (hv:lv≠0) (hn:z4a nx):∀ (f v:Nat) (s:Ps),SA s→Iv QA (chL xs nx lv f v s)
 | 0,_,_,_=>Iv.out
 | f+1,v,s,h=>by
   unfold chL
   split
   ·rename_i hl
    exact(zh2 hg (by rw[hl];exact hv) hn _ _ s h).bnd fun k s1 h1=>zn2 hg hv hn f k s1 h1
   ·exact Iv.ok h
theorem zac (hg:SgsOk xs) (hO:∀ b,z4a (O b)):∀ (j:Nat),j≤6→∀ (s:Ps),SA s→Iv QA (z1o xs O j s)
 | 0,_,_,h=>zq0 hg hO h
 | j+1,hj,s,h=>(zac hg hO j (by omega) s h).bnd fun v s1 h1=>zn2 hg (by omega) (fun u h2=>zac hg hO j (by omega) u h2) _ v s1 h1
theorem zhw (hg:SgsOk xs) {s:Ps} (hO:∀ b,z4a (O b)) (h:SA s):Iv QA (z4u xs O s):=by
 unfold z4u
 split
 ·exact Iv.no
 refine(zac hg hO 6 (by omega) ⟨s.p,s.d+1,s.ns⟩ h).bnd fun v s1 h1=>?_
 split
 ·refine(hO false s1.next h1).bnd fun y s2 h2=>(z1u h2).bnd fun _ s3 h3=>(hO false s3 h3).bnd fun n s4 h4=>?_
  refine Iv.bnd (Q:=QA) ?_ fun k s5 h5=>Iv.ok h5
  exact z2y h4 rfl (by decide)
 ·exact Iv.ok h1
theorem zhr (hg:SgsOk xs) (hO:z4a (O true)):∀ (f:Nat) (ks:List Int) (s:Ps),SA s→Iv QA (z75 xs O f ks s)
 | 0,_,_,_=>Iv.out
 | f+1,ks,s,h=>by
   unfold z75
   split
   ·exact(zis hg (s:=s.next) h).bnd fun c s1 h1=>(zhl hO h1).bnd fun k s2 h2=>zhr hg hO f _ s2 h2
   ·exact Iv.ok h
theorem zlc (hg:SgsOk xs) {s:Ps} (hO:∀ b,z4a (O b)) (h:SA s):Iv QA (z6j xs O s):=by
 refine(zhw hg hO h).bnd fun v s1 h1=>(zhr hg (hO true) _ _ s1 h1).bnd fun ks s2 h2=>?_
 split
 ·exact Iv.ok h2
 ·rename_i hk
  exact zay h2 ⟨rfl,Nat.zero_le _,fun _=>hk⟩
end
theorem zpo (hg:SgsOk xs):∀ (n:Nat) (b:Bool),z4a (vpF xs n b)
 | 0,_=>fun _ _=>Iv.out
 | n+1,true=>fun _ h=>zlc hg (fun b=>zpo hg n b) h
 | n+1,false=>fun _ h=>zhw hg (fun b=>zpo hg n b) h
theorem zb1 (hg:SgsOk xs) {s:Ps} (h:SA s):Iv QA (zde xs s):=zpo hg _ _ s h
theorem zsp {s:Ps} {k:Nat} {b:Bool} (h:SA s):SA (z19 s k b):=by
 intro x hx
 unfold z19 at hx
 cases hk:s.ns[k]? with
 | none=>rw[hk] at hx;exact h x hx
 | some y =>
   rw[hk] at hx
   rcases List.mem_or_eq_of_mem_set hx with h1|h1
   ·exact h x h1
   ·have hy:=h y (List.mem_of_getElem? hk)
    rw[h1]
    exact⟨hy.text,hy.few,hy.casc⟩
theorem z9w {one:Ps→Rs Nat} {en:ByteArray} (ho:z4a one):∀ (f:Nat) (ks:List Int) (s:Ps),SA s→Iv QA (z3v xs one en f ks s)
 | 0,_,_,_=>Iv.out
 | f+1,ks,s,h=>by
   unfold z3v
   split
   ·exact Iv.ok h
   ·exact(ho s h).bnd fun k s1 h1=>z9w ho f _ _ (zsp h1)
theorem zjp (hg:SgsOk xs) {s:Ps} (h:SA s):Iv QA (zdd xs s):=by
 refine(z6w hg h).bnd fun t s1 h1=>?_
 split
 ·exact(zb1 hg (s:=s1.next) h1.2).bnd fun _ _ h2=>(z1u h2).bnd fun _ _ h3=>z4y h3 h1.1 (.inr (.inr (.inl rfl)))
 ·exact(z1u h1.2).bnd fun _ _ h3=>z4y h3 h1.1 (.inr (.inr (.inl rfl)))
theorem zi4 (hg:SgsOk xs) {s:Ps} (h:SA s):Iv QA (zcg xs s):=(z1u h).bnd fun _ _ h1=>(zb1 hg h1).bnd fun _ _ h2=>(z1u h2).bnd fun _ _ h3=>Iv.ok h3
theorem z7h {st:Ps→Rs Nat} {s:Ps} (ho:z4a st) (h:SA s):Iv QA (z3k xs st s):=by
 unfold z3k
 split
 ·exact Iv.no
 refine(z1u (s:=⟨s.p,s.d+1,s.ns⟩) h).bnd fun _ s1 h1=>(z9w ho _ _ s1 h1).bnd fun ks s2 h2=>(z1u h2).bnd fun _ s3 h3=>?_
 exact z2y (s:=⟨s3.p,s3.d-1,s3.ns⟩) h3 rfl (by decide)
theorem zow (hg:SgsOk xs) {s:Ps} (h:SA s):Iv QA (zb3 xs s):=by
 unfold zb3
 split
 ·exact(z1u h).bnd fun _ _ h1=>z2y h1 rfl (by decide)
 ·exact(zb1 hg h).bnd fun _ _ h1=>(z1u h1).bnd fun _ _ h2=>z2y h2 rfl (by decide)
theorem zos (hg:SgsOk xs) {st:Ps→Rs Nat} {s:Ps} (ho:z4a st) (h:SA s):Iv QA (zjx xs st s):=by
 refine(zi4 hg h).bnd fun v s1 h1=>(z7h ho h1).bnd fun b s2 h2=>?_
 split
 ·exact(z7h ho (s:=s2.next) h2).bnd fun _ _ h3=>z2y h3 rfl (by decide)
 ·exact z2y h2 rfl (by decide)
theorem zp1 (hg:SgsOk xs) {st:Ps→Rs Nat} {s:Ps} (ho:z4a st) (h:SA s):Iv QA (zij xs st s):=(zi4 hg h).bnd fun _ _ h1=>(z7h ho h1).bnd fun _ _ h2=>z2y h2 rfl (by decide)
theorem zpg (hg:SgsOk xs) {s:Ps} (h:SA s):Iv QA (zii xs s):=(z6w hg h).bnd fun _ _ h1=>(z1u h1.2).bnd fun _ _ h2=>(zb1 hg h2).bnd fun _ _ h3=>(z1u h3).bnd fun _ _ h4=>z4y h4 h1.1 (.inr (.inr (.inr (.inl rfl))))
theorem zpz (hg:SgsOk xs) {st:Ps→Rs Nat} {s:Ps} (ho:z4a st) (h:SA s):Iv QA (z91 xs st s):=by
 unfold z91
 split
 ·rename_i hk;exact z9u hg h hk (by decide) (by decide) (fun t ht=>ht) (by decide)
 split
 ·exact zjp hg (s:=s.next) h
 split
 ·exact zow hg (s:=s.next) h
 split
 ·exact zos hg (s:=s.next) ho h
 split
 ·exact zp1 hg (s:=s.next) ho h
 split
 ·exact zpg hg h
 ·exact(zb1 hg h).bnd fun _ _ h1=>(z1u h1).bnd fun _ _ h2=>z2y h2 rfl (by decide)
theorem zse (hg:SgsOk xs):∀ (n:Nat),z4a (stF xs n)
 | 0=>fun _ _=>Iv.out
 | n+1=>fun _ h=>zpz hg (zse hg n) h
theorem zok (hg:SgsOk xs) {s:Ps} (h:SA s):Iv QA (zfq xs s):=(z6w hg h).bnd fun _ _ h1=>(zen hg h1.2).bnd fun _ _ h2=>(z7h (zse hg _) h2).bnd fun _ _ h3=>z4y h3 h1.1 (.inr (.inr (.inr (.inr (.inl rfl)))))
theorem zhi (hg:SgsOk xs) {s:Ps} (h:SA s):Iv QA (z2k xs s):=by
 unfold z2k
 split
 ·rename_i hk;exact z9u hg h hk (by decide) (by decide) (fun t ht=>ht) (by decide)
 split
 ·exact zjp hg (s:=s.next) h
 ·exact zok hg h
theorem zog (hg:SgsOk xs) {s:Ps} (h:SA s):Iv QA (zld xs s):=(z6w hg h).bnd fun _ _ h1=>(z1u h1.2).bnd fun _ _ h2=>(z9w (fun _ h=>zhi hg h) _ _ _ h2).bnd fun _ _ h3=>(z1u h3).bnd fun _ _ h4=>z4y h4 h1.1 (.inr (.inr (.inr (.inr (.inr rfl)))))
theorem zpi (hg:SgsOk xs) {s:Ps} (h:SA s):Iv QA (z2x xs s):=by
 unfold z2x
 split
 ·exact zog hg (s:=s.next) h
 ·exact zhi hg h
theorem zi2 (hg:SgsOk xs):Iv QA (zai xs):=by
 refine(z9w (fun _ h=>zpi hg h) _ _ ⟨0,0,[]⟩ (fun x hx=>by cases hx)).bnd fun ks s h=>?_
 exact z2y h rfl (by decide)
theorem zn3 (t:ByteArray):SgsOk (sgn t).1:=⟨zit t,fun x hx=>((zme t).1 x hx).few⟩
end
end Go.Proofs.YtekebloinobjnaaGreatDoor
