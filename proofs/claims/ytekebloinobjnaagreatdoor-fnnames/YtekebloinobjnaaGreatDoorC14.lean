/- Texts of one proof, laid together: SpMem. -/
import Derived.Test.YtekebloinobjnaaGreatDoorC06
set_option maxHeartbeats 16000000
set_option maxRecDepth 100000
namespace Go.Proofs.YtekebloinobjnaaGreatDoor
open Go.RowKit
structure Sd (B g:Nat) (xs:List Sg) (A:Nat→Prop) (w:World) (bd:Bool) (s:Ps):Prop where
 low:B≤g
 pos:s.p≤xs.length
 few:s.ns.length≤300
 mem:∃ sa sc na nc qs dv,w.heap[g]?=some (.cells #[.slice sa xs.length sc,.int .i64 s.p,.bool bd,.int .i64 dv,.slice na s.ns.length nc] tSp (0,0))∧w.ownsRow B tSg 4 (.slice sa xs.length sc) xs.length (z3j xs)∧Nds w B na nc qs∧qs.map Np.nd=s.ns∧(∀ q∈qs,∀ b,(Value.slice q.a q.nd.kids.length q.c).ownBlock=some b→¬ A b)∧(bd=false→dv=(s.d:Int))
section
variable {B g:Nat} {xs:List Sg} {A A':Nat→Prop} {w w':World} {s:Ps} {bd:Bool}
theorem Sd.lt (h:Sd B g xs A w bd s):g<w.heap.size:=by
 obtain⟨sa,sc,na,nc,qs,dv,h1,-⟩:=h.mem
 exact(Array.getElem?_eq_some_iff.1 h1).1
theorem Sd.base (h:Sd B g xs A w bd s):B≤w.heap.size:=by
 have:=h.lt
 have:=h.low
 omega
theorem Sd.below (h:Sd B g xs A w bd s) (hb:Below w.heap.size w w'):Sd B g xs A w' bd s:=by
 obtain⟨sa,sc,na,nc,qs,dv,h1,h2,h3,h4,e4,hdv⟩:=h.mem
 exact⟨h.low,h.pos,h.few,sa,sc,na,nc,qs,dv,(hb.block g h.lt).trans h1,z07 h2 hb,h3.below hb,h4,e4,hdv⟩
theorem Sd.cells (h:Sd B g xs A w bd s):∃ sa sc na nc,w.cell? ⟨g,0,none⟩=some (.slice sa xs.length sc)∧w.cell? ⟨g,1,none⟩=some (.int .i64 s.p)∧w.cell? ⟨g,2,none⟩=some (.bool bd)∧(∃ dv,w.cell? ⟨g,3,none⟩=some (.int .i64 dv)∧(bd=false→dv=(s.d:Int)))∧w.cell? ⟨g,4,none⟩=some (.slice na s.ns.length nc)∧(∀ o,w.frozen? ⟨g,o,none⟩=false):=by
 obtain⟨sa,sc,na,nc,qs,dv,h1,-,-,-,-,hdv⟩:=h.mem
 exact⟨sa,sc,na,nc,cell_of_row w g 0 _ _ _ h1,cell_of_row w g 1 _ _ _ h1,cell_of_row w g 2 _ _ _ h1,⟨dv,cell_of_row w g 3 _ _ _ h1,hdv⟩,cell_of_row w g 4 _ _ _ h1,fun o=>frozen_of_row w g o _ _ h1⟩
theorem Sd.sign (h:Sd B g xs A w bd s) (p:Nat) (hp:p<xs.length):∃ b sc pl,b<w.heap.size∧w.cell? ⟨g,0,none⟩=some (.slice (some ⟨b,0,none⟩) xs.length sc)∧w.cell? ⟨b,p*4,none⟩=some (.int .i64 (knd xs p))∧w.cell? ⟨b,p*4+1,none⟩=some (.string (txt xs p))∧w.cell? ⟨b,p*4+2,none⟩=some (.int .i64 pl)∧w.cell? ⟨b,p*4+3,none⟩=some (.bool (blk xs p)):=by
 obtain⟨sa,sc,na,nc,qs,dv,h1,h2,-⟩:=h.mem
 obtain⟨b,rfl⟩:=z0s h2 (by omega)
 have hx:xs[p]?=some xs[p]:=List.getElem?_eq_getElem hp
 have hc:=fun j (hj:j<4)=>(h2.cellAt (p*4+j) (by omega)).trans (z62 xs p xs[p] hx j hj)
 refine⟨b,sc,(xs[p]).place,(h2.lt b rfl).2,cell_of_row w g 0 _ _ _ h1,?_,?_,?_,?_⟩
 ·unfold knd;rw[hx];exact hc 0 (by omega)
 ·unfold txt;rw[hx];exact hc 1 (by omega)
 ·exact hc 2 (by omega)
 ·unfold blk;rw[hx];exact hc 3 (by omega)
theorem Sd.apart {cs:Array Value} (h1:w.heap[g]?=some (.cells cs tSp (0,0))) {na:Option Addr} {n nc m:Nat} {l:List Value} (h3:w.ownsRow B z32 4 (.slice na n nc) m l):(Value.slice na n nc).ownBlock=none∨(Value.slice na n nc).ownBlock≠some g:=by
 rcases h3.2 with⟨e,_⟩|⟨k,cap,cur,e,_,e3,_⟩
 ·rw[e];exact .inl rfl
 ·right
  rw[e]
  intro e'
  have:k=g:=by injection e'
  subst this
  rw[h1] at e3
  injection e3 with e3
  injection e3 with _ e3 _
  exact absurd e3 (by decide)
theorem Sd.setP (h:Sd B g xs A w bd s) (p:Nat) (hp:p≤xs.length):Sd B g xs A (w.setCell ⟨g,1,none⟩ (.int .i64 p)) bd ⟨p,s.d,s.ns⟩∧Fr B w (w.setCell ⟨g,1,none⟩ (.int .i64 p)):=by
 obtain⟨sa,sc,na,nc,qs,dv,h1,h2,h3,h4,e4,hdv⟩:=h.mem
 have hF:Fr B w (w.setCell ⟨g,1,none⟩ (.int .i64 p)):=Fr.set h1 (.inr (.inr rfl)) h.low 1 _
 have hgr:w.grownBy (w.setCell ⟨g,1,none⟩ (.int .i64 p)) (some g):=⟨rfl,rfl,rfl,by simp,fun k _ hk=>heap_setCell_other w _ k _ (fun e=>hk (by rw[e]))⟩
 refine⟨⟨h.low,hp,h.few,sa,sc,na,nc,qs,dv,?_,hF.own h2 (by decide) (by decide) (by decide),⟨h3.row.kept hgr (Sd.apart h1 h3.row),fun q hq=>hF.ints (h3.each q hq)⟩,h4,e4,hdv⟩,hF⟩
 rw[heap_setCell_same w g 1 _ _ _ h1]
 rfl
theorem Sd.setB (h:Sd B g xs A w bd s):Sd B g xs A (w.setCell ⟨g,2,none⟩ (.bool true)) true s∧Fr B w (w.setCell ⟨g,2,none⟩ (.bool true)):=by
 obtain⟨sa,sc,na,nc,qs,dv,h1,h2,h3,h4,e4,-⟩:=h.mem
 have hF:Fr B w (w.setCell ⟨g,2,none⟩ (.bool true)):=Fr.set h1 (.inr (.inr rfl)) h.low 2 _
 have hgr:w.grownBy (w.setCell ⟨g,2,none⟩ (.bool true)) (some g):=⟨rfl,rfl,rfl,by simp,fun k _ hk=>heap_setCell_other w _ k _ (fun e=>hk (by rw[e]))⟩
 refine⟨⟨h.low,h.pos,h.few,sa,sc,na,nc,qs,dv,?_,hF.own h2 (by decide) (by decide) (by decide),⟨h3.row.kept hgr (Sd.apart h1 h3.row),fun q hq=>hF.ints (h3.each q hq)⟩,h4,e4,fun e=>by cases e⟩,hF⟩
 rw[heap_setCell_same w g 2 _ _ _ h1]
 rfl
theorem Sd.setD (h:Sd B g xs A w bd s) (d:Nat):Sd B g xs A (w.setCell ⟨g,3,none⟩ (.int .i64 d)) bd ⟨s.p,d,s.ns⟩∧Fr B w (w.setCell ⟨g,3,none⟩ (.int .i64 d)):=by
 obtain⟨sa,sc,na,nc,qs,dv,h1,h2,h3,h4,e4,-⟩:=h.mem
 have hF:Fr B w (w.setCell ⟨g,3,none⟩ (.int .i64 d)):=Fr.set h1 (.inr (.inr rfl)) h.low 3 _
 have hgr:w.grownBy (w.setCell ⟨g,3,none⟩ (.int .i64 d)) (some g):=⟨rfl,rfl,rfl,by simp,fun k _ hk=>heap_setCell_other w _ k _ (fun e=>hk (by rw[e]))⟩
 refine⟨⟨h.low,h.pos,h.few,sa,sc,na,nc,qs,(d:Int),?_,hF.own h2 (by decide) (by decide) (by decide),⟨h3.row.kept hgr (Sd.apart h1 h3.row),fun q hq=>hF.ints (h3.each q hq)⟩,h4,e4,fun _=>rfl⟩,hF⟩
 rw[heap_setCell_same w g 3 _ _ _ h1]
 rfl
theorem Sd.setI (h:Sd B g xs A w true s) (d:Int):Sd B g xs A (w.setCell ⟨g,3,none⟩ (.int .i64 d)) true s∧Fr B w (w.setCell ⟨g,3,none⟩ (.int .i64 d)):=by
 obtain⟨sa,sc,na,nc,qs,dv,h1,h2,h3,h4,e4,-⟩:=h.mem
 have hF:Fr B w (w.setCell ⟨g,3,none⟩ (.int .i64 d)):=Fr.set h1 (.inr (.inr rfl)) h.low 3 _
 have hgr:w.grownBy (w.setCell ⟨g,3,none⟩ (.int .i64 d)) (some g):=⟨rfl,rfl,rfl,by simp,fun k _ hk=>heap_setCell_other w _ k _ (fun e=>hk (by rw[e]))⟩
 refine⟨⟨h.low,h.pos,h.few,sa,sc,na,nc,qs,d,?_,hF.own h2 (by decide) (by decide) (by decide),⟨h3.row.kept hgr (Sd.apart h1 h3.row),fun q hq=>hF.ints (h3.each q hq)⟩,h4,e4,fun e=>by cases e⟩,hF⟩
 rw[heap_setCell_same w g 3 _ _ _ h1]
 rfl
theorem Sd.added {w2:World} {sa na:Option Addr} {sc nc:Nat} {qs:List Np} {dv:Int} (h:Sd B g xs A w bd s) (h1:w.heap[g]?=some (.cells #[.slice sa xs.length sc,.int .i64 s.p,.bool bd,.int .i64 dv,.slice na s.ns.length nc] tSp (0,0))) (hdv:bd=false→dv=(s.d:Int)) (h2:w.ownsRow B tSg 4 (.slice sa xs.length sc) xs.length (z3j xs)) (h3:Nds w B na nc qs) (h4:qs.map Np.nd=s.ns) (e4:∀ q∈qs,∀ b,(Value.slice q.a q.nd.kids.length q.c).ownBlock=some b→¬ A b)
 (q:Np) (hq:∀ b,(Value.slice q.a q.nd.kids.length q.c).ownBlock=some b→¬ A b) (ho:w.ownsRow B tI 1 (.slice q.a q.nd.kids.length q.c) q.nd.kids.length (z02 q.nd.kids)) (hn:s.ns.length<300) {na':Option Addr} {nc':Nat} (hg:w.grownBy w2 (Value.slice na qs.length nc).ownBlock) (hw:w2.ownsRow B z32 4 (.slice na' (s.ns.length+1) nc') (s.ns.length+1) (z0r z0u qs++z0u q)) :
 Sd B g xs A (w2.setCell ⟨g,4,none⟩ (.slice na' (s.ns.length+1) nc')) bd ⟨s.p,s.d,s.ns++[q.nd]⟩∧Fr B w (w2.setCell ⟨g,4,none⟩ (.slice na' (s.ns.length+1) nc')):=by
 have hl:qs.length=s.ns.length:=by rw[← h4];simp
 have hF1:Fr B w w2:=Fr.grow h3.row hg h.base (Nat.le_refl _)
 have hb2:w2.heap[g]?=some (.cells #[.slice sa xs.length sc,.int .i64 s.p,.bool bd,.int .i64 dv,.slice na s.ns.length nc] tSp (0,0)):=by
  rw[hg.block g h.lt (fun e=>?_)]
  ·exact h1
  ·rcases Sd.apart h1 h3.row with h5|h5
   ·rw[h5] at e;cases e
   ·exact h5 e.symm
 have hF2:Fr B w2 (w2.setCell ⟨g,4,none⟩ (.slice na' (s.ns.length+1) nc')):=Fr.set hb2 (.inr (.inr rfl)) h.low 4 _
 have hF:=hF1.trans hF2
 have hgr:w2.grownBy (w2.setCell ⟨g,4,none⟩ (.slice na' (s.ns.length+1) nc')) (some g):=⟨rfl,rfl,rfl,by simp,fun k _ hk=>heap_setCell_other w2 _ k _ (fun e=>hk (by rw[e]))⟩
 refine⟨⟨h.low,h.pos,?_,sa,sc,na',nc',qs++[q],dv,?_,hF.own h2 (by decide) (by decide) (by decide),⟨?_,fun r hr=>?_⟩,by simp[h4],fun r hr=>?_,hdv⟩,hF⟩
 ·simp
  omega
 ·rw[heap_setCell_same w2 g 4 _ _ _ hb2,List.length_append]
  rfl
 ·rw[List.length_append,z7q,z8d,hl]
  exact hw.kept hgr (Sd.apart hb2 hw)
 ·rcases List.mem_append.1 hr with hr|hr
  ·exact hF.ints (h3.each r hr)
  ·have:r=q:=by simpa using hr
   subst this
   exact hF.ints ho
 ·rcases List.mem_append.1 hr with hr|hr
  ·exact e4 r hr
  ·have:r=q:=by simpa using hr
   subst this
   exact hq
theorem Sd.growI {b n:Nat} {w2:World} {v:Value} {l:List Value} (h:Sd B g xs A w bd s) (ho:w.ownsRow b tI 1 v n l) (hg:w.grownBy w2 v.ownBlock) (hv:∀ k,v.ownBlock=some k→A k) (hA:∀ k,A' k→A k∨w.heap.size≤k):Sd B g xs A' w2 bd s:=by
 obtain⟨sa,sc,na,nc,qs,dv,h1,h2,h3,h4,e4,hdv⟩:=h.mem
 refine⟨h.low,h.pos,h.few,sa,sc,na,nc,qs,dv,?_,h2.kept hg (z0k h2 ho (by decide)),⟨h3.row.kept hg (z0k h3.row ho (by decide)),fun q hq=>(h3.each q hq).kept hg ?_⟩,h4,fun q hq k hk hk'=>?_,hdv⟩
 ·rw[hg.block g h.lt (fun e=>?_)]
  ·exact h1
  ·rcases ho.2 with⟨rfl,_⟩|⟨k,cap,cur,rfl,_,e3',_⟩
   ·cases e
   ·have:g=k:=by injection e
    subst this
    rw[h1] at e3'
    injection e3' with e3'
    injection e3' with _ e3' _
    exact absurd e3' (by decide)
 ·cases hb:(Value.slice q.a q.nd.kids.length q.c).ownBlock with
  | none=>exact .inl rfl
  | some k =>
    right
    intro e
    exact e4 q hq k hb (hv k e.symm)
 ·rcases hA k hk' with h5|h5
  ·exact e4 q hq k hk h5
  ·have:=((h3.each q hq).lt k hk).2
   omega
theorem Sd.avoid (h:Sd B g xs A w bd s) (hA:∀ k,A' k→A k∨w.heap.size≤k):Sd B g xs A' w bd s:=by
 obtain⟨sa,sc,na,nc,qs,dv,h1,h2,h3,h4,e4,hdv⟩:=h.mem
 refine⟨h.low,h.pos,h.few,sa,sc,na,nc,qs,dv,h1,h2,h3,h4,fun q hq k hk hk'=>?_,hdv⟩
 rcases hA k hk' with h5|h5
 ·exact e4 q hq k hk h5
 ·have:=((h3.each q hq).lt k hk).2
  omega
end
def SR (B g:Nat) (xs:List Sg) (A:Nat→Prop) (w:World):Option Ps→Prop
 | none=>∃ s,Sd B g xs A w true s∧s.d≤30
 | some s=>Sd B g xs A w false s∧s.d≤20
def z60 {α:Type} (P:Ps→Rs α) (t:Option Ps) (o:Option (α×Ps)):Prop:=
 match t with
 | none=>o=none
 | some s=>P s=some o
def z0j {α:Type} (B g:Nat) (xs:List Sg) (A:Nat→Prop) (w:World) (V:Option α→Ending→World→Prop) (o:Option (α×Ps)) (e:Ending) (w':World):Prop:=
 V (o.map (·.1)) e w'∧SR B g xs A w' (o.map (·.2))∧Fr B w w'
section
variable {B g:Nat} {xs:List Sg} {A A':Nat→Prop} {w w':World} {t:Option Ps}
theorem SR.any (h:SR B g xs A w t):∃ bd s,Sd B g xs A w bd s∧s.d≤30:=by
 match t,h with
 | none,⟨s,h,hd⟩=>exact⟨true,s,h,hd⟩
 | some s,⟨h,hd⟩=>exact⟨false,s,h,by omega⟩
theorem SR.below (h:SR B g xs A w t) (hb:Below w.heap.size w w'):SR B g xs A w' t:=by
 match t,h with
 | none,⟨s,h,hd⟩=>exact⟨s,h.below hb,hd⟩
 | some s,⟨h,hd⟩=>exact⟨h.below hb,hd⟩
theorem SR.avoid (h:SR B g xs A w t) (hA:∀ k,A' k→A k∨w.heap.size≤k):SR B g xs A' w t:=by
 match t,h with
 | none,⟨s,h,hd⟩=>exact⟨s,h.avoid hA,hd⟩
 | some s,⟨h,hd⟩=>exact⟨h.avoid hA,hd⟩
theorem SR.growI {b n:Nat} {w2:World} {v:Value} {l:List Value} (h:SR B g xs A w t) (ho:w.ownsRow b tI 1 v n l) (hg:w.grownBy w2 v.ownBlock) (hv:∀ k,v.ownBlock=some k→A k) (hA:∀ k,A' k→A k∨w.heap.size≤k):SR B g xs A' w2 t:=by
 match t,h with
 | none,⟨s,h,hd⟩=>exact⟨s,h.growI ho hg hv hA,hd⟩
 | some s,⟨h,hd⟩=>exact⟨h.growI ho hg hv hA,hd⟩
theorem SR.base (h:SR B g xs A w t):B≤w.heap.size:=by
 obtain⟨bd,s,h,-⟩:=h.any
 exact h.base
end
end Go.Proofs.YtekebloinobjnaaGreatDoor
