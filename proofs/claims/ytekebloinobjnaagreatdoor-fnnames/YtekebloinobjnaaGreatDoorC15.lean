/- Texts of one proof, laid together: SpI1, AppPl, RdX, SpI2, SpI3. -/
import Derived.Test.YtekebloinobjnaaGreatDoorC14
import Derived.Deep.QuietTactic
import Derived.BigQuiet
import Derived.Test.YtekebloinobjnaaGreatDoorC00
import Derived.Test.YtekebloinobjnaaGreatDoorC06
import Derived.OwnWalk
import Derived.Test.YtekebloinobjnaaGreatDoorC03
set_option maxHeartbeats 16000000
set_option maxRecDepth 100000
namespace Go.Proofs.YtekebloinobjnaaGreatDoor
open Go.RowKit
def isP (xs:List Sg) (t:Option Ps) (k:Int) (u:ByteArray):Bool:=
 match t with
 | none=>false
 | some s=>(knd xs s.p==k)&&decide (txt xs s.p=u)
section
variable {B g:Nat} {xs:List Sg} {A:Nat→Prop} {w:World} {t:Option Ps}
theorem sIs (h:SR B g xs A w t) (k:Int) (u:ByteArray) (hk:k≠0):Calls Tryz.prog 162 #[.pointer (some ⟨g,0,none⟩),.int .i64 k,.string u] w fun e w'=>e=.returned (.bool (isP xs t k u))∧∃ m,w'=w.drewN m:=by
 match t,h with
 | none,⟨s,h,_⟩ =>
   obtain⟨sa,sc,na,nc,-,-,c2,-,-,-⟩:=h.cells
   have hg:=h.lt
   clear h
   go_enter Tryz.func162,Tryz.ntmps162
   go_wp2
   go_quiet (fail)
   go_wp2
   go_ret
   exact⟨rfl,_,rfl⟩
 | some s,⟨h,_⟩ =>
   obtain⟨sa,sc,na,nc,c0,c1,c2,-,-,-⟩:=h.cells
   have hg:=h.lt
   have hp:=h.pos
   by_cases hl:s.p<xs.length
   ·obtain⟨b,sc1,pl,hb,X0,d0,d1,d2,d3⟩:=h.sign s.p hl
    have hA1:(0:Int)≤(s.p:Int):=by omega
    have hB1:(s.p:Int)<(xs.length:Int):=by omega
    have hd1:decide ((s.p:Int)<(xs.length:Int))=true:=by simp;omega
    clear h c0
    have HI:=z00 (show isP xs (some s) k u=((knd xs s.p==k)&&decide (txt xs s.p=u)) from rfl)
    obtain⟨k0,hk0⟩:∃ k,k=knd xs s.p:=⟨_,rfl⟩
    obtain⟨u0,hu0⟩:∃ u,u=txt xs s.p:=⟨_,rfl⟩
    obtain⟨b0,hb0⟩:∃ b,b=blk xs s.p:=⟨_,rfl⟩
    rw[← hk0] at d0 HI
    rw[← hu0] at d1 HI
    rw[← hb0] at d3
    clear hk0 hu0 hb0
    by_cases hq:k0=k
    ·subst hq
     have hqk:(k0==k0)=true:=by simp
     go_enter Tryz.func162,Tryz.ntmps162
     go_wp2
     go_quiet (fail)
     go_wp2
     go_ret
     exact⟨z0l (by rw[HI.out];simp[zae]),_,rfl⟩
    ·have hqk:(k0==k)=false:=by rw[beq_eq_false_iff_ne];exact hq
     clear hq
     go_enter Tryz.func162,Tryz.ntmps162
     go_wp2
     go_quiet (fail)
     go_wp2
     go_ret
     exact⟨z0l (by rw[HI.out,hqk];rfl),_,rfl⟩
   ·have hd1:decide ((s.p:Int)<(xs.length:Int))=false:=by simp;omega
    have hd2:decide (s.p<xs.length)=false:=by simp;omega
    have HI:=z00 (show false=isP xs (some s) k u by unfold isP;simp only[z5c (show xs.length≤s.p by omega)];rw[show ((0:Int)==k)=false from by rw[beq_eq_false_iff_ne];exact fun e=>hk e.symm];rfl)
    clear h hl
    go_enter Tryz.func162,Tryz.ntmps162
    go_wp2
    go_quiet (fail)
    go_wp2
    go_ret
    exact⟨z0l HI.out,_,rfl⟩
end
section
variable {P:Program}
theorem z72 (w:World) (base:Nat) (t ty e:TypeId) (i:TypeInfo) (z:Value) (size bytes:Nat) (ht:P.underlying t=some (.slice e)) (hi:P.info? e=some i) (hz:i.zero=some z)
 (hsize:i.size=size) (hby:i.bytes=bytes) (hzs:z.cells.size=size) (hsz:0<size)
 (v:Value) (n:Nat) (xs:List Value) (hown:w.ownsRow base e size v n xs)
 (a:Addr) (m c:Nat) (news:List Value) (hl:news.length=m*size) (hnews:∀ j u,news[j]?=some u→w.cell? (a.add j)=some u) (h1:∀ u∈news,u.oneCell'=true)
 (h63:n+m≤maxLen) (hbytes:(n+m)*bytes≤140737488355328) (v':Value) (w':World) (hr0:(Builtin.append_ #[t,t] ty #[v,.slice (some a) m c]).run P w=.ok v' w') :
 ∀ g,v'.ownBlock=some g→v.ownBlock=some g∨w.heap.size≤g:=by
 intro g' hg'
 rcases hown.2 with⟨rfl,rfl⟩|⟨g,cap,cur,rfl,hbg,hg,hnc,hcm,hcs,htake⟩
 ·have hx:xs=[]:=List.eq_nil_of_length_eq_zero (by simpa using hown.1)
  subst hx
  obtain⟨v2,w2,hr2,ho2,-,-⟩:=run_append_own (P:=P) w w.heap.size t ty e i z size bytes ht hi hz hsize hby hzs hsz (.slice none 0 0) 0 [] (World.ownsRow_nil _ _ _ _) a m c news hl hnews h1 h63 hbytes (Nat.le_refl _)
  rw[hr0] at hr2
  cases hr2
  exact .inr (ho2.lt g' hg').1
 ·subst hsize
  subst hby
  by_cases hroom:n+m≤cap
  ·have hfit:n*i.size+news.length≤cur.size:=by rw[hl,hcs,← Nat.add_mul];exact Nat.mul_le_mul_right _ hroom
   have hr:=run_append_room (P:=P) w t ty e i ht hi g n cap cur hg a m c news hl hnews h1 hroom hfit
   rw[hr0] at hr
   cases hr
   exact .inl hg'
  ·have holds:∀ j u,xs[j]?=some u→w.cell? ((⟨g,0,none⟩:Addr).add j)=some u:=hown.cells (g:=g) rfl
   have hsmall:n+m≤9223372036854775807:=by simp only[maxLen] at h63;omega
   have hr:=run_append_grow (P:=P) w t ty e i z ht hi hz ⟨g,0,none⟩ n cap xs hown.1 holds a m c news hl hnews (by omega) (by omega) (growslice_fits (by omega) hbytes)
   rw[hr0] at hr
   cases hr
   right
   have:g'=w.heap.size:=by injection hg' with h;exact h.symm
   omega
theorem z93 {w:World} {o:Oper} {a:Act} {K:Act→World→Prop} {Q:Exit→Act→World→Prop} (s x:Operand) (t:TypeId)
 (ho:o.op=.call { callee:=.builtin .append,args:=#[s,x],argTypes:=#[t,t] })
 (base:Nat) (e:TypeId) (i:TypeInfo) (z:Value) (size bytes:Nat) (ht:P.underlying t=some (.slice e)) (hi:P.info? e=some i) (hz:i.zero=some z)
 (hsize:i.size=size) (hby:i.bytes=bytes) (hzs:z.cells.size=size) (hsz:0<size)
 (v:Value) (n:Nat) (xs:List Value) (hs:a.eval s=v) (hown:w.ownsRow base e size v n xs)
 (ad:Addr) (m c:Nat) (news:List Value) (hx:a.eval x=.slice (some ad) m c) (hl:news.length=m*size) (hnews:∀ j u,news[j]?=some u→w.cell? (ad.add j)=some u) (h1:∀ u∈news,u.oneCell'=true)
 (h63:n+m≤maxLen) (hbytes:(n+m)*bytes≤140737488355328) (hbase:base≤w.heap.size)
 (h:∀ v' w',w'.ownsRow base e size v' (n+m) (xs++news)→w.grownBy w' v.ownBlock→(∀ g,v'.ownBlock=some g→v.ownBlock=some g∨w.heap.size≤g)→K (a.put o.dst v') w'):o.wp P a w K Q:=by
 obtain⟨v',w',hr,h2,h3,h4⟩:=run_append_own (P:=P) w base t o.type e i z size bytes ht hi hz hsize hby hzs hsz v n xs hown ad m c news hl hnews h1 h63 hbytes hbase
 have h5:=z72 w base t o.type e i z size bytes ht hi hz hsize hby hzs hsz v n xs hown ad m c news hl hnews h1 h63 hbytes v' w' hr
 unfold Oper.wp execOp
 simp only[ho,resolve,invoke,builtin,Sem.run_bind,Sem.run_pure,Result.andThen_ok,List.map_toArray,List.map_cons,List.map_nil,hs,hx,hr]
 exact h v' w' h2 h3 h5
theorem z04 {w:World} {ops:Array Oper} {rest:List Oper} {o:Oper} {a:Act} {Q:Exit→Act→World→Prop} (hgd:o.guard=none) (s x:Operand) (t:TypeId)
 (ho:o.op=.call { callee:=.builtin .append,args:=#[s,x],argTypes:=#[t,t] })
 (base:Nat) (e:TypeId) (i:TypeInfo) (z:Value) (size bytes:Nat) (ht:P.underlying t=some (.slice e)) (hi:P.info? e=some i) (hz:i.zero=some z)
 (hsize:i.size=size) (hby:i.bytes=bytes) (hzs:z.cells.size=size) (hsz:0<size)
 (v:Value) (n:Nat) (xs:List Value) (hs:a.eval s=v) (hown:w.ownsRow base e size v n xs)
 (ad:Addr) (m c:Nat) (news:List Value) (hx:a.eval x=.slice (some ad) m c) (hl:news.length=m*size) (hnews:∀ j u,news[j]?=some u→w.cell? (ad.add j)=some u) (h1:∀ u∈news,u.oneCell'=true)
 (h63:n+m≤maxLen) (hbytes:(n+m)*bytes≤140737488355328) (hbase:base≤w.heap.size)
 (h:∀ v' w',w'.ownsRow base e size v' (n+m) (xs++news)→w.grownBy w' v.ownBlock→(∀ g,v'.ownBlock=some g→v.ownBlock=some g∨w.heap.size≤g)→wpList P ops Q rest (a.put o.dst v') w'):wpList P ops Q (o::rest) a w:=
 wpList_plain hgd fun _ hK=>z93 s x t ho base e i z size bytes ht hi hz hsize hby hzs hsz v n xs hs hown ad m c news hx hl hnews h1 h63 hbytes hbase fun v' w' h2 h3 h4=>hK _ _ (h v' w' h2 h3 h4)
end
theorem zg7:(Tryz.prog.info? 56).map (fun i=>(i.zero,i.size,i.bytes))=some (some (.agg #[.int .i64 0,.string ByteArray.empty,.slice none 0 0,.bool false]),4,56):=by kernel_rfl
theorem zmh (w:World) (q:Np):∀ j u,(z0u q)[j]?=some u→(w.alloc (.cells #[.int .i64 q.nd.kind,.string q.nd.text,.slice q.a q.nd.kids.length q.c,.bool q.nd.blank] z32)).cell? ((⟨w.heap.size,0,none⟩:Addr).add j)=some u:=by
 intro j u hu
 have hj:j<4:=by have:=(List.getElem?_eq_some_iff.1 hu).1;simpa[z0u] using this
 match j,hj with
 | 0,_=>simp[z0u] at hu;subst hu;simp[Addr.add]
 | 1,_=>simp[z0u] at hu;subst hu;simp[Addr.add]
 | 2,_=>simp[z0u] at hu;subst hu;simp[Addr.add]
 | 3,_=>simp[z0u] at hu;subst hu;simp[Addr.add]
theorem z29:(Tryz.prog.info? 3).map (fun i=>(i.zero,i.size,i.bytes))=some (some (.int .i64 0),1,8):=by kernel_rfl
theorem z0c {w:World} {B n:Nat} {v:Value} {ks:List Int} {k:Int} (h:w.ownsRow B tI 1 v (n+1) (z02 ks++[.int .i64 k])) (hn:n=ks.length):w.ownsRow B tI 1 v (ks++[k]).length (z02 (ks++[k])):=by
 subst hn
 have:z02 (ks++[k])=z02 ks++[.int .i64 k]:=by simp[z02]
 rw[this,List.length_append]
 exact h
def VNs:Option Nat→Ending→World→Prop:=fun o e _=>∃ k:Int,e=.returned (.int .i64 k)∧∀ a,o=some a→k=(a:Int)
def VUs:Option Unit→Ending→World→Prop:=fun _ e _=>e=.returned (.tuple #[])
def VTs:Option ByteArray→Ending→World→Prop:=fun o e _=>∃ u:ByteArray,e=.returned (.string u)∧∀ a,o=some a→u=a
theorem z0a (w:World) (m:Nat):Below w.heap.size w (w.drewN m):=z0e w m
section
variable {B g:Nat} {xs:List Sg} {A:Nat→Prop} {w:World} {t:Option Ps}
theorem z3p {s:Ps} {u:ByteArray} (h:SR B g xs A w (some s)) (hX:xs.length≤3000) (hq:isP xs (some s) 4 u=true):Calls Tryz.prog 124 #[.pointer (some ⟨g,0,none⟩),.string u] w fun e w' =>
 e=.returned (.bool true)∧SR B g xs A w' (some s.next)∧Fr B w w':=by
 have qI:=sIs h 4 u (by decide)
 rw[hq] at qI
 have hl:s.p<xs.length:=by
  unfold isP at hq
  simp only[Bool.and_eq_true,beq_iff_eq] at hq
  exact z6f hq.1 (by decide)
 go_enter Tryz.func124,Tryz.ntmps124
 go_wp2_with fail
 refine qI.mono ?_
 rintro e w1 ⟨rfl,m,hm⟩
 have B1:Below w.heap.size w w1:=by rw[hm];exact z0a w m
 have S1:=h.below B1
 have F1:=Fr.ofB B1 h.base
 clear hm
 obtain⟨h1,hd⟩:=S1
 have P1:=h1.setP (s.p+1) hl
 obtain⟨sa,sc,na,nc,-,c1,-,-,-,hz⟩:=h1.cells
 have z1:=hz 1
 have e1:((s.p:Int)+1)=((s.p+1:Nat):Int):=by omega
 rw[← e1] at P1
 have HP:=z00 P1
 have HF:=z00 F1
 have HD:=z00 hd
 clear qI hq h h1 hz P1 F1 e1 hd B1
 go_wp2
 go_ret
 exact⟨rfl,⟨HP.out.1,HD.out⟩,HF.out.trans HP.out.2⟩
theorem z2c {u:ByteArray} (h:SR B g xs A w t) (hq:isP xs t 4 u=false):Calls Tryz.prog 124 #[.pointer (some ⟨g,0,none⟩),.string u] w fun e w' =>
 e=.returned (.bool false)∧Below w.heap.size w w':=by
 have qI:=sIs h 4 u (by decide)
 rw[hq] at qI
 go_enter Tryz.func124,Tryz.ntmps124
 go_wp2_with fail
 refine qI.mono ?_
 rintro e w1 ⟨rfl,m,hm⟩
 have B1:Below w.heap.size w w1:=by rw[hm];exact z0a w m
 clear qI hq h hm
 go_wp2
 go_ret
 exact⟨rfl,B1⟩
def zfw (xs:List Sg) (u:ByteArray):Prop:=∀ p,txt xs p=u→knd xs p=4
theorem z0q {u:ByteArray} {s:Ps} (hm:zfw xs u):isP xs (some s) 4 u=decide (txt xs s.p=u):=by
 unfold isP
 by_cases h:txt xs s.p=u
 ·simp[h,hm _ h]
 ·simp[h]
theorem z0i {u:ByteArray} {o:Option (Unit×Ps)} (h:SR B g xs A w t) (hX:xs.length≤3000) (hm:zfw xs u) (hr:z60 (z0p xs u) t o):Calls Tryz.prog 123 #[.pointer (some ⟨g,0,none⟩),.string u] w (z0j B g xs A w VUs o):=by
 have hno:∀ (t:Option Ps),SR B g xs A w t→isP xs t 4 u=false→o=none→Calls Tryz.prog 123 #[.pointer (some ⟨g,0,none⟩),.string u] w (z0j B g xs A w VUs o):=by
  intro t h hq ho
  subst ho
  have qN:=z2c h hq
  go_enter Tryz.func123,Tryz.ntmps123
  go_wp2_with fail
  refine qN.mono ?_
  rintro e w1 ⟨rfl,B1⟩
  obtain⟨bd,s,h1,hd⟩:=(h.below B1).any
  have P1:=h1.setB
  obtain⟨sa,sc,na,nc,-,-,c2,-,-,hz⟩:=h1.cells
  have z2:=hz 2
  have HP:=z00 P1
  have HF:=z00 (Fr.ofB (B:=B) B1 h.base)
  have HD:=z00 hd
  clear qN hq h h1 hz P1 hd B1
  go_wp2
  go_end0
  exact⟨rfl,⟨s,HP.out.1,HD.out⟩,HF.out.trans HP.out.2⟩
 match t,h,hr with
 | none,h,hr=>exact hno none h rfl hr
 | some s,h,hr =>
   by_cases he:txt xs s.p=u
   ·obtain rfl:some ((),s.next)=o:=by
     have hr2:z0p xs u s=some o:=hr
     unfold z0p at hr2
     rw[if_pos he] at hr2
     injection hr2
    have qY:=z3p h hX (by rw[z0q hm];exact decide_eq_true he)
    clear hno hr
    go_enter Tryz.func123,Tryz.ntmps123
    go_wp2_with fail
    refine qY.mono ?_
    rintro e w1 ⟨rfl,S1,F1⟩
    have HS:=z00 S1
    have HF:=z00 F1
    clear qY he h S1 F1
    go_wp2
    go_end0
    exact⟨rfl,HS.out,HF.out⟩
   ·refine hno (some s) h (by rw[z0q hm];exact decide_eq_false he) ?_
    have hr2:z0p xs u s=some o:=hr
    unfold z0p at hr2
    rw[if_neg he] at hr2
    injection hr2 with hr2
    exact hr2.symm
end
def kdP (xs:List Sg) (t:Option Ps) (k:Int):Bool:=
 match t with
 | none=>false
 | some s=>(knd xs s.p==k)&&(!(k==1)||!kw (txt xs s.p))
def z98 (xs:List Sg) (k:Int) (s:Ps):Rs ByteArray:=if kdP xs (some s) k=true then yes (txt xs s.p) s.next else some none
section
variable {B g:Nat} {xs:List Sg} {A:Nat→Prop} {w:World} {t:Option Ps}
theorem z74 {s:Ps} {u:ByteArray} (h:SR B g xs A w (some s)) (hX:xs.length≤3000) (hq:isP xs (some s) 1 u=true):Calls Tryz.prog 121 #[.pointer (some ⟨g,0,none⟩),.string u] w fun e w' =>
 e=.returned (.bool true)∧SR B g xs A w' (some s.next)∧Fr B w w':=by
 have qI:=sIs h 1 u (by decide)
 rw[hq] at qI
 have hl:s.p<xs.length:=by
  unfold isP at hq
  simp only[Bool.and_eq_true,beq_iff_eq] at hq
  exact z6f hq.1 (by decide)
 go_enter Tryz.func121,Tryz.ntmps121
 go_wp2_with fail
 refine qI.mono ?_
 rintro e w1 ⟨rfl,m,hm⟩
 have B1:Below w.heap.size w w1:=by rw[hm];exact z0a w m
 have S1:=h.below B1
 have F1:=Fr.ofB B1 h.base
 clear hm
 obtain⟨h1,hd⟩:=S1
 have P1:=h1.setP (s.p+1) hl
 obtain⟨sa,sc,na,nc,-,c1,-,-,-,hz⟩:=h1.cells
 have z1:=hz 1
 have e1:((s.p:Int)+1)=((s.p+1:Nat):Int):=by omega
 rw[← e1] at P1
 have HP:=z00 P1
 have HF:=z00 F1
 have HD:=z00 hd
 clear qI hq h h1 hz P1 F1 e1 hd B1
 go_wp2
 go_ret
 exact⟨rfl,⟨HP.out.1,HD.out⟩,HF.out.trans HP.out.2⟩
theorem z2t {u:ByteArray} (h:SR B g xs A w t) (hq:isP xs t 1 u=false):Calls Tryz.prog 121 #[.pointer (some ⟨g,0,none⟩),.string u] w fun e w' =>
 e=.returned (.bool false)∧Below w.heap.size w w':=by
 have qI:=sIs h 1 u (by decide)
 rw[hq] at qI
 go_enter Tryz.func121,Tryz.ntmps121
 go_wp2_with fail
 refine qI.mono ?_
 rintro e w1 ⟨rfl,m,hm⟩
 have B1:Below w.heap.size w w1:=by rw[hm];exact z0a w m
 clear qI hq h hm
 go_wp2
 go_ret
 exact⟨rfl,B1⟩
theorem zrm (h:SR B g xs A w t):Calls Tryz.prog 119 #[.pointer (some ⟨g,0,none⟩),.int .i64 1] w fun e w'=>e=.returned (.bool (kdP xs t 1))∧∃ m,w'=w.drewN m:=by
 match t,h with
 | none,⟨s,h,_⟩ =>
   obtain⟨sa,sc,na,nc,-,-,c2,-,-,-⟩:=h.cells
   have hg:=h.lt
   clear h
   go_enter Tryz.func119,Tryz.ntmps119
   go_wp2
   go_quiet (fail)
   go_wp2
   go_ret
   exact⟨rfl,_,rfl⟩
 | some s,⟨h,_⟩ =>
   obtain⟨sa,sc,na,nc,c0,c1,c2,-,-,-⟩:=h.cells
   have hg:=h.lt
   have hp:=h.pos
   by_cases hl:s.p<xs.length
   ·obtain⟨b,sc1,pl,hb,X0,d0,d1,d2,d3⟩:=h.sign s.p hl
    have hA1:(0:Int)≤(s.p:Int):=by omega
    have hB1:(s.p:Int)<(xs.length:Int):=by omega
    have hd1:decide ((s.p:Int)<(xs.length:Int))=true:=by simp;omega
    have qK:=fun W=>z6i (txt xs s.p) W
    clear h c0
    have HI:=z00 (show kdP xs (some s) 1=((knd xs s.p==1)&&(!((1:Int)==1)||!kw (txt xs s.p))) from rfl)
    obtain⟨k0,hk0⟩:∃ k,k=knd xs s.p:=⟨_,rfl⟩
    obtain⟨u0,hu0⟩:∃ u,u=txt xs s.p:=⟨_,rfl⟩
    obtain⟨b0,hb0⟩:∃ b,b=blk xs s.p:=⟨_,rfl⟩
    rw[← hk0] at d0 HI
    rw[← hu0] at d1 HI qK
    rw[← hb0] at d3
    clear hk0 hu0 hb0
    by_cases hq:k0=1
    ·subst hq
     have HI2:=z00 (show kdP xs (some s) 1=!kw u0 by rw[HI.out];rfl)
     clear HI
     go_enter Tryz.func119,Tryz.ntmps119
     go_wp2
     go_quiet ((go_at_call 114;exact Calls.quiet_of_same (qK _)))
     go_wp2
     go_ret
     exact⟨z0l HI2.out.symm,_,rfl⟩
    ·have hqk:(k0==1)=false:=by rw[beq_eq_false_iff_ne];exact hq
     clear hq
     go_enter Tryz.func119,Tryz.ntmps119
     go_wp2
     go_quiet (fail)
     go_wp2
     go_ret
     exact⟨z0l (by rw[HI.out,hqk];rfl),_,rfl⟩
   ·have hd1:decide ((s.p:Int)<(xs.length:Int))=false:=by simp;omega
    have hd2:decide (s.p<xs.length)=false:=by simp;omega
    have HI:=z00 (show false=kdP xs (some s) 1 by unfold kdP;simp only[z5c (show xs.length≤s.p by omega)];rw[show ((0:Int)==1)=false from by rw[beq_eq_false_iff_ne];decide];rfl)
    clear h hl
    go_enter Tryz.func119,Tryz.ntmps119
    go_wp2
    go_quiet (fail)
    go_wp2
    go_ret
    exact⟨z0l HI.out,_,rfl⟩
theorem zrw (h:SR B g xs A w t):Calls Tryz.prog 119 #[.pointer (some ⟨g,0,none⟩),.int .i64 2] w fun e w'=>e=.returned (.bool (kdP xs t 2))∧∃ m,w'=w.drewN m:=by
 match t,h with
 | none,⟨s,h,_⟩ =>
   obtain⟨sa,sc,na,nc,-,-,c2,-,-,-⟩:=h.cells
   have hg:=h.lt
   clear h
   go_enter Tryz.func119,Tryz.ntmps119
   go_wp2
   go_quiet (fail)
   go_wp2
   go_ret
   exact⟨rfl,_,rfl⟩
 | some s,⟨h,_⟩ =>
   obtain⟨sa,sc,na,nc,c0,c1,c2,-,-,-⟩:=h.cells
   have hg:=h.lt
   have hp:=h.pos
   by_cases hl:s.p<xs.length
   ·obtain⟨b,sc1,pl,hb,X0,d0,d1,d2,d3⟩:=h.sign s.p hl
    have hA1:(0:Int)≤(s.p:Int):=by omega
    have hB1:(s.p:Int)<(xs.length:Int):=by omega
    have hd1:decide ((s.p:Int)<(xs.length:Int))=true:=by simp;omega
    have qK:=fun W=>z6i (txt xs s.p) W
    clear h c0
    have HI:=z00 (show kdP xs (some s) 2=((knd xs s.p==2)&&(!((2:Int)==1)||!kw (txt xs s.p))) from rfl)
    obtain⟨k0,hk0⟩:∃ k,k=knd xs s.p:=⟨_,rfl⟩
    obtain⟨u0,hu0⟩:∃ u,u=txt xs s.p:=⟨_,rfl⟩
    obtain⟨b0,hb0⟩:∃ b,b=blk xs s.p:=⟨_,rfl⟩
    rw[← hk0] at d0 HI
    rw[← hu0] at d1 HI qK
    rw[← hb0] at d3
    clear hk0 hu0 hb0
    by_cases hq:k0=2
    ·subst hq
     have HI2:=z00 (show kdP xs (some s) 2=true by rw[HI.out];rfl)
     clear HI
     go_enter Tryz.func119,Tryz.ntmps119
     go_wp2
     go_quiet ((go_at_call 114;exact Calls.quiet_of_same (qK _)))
     go_wp2
     go_ret
     exact⟨z0l HI2.out.symm,_,rfl⟩
    ·have hqk:(k0==2)=false:=by rw[beq_eq_false_iff_ne];exact hq
     clear hq
     go_enter Tryz.func119,Tryz.ntmps119
     go_wp2
     go_quiet (fail)
     go_wp2
     go_ret
     exact⟨z0l (by rw[HI.out,hqk];rfl),_,rfl⟩
   ·have hd1:decide ((s.p:Int)<(xs.length:Int))=false:=by simp;omega
    have hd2:decide (s.p<xs.length)=false:=by simp;omega
    have HI:=z00 (show false=kdP xs (some s) 2 by unfold kdP;simp only[z5c (show xs.length≤s.p by omega)];rw[show ((0:Int)==2)=false from by rw[beq_eq_false_iff_ne];decide];rfl)
    clear h hl
    go_enter Tryz.func119,Tryz.ntmps119
    go_wp2
    go_quiet (fail)
    go_wp2
    go_ret
    exact⟨z0l HI.out,_,rfl⟩
theorem zr9 (h:SR B g xs A w t):Calls Tryz.prog 119 #[.pointer (some ⟨g,0,none⟩),.int .i64 3] w fun e w'=>e=.returned (.bool (kdP xs t 3))∧∃ m,w'=w.drewN m:=by
 match t,h with
 | none,⟨s,h,_⟩ =>
   obtain⟨sa,sc,na,nc,-,-,c2,-,-,-⟩:=h.cells
   have hg:=h.lt
   clear h
   go_enter Tryz.func119,Tryz.ntmps119
   go_wp2
   go_quiet (fail)
   go_wp2
   go_ret
   exact⟨rfl,_,rfl⟩
 | some s,⟨h,_⟩ =>
   obtain⟨sa,sc,na,nc,c0,c1,c2,-,-,-⟩:=h.cells
   have hg:=h.lt
   have hp:=h.pos
   by_cases hl:s.p<xs.length
   ·obtain⟨b,sc1,pl,hb,X0,d0,d1,d2,d3⟩:=h.sign s.p hl
    have hA1:(0:Int)≤(s.p:Int):=by omega
    have hB1:(s.p:Int)<(xs.length:Int):=by omega
    have hd1:decide ((s.p:Int)<(xs.length:Int))=true:=by simp;omega
    have qK:=fun W=>z6i (txt xs s.p) W
    clear h c0
    have HI:=z00 (show kdP xs (some s) 3=((knd xs s.p==3)&&(!((3:Int)==1)||!kw (txt xs s.p))) from rfl)
    obtain⟨k0,hk0⟩:∃ k,k=knd xs s.p:=⟨_,rfl⟩
    obtain⟨u0,hu0⟩:∃ u,u=txt xs s.p:=⟨_,rfl⟩
    obtain⟨b0,hb0⟩:∃ b,b=blk xs s.p:=⟨_,rfl⟩
    rw[← hk0] at d0 HI
    rw[← hu0] at d1 HI qK
    rw[← hb0] at d3
    clear hk0 hu0 hb0
    by_cases hq:k0=3
    ·subst hq
     have HI2:=z00 (show kdP xs (some s) 3=true by rw[HI.out];rfl)
     clear HI
     go_enter Tryz.func119,Tryz.ntmps119
     go_wp2
     go_quiet ((go_at_call 114;exact Calls.quiet_of_same (qK _)))
     go_wp2
     go_ret
     exact⟨z0l HI2.out.symm,_,rfl⟩
    ·have hqk:(k0==3)=false:=by rw[beq_eq_false_iff_ne];exact hq
     clear hq
     go_enter Tryz.func119,Tryz.ntmps119
     go_wp2
     go_quiet (fail)
     go_wp2
     go_ret
     exact⟨z0l (by rw[HI.out,hqk];rfl),_,rfl⟩
   ·have hd1:decide ((s.p:Int)<(xs.length:Int))=false:=by simp;omega
    have hd2:decide (s.p<xs.length)=false:=by simp;omega
    have HI:=z00 (show false=kdP xs (some s) 3 by unfold kdP;simp only[z5c (show xs.length≤s.p by omega)];rw[show ((0:Int)==3)=false from by rw[beq_eq_false_iff_ne];decide];rfl)
    clear h hl
    go_enter Tryz.func119,Tryz.ntmps119
    go_wp2
    go_quiet (fail)
    go_wp2
    go_ret
    exact⟨z0l HI.out,_,rfl⟩
theorem zsd (h:SR B g xs A w t):Calls Tryz.prog 119 #[.pointer (some ⟨g,0,none⟩),.int .i64 5] w fun e w'=>e=.returned (.bool (kdP xs t 5))∧∃ m,w'=w.drewN m:=by
 match t,h with
 | none,⟨s,h,_⟩ =>
   obtain⟨sa,sc,na,nc,-,-,c2,-,-,-⟩:=h.cells
   have hg:=h.lt
   clear h
   go_enter Tryz.func119,Tryz.ntmps119
   go_wp2
   go_quiet (fail)
   go_wp2
   go_ret
   exact⟨rfl,_,rfl⟩
 | some s,⟨h,_⟩ =>
   obtain⟨sa,sc,na,nc,c0,c1,c2,-,-,-⟩:=h.cells
   have hg:=h.lt
   have hp:=h.pos
   by_cases hl:s.p<xs.length
   ·obtain⟨b,sc1,pl,hb,X0,d0,d1,d2,d3⟩:=h.sign s.p hl
    have hA1:(0:Int)≤(s.p:Int):=by omega
    have hB1:(s.p:Int)<(xs.length:Int):=by omega
    have hd1:decide ((s.p:Int)<(xs.length:Int))=true:=by simp;omega
    have qK:=fun W=>z6i (txt xs s.p) W
    clear h c0
    have HI:=z00 (show kdP xs (some s) 5=((knd xs s.p==5)&&(!((5:Int)==1)||!kw (txt xs s.p))) from rfl)
    obtain⟨k0,hk0⟩:∃ k,k=knd xs s.p:=⟨_,rfl⟩
    obtain⟨u0,hu0⟩:∃ u,u=txt xs s.p:=⟨_,rfl⟩
    obtain⟨b0,hb0⟩:∃ b,b=blk xs s.p:=⟨_,rfl⟩
    rw[← hk0] at d0 HI
    rw[← hu0] at d1 HI qK
    rw[← hb0] at d3
    clear hk0 hu0 hb0
    by_cases hq:k0=5
    ·subst hq
     have HI2:=z00 (show kdP xs (some s) 5=true by rw[HI.out];rfl)
     clear HI
     go_enter Tryz.func119,Tryz.ntmps119
     go_wp2
     go_quiet ((go_at_call 114;exact Calls.quiet_of_same (qK _)))
     go_wp2
     go_ret
     exact⟨z0l HI2.out.symm,_,rfl⟩
    ·have hqk:(k0==5)=false:=by rw[beq_eq_false_iff_ne];exact hq
     clear hq
     go_enter Tryz.func119,Tryz.ntmps119
     go_wp2
     go_quiet (fail)
     go_wp2
     go_ret
     exact⟨z0l (by rw[HI.out,hqk];rfl),_,rfl⟩
   ·have hd1:decide ((s.p:Int)<(xs.length:Int))=false:=by simp;omega
    have hd2:decide (s.p<xs.length)=false:=by simp;omega
    have HI:=z00 (show false=kdP xs (some s) 5 by unfold kdP;simp only[z5c (show xs.length≤s.p by omega)];rw[show ((0:Int)==5)=false from by rw[beq_eq_false_iff_ne];decide];rfl)
    clear h hl
    go_enter Tryz.func119,Tryz.ntmps119
    go_wp2
    go_quiet (fail)
    go_wp2
    go_ret
    exact⟨z0l HI.out,_,rfl⟩
theorem z3n (h:SR B g xs A w t) (k:Int) (hk:k=1∨k=2∨k=3∨k=5):Calls Tryz.prog 119 #[.pointer (some ⟨g,0,none⟩),.int .i64 k] w fun e w'=>e=.returned (.bool (kdP xs t k))∧∃ m,w'=w.drewN m:=by
 rcases hk with rfl|rfl|rfl|rfl
 ·exact zrm h
 ·exact zrw h
 ·exact zr9 h
 ·exact zsd h
end
end Go.Proofs.YtekebloinobjnaaGreatDoor
