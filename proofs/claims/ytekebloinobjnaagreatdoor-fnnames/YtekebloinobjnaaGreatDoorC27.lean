/- Texts of one proof, laid together: SpI16, SpI10, SpI11, RdMk. -/
import Derived.Test.YtekebloinobjnaaGreatDoorC26
import Derived.Test.YtekebloinobjnaaGreatDoorC22
import Derived.Test.YtekebloinobjnaaGreatDoorC19
import Derived.Test.YtekebloinobjnaaGreatDoorC03
set_option maxHeartbeats 16000000
set_option maxRecDepth 100000
namespace Go.Proofs.YtekebloinobjnaaGreatDoor
open Go.RowKit
section
variable {B g:Nat} {xs:List Sg} {A:Nat→Prop} {w:World} {t:Option Ps}
theorem znv {O:Bool→Ps→Rs Nat} {o:Option (Nat×Ps)} (h:SR B g xs A w t) (hX:xs.length≤3000) (hM:z3w xs) (hA:∀ b,A b→b<w.heap.size) (hBs:z1n B g xs 239 (z3l xs O)) (hV:z1n B g xs 163 (O true)) (hr:z60 (za6 xs O) t o):Calls Tryz.prog 218 #[.pointer (some ⟨g,0,none⟩),.int .i64 6] w (z0j B g xs A w VNs o):=by
 have q:=zv8 h hX hM hA hBs hV hr
 clear h hr hBs hV
 go_enter Tryz.func218,Tryz.ntmps218
 go_wp2_with fail
 refine q.mono ?_
 rintro e w1 ⟨⟨k,rfl,hk⟩,S1,F1⟩
 have HH:=z00 (show z0j B g xs A w VNs o (.returned (.int .i64 k)) w1 from⟨⟨k,rfl,hk⟩,S1,F1⟩)
 clear S1 F1 hk q
 go_wp2
 go_ret
 exact HH.out
theorem zmx {n0:Nat} (hX:xs.length≤3000) (hM:z3w xs) (hV:z1n B g xs 163 (vpF xs n0 true)) (hP:z1n B g xs 188 (vpF xs n0 false)):∀ j,j≤6→zd4 B g xs 218 ((6-j:Nat):Int) (z1o xs (vpF xs n0) j)
 | 0,_=>fun _ _ _ _ hA h hr=>znv h hX hM hA (fun _ _ _ _ hA h hr=>zus h hX hM hA hV hP hr) hV hr
 | j+1,hj=>fun _ _ _ _ hA h hr=>by
   rw[show 6-(j+1)=5-j by omega]
   refine zrg (O:=vpF xs n0) (5-j) (by omega) h hX hM hA ?_ ?_
   ·rw[show ((5-j:Nat):Int)+1=((6-j:Nat):Int) by omega,show 5-(5-j)=j by omega]
    exact zmx hX hM hV hP j (by omega)
   ·rw[show 6-(5-j)=j+1 by omega]
    exact hr
theorem zc2 (hX:xs.length≤3000) (hM:z3w xs):∀ (n:Nat),z1n B g xs 163 (vpF xs n true)∧z1n B g xs 188 (vpF xs n false)
 | 0=>by
   refine⟨fun A W t o _ h hr=>?_,fun A W t o _ h hr=>?_⟩
   ·match t,h,hr with
    | none,h,hr =>
      obtain rfl:o=none:=hr
      exact zh6 h
    | some s,h,hr=>exact absurd (show (none:Rs Nat)=some o from hr) (by simp)
   ·match t,h,hr with
    | none,h,hr =>
      obtain rfl:o=none:=hr
      exact zn4 h
    | some s,h,hr=>exact absurd (show (none:Rs Nat)=some o from hr) (by simp)
 | n+1=>by
   obtain⟨hv,hp⟩:=zc2 hX hM n
   have hpick:z1n B g xs 188 (z4u xs (vpF xs n)):=fun _ _ _ _ hA h hr=>ztd h hX hM hA (zmx hX hM hv hp 6 (by omega)) hp (zkl n) hr
   exact⟨fun _ _ _ _ hA h hr=>zrf h hX hM hA hv hpick hr,hpick⟩
theorem z6x (hX:xs.length≤3000) (hM:z3w xs):z1n B g xs 163 (zde xs):=(zc2 hX hM (lim xs)).1
end
section
variable {B g:Nat} {xs:List Sg} {A:Nat→Prop} {w:World} {t:Option Ps}
theorem zgl (h:SR B g xs A w t):Calls Tryz.prog 87 #[.pointer (some ⟨g,0,none⟩)] w fun e w'=>(∃ b:Bool,e=.returned (.bool b)∧∀ s,t=some s→b=blk xs s.p)∧∃ m,w'=w.drewN m:=by
 have key:∀ (bd:Bool) (s:Ps),Sd B g xs A w bd s→Calls Tryz.prog 87 #[.pointer (some ⟨g,0,none⟩)] w fun e w'=>e=.returned (.bool (blk xs s.p))∧∃ m,w'=w.drewN m:=by
  intro bd s h
  obtain⟨sa,sc,na,nc,c0,c1,-,-,-,-⟩:=h.cells
  have hg:=h.lt
  have hp:=h.pos
  by_cases hl:s.p<xs.length
  ·obtain⟨b,sc1,pl,hb,X0,d0,d1,d2,d3⟩:=h.sign s.p hl
   have hA1:(0:Int)≤(s.p:Int):=by omega
   have hB1:(s.p:Int)<(xs.length:Int):=by omega
   have hd1:decide ((s.p:Int)<(xs.length:Int))=true:=by simp;omega
   clear h c0
   obtain⟨b0,hb0⟩:∃ b,b=blk xs s.p:=⟨_,rfl⟩
   rw[← hb0] at d3
   rw[← hb0]
   clear hb0 d0 d1 d2
   go_enter Tryz.func87,Tryz.ntmps87
   go_wp2
   go_quiet (fail)
   go_wp2
   go_ret
   exact⟨rfl,_,rfl⟩
  ·have hd1:decide ((s.p:Int)<(xs.length:Int))=false:=by simp;omega
   have hd2:decide (s.p<xs.length)=false:=by simp;omega
   have HI:=z00 (show false=blk xs s.p by unfold blk;rw[List.getElem?_eq_none (by omega)])
   clear h hl
   go_enter Tryz.func87,Tryz.ntmps87
   go_wp2
   go_quiet (fail)
   go_wp2
   go_ret
   exact⟨z0l HI.out,_,rfl⟩
 match t,h with
 | none,⟨s,h,_⟩ =>
   refine(key true s h).mono ?_
   rintro e w1 ⟨rfl,hm⟩
   exact⟨⟨_,rfl,fun s hs=>by cases hs⟩,hm⟩
 | some s,⟨h,_⟩ =>
   refine(key false s h).mono ?_
   rintro e w1 ⟨rfl,hm⟩
   exact⟨⟨_,rfl,fun s' hs=>by cases hs;rfl⟩,hm⟩
end
theorem Sd.blank {B g:Nat} {xs:List Sg} {A:Nat→Prop} {w:World} {s:Ps} {bd:Bool} (h:Sd B g xs A w bd s) (k:Nat) (hk:k<s.ns.length):∃ nb nc b0,nb<w.heap.size∧w.cell? ⟨g,4,none⟩=some (.slice (some ⟨nb,0,none⟩) s.ns.length nc)∧w.cell? ⟨nb,k*4+3,none⟩=some (.bool b0)∧w.frozen? ⟨nb,k*4+3,none⟩=false∧∀ b,Sd B g xs A (w.setCell ⟨nb,k*4+3,none⟩ (.bool b)) bd (z19 s k b)∧Fr B w (w.setCell ⟨nb,k*4+3,none⟩ (.bool b)):=by
 obtain⟨sa,sc,na,nc,qs,dv,h1,h2,h3,h4,e4,hdv⟩:=h.mem
 have hl:qs.length=s.ns.length:=by rw[← h4];simp
 have hrow:=h3.row
 obtain⟨nb,rfl⟩:=z0s hrow (by omega)
 obtain⟨q,hq⟩:∃ q,qs[k]?=some q:=⟨_,List.getElem?_eq_getElem (by omega)⟩
 have hnb:=hrow.lt nb rfl
 have hc3:w.cell? ⟨nb,k*4+3,none⟩=some (.bool q.nd.blank):=(hrow.cellAt (k*4+3) (by omega)).trans (z58 z8e qs k q hq 3 (by omega))
 refine⟨nb,nc,q.nd.blank,hnb.2,cell_of_row w g 4 _ _ _ h1,hc3,hrow.frozenAt _,fun b=>?_⟩
 have st:=hrow.stored (k*4+3) (.bool b)
 rw[z9j qs k q b hq] at st
 have hns:s.ns[k]?=some q.nd:=by rw[← h4,List.getElem?_map,hq];rfl
 have hF:Fr B w (w.setCell ⟨nb,k*4+3,none⟩ (.bool b)):=by
  rcases hrow.2 with⟨e',_⟩|⟨k',cap,cur,e',_,e3',_⟩
  ·cases e'
  ·have:nb=k':=by injection e' with e' _ _;injection e' with e';injection e'
   subst this
   exact Fr.set e3' (.inl rfl) hnb.1 _ _
 have hbn:g≠nb:=by
  rintro rfl
  rcases Sd.apart h1 hrow with h5|h5
  ·cases h5
  ·exact h5 rfl
 have hsl:(z19 s k b).ns.length=s.ns.length:=by
  unfold z19
  rw[hns]
  simp
 refine⟨⟨h.low,h.pos,?_,sa,sc,some ⟨nb,0,none⟩,nc,qs.set k ⟨⟨q.nd.kind,q.nd.text,q.nd.kids,b⟩,q.a,q.c⟩,dv,?_,hF.own h2 (by decide) (by decide) (by decide),⟨?_,fun r hr=>?_⟩,?_,fun r hr=>?_,hdv⟩,hF⟩
 ·rw[hsl];exact h.few
 ·rw[heap_setCell_other w _ g _ hbn,hsl]
  exact h1
 ·rw[List.length_set]
  exact st.1
 ·rcases List.mem_or_eq_of_mem_set hr with hr|rfl
  ·exact hF.ints (h3.each r hr)
  ·exact hF.ints (h3.each q (List.mem_of_getElem? hq))
 ·show (qs.set k _).map Np.nd=(match s.ns[k]? with|some x=>s.ns.set k ⟨x.kind,x.text,x.kids,b⟩|none=>s.ns)
  rw[hns,List.map_set,h4]
 ·rcases List.mem_or_eq_of_mem_set hr with hr|rfl
  ·exact e4 r hr
  ·exact e4 q (List.mem_of_getElem? hq)
section
variable {B g:Nat} {xs:List Sg} {A:Nat→Prop} {w:World} {t:Option Ps}
theorem z2n (k:Int) (b:Bool) (h:SR B g xs A w none):Calls Tryz.prog 89 #[.pointer (some ⟨g,0,none⟩),.int .i64 k,.bool b] w fun e w'=>e=.returned (.tuple #[])∧SR B g xs A w' none∧Fr B w w':=by
 obtain⟨s1,h1,hd1⟩:=h
 obtain⟨sa,sc,na,nc,-,-,c2,-,-,-⟩:=h1.cells
 have HS:=z00 (show SR B g xs A w none from⟨s1,h1,hd1⟩)
 clear h1 hd1
 go_enter Tryz.func89,Tryz.ntmps89
 go_wp2
 go_end0
 exact⟨rfl,HS.out,Fr.refl _ _⟩
theorem zj1 (k:Nat) (b:Bool) {s:Ps} (h:SR B g xs A w (some s)) (hk:k<s.ns.length):Calls Tryz.prog 89 #[.pointer (some ⟨g,0,none⟩),.int .i64 (k:Int),.bool b] w fun e w'=>e=.returned (.tuple #[])∧SR B g xs A w' (some (z19 s k b))∧Fr B w w':=by
 obtain⟨h1,hd1⟩:=h
 obtain⟨sa,sc,na,nc,-,-,c2,-,-,-⟩:=h1.cells
 have hfew:=h1.few
 obtain⟨nb,nc',b0,hnb,c4,c5,z5,hset⟩:=h1.blank k hk
 have hs:=hset b
 have HS:=z00 (show SR B g xs A _ (some (z19 s k b)) from⟨hs.1,hd1⟩)
 have HF:=z00 hs.2
 have hkA:(0:Int)≤(k:Int):=by omega
 have hkB:(k:Int)<(s.ns.length:Int):=by omega
 have hkC:decide ((k:Int)<(s.ns.length:Int))=true:=by simp;omega
 clear h1 hd1 hset hs
 go_enter Tryz.func89,Tryz.ntmps89
 go_wp2
 go_end0
 exact⟨rfl,HS.out,HF.out⟩
end
theorem ztt {a b:ByteArray} (h:(a==b)=true):a=b:=by
 have h2:(a.data==b.data)=true:=h
 exact ByteArray.ext (eq_of_beq h2)
theorem zi7 {u:ByteArray}:∀ {l:List ByteArray},l.contains u=true→u∈l
 | [],h=>by cases h
 | x::l,h=>by
   rw[List.contains_cons,Bool.or_eq_true] at h
   rcases h with h|h
   ·rw[ztt h];exact List.mem_cons_self
   ·exact List.mem_cons_of_mem _ (zi7 h)
theorem zoq {xs:List Sg} (h:∀ x∈xs,SgOk x) {p:Nat} (hp:p<xs.length):knd xs p=kOf (txt xs p):=by
 have hx:xs[p]?=some xs[p]:=List.getElem?_eq_getElem hp
 unfold knd txt
 rw[hx]
 exact(h _ (List.getElem_mem hp)).kind
theorem zj7 {xs:List Sg} (h:∀ x∈xs,SgOk x) {p:Nat} {u:ByteArray} (hu:u≠ByteArray.empty) (ht:txt xs p=u):knd xs p=kOf u:=by
 rw[zoq h (z3c ht hu),ht]
theorem zjb:(ztc.all fun u=>decide (kOf u=4))=true:=by decide
theorem zfr:(ztc.all fun u=>decide (u.size≠0))=true:=by decide
theorem zlg {xs:List Sg} (h:∀ x∈xs,SgOk x):z3w xs:=by
 intro u hu p hp
 have hm:u∈ztc:=zi7 hu
 have h1:kOf u=4:=by simpa using List.all_eq_true.1 zjb u hm
 have h2:u.size≠0:=by simpa using List.all_eq_true.1 zfr u hm
 rw[zj7 h (fun e=>h2 (by rw[e];rfl)) hp,h1]
def zte:List ByteArray:=[(⟨#[99,108,97,115,115]⟩:ByteArray),(⟨#[118,97,114]⟩:ByteArray),(⟨#[105,102]⟩:ByteArray),(⟨#[101,108,115,101]⟩:ByteArray),(⟨#[119,104,105,108,101]⟩:ByteArray),(⟨#[114,101,116,117,114,110]⟩:ByteArray)]
def zd1 (xs:List Sg):Prop:=∀ u,zte.contains u=true→∀ p,txt xs p=u→knd xs p=1
theorem zgr:(zte.all fun u=>decide (kOf u=1))=true:=by decide
theorem zev:(zte.all fun u=>decide (u.size≠0))=true:=by decide
theorem zlv {xs:List Sg} (h:∀ x∈xs,SgOk x):zd1 xs:=by
 intro u hu p hp
 have hm:u∈zte:=zi7 hu
 have h1:kOf u=1:=by simpa using List.all_eq_true.1 zgr u hm
 have h2:u.size≠0:=by simpa using List.all_eq_true.1 zev u hm
 rw[zj7 h (fun e=>h2 (by rw[e];rfl)) hp,h1]
theorem z1j {xs:List Sg} {u:ByteArray} {s:Ps} (hw:zd1 xs) (hu:zte.contains u=true):isP xs (some s) 1 u=decide (txt xs s.p=u):=by
 unfold isP
 by_cases h:txt xs s.p=u
 ·simp[h,hw u hu _ h]
 ·simp[h]
end Go.Proofs.YtekebloinobjnaaGreatDoor
