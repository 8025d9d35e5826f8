/- Texts of one proof, laid together: TrI8, TrI9c, RegPost, RegG. -/
import Derived.Test.YtekebloinobjnaaGreatDoorC08
import Derived.Test.YtekebloinobjnaaGreatDoorC11
import Derived.Test.YtekebloinobjnaaGreatDoorC00
import Derived.Orders
set_option maxHeartbeats 16000000
set_option maxRecDepth 100000
namespace Go.Proofs.YtekebloinobjnaaGreatDoor
open Go.RowKit
theorem Nds.kidOf {w:World} {B:Nat} {a:Option Addr} {c:Nat} {qs:List Np} {q:Np} (h:Nds w B a c qs) (hq:q∈qs):∀ (i:Nat) (z:Int),q.nd.kids[i]?=some z→∃ b,q.a=some ⟨b,0,none⟩∧b<w.heap.size∧w.cell? ⟨b,i,none⟩=some (.int .i64 z):=fun i z hz=>by
 obtain⟨k,hk⟩:=List.mem_iff_getElem?.1 hq
 exact h.kid hk hz
theorem znw {w:World} {B:Nat} {a:Option Addr} {c:Nat} {qs:List Np} {q:Np} (h:Nds w B a c qs) (hq:q∈qs):Calls Tryz.prog 210 #[.slice a qs.length c,agN q] w (zag (z3s (qs.map Np.nd) q.nd) w):=by
 have HH:=z00 (h.kidOf hq)
 obtain⟨P,hP⟩:∃ P,P=z3s (qs.map Np.nd) q.nd:=⟨_,rfl⟩
 have HP:=z00 (show P↔z3s (qs.map Np.nd) q.nd by rw[hP])
 rw[← hP]
 unfold agN
 obtain⟨⟨k,t,ks,bl⟩,ka,kc⟩:=q
 simp only at HH HP ⊢
 have hrw:=h.row
 obtain⟨n,hn⟩:∃ n,n=qs.length:=⟨_,rfl⟩
 rw[← hn]
 have HN:=z00 hn
 clear hP h hq hn hrw
 by_cases h5:k=5
 ·have h5':(k != 5)=false:=by simp[h5]
  have H5:=z00 h5
  clear h5
  by_cases h0:ks.length=0
  ·have hd:decide ((0:Int)<(ks.length:Int))=false:=decide_eq_false (by omega)
   have HF:=z00 (show ¬ P from fun hp=>by
    obtain⟨z,hz,-⟩:=HP.out.1 hp H5.out
    have h9:0<ks.length:=(List.getElem?_eq_some_iff.1 hz).1
    omega)
   have hd2:decide (0<ks.length)=false:=decide_eq_false (by omega)
   have hd3:¬ 0<ks.length:=by omega
   obtain⟨nk,hnk⟩:∃ nk,nk=ks.length:=⟨_,rfl⟩
   rw[← hnk] at hd hd2 hd3 ⊢
   clear h0 hnk
   go_enter Tryz.func210,Tryz.ntmps210
   go_wp2
   go_ret
   exact z0o HF.out (z08 _ _)
  ·obtain⟨z,hz⟩:∃ z,ks[0]?=some z:=⟨_,List.getElem?_eq_getElem (by omega)⟩
   obtain⟨b,rfl,hb,hc⟩:=HH.out 0 z hz
   have hal:∀ ob:Obj,(w.alloc ob).cell? ⟨b,0,none⟩=some (.int .i64 z):=fun ob=>(World.cell?_alloc_old _ _ _ (by show b≠w.heap.size;omega)).trans hc
   have hd:decide ((0:Int)<(ks.length:Int))=true:=decide_eq_true (by omega)
   have hpos:(0:Int)<(ks.length:Int):=by omega
   have HZ:=z00 (show P↔(0≤z∧z<(n:Int)) by
    rw[HP.out]
    constructor
    ·intro hp
     obtain⟨z2,hz2,h1,h2⟩:=hp H5.out
     rw[hz] at hz2
     cases hz2
     rw[List.length_map,← HN.out] at h2
     exact⟨h1,h2⟩
    ·intro h1 _
     exact⟨z,hz,h1.1,by rw[List.length_map,← HN.out];exact h1.2⟩)
   obtain⟨nk,hnk⟩:∃ nk,nk=ks.length:=⟨_,rfl⟩
   rw[← hnk] at hd hpos ⊢
   clear h0 hz hc hnk
   by_cases hz0:0≤z
   ·by_cases hz1:z<(n:Int)
    ·have d1:decide (0≤z)=true:=decide_eq_true hz0
     have d2:decide (z<(n:Int))=true:=decide_eq_true hz1
     have HT:=z00 (HZ.out.2 ⟨hz0,hz1⟩)
     clear hz0 hz1
     go_enter Tryz.func210,Tryz.ntmps210
     go_wp2
     go_ret
     exact z12 HT.out (z08 _ _)
    ·have d1:decide (0≤z)=true:=decide_eq_true hz0
     have d2:decide (z<(n:Int))=false:=decide_eq_false hz1
     have HT:=z00 (show ¬ P from fun hp=>hz1 (HZ.out.1 hp).2)
     clear hz0 hz1
     go_enter Tryz.func210,Tryz.ntmps210
     go_wp2
     go_ret
     exact z0o HT.out (z08 _ _)
   ·have d1:decide (0≤z)=false:=decide_eq_false hz0
    have HT:=z00 (show ¬ P from fun hp=>hz0 (HZ.out.1 hp).1)
    clear hz0
    go_enter Tryz.func210,Tryz.ntmps210
    go_wp2
    go_ret
    exact z0o HT.out (z08 _ _)
 ·have h5':(k != 5)=true:=by simpa using h5
  have HT:=z00 (HP.out.2 (fun e=>absurd e h5))
  clear h5
  go_enter Tryz.func210,Tryz.ntmps210
  go_wp2
  go_ret
  exact z12 HT.out (z08 _ _)
theorem ztx (k:Int) (w:World):Calls Tryz.prog 230 #[.int .i64 k] w (zfs (zmj k) w):=by
 by_cases h1:1≤k
 ·by_cases h2:k≤11
  ·have HT:=z00 (show zmj k from⟨h1,h2⟩)
   have d1:decide (1≤k)=true:=decide_eq_true h1
   have d2:decide (k≤11)=true:=decide_eq_true h2
   go_enter Tryz.func230,Tryz.ntmps230
   go_wp2
   go_ret
   exact z4e HT.out
  ·have HT:=z00 (show ¬ zmj k from fun h=>h2 h.2)
   have d1:decide (1≤k)=true:=decide_eq_true h1
   have d2:decide (k≤11)=false:=decide_eq_false h2
   go_enter Tryz.func230,Tryz.ntmps230
   go_wp2
   go_ret
   exact z5j HT.out
 ·have HT:=z00 (show ¬ zmj k from fun h=>h1 h.1)
  have d1:decide (1≤k)=false:=decide_eq_false h1
  go_enter Tryz.func230,Tryz.ntmps230
  go_wp2
  go_ret
  exact z5j HT.out
theorem zsw {w:World} {B:Nat} {a:Option Addr} {c:Nat} {qs:List Np} {q:Np} (r:Nat) (hr:1≤r∧r≤7) (h:Nds w B a c qs) (hq:q∈qs) (hC:z3s (qs.map Np.nd) q.nd):Calls Tryz.prog 211 #[.slice a qs.length c,agN q,.int .i64 (r:Int)] w (zag (z11 (qs.map Np.nd) q.nd r) w):=by
 have HH:=z00 (h.kidOf hq)
 have HNd:=z00 (fun (k:Nat) (u:Np) (hk:qs[k]?=some u)=>h.node hk)
 obtain⟨P,hP⟩:∃ P,P=z11 (qs.map Np.nd) q.nd r:=⟨_,rfl⟩
 have HP:=z00 (show P↔z11 (qs.map Np.nd) q.nd r by rw[hP])
 rw[← hP]
 have HC:=z00 hC
 unfold agN
 obtain⟨⟨k,t,ks,bl⟩,ka,kc⟩:=q
 simp only at HH HP HC ⊢
 obtain⟨n,hn⟩:∃ n,n=qs.length:=⟨_,rfl⟩
 rw[← hn]
 have HN:=z00 hn
 have qV:=fun W=>ztx k W
 have qS:=fun W=>zmk k W
 have qM:=fun W=>zn9 k W
 clear hP h hq hn hC
 rcases(show r=1∨r=2∨r=3∨r=4∨r=5∨r=6∨r=7 by omega) with rfl|rfl|rfl|rfl|rfl|rfl|rfl
 ·have HP1:=z00 (show P↔zmj k from HP.out)
  clear HP hr
  go_enter Tryz.func211,Tryz.ntmps211
  go_wp2_with fail
  refine(qV _).mono ?_
  rintro e w1 ⟨b,rfl,hb,rfl⟩
  have HB:=z00 (hb.trans HP1.out.symm)
  clear hb
  go_wp2
  go_ret
  exact⟨b,rfl,HB.out,z08 _ _⟩
 ·obtain⟨b,hb⟩:∃ b,b=(k==1):=⟨_,rfl⟩
  have HB:=z00 (show b=true↔P by rw[hb,beq_iff_eq,HP.out];exact Iff.rfl)
  have hb':(k==1)=b:=hb.symm
  clear HP hr hb
  go_enter Tryz.func211,Tryz.ntmps211
  go_wp2
  go_ret
  exact⟨b,rfl,HB.out,z08 _ _⟩
 ·have HP3:=z00 (show P↔z7j (qs.map Np.nd) ⟨k,t,ks,bl⟩ from HP.out)
  clear HP hr
  by_cases h5:k=5
  ·obtain⟨z,hz,hz0,hz1⟩:=HC.out h5
   rw[List.length_map,← HN.out] at hz1
   obtain⟨u,hu⟩:∃ u,qs[z.toNat]?=some u:=⟨_,List.getElem?_eq_getElem (by rw[← HN.out];omega)⟩
   simp only at hz
   obtain⟨b1,rfl,hb1,hc1⟩:=HH.out 0 z hz
   obtain⟨b2,rfl,hb2,d0,-⟩:=HNd.out _ u hu
   obtain⟨m,hm⟩:∃ m:Nat,m=z.toNat:=⟨_,rfl⟩
   rw[← hm] at d0
   have hzm:z=(m:Int):=by omega
   rw[hzm] at hc1
   have hal1:∀ ob:Obj,(w.alloc ob).cell? ⟨b1,0,none⟩=some (.int .i64 (m:Int)):=fun ob=>(World.cell?_alloc_old _ _ _ (by show b1≠w.heap.size;omega)).trans hc1
   have hal2:∀ ob:Obj,(w.alloc ob).cell? ⟨b2,m*4,none⟩=some (.int .i64 u.nd.kind):=fun ob=>(World.cell?_alloc_old _ _ _ (by show b2≠w.heap.size;omega)).trans d0
   have hpos:(0:Int)<(ks.length:Int):=by have:=(List.getElem?_eq_some_iff.1 hz).1;omega
   have hm0:(0:Int)≤(m:Int):=by omega
   have hm1:(m:Int)<(n:Int):=by omega
   obtain⟨bb,hbb⟩:∃ bb,bb=(u.nd.kind==1):=⟨_,rfl⟩
   have HB:=z00 (show bb=true↔P by
    rw[hbb,beq_iff_eq,HP3.out]
    constructor
    ·intro e;exact⟨h5,z,u.nd,hz,by rw[List.getElem?_map,hu];rfl,e⟩
    ·rintro⟨-,z2,u2,e1,e2,e3⟩
     simp only at e1
     rw[hz] at e1
     cases e1
     rw[List.getElem?_map,hu] at e2
     cases e2
     exact e3)
   have hbb':(u.nd.kind==1)=bb:=hbb.symm
   have h5':(k==5)=true:=by simp[h5]
   obtain⟨nk,hnk⟩:∃ nk,nk=ks.length:=⟨_,rfl⟩
   rw[← hnk] at hpos ⊢
   clear h5 hz hu hc1 d0 hm hzm hbb hnk hz0 hz1
   go_enter Tryz.func211,Tryz.ntmps211
   go_wp2
   go_ret
   exact⟨bb,rfl,HB.out,z08 _ _⟩
  ·have h5':(k==5)=false:=by rw[beq_eq_false_iff_ne];exact h5
   have HF:=z00 (show ¬ P from fun hp=>h5 (HP3.out.1 hp).1)
   clear h5
   go_enter Tryz.func211,Tryz.ntmps211
   go_wp2
   go_ret
   exact z0o HF.out (z08 _ _)
 ·obtain⟨b,hb⟩:∃ b,b=(k==18):=⟨_,rfl⟩
  have HB:=z00 (show b=true↔P by rw[hb,beq_iff_eq,HP.out];exact Iff.rfl)
  have hb':(k==18)=b:=hb.symm
  clear HP hr hb
  go_enter Tryz.func211,Tryz.ntmps211
  go_wp2
  go_ret
  exact⟨b,rfl,HB.out,z08 _ _⟩
 ·have HP1:=z00 (show P↔z3z k from HP.out)
  clear HP hr
  go_enter Tryz.func211,Tryz.ntmps211
  go_wp2_with fail
  refine(qS _).mono ?_
  rintro e w1 ⟨b,rfl,hb,rfl⟩
  have HB:=z00 (hb.trans HP1.out.symm)
  clear hb
  go_wp2
  go_ret
  exact⟨b,rfl,HB.out,z08 _ _⟩
 ·have HP1:=z00 (show P↔z3y k from HP.out)
  clear HP hr
  go_enter Tryz.func211,Tryz.ntmps211
  go_wp2_with fail
  refine(qM _).mono ?_
  rintro e w1 ⟨b,rfl,hb,rfl⟩
  have HB:=z00 (hb.trans HP1.out.symm)
  clear hb
  go_wp2
  go_ret
  exact⟨b,rfl,HB.out,z08 _ _⟩
 ·have HP1:=z00 (show P↔(z3y k∨k=21) from HP.out)
  obtain⟨b2,hb2⟩:∃ b,b=(k==21):=⟨_,rfl⟩
  have HB2:=z00 (show b2=true↔k=21 by rw[hb2,beq_iff_eq])
  have hb':(k==21)=b2:=hb2.symm
  clear HP hr hb2
  go_enter Tryz.func211,Tryz.ntmps211
  go_wp2_with fail
  refine(qM _).mono ?_
  rintro e w1 ⟨b,rfl,hb,rfl⟩
  have HB:=z00 hb
  clear hb
  cases b
  ·have HR:=z00 (show b2=true↔P by
    rw[HP1.out,HB2.out]
    constructor
    ·exact .inr
    ·rintro(h|h)
     ·have:=HB.out.2 h;cases this
     ·exact h)
   go_wp2
   go_ret
   exact⟨b2,rfl,HR.out,z08 _ _⟩
  ·have HT:=z00 (HP1.out.2 (.inl (HB.out.1 rfl)))
   go_wp2
   go_ret
   exact z12 HT.out (z08 _ _)
theorem zl8 (n:Nat) (hn:n≤12) (w:World):Calls Tryz.prog 266 #[.agg #[],.int .i64 (n:Int)] w fun e w'=>e=.returned (.bool (cI 1 n))∧Below w.heap.size w w':=by
 rcases(show n=0∨n=1∨n=2∨n=3∨n=4∨n=5∨n=6∨n=7∨n=8∨n=9∨n=10∨n=11∨n=12 by omega) with rfl|rfl|rfl|rfl|rfl|rfl|rfl|rfl|rfl|rfl|rfl|rfl|rfl
 all_goals clear hn
 all_goals go_enter Tryz.func266,Tryz.ntmps266
 all_goals go_wp2
 all_goals go_ret
 all_goals exact⟨rfl,by repeat first|exact Below.refl _ _|refine Below.alloc ?_ (by simp) _|refine Below.drew ?_⟩
theorem zu5 (n:Nat) (hn:n≤12) (w:World):Calls Tryz.prog 267 #[.agg #[.int .i64 0,.int .i64 12],.int .i64 (n:Int)] w fun e w'=>e=.returned (.bool (cI 4 n))∧Below w.heap.size w w':=by
 rcases(show n=0∨n=1∨n=2∨n=3∨n=4∨n=5∨n=6∨n=7∨n=8∨n=9∨n=10∨n=11∨n=12 by omega) with rfl|rfl|rfl|rfl|rfl|rfl|rfl|rfl|rfl|rfl|rfl|rfl|rfl
 all_goals clear hn
 all_goals go_enter Tryz.func267,Tryz.ntmps267
 all_goals go_wp2
 all_goals go_ret
 all_goals exact⟨rfl,by repeat first|exact Below.refl _ _|refine Below.alloc ?_ (by simp) _|refine Below.drew ?_⟩
theorem ztm (n:Nat) (hn:n≤12) (w:World):Calls Tryz.prog 267 #[.agg #[.int .i64 1,.int .i64 12],.int .i64 (n:Int)] w fun e w'=>e=.returned (.bool (cI 5 n))∧Below w.heap.size w w':=by
 rcases(show n=0∨n=1∨n=2∨n=3∨n=4∨n=5∨n=6∨n=7∨n=8∨n=9∨n=10∨n=11∨n=12 by omega) with rfl|rfl|rfl|rfl|rfl|rfl|rfl|rfl|rfl|rfl|rfl|rfl|rfl
 all_goals clear hn
 all_goals go_enter Tryz.func267,Tryz.ntmps267
 all_goals go_wp2
 all_goals go_ret
 all_goals exact⟨rfl,by repeat first|exact Below.refl _ _|refine Below.alloc ?_ (by simp) _|refine Below.drew ?_⟩
theorem zl5 (n:Nat) (hn:n≤12) (w:World):Calls Tryz.prog 267 #[.agg #[.int .i64 1,.int .i64 1],.int .i64 (n:Int)] w fun e w'=>e=.returned (.bool (cI 6 n))∧Below w.heap.size w w':=by
 rcases(show n=0∨n=1∨n=2∨n=3∨n=4∨n=5∨n=6∨n=7∨n=8∨n=9∨n=10∨n=11∨n=12 by omega) with rfl|rfl|rfl|rfl|rfl|rfl|rfl|rfl|rfl|rfl|rfl|rfl|rfl
 all_goals clear hn
 all_goals go_enter Tryz.func267,Tryz.ntmps267
 all_goals go_wp2
 all_goals go_ret
 all_goals exact⟨rfl,by repeat first|exact Below.refl _ _|refine Below.alloc ?_ (by simp) _|refine Below.drew ?_⟩
theorem zti (n:Nat) (hn:n≤12) (w:World):Calls Tryz.prog 267 #[.agg #[.int .i64 2,.int .i64 12],.int .i64 (n:Int)] w fun e w'=>e=.returned (.bool (cI 7 n))∧Below w.heap.size w w':=by
 rcases(show n=0∨n=1∨n=2∨n=3∨n=4∨n=5∨n=6∨n=7∨n=8∨n=9∨n=10∨n=11∨n=12 by omega) with rfl|rfl|rfl|rfl|rfl|rfl|rfl|rfl|rfl|rfl|rfl|rfl|rfl
 all_goals clear hn
 all_goals go_enter Tryz.func267,Tryz.ntmps267
 all_goals go_wp2
 all_goals go_ret
 all_goals exact⟨rfl,by repeat first|exact Below.refl _ _|refine Below.alloc ?_ (by simp) _|refine Below.drew ?_⟩
theorem zub (n:Nat) (hn:n≤12) (w:World):Calls Tryz.prog 267 #[.agg #[.int .i64 3,.int .i64 3],.int .i64 (n:Int)] w fun e w'=>e=.returned (.bool (cI 8 n))∧Below w.heap.size w w':=by
 rcases(show n=0∨n=1∨n=2∨n=3∨n=4∨n=5∨n=6∨n=7∨n=8∨n=9∨n=10∨n=11∨n=12 by omega) with rfl|rfl|rfl|rfl|rfl|rfl|rfl|rfl|rfl|rfl|rfl|rfl|rfl
 all_goals clear hn
 all_goals go_enter Tryz.func267,Tryz.ntmps267
 all_goals go_wp2
 all_goals go_ret
 all_goals exact⟨rfl,by repeat first|exact Below.refl _ _|refine Below.alloc ?_ (by simp) _|refine Below.drew ?_⟩
theorem zu8 (n:Nat) (hn:n≤12) (w:World):Calls Tryz.prog 268 #[.agg #[.int .i64 1],.int .i64 (n:Int)] w fun e w'=>e=.returned (.bool (cI 9 n))∧Below w.heap.size w w':=by
 rcases(show n=0∨n=1∨n=2∨n=3∨n=4∨n=5∨n=6∨n=7∨n=8∨n=9∨n=10∨n=11∨n=12 by omega) with rfl|rfl|rfl|rfl|rfl|rfl|rfl|rfl|rfl|rfl|rfl|rfl|rfl
 all_goals clear hn
 all_goals go_enter Tryz.func268,Tryz.ntmps268
 all_goals go_wp2
 all_goals go_ret
 all_goals exact⟨rfl,by repeat first|exact Below.refl _ _|refine Below.alloc ?_ (by simp) _|refine Below.drew ?_⟩
theorem zs6 (n:Nat) (hn:n≤12) (w:World):Calls Tryz.prog 269 #[.agg #[],.int .i64 (n:Int)] w fun e w'=>e=.returned (.bool (cI 10 n))∧Below w.heap.size w w':=by
 rcases(show n=0∨n=1∨n=2∨n=3∨n=4∨n=5∨n=6∨n=7∨n=8∨n=9∨n=10∨n=11∨n=12 by omega) with rfl|rfl|rfl|rfl|rfl|rfl|rfl|rfl|rfl|rfl|rfl|rfl|rfl
 all_goals clear hn
 all_goals go_enter Tryz.func269,Tryz.ntmps269
 all_goals go_wp2
 all_goals go_ret
 all_goals exact⟨rfl,by repeat first|exact Below.refl _ _|refine Below.alloc ?_ (by simp) _|refine Below.drew ?_⟩
theorem zmn (n:Nat) (hn:n≤12) (w:World):Calls Tryz.prog 267 #[.agg #[.int .i64 0,.int .i64 1],.int .i64 (n:Int)] w fun e w'=>e=.returned (.bool (cI 12 n))∧Below w.heap.size w w':=by
 rcases(show n=0∨n=1∨n=2∨n=3∨n=4∨n=5∨n=6∨n=7∨n=8∨n=9∨n=10∨n=11∨n=12 by omega) with rfl|rfl|rfl|rfl|rfl|rfl|rfl|rfl|rfl|rfl|rfl|rfl|rfl
 all_goals clear hn
 all_goals go_enter Tryz.func267,Tryz.ntmps267
 all_goals go_wp2
 all_goals go_ret
 all_goals exact⟨rfl,by repeat first|exact Below.refl _ _|refine Below.alloc ?_ (by simp) _|refine Below.drew ?_⟩
theorem zr8 (n:Nat) (hn:n≤12) (w:World):Calls Tryz.prog 270 #[.agg #[.int .i64 3],.int .i64 (n:Int)] w fun e w'=>e=.returned (.bool (cI 16 n))∧Below w.heap.size w w':=by
 rcases(show n=0∨n=1∨n=2∨n=3∨n=4∨n=5∨n=6∨n=7∨n=8∨n=9∨n=10∨n=11∨n=12 by omega) with rfl|rfl|rfl|rfl|rfl|rfl|rfl|rfl|rfl|rfl|rfl|rfl|rfl
 all_goals clear hn
 all_goals go_enter Tryz.func270,Tryz.ntmps270
 all_goals go_wp2
 all_goals go_ret
 all_goals exact⟨rfl,by repeat first|exact Below.refl _ _|refine Below.alloc ?_ (by simp) _|refine Below.drew ?_⟩
theorem zrp (n:Nat) (hn:n≤12) (w:World):Calls Tryz.prog 270 #[.agg #[.int .i64 2],.int .i64 (n:Int)] w fun e w'=>e=.returned (.bool (cI 17 n))∧Below w.heap.size w w':=by
 rcases(show n=0∨n=1∨n=2∨n=3∨n=4∨n=5∨n=6∨n=7∨n=8∨n=9∨n=10∨n=11∨n=12 by omega) with rfl|rfl|rfl|rfl|rfl|rfl|rfl|rfl|rfl|rfl|rfl|rfl|rfl
 all_goals clear hn
 all_goals go_enter Tryz.func270,Tryz.ntmps270
 all_goals go_wp2
 all_goals go_ret
 all_goals exact⟨rfl,by repeat first|exact Below.refl _ _|refine Below.alloc ?_ (by simp) _|refine Below.drew ?_⟩
theorem zre (n:Nat) (hn:n≤12) (w:World):Calls Tryz.prog 271 #[.agg #[.int .i64 5],.int .i64 (n:Int)] w fun e w'=>e=.returned (.bool (cI 18 n))∧Below w.heap.size w w':=by
 rcases(show n=0∨n=1∨n=2∨n=3∨n=4∨n=5∨n=6∨n=7∨n=8∨n=9∨n=10∨n=11∨n=12 by omega) with rfl|rfl|rfl|rfl|rfl|rfl|rfl|rfl|rfl|rfl|rfl|rfl|rfl
 all_goals clear hn
 all_goals go_enter Tryz.func271,Tryz.ntmps271
 all_goals go_wp2
 all_goals go_ret
 all_goals exact⟨rfl,by repeat first|exact Below.refl _ _|refine Below.alloc ?_ (by simp) _|refine Below.drew ?_⟩
theorem zqp (n:Nat) (hn:n≤12) (w:World):Calls Tryz.prog 268 #[.agg #[.int .i64 4],.int .i64 (n:Int)] w fun e w'=>e=.returned (.bool (cI 20 n))∧Below w.heap.size w w':=by
 rcases(show n=0∨n=1∨n=2∨n=3∨n=4∨n=5∨n=6∨n=7∨n=8∨n=9∨n=10∨n=11∨n=12 by omega) with rfl|rfl|rfl|rfl|rfl|rfl|rfl|rfl|rfl|rfl|rfl|rfl|rfl
 all_goals clear hn
 all_goals go_enter Tryz.func268,Tryz.ntmps268
 all_goals go_wp2
 all_goals go_ret
 all_goals exact⟨rfl,by repeat first|exact Below.refl _ _|refine Below.alloc ?_ (by simp) _|refine Below.drew ?_⟩
theorem zsc (n:Nat) (hn:n≤12) (w:World):Calls Tryz.prog 271 #[.agg #[.int .i64 6],.int .i64 (n:Int)] w fun e w'=>e=.returned (.bool (cI 21 n))∧Below w.heap.size w w':=by
 rcases(show n=0∨n=1∨n=2∨n=3∨n=4∨n=5∨n=6∨n=7∨n=8∨n=9∨n=10∨n=11∨n=12 by omega) with rfl|rfl|rfl|rfl|rfl|rfl|rfl|rfl|rfl|rfl|rfl|rfl|rfl
 all_goals clear hn
 all_goals go_enter Tryz.func271,Tryz.ntmps271
 all_goals go_wp2
 all_goals go_ret
 all_goals exact⟨rfl,by repeat first|exact Below.refl _ _|refine Below.alloc ?_ (by simp) _|refine Below.drew ?_⟩
theorem zs5 (n:Nat) (hn:n≤12) (w:World):Calls Tryz.prog 271 #[.agg #[.int .i64 7],.int .i64 (n:Int)] w fun e w'=>e=.returned (.bool (cI 22 n))∧Below w.heap.size w w':=by
 rcases(show n=0∨n=1∨n=2∨n=3∨n=4∨n=5∨n=6∨n=7∨n=8∨n=9∨n=10∨n=11∨n=12 by omega) with rfl|rfl|rfl|rfl|rfl|rfl|rfl|rfl|rfl|rfl|rfl|rfl|rfl
 all_goals clear hn
 all_goals go_enter Tryz.func271,Tryz.ntmps271
 all_goals go_wp2
 all_goals go_ret
 all_goals exact⟨rfl,by repeat first|exact Below.refl _ _|refine Below.alloc ?_ (by simp) _|refine Below.drew ?_⟩
theorem zu4 (n:Nat) (hn:n≤12) (w:World):Calls Tryz.prog 266 #[.agg #[],.int .i64 (n:Int)] w fun e w'=>e=.returned (.bool (cI 2 n))∧Below w.heap.size w w':=by
 exact zl8 n hn w
theorem zur (n:Nat) (hn:n≤12) (w:World):Calls Tryz.prog 266 #[.agg #[],.int .i64 (n:Int)] w fun e w'=>e=.returned (.bool (cI 3 n))∧Below w.heap.size w w':=by
 exact zl8 n hn w
theorem zrx (n:Nat) (hn:n≤12) (w:World):Calls Tryz.prog 267 #[.agg #[.int .i64 1,.int .i64 1],.int .i64 (n:Int)] w fun e w'=>e=.returned (.bool (cI 11 n))∧Below w.heap.size w w':=by
 exact zl5 n hn w
theorem zsj (n:Nat) (hn:n≤12) (w:World):Calls Tryz.prog 267 #[.agg #[.int .i64 1,.int .i64 1],.int .i64 (n:Int)] w fun e w'=>e=.returned (.bool (cI 13 n))∧Below w.heap.size w w':=by
 exact zl5 n hn w
theorem zr1 (n:Nat) (hn:n≤12) (w:World):Calls Tryz.prog 267 #[.agg #[.int .i64 1,.int .i64 1],.int .i64 (n:Int)] w fun e w'=>e=.returned (.bool (cI 14 n))∧Below w.heap.size w w':=by
 exact zl5 n hn w
theorem zr0 (n:Nat) (hn:n≤12) (w:World):Calls Tryz.prog 267 #[.agg #[.int .i64 0,.int .i64 1],.int .i64 (n:Int)] w fun e w'=>e=.returned (.bool (cI 15 n))∧Below w.heap.size w w':=by
 exact zmn n hn w
theorem zsh (n:Nat) (hn:n≤12) (w:World):Calls Tryz.prog 266 #[.agg #[],.int .i64 (n:Int)] w fun e w'=>e=.returned (.bool (cI 19 n))∧Below w.heap.size w w':=by
 exact zl8 n hn w
def z3f (a:Act) (o:Oper):Value:=
 match o.dst with
 | some d=>a.tmps.getD d undef
 | none=>undef
section
variable {P:Program} {ops:Array Oper} {Q:Exit→Act→World→Prop}
structure RegAt (ops:Array Oper) (a0:Act) (Inv:World→Prop) (Post:Nat→Value→World→Prop) (L:Array Bool) (a:Act) (w:World):Prop where
 size:L.size=ops.size
 inv:Inv w
 defers:a.defers=a0.defers
 tsize:a.tmps.size=a0.tmps.size
 fix:∀ s,(∀ (j:Nat) (o:Oper),ops[j]?=some o→o.dst≠some s)→a.tmps.getD s undef=a0.tmps.getD s undef
 post:∀ (k:Nat) (o:Oper),ops[k]?=some o→L.getD k true=true→Post k (z3f a o) w
theorem z9m {L:Array Bool} (hs:L.size=ops.size) (hafter:∀ (k:Nat) (o:Oper),ops[k]?=some o→∀ e∈o.after,Region.binds .any e=true→e.on<k) (h:Region.ready .any ops L=[]):∀ k,L.getD k true=true:=by
 intro k
 induction k using Nat.strongRecOn with
 | ind k ih =>
   rcases hb:L.getD k true with _|_
   ·have hkl:k<L.size:=by
     rcases Nat.lt_or_ge k L.size with h'|h'
     ·exact h'
     ·simp[Array.getElem?_eq_none h'] at hb
    have hko:k<ops.size:=by omega
    have hm:k∈Region.ready .any ops L:=mem_ready.2 ⟨hb,ops[k],Array.getElem?_eq_getElem hko,fun e he hbn=>by
     have hlt:=hafter k _ (Array.getElem?_eq_getElem hko) e he hbn
     have h1:=ih e.on hlt
     have hel:e.on<L.size:=by omega
     simp[hel] at h1 ⊢
     exact h1⟩
    rw[h] at hm
    cases hm
   ·rfl
theorem count_set {L:Array Bool} {i:Nat} (h:L.getD i true=false):(L.setIfInBounds i true).count false+1=L.count false:=by
 have hlt:i<L.size:=by
  rcases Nat.lt_or_ge i L.size with h'|h'
  ·exact h'
  ·simp[Array.getElem?_eq_none h'] at h
 have hv:L[i]=false:=by simpa[hlt] using h
 rw[Array.setIfInBounds_def,dif_pos hlt,Array.count_set hlt,hv]
 have:0<L.count false:=Array.count_pos_iff.2 (by rw[← hv];exact Array.getElem_mem hlt)
 simp
 omega
theorem z05 {o:Oper} {a:Act} {w w':World} {K:Act→World→Prop} {v:Value} (h:(execOp a.eval o).run P w=.ok (.value v) w') (hk:K (a.put o.dst v) w'):Oper.wp P o a w K Q:=by
 unfold Oper.wp
 rw[h]
 exact hk
theorem z4v {o:Oper} {a:Act} {w w':World} {K:Act→World→Prop} (h:(execOp a.eval o).run P w=.ok .skip w') (hk:K (a.put o.dst undef) w'):Oper.wp P o a w K Q:=by
 unfold Oper.wp
 rw[h]
 exact hk
end
def za4 (ops:Array Oper) (size:Nat):Bool:=
 (List.range ops.size).all fun k =>
   match ops[k]? with
   | none=>true
   | some o=>(o.after.all fun e=>!Region.binds .any e||decide (e.on<k)) &&
     (match o.dst with
     | none=>true
     | some d=>decide (d<size)&&(List.range ops.size).all fun j=>decide (k=j)||((ops[j]?).bind (·.dst)) != some d)
theorem z7d {ops:Array Oper} {size:Nat} (h:za4 ops size=true) {k:Nat} {o:Oper} (hk:ops[k]?=some o) :
 (∀ e∈o.after,Region.binds .any e=true→e.on<k)∧∀ d,o.dst=some d→d<size∧∀ (j:Nat) (o':Oper),ops[j]?=some o'→o'.dst=some d→k=j:=by
 have hlt:k<ops.size:=(Array.getElem?_eq_some_iff.1 hk).1
 unfold za4 at h
 rw[List.all_eq_true] at h
 have h1:=h k (List.mem_range.2 hlt)
 rw[hk] at h1
 dsimp only at h1
 rw[Bool.and_eq_true] at h1
 obtain⟨ha,hd⟩:=h1
 refine⟨fun e he hb=>?_,fun d hdd=>?_⟩
 ·rw[Array.all_eq_true_iff_forall_mem] at ha
  have:=ha e he
  rw[hb] at this
  simpa using this
 ·rw[hdd] at hd
  dsimp only at hd
  rw[Bool.and_eq_true] at hd
  refine⟨by simpa using hd.1,fun j o' hj hj'=>?_⟩
  have hjl:j<ops.size:=(Array.getElem?_eq_some_iff.1 hj).1
  have h2:=List.all_eq_true.1 hd.2 j (List.mem_range.2 hjl)
  rw[hj] at h2
  simp only[Option.bind_some,hj',bne_self_eq_false,Bool.or_false,decide_eq_true_eq] at h2
  exact h2
section
variable {P:Program} {ops:Array Oper} {Q:Exit→Act→World→Prop}
theorem RegAt.put {a0:Act} {Inv:World→Prop} {Post:Nat→Value→World→Prop} {L:Array Bool} {a:Act} {w w':World} {i:Nat} {o:Oper} {v:Value} (ht:za4 ops a0.tmps.size=true) (h:RegAt ops a0 Inv Post L a w) (ho:ops[i]?=some o) (hv:o.dst=none→v=undef) (hinv:Inv w')
 (hold:∀ (k:Nat) (u:Value),Post k u w→Post k u w') (hpost:Post i v w'):RegAt ops a0 Inv Post (L.setIfInBounds i true) (a.put o.dst v) w':=by
 obtain⟨hb,hd⟩:=z7d ht ho
 refine⟨by simpa using h.size,hinv,?_,?_,?_,?_⟩
 ·cases hod:o.dst with
  | none=>exact h.defers
  | some d=>exact h.defers
 ·cases hod:o.dst with
  | none=>exact h.tsize
  | some d=>simpa[Act.put] using h.tsize
 ·intro s hs
  rw[← h.fix s hs]
  cases hod:o.dst with
  | none=>rfl
  | some d =>
    have hne:d≠s:=fun e=>hs i o ho (by rw[hod,e])
    simp[Act.put,Array.getElem?_setIfInBounds_ne hne]
 ·intro k o' hk hL
  by_cases hik:i=k
  ·subst hik
   rw[ho] at hk
   cases hk
   cases hod:o.dst with
   | none =>
     have:z3f (a.put none v) o=v:=by rw[hv hod];unfold z3f;rw[hod]
     rw[this]
     exact hpost
   | some d =>
     have hlt:d<a.tmps.size:=by rw[h.tsize];exact(hd d hod).1
     have:z3f (a.put (some d) v) o=v:=by
      unfold z3f
      rw[hod]
      simp[Act.put,hlt]
     rw[this]
     exact hpost
  ·rw[getD_set_ne true hik] at hL
   have hold:=hold k _ (h.post k o' hk hL)
   have:z3f (a.put o.dst v) o'=z3f a o':=by
    cases hod:o.dst with
    | none=>rfl
    | some d =>
      unfold z3f
      cases hod':o'.dst with
      | none=>rfl
      | some d' =>
        have hne:d≠d':=fun e=>hik ((hd d hod).2 k o' hk (by rw[hod',e]))
        simp[Act.put,Array.getElem?_setIfInBounds_ne hne]
   rw[this]
   exact hold
theorem zba {a0:Act} (Inv:World→Prop) (Step:World→World→Prop) (Post:Nat→Value→World→Prop) (ht:za4 ops a0.tmps.size=true)
 (hstab:∀ k v w w',Post k v w→Inv w→Step w w'→Post k v w')
 (hstep:∀ (k:Nat) (o:Oper),ops[k]?=some o→∀ a w,Inv w→a.tmps.size=a0.tmps.size→(∀ s,(∀ (j:Nat) (o':Oper),ops[j]?=some o'→o'.dst≠some s)→a.tmps.getD s undef=a0.tmps.getD s undef) →
   (∀ e∈o.after,Region.binds .any e=true→∀ (o':Oper),ops[e.on]?=some o'→Post e.on (z3f a o') w) →
   (Region.wanted o (yielded ops a.tmps)=true∧∀ K:Act→World→Prop,(∀ v w',(o.dst=none→v=undef)→Inv w'→Step w w'→Post k v w'→K (a.put o.dst v) w')→Oper.wp P o a w K Q)∨(Region.wanted o (yielded ops a.tmps)=false∧Post k undef w))
 (hend:∀ a w,Inv w→a.defers=a0.defers→a.tmps.size=a0.tmps.size→(∀ s,(∀ (j:Nat) (o':Oper),ops[j]?=some o'→o'.dst≠some s)→a.tmps.getD s undef=a0.tmps.getD s undef) →
   (∀ (k:Nat) (o:Oper),ops[k]?=some o→Post k (z3f a o) w)→Q .normal a w) :
 ∀ (fuel:Nat) (L:Array Bool) (a:Act) (w:World),RegAt ops a0 Inv Post L a w→L.count false≤fuel→wpAny P .any ops Q fuel L a w:=by
 have fin:∀ (L:Array Bool) (a:Act) (w:World),RegAt ops a0 Inv Post L a w→Region.ready .any ops L=[]→Q .normal a w:=fun L a w h hr =>
  hend a w h.inv h.defers h.tsize h.fix (fun k o hk=>h.post k o hk (z9m h.size (fun k o hk=>(z7d ht hk).1) hr k))
 intro fuel
 induction fuel with
 | zero =>
   intro L a w h hc
   have hr:Region.ready .any ops L=[]:=by
    cases hr:Region.ready .any ops L with
    | nil=>rfl
    | cons x xs =>
      have hx:x∈Region.ready .any ops L:=by rw[hr];exact List.mem_cons_self
      have:=count_set (mem_ready.1 hx).1
      omega
   exact⟨hr,fin L a w h hr⟩
 | succ fuel ih =>
   intro L a w h hc
   refine⟨fin L a w h,fun i hi=>?_⟩
   obtain⟨hun,o,ho,hall⟩:=mem_ready.1 hi
   have hcs:=count_set hun
   unfold wpOp
   simp only[ho]
   rcases hstep i o ho a w h.inv h.tsize h.fix (fun e he hbn o' ho'=>h.post e.on o' ho' (by
    have h1:=hall e he hbn
    have hel:e.on<L.size:=by
     rcases Nat.lt_or_ge e.on L.size with h'|h'
     ·exact h'
     ·simp[Array.getElem?_eq_none h'] at h1
    simp[hel] at h1 ⊢
    exact h1)) with⟨hw,hrun⟩|⟨hw,hpost⟩
   ·rw[if_pos hw]
    exact .inl (hrun _ (fun v w' hv hinv hst hpost=>ih _ _ _ (h.put ht ho hv hinv (fun k u hu=>hstab k u w w' hu h.inv hst) hpost) (by omega)))
   ·rw[if_neg (by rw[hw];exact Bool.false_ne_true)]
    exact ih _ _ _ (h.put ht ho (fun _=>rfl) h.inv (fun k u hu=>hu) hpost) (by omega)
theorem z36 {id:Nat} {a0:Act} {w0:World} (hm:P.follows .mixedOrders=true) (Inv:World→Prop) (Step:World→World→Prop) (Post:Nat→Value→World→Prop) (h0:Inv { w0 with drawn:=w0.drawn+1 }) (ht:za4 ops a0.tmps.size=true)
 (hstab:∀ k v w w',Post k v w→Inv w→Step w w'→Post k v w')
 (hstep:∀ (k:Nat) (o:Oper),ops[k]?=some o→∀ a w,Inv w→a.tmps.size=a0.tmps.size→(∀ s,ops.all (fun o=>o.dst != some s)=true→a.tmps.getD s undef=a0.tmps.getD s undef) →
   (∀ (j:Nat) (o':Oper),ops[j]?=some o'→o.after.any (fun e=>Region.binds .any e&&e.on==j)=true→Post j (z3f a o') w) →
   (Region.wanted o (yielded ops a.tmps)=true∧∀ K:Act→World→Prop,(∀ v w',(o.dst=none→v=undef)→Inv w'→Step w w'→Post k v w'→K (a.put o.dst v) w')→Oper.wp P o a w K Q)∨(Region.wanted o (yielded ops a.tmps)=false∧Post k undef w))
 (hend:∀ a w,Inv w→a.defers=a0.defers→a.tmps.size=a0.tmps.size→(∀ s,ops.all (fun o=>o.dst != some s)=true→a.tmps.getD s undef=a0.tmps.getD s undef) →
   (∀ (k:Nat) (o:Oper),ops[k]?=some o→Post k (z3f a o) w)→Q .normal a w):(Code.region id ops true).wp P Q a0 w0:=by
 have hfx:∀ s,ops.all (fun o=>o.dst != some s)=true→∀ (j:Nat) (o':Oper),ops[j]?=some o'→o'.dst≠some s:=fun s hs j o' hj e=>by
  have:=Array.all_eq_true_iff_forall_mem.1 hs o' (Array.mem_of_getElem? hj)
  simp[e] at this
 refine wp_region_any hm (zba Inv Step Post ht hstab (fun k o hk a w hI hsz hfix hdep=>hstep k o hk a w hI hsz (fun s hs=>hfix s (hfx s hs)) (fun j o' hj ha=>?_)) (fun a w hI hd hsz hfix hpost=>hend a w hI hd hsz (fun s hs=>hfix s (hfx s hs)) hpost) _ _ _ _ ⟨by simp,h0,rfl,rfl,fun _ _=>rfl,fun k o hk hL=>?_⟩ ?_)
 ·obtain⟨e,he,hb⟩:=Array.any_eq_true'.1 ha
  rw[Bool.and_eq_true,beq_iff_eq] at hb
  obtain⟨hb,rfl⟩:=hb
  exact hdep e he hb o' hj
 ·have hlt:k<ops.size:=(Array.getElem?_eq_some_iff.1 hk).1
  simp[hlt] at hL
 ·exact Nat.le_trans Array.count_le_size (by simp)
theorem z03 {o:Oper} {y:Nat→Option Bool} (h:o.guard=none):Region.wanted o y=true:=by simp[Region.wanted,h]
theorem z0n {o oj:Oper} {a:Act} {j d:Nat} {b c:Bool} (hg:o.guard=some (j,b)) (hj:ops[j]?=some oj) (hd:oj.dst=some d) (hv:a.tmps.getD d undef=.bool c):Region.wanted o (yielded ops a.tmps)=(c==b):=by
 have e:a.tmps[d]?=some (.bool c):=by
  cases h:a.tmps[d]? with
  | none=>simp[h,undef] at hv
  | some x=>simp[h] at hv;rw[hv]
 unfold Region.wanted yielded
 rw[hg]
 dsimp only
 rw[hj]
 simp only[Option.bind_some,hd,e]
 cases c<;>cases b<;>rfl
theorem z1h {o:Oper} {a:Act} {w:World} {K:Act→World→Prop} (f:Nat) (vals:Array Value) {R:Ending→World→Prop} (hrun:(execOp a.eval o).run P w=.ok (.enter f vals) w) (hc:Calls P f vals w R) (hk:∀ e w',R e w'→∃ v,e=.returned v∧K (a.put o.dst v) w'):Oper.wp P o a w K Q:=by
 unfold Oper.wp
 rw[hrun,Oper.upon_enter]
 refine hc.mono fun e w' hh=>?_
 obtain⟨v,he,hv⟩:=hk e w' hh
 subst he
 exact hv
end
end Go.Proofs.YtekebloinobjnaaGreatDoor
