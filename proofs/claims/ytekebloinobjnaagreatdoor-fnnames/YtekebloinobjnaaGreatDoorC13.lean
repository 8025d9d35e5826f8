/- Texts of one proof, laid together: TrI9. -/
import Derived.Test.YtekebloinobjnaaGreatDoorC08
import Derived.Test.YtekebloinobjnaaGreatDoorC12
import Derived.BigQuiet
import Derived.Deep.QuietTactic
import Derived.Deep.CutRange
set_option maxHeartbeats 16000000
set_option maxRecDepth 100000
namespace Go.Proofs.YtekebloinobjnaaGreatDoor
open Go.RowKit
theorem znz (t:Array Value) (h:t.size=52):∃ x0 x1 x2 x3 x4 x5 x6 x7 x8 x9 x10 x11 x12 x13 x14 x15 x16 x17 x18 x19 x20 x21 x22 x23 x24 x25 x26 x27 x28 x29 x30 x31 x32 x33 x34 x35 x36 x37 x38 x39 x40 x41 x42 x43 x44 x45 x46 x47 x48 x49 x50 x51,t=#[x0,x1,x2,x3,x4,x5,x6,x7,x8,x9,x10,x11,x12,x13,x14,x15,x16,x17,x18,x19,x20,x21,x22,x23,x24,x25,x26,x27,x28,x29,x30,x31,x32,x33,x34,x35,x36,x37,x38,x39,x40,x41,x42,x43,x44,x45,x46,x47,x48,x49,x50,x51]:=by
 obtain⟨l⟩:=t
 match l,h with
 | x0::x1::x2::x3::x4::x5::x6::x7::x8::x9::x10::x11::x12::x13::x14::x15::x16::x17::x18::x19::x20::x21::x22::x23::x24::x25::x26::x27::x28::x29::x30::x31::x32::x33::x34::x35::x36::x37::x38::x39::x40::x41::x42::x43::x44::x45::x46::x47::x48::x49::x50::x51::[],_=>exact⟨_,_,_,_,_,_,_,_,_,_,_,_,_,_,_,_,_,_,_,_,_,_,_,_,_,_,_,_,_,_,_,_,_,_,_,_,_,_,_,_,_,_,_,_,_,_,_,_,_,_,_,_,rfl⟩
def zl9 (b0 nn c m:Nat) (k2:Int) (t2:ByteArray) (a2:Option Addr) (n2 c2:Nat) (l2 _b1:Bool):Nat→Value→World→Prop
 | 0=>fun v _=>v=.slice (some ⟨b0,0,none⟩) nn c
 | 1=>fun v _=>v=.slice (some ⟨b0,0,none⟩) nn c
 | 2=>fun v _=>v=.int .i64 (m:Int)
 | 3=>fun v _=>v=.pointer (some ⟨b0,m*4,none⟩)
 | 4=>fun v _=>v=.agg #[.int .i64 k2,.string t2,.slice a2 n2 c2,.bool l2]
 | 5=>fun v _=>v=.bool false
 | 6=>fun v _=>v=.bool true
 | 7=>fun v _=>v=.bool true
 | 19=>fun v _=>v=.bool true
 | _=>fun _ _=>True
theorem zf3 (b0 nn c m:Nat) (k2:Int) (t2:ByteArray) (a2:Option Addr) (n2 c2:Nat) (l2 b1:Bool) (i:Nat) (v:Value) (W W':World) (h:zl9 b0 nn c m k2 t2 a2 n2 c2 l2 b1 i v W):zl9 b0 nn c m k2 t2 a2 n2 c2 l2 b1 i v W':=by
 unfold zl9 at h ⊢
 split at h<;>first|exact h|trivial
def zs1 (b0 nn c m:Nat) (k2:Int) (t2:ByteArray) (a2:Option Addr) (n2 c2:Nat) (l2 _b1:Bool) (FV:Value) (j nk r:Nat) (b2:Bool):Nat→Value→World→Prop
 | 0=>fun v _=>v=.slice (some ⟨b0,0,none⟩) nn c
 | 1=>fun v _=>v=.slice (some ⟨b0,0,none⟩) nn c
 | 2=>fun v _=>v=.int .i64 (m:Int)
 | 3=>fun v _=>v=.pointer (some ⟨b0,m*4,none⟩)
 | 4=>fun v _=>v=.agg #[.int .i64 k2,.string t2,.slice a2 n2 c2,.bool l2]
 | 5=>fun v _=>v=.bool true
 | 6=>fun v _=>v=.bool false
 | 7=>fun v _=>v=.bool false
 | 8=>fun v _=>v=.slice (some ⟨b0,0,none⟩) nn c
 | 9=>fun v _=>v=.slice (some ⟨b0,0,none⟩) nn c
 | 10=>fun v _=>v=.int .i64 (m:Int)
 | 11=>fun v _=>v=.pointer (some ⟨b0,m*4,none⟩)
 | 12=>fun v _=>v=.agg #[.int .i64 k2,.string t2,.slice a2 n2 c2,.bool l2]
 | 13=>fun v _=>v=FV
 | 14=>fun v _=>v=.int .i64 (j:Int)
 | 15=>fun v _=>v=.int .i64 (nk:Int)
 | 16=>fun v _=>v=.int .i64 (r:Int)
 | 17=>fun v _=>v=.bool b2
 | 18=>fun v _=>v=.bool (!b2)
 | 19=>fun v _=>v=.bool (!b2)
 | _=>fun _ _=>True
theorem zbr (b0 nn c m:Nat) (k2:Int) (t2:ByteArray) (a2:Option Addr) (n2 c2:Nat) (l2 b1:Bool) (FV:Value) (j nk r:Nat) (b2:Bool) (i:Nat) (v:Value) (W W':World) (h:zs1 b0 nn c m k2 t2 a2 n2 c2 l2 b1 FV j nk r b2 i v W):zs1 b0 nn c m k2 t2 a2 n2 c2 l2 b1 FV j nk r b2 i v W':=by
 unfold zs1 at h ⊢
 split at h<;>first|exact h|trivial
theorem z61 (v:Value) (w:World):(method 323 208 v "loop.example/g00459/impl.countOk").run Tryz.prog w=.ok (266,v) w:=by kernel_rfl
theorem z1m (v:Value) (w:World):(method 323 210 v "loop.example/g00459/impl.countOk").run Tryz.prog w=.ok (267,v) w:=by kernel_rfl
theorem z9k (v:Value) (w:World):(method 323 212 v "loop.example/g00459/impl.countOk").run Tryz.prog w=.ok (268,v) w:=by kernel_rfl
theorem zbg (v:Value) (w:World):(method 323 213 v "loop.example/g00459/impl.countOk").run Tryz.prog w=.ok (269,v) w:=by kernel_rfl
theorem z81 (v:Value) (w:World):(method 323 215 v "loop.example/g00459/impl.countOk").run Tryz.prog w=.ok (270,v) w:=by kernel_rfl
theorem z8y (v:Value) (w:World):(method 323 217 v "loop.example/g00459/impl.countOk").run Tryz.prog w=.ok (271,v) w:=by kernel_rfl
theorem zch (k:Int) (i n:Nat):1≤z0f k i n∧z0f k i n≤7:=by
 unfold z0f
 repeat' split
 all_goals omega
theorem zlk {k:Int} {i n:Nat} (w:World) (hn:n≤12) (hi:i<n) (hc:cI k n=true):Calls Tryz.prog 212 #[z1q k,.int .i64 (i:Int),.int .i64 (n:Int)] w fun e w'=>e=.returned (.int .i64 ((z0f k i n:Nat):Int))∧Below w.heap.size w w':=by
 by_cases h:1≤k∧k≤22
 ·rcases z2j h with rfl|rfl|rfl|rfl|rfl|rfl|rfl|rfl|rfl|rfl|rfl|rfl|rfl|rfl|rfl|rfl|rfl|rfl|rfl|rfl|rfl|rfl
  ·exfalso;simp[cI] at hc;omega
  ·exfalso;simp[cI] at hc;omega
  ·exfalso;simp[cI] at hc;omega
  ·exact zsi i n w hn hi
  ·exact zsq i n w hn hi
  ·exact zsu i n w hn hi
  ·exact zrk i n w hn hi
  ·exact zrq i n w hn hi
  ·exact zrl i n w hn hi
  ·exact zpj i n w hn hi
  ·exact znk i n w hn hi
  ·exact zpc i n w hn hi
  ·exact zom i n w hn hi
  ·exact zq3 i n w hn hi
  ·exact znx i n w hn hi
  ·exact znf i n w hn hi
  ·exact zoc i n w hn hi
  ·exact zpe i n w hn hi
  ·exfalso;simp[cI] at hc;omega
  ·exact zqf i n w hn hi
  ·exact zp8 i n w hn hi
  ·exact zpb i n w hn hi
 ·rw[zpa h] at hc
  cases hc
def zlx (ns:List Nd) (x:Nd):Prop:=(1≤x.kind∧x.kind≤22)∧zjy x.kind x.kids.length∧∀ (i:Nat) (z:Int) (y:Nd),x.kids[i]?=some z→ns[z.toNat]?=some y→z3s ns y∧z11 ns y (z0f x.kind i x.kids.length)
theorem zul {w:World} {B:Nat} {a:Option Addr} {c k:Nat} {qs:List Np} {q:Np} (h:Nds w B a c qs) (h1:qs[k]?=some q) (hS:SafeNd q.nd) (h12:q.nd.kids.length≤12) (hpl:PlK q.nd.kids k q.nd.kids.length) :
 Calls Tryz.prog 177 #[.slice a qs.length c,agN q] w (zag (zlx (qs.map Np.nd) q.nd) w):=by
 have hkl:k<qs.length:=(List.getElem?_eq_some_iff.1 h1).1
 obtain⟨P,hP⟩:∃ P,P=zlx (qs.map Np.nd) q.nd:=⟨_,rfl⟩
 have HP:=z00 (show P↔zlx (qs.map Np.nd) q.nd by rw[hP])
 rw[← hP]
 have HK:=z00 (fun (i:Nat) (z:Int) (hz:q.nd.kids[i]?=some z)=>h.kid h1 hz)
 have HCI:=z00 (zsb (k:=q.nd.kind) h12 hS.casc)
 have HPL:=z00 hpl
 unfold agN
 obtain⟨⟨kd,tx,ks,bl⟩,ka,kc⟩:=q
 simp only at HP HK HCI HPL h12 ⊢
 obtain⟨FV,hFV⟩:∃ FV,FV=z1q kd:=⟨_,rfl⟩
 have qF:=fun W=>zt9 kd W
 rw[← hFV] at qF
 have HFV:=z00 hFV
 obtain⟨W0,hW0⟩:∃ W0,W0=w.alloc (.cells #[.int .i64 kd,.string tx,.slice ka ks.length kc,.bool bl] 56):=⟨_,rfl⟩
 have hB0:Below w.heap.size w W0:=by rw[hW0];exact z08 _ _
 have x0:W0.cell? ⟨w.heap.size,0,none⟩=some (.int .i64 kd):=by rw[hW0,World.cell?_alloc_new];rfl
 have x2:W0.cell? ⟨w.heap.size,2,none⟩=some (.slice ka ks.length kc):=by rw[hW0,World.cell?_alloc_new];rfl
 obtain⟨nk,hnk⟩:∃ nk,nk=ks.length:=⟨_,rfl⟩
 rw[← hnk] at x2 h12 HCI hW0 ⊢
 have HNK:=z00 hnk
 have HW:=z00 hW0
 have HN:=z00 h
 clear hP hpl hFV hW0 hnk hS h1
 obtain⟨bc,hbc⟩:∃ bc,bc=cI kd nk:=⟨_,rfl⟩
 have HBC:=z00 hbc
 clear hbc
 go_enter Tryz.func177,Tryz.ntmps177
 go_wp2
 rw[← HW.out]
 go_quiet ((go_at_call 209;exact Calls.quiet_of_same (qF _)))
 go_upto_region 2 with fail
 go_cut [22] from 15 to 22 (fun v wx=>v=.bool (!bc)∧Below W0.heap.size W0 wx)
 case first =>
  by_cases hkd:1≤kd∧kd≤22
  ·rcases z2j hkd with rfl|rfl|rfl|rfl|rfl|rfl|rfl|rfl|rfl|rfl|rfl|rfl|rfl|rfl|rfl|rfl|rfl|rfl|rfl|rfl|rfl|rfl
   ·have hF:FV=.iface 208 (.agg #[]):=HFV.out
    subst hF
    clear hkd
    have hm:=z61
    have q9:=zl8 nk h12 (W0.drewN nq)
    rw[show cI 1 nk=bc from HBC.out.symm] at q9
    go_wp2_with fail
    refine q9.mono ?_
    rintro e w5 ⟨rfl,hb5⟩
    clear q9
    go_wp2_with fail
    go_meet
    exact⟨rfl,(z0e W0 nq).trans hb5⟩
   ·have hF:FV=.iface 208 (.agg #[]):=HFV.out
    subst hF
    clear hkd
    have hm:=z61
    have q9:=zu4 nk h12 (W0.drewN nq)
    rw[show cI 2 nk=bc from HBC.out.symm] at q9
    go_wp2_with fail
    refine q9.mono ?_
    rintro e w5 ⟨rfl,hb5⟩
    clear q9
    go_wp2_with fail
    go_meet
    exact⟨rfl,(z0e W0 nq).trans hb5⟩
   ·have hF:FV=.iface 208 (.agg #[]):=HFV.out
    subst hF
    clear hkd
    have hm:=z61
    have q9:=zur nk h12 (W0.drewN nq)
    rw[show cI 3 nk=bc from HBC.out.symm] at q9
    go_wp2_with fail
    refine q9.mono ?_
    rintro e w5 ⟨rfl,hb5⟩
    clear q9
    go_wp2_with fail
    go_meet
    exact⟨rfl,(z0e W0 nq).trans hb5⟩
   ·have hF:FV=.iface 210 (.agg #[.int .i64 0,.int .i64 12]):=HFV.out
    subst hF
    clear hkd
    have hm:=z1m
    have q9:=zu5 nk h12 (W0.drewN nq)
    rw[show cI 4 nk=bc from HBC.out.symm] at q9
    go_wp2_with fail
    refine q9.mono ?_
    rintro e w5 ⟨rfl,hb5⟩
    clear q9
    go_wp2_with fail
    go_meet
    exact⟨rfl,(z0e W0 nq).trans hb5⟩
   ·have hF:FV=.iface 210 (.agg #[.int .i64 1,.int .i64 12]):=HFV.out
    subst hF
    clear hkd
    have hm:=z1m
    have q9:=ztm nk h12 (W0.drewN nq)
    rw[show cI 5 nk=bc from HBC.out.symm] at q9
    go_wp2_with fail
    refine q9.mono ?_
    rintro e w5 ⟨rfl,hb5⟩
    clear q9
    go_wp2_with fail
    go_meet
    exact⟨rfl,(z0e W0 nq).trans hb5⟩
   ·have hF:FV=.iface 210 (.agg #[.int .i64 1,.int .i64 1]):=HFV.out
    subst hF
    clear hkd
    have hm:=z1m
    have q9:=zl5 nk h12 (W0.drewN nq)
    rw[show cI 6 nk=bc from HBC.out.symm] at q9
    go_wp2_with fail
    refine q9.mono ?_
    rintro e w5 ⟨rfl,hb5⟩
    clear q9
    go_wp2_with fail
    go_meet
    exact⟨rfl,(z0e W0 nq).trans hb5⟩
   ·have hF:FV=.iface 210 (.agg #[.int .i64 2,.int .i64 12]):=HFV.out
    subst hF
    clear hkd
    have hm:=z1m
    have q9:=zti nk h12 (W0.drewN nq)
    rw[show cI 7 nk=bc from HBC.out.symm] at q9
    go_wp2_with fail
    refine q9.mono ?_
    rintro e w5 ⟨rfl,hb5⟩
    clear q9
    go_wp2_with fail
    go_meet
    exact⟨rfl,(z0e W0 nq).trans hb5⟩
   ·have hF:FV=.iface 210 (.agg #[.int .i64 3,.int .i64 3]):=HFV.out
    subst hF
    clear hkd
    have hm:=z1m
    have q9:=zub nk h12 (W0.drewN nq)
    rw[show cI 8 nk=bc from HBC.out.symm] at q9
    go_wp2_with fail
    refine q9.mono ?_
    rintro e w5 ⟨rfl,hb5⟩
    clear q9
    go_wp2_with fail
    go_meet
    exact⟨rfl,(z0e W0 nq).trans hb5⟩
   ·have hF:FV=.iface 212 (.agg #[.int .i64 1]):=HFV.out
    subst hF
    clear hkd
    have hm:=z9k
    have q9:=zu8 nk h12 (W0.drewN nq)
    rw[show cI 9 nk=bc from HBC.out.symm] at q9
    go_wp2_with fail
    refine q9.mono ?_
    rintro e w5 ⟨rfl,hb5⟩
    clear q9
    go_wp2_with fail
    go_meet
    exact⟨rfl,(z0e W0 nq).trans hb5⟩
   ·have hF:FV=.iface 213 (.agg #[]):=HFV.out
    subst hF
    clear hkd
    have hm:=zbg
    have q9:=zs6 nk h12 (W0.drewN nq)
    rw[show cI 10 nk=bc from HBC.out.symm] at q9
    go_wp2_with fail
    refine q9.mono ?_
    rintro e w5 ⟨rfl,hb5⟩
    clear q9
    go_wp2_with fail
    go_meet
    exact⟨rfl,(z0e W0 nq).trans hb5⟩
   ·have hF:FV=.iface 210 (.agg #[.int .i64 1,.int .i64 1]):=HFV.out
    subst hF
    clear hkd
    have hm:=z1m
    have q9:=zrx nk h12 (W0.drewN nq)
    rw[show cI 11 nk=bc from HBC.out.symm] at q9
    go_wp2_with fail
    refine q9.mono ?_
    rintro e w5 ⟨rfl,hb5⟩
    clear q9
    go_wp2_with fail
    go_meet
    exact⟨rfl,(z0e W0 nq).trans hb5⟩
   ·have hF:FV=.iface 210 (.agg #[.int .i64 0,.int .i64 1]):=HFV.out
    subst hF
    clear hkd
    have hm:=z1m
    have q9:=zmn nk h12 (W0.drewN nq)
    rw[show cI 12 nk=bc from HBC.out.symm] at q9
    go_wp2_with fail
    refine q9.mono ?_
    rintro e w5 ⟨rfl,hb5⟩
    clear q9
    go_wp2_with fail
    go_meet
    exact⟨rfl,(z0e W0 nq).trans hb5⟩
   ·have hF:FV=.iface 210 (.agg #[.int .i64 1,.int .i64 1]):=HFV.out
    subst hF
    clear hkd
    have hm:=z1m
    have q9:=zsj nk h12 (W0.drewN nq)
    rw[show cI 13 nk=bc from HBC.out.symm] at q9
    go_wp2_with fail
    refine q9.mono ?_
    rintro e w5 ⟨rfl,hb5⟩
    clear q9
    go_wp2_with fail
    go_meet
    exact⟨rfl,(z0e W0 nq).trans hb5⟩
   ·have hF:FV=.iface 210 (.agg #[.int .i64 1,.int .i64 1]):=HFV.out
    subst hF
    clear hkd
    have hm:=z1m
    have q9:=zr1 nk h12 (W0.drewN nq)
    rw[show cI 14 nk=bc from HBC.out.symm] at q9
    go_wp2_with fail
    refine q9.mono ?_
    rintro e w5 ⟨rfl,hb5⟩
    clear q9
    go_wp2_with fail
    go_meet
    exact⟨rfl,(z0e W0 nq).trans hb5⟩
   ·have hF:FV=.iface 210 (.agg #[.int .i64 0,.int .i64 1]):=HFV.out
    subst hF
    clear hkd
    have hm:=z1m
    have q9:=zr0 nk h12 (W0.drewN nq)
    rw[show cI 15 nk=bc from HBC.out.symm] at q9
    go_wp2_with fail
    refine q9.mono ?_
    rintro e w5 ⟨rfl,hb5⟩
    clear q9
    go_wp2_with fail
    go_meet
    exact⟨rfl,(z0e W0 nq).trans hb5⟩
   ·have hF:FV=.iface 215 (.agg #[.int .i64 3]):=HFV.out
    subst hF
    clear hkd
    have hm:=z81
    have q9:=zr8 nk h12 (W0.drewN nq)
    rw[show cI 16 nk=bc from HBC.out.symm] at q9
    go_wp2_with fail
    refine q9.mono ?_
    rintro e w5 ⟨rfl,hb5⟩
    clear q9
    go_wp2_with fail
    go_meet
    exact⟨rfl,(z0e W0 nq).trans hb5⟩
   ·have hF:FV=.iface 215 (.agg #[.int .i64 2]):=HFV.out
    subst hF
    clear hkd
    have hm:=z81
    have q9:=zrp nk h12 (W0.drewN nq)
    rw[show cI 17 nk=bc from HBC.out.symm] at q9
    go_wp2_with fail
    refine q9.mono ?_
    rintro e w5 ⟨rfl,hb5⟩
    clear q9
    go_wp2_with fail
    go_meet
    exact⟨rfl,(z0e W0 nq).trans hb5⟩
   ·have hF:FV=.iface 217 (.agg #[.int .i64 5]):=HFV.out
    subst hF
    clear hkd
    have hm:=z8y
    have q9:=zre nk h12 (W0.drewN nq)
    rw[show cI 18 nk=bc from HBC.out.symm] at q9
    go_wp2_with fail
    refine q9.mono ?_
    rintro e w5 ⟨rfl,hb5⟩
    clear q9
    go_wp2_with fail
    go_meet
    exact⟨rfl,(z0e W0 nq).trans hb5⟩
   ·have hF:FV=.iface 208 (.agg #[]):=HFV.out
    subst hF
    clear hkd
    have hm:=z61
    have q9:=zsh nk h12 (W0.drewN nq)
    rw[show cI 19 nk=bc from HBC.out.symm] at q9
    go_wp2_with fail
    refine q9.mono ?_
    rintro e w5 ⟨rfl,hb5⟩
    clear q9
    go_wp2_with fail
    go_meet
    exact⟨rfl,(z0e W0 nq).trans hb5⟩
   ·have hF:FV=.iface 212 (.agg #[.int .i64 4]):=HFV.out
    subst hF
    clear hkd
    have hm:=z9k
    have q9:=zqp nk h12 (W0.drewN nq)
    rw[show cI 20 nk=bc from HBC.out.symm] at q9
    go_wp2_with fail
    refine q9.mono ?_
    rintro e w5 ⟨rfl,hb5⟩
    clear q9
    go_wp2_with fail
    go_meet
    exact⟨rfl,(z0e W0 nq).trans hb5⟩
   ·have hF:FV=.iface 217 (.agg #[.int .i64 6]):=HFV.out
    subst hF
    clear hkd
    have hm:=z8y
    have q9:=zsc nk h12 (W0.drewN nq)
    rw[show cI 21 nk=bc from HBC.out.symm] at q9
    go_wp2_with fail
    refine q9.mono ?_
    rintro e w5 ⟨rfl,hb5⟩
    clear q9
    go_wp2_with fail
    go_meet
    exact⟨rfl,(z0e W0 nq).trans hb5⟩
   ·have hF:FV=.iface 217 (.agg #[.int .i64 7]):=HFV.out
    subst hF
    clear hkd
    have hm:=z8y
    have q9:=zs5 nk h12 (W0.drewN nq)
    rw[show cI 22 nk=bc from HBC.out.symm] at q9
    go_wp2_with fail
    refine q9.mono ?_
    rintro e w5 ⟨rfl,hb5⟩
    clear q9
    go_wp2_with fail
    go_meet
    exact⟨rfl,(z0e W0 nq).trans hb5⟩
  ·have hF:FV=.nilIface:=HFV.out.trans (zdl hkd)
   subst hF
   have hb:=z00 (HBC.out.trans (zpa hkd))
   clear hkd
   go_wp2_with fail
   go_meet
   exact⟨by rw[hb.out];rfl,z0e W0 nq⟩
 case rest =>
  obtain⟨rfl,hbx⟩:=hcut
  have hs0:W0.heap.size=w.heap.size+1:=by rw[HW.out];simp
  have hBc:=hB0.trans (hbx.mono (by omega))
  have y2:wc.cell? ⟨w.heap.size,2,none⟩=some (.slice ka nk kc):=(hbx.cell (by show w.heap.size<_;omega)).trans x2
  have HBX:=z00 hbx
  clear hbx x0 x2 hs0
  cases bc
  ·have HF:=z00 (show ¬ P from fun hp=>by
    have h3:=HP.out.1 hp
    have h4:=HCI.out.2 ⟨h3.1,by rw[HNK.out];exact h3.2.1⟩
    rw[← HBC.out] at h4
    cases h4)
   go_wp2
   go_ret
   exact z0o HF.out hBc
  ·go_wp2
   go_loopw [26] (fun i wr=>∃ j:Nat,j≤nk∧i=.int .i64 (j:Int)∧Hid (∀ (i':Nat) (z:Int) (y:Nd),i'<j→ks[i']?=some z→(qs.map Np.nd)[z.toNat]?=some y→z3s (qs.map Np.nd) y∧z11 (qs.map Np.nd) y (z0f kd i' nk))∧Below w.heap.size w wr) (fun i _=>nk-(intOf i).toNat)
   case atStart=>exact⟨0,Nat.zero_le _,rfl,z00 (fun i' z y h=>by omega),hBc⟩
   case round =>
    obtain⟨j,hj,rfl,HF,hb⟩:=hrel
    clear y2
    by_cases hlt:j<nk
    ·obtain⟨z,ez⟩:∃ z,ks[j]?=some z:=⟨_,List.getElem?_eq_getElem (by rw[← HNK.out];exact hlt)⟩
     obtain⟨bk,rfl,hbk,ck⟩:=HK.out j z ez
     have hz:=HPL.out.1 j z (by rw[← HNK.out];exact hlt) ez
     obtain⟨m,rfl⟩:=Int.eq_ofNat_of_zero_le hz.1
     obtain⟨q2,hq2⟩:∃ q2,qs[m]?=some q2:=⟨_,List.getElem?_eq_getElem (by omega)⟩
     obtain⟨b0,rfl,hb0,d0,d1,d2,d3⟩:=h.node hq2
     have ckw:wr.cell? ⟨bk,j,none⟩=some (.int .i64 (m:Int)):=(hb.cell hbk).trans ck
     obtain⟨b1,hb1⟩:=z4g (z3s (qs.map Np.nd) q2.nd)
     obtain⟨r,hr⟩:∃ r,r=z0f kd j nk:=⟨_,rfl⟩
     have hrr:1≤r∧r≤7:=by rw[hr];exact zch _ _ _
     obtain⟨b2,hb2⟩:=z4g (z11 (qs.map Np.nd) q2.nd r)
     have hbW:∀ W,Below wr.heap.size wr W→Below w.heap.size w W:=fun W hI=>hb.trans (hI.mono hb.size)
     have hmem:=List.mem_of_getElem? hq2
     have hy2:(qs.map Np.nd)[((m:Int)).toNat]?=some q2.nd:=by rw[Int.toNat_natCast,List.getElem?_map,hq2];rfl
     have q1:=fun (W:World) (hI:Below wr.heap.size wr W)=>(znw (h.below (hbW W hI)) hmem).mono (fun e w' t=>t.is hb1)
     have q22:=fun (W:World)=>zlk (k:=kd) (i:=j) (n:=nk) W h12 hlt HBC.out.symm
     rw[← HFV.out,← hr] at q22
     have q3:=fun (hC1:b1=true) (W:World) (hI:Below wr.heap.size wr W)=>(zsw r hrr (h.below (hbW W hI)) hmem (hb1.1 hC1)).mono (fun e w' t=>t.is hb2)
     have HC4:=z00 (fun (W:World) (hI:Below wr.heap.size wr W)=>And.intro (((hbW W hI).cell hb0).trans d0) (And.intro (((hbW W hI).cell hb0).trans d1) (And.intro (((hbW W hI).cell hb0).trans d2) (((hbW W hI).cell hb0).trans d3))))
     have HNX0:=z00 (fun (h5:b1=true) (h6:b2=true) (i2:Nat) (z2:Int) (y2:Nd) (h2:i2<j+1) (hz2:ks[i2]?=some z2) (hy:(qs.map Np.nd)[z2.toNat]?=some y2)=>show z3s (qs.map Np.nd) y2∧z11 (qs.map Np.nd) y2 (z0f kd i2 nk) by
      by_cases e:i2=j
      ·subst e
       rw[ez] at hz2
       cases hz2
       rw[hy2] at hy
       cases hy
       rw[← hr]
       exact⟨hb1.1 h5,hb2.1 h6⟩
      ·exact HF.out i2 z2 y2 (by omega) hz2 hy)
     have HNO0:=z00 (fun (h5:b1=false∨b2=false) (hp:P)=>show False by
      have h7:=(HP.out.1 hp).2.2 j (m:Int) q2.nd ez hy2
      simp only at h7
      rw[← HNK.out,← hr] at h7
      rcases h5 with h5|h5
      ·have:=hb1.2 h7.1;rw[h5] at this;cases this
      ·have:=hb2.2 h7.2;rw[h5] at this;cases this)
     obtain⟨⟨k2,t2,ks2,l2⟩,a2,c2⟩:=q2
     simp only[agN] at q1 q3 HC4
     obtain⟨n2,hn2⟩:∃ n2,n2=ks2.length:=⟨_,rfl⟩
     obtain⟨nn,hnn⟩:∃ nn,nn=qs.length:=⟨_,rfl⟩
     rw[← hn2,← hnn] at q1 q3
     rw[← hn2] at HC4
     rw[← hnn]
     have Q1:=z00 q1
     have Q2:=z00 q22
     have Q3':=z00 q3
     have hA1:(0:Int)≤(j:Int):=by omega
     have hA2:(j:Int)<(nk:Int):=by omega
     have hA3:(0:Int)≤(m:Int):=by omega
     have hA4:(m:Int)<(nn:Int):=by omega
     clear q1 q22 q3 ez hq2 hb1 hb2 hr hrr hy2 hz d0 d1 d2 d3 ck hn2 hnn hmem hbW
     cases b1
     ·have HNO:=z00 (HNO0.out (.inl rfl))
      go_wp2
      refine z36 (by kernel_rfl) (fun W=>Below wr.heap.size wr W) (fun W W'=>Below W.heap.size W W') (zl9 b0 nn c m k2 t2 a2 n2 c2 l2 false) ((Below.refl _ wr).drew) (by kernel_rfl) (fun i v W W' h _ _=>zf3 b0 nn c m k2 t2 a2 n2 c2 l2 false i v W W' h) ?_ ?_
      case refine_1 =>
       intro kk oo hk aa W hI hsz hfix hdep
       match kk,hk with
       | 0,hk =>
         cases hk
         refine .inl ⟨z03 rfl,fun K hK=>?_⟩
         have e0:aa.tmps.getD 0 undef=.slice (some ⟨b0,0,none⟩) nn c:=hfix 0 (by kernel_rfl)
         refine z05 (v:=.slice (some ⟨b0,0,none⟩) nn c) (w':=W) ?_ (hK _ _ (by simp) hI (Below.refl _ _) rfl)
         clear hfix hdep hK hk hsz hI
         go_simp
       | 1,hk =>
         cases hk
         refine .inl ⟨z03 rfl,fun K hK=>?_⟩
         have e0:aa.tmps.getD 0 undef=.slice (some ⟨b0,0,none⟩) nn c:=hfix 0 (by kernel_rfl)
         refine z05 (v:=.slice (some ⟨b0,0,none⟩) nn c) (w':=W) ?_ (hK _ _ (by simp) hI (Below.refl _ _) rfl)
         clear hfix hdep hK hk hsz hI
         go_simp
       | 2,hk =>
         cases hk
         refine .inl ⟨z03 rfl,fun K hK=>?_⟩
         have e8:aa.tmps.getD 8 undef=.int .i64 (m:Int):=hfix 8 (by kernel_rfl)
         refine z05 (v:=.int .i64 (m:Int)) (w':=W) ?_ (hK _ _ (by simp) hI (Below.refl _ _) rfl)
         clear hfix hdep hK hk hsz hI
         go_simp
       | 3,hk =>
         cases hk
         refine .inl ⟨z03 rfl,fun K hK=>?_⟩
         have e32:aa.tmps.getD 32 undef=.slice (some ⟨b0,0,none⟩) nn c:=hdep 1 _ rfl (by kernel_rfl)
         have e33:aa.tmps.getD 33 undef=.int .i64 (m:Int):=hdep 2 _ rfl (by kernel_rfl)
         refine z05 (v:=.pointer (some ⟨b0,m*4,none⟩)) (w':=W) ?_ (hK _ _ (by simp) hI (Below.refl _ _) rfl)
         clear hfix hdep hK hk hsz hI
         go_simp
       | 4,hk =>
         cases hk
         refine .inl ⟨z03 rfl,fun K hK=>?_⟩
         have e34:aa.tmps.getD 34 undef=.pointer (some ⟨b0,m*4,none⟩):=hdep 3 _ rfl (by kernel_rfl)
         obtain⟨y0,y1,y2,y3⟩:=HC4.out W hI
         refine z05 (v:=.agg #[.int .i64 k2,.string t2,.slice a2 n2 c2,.bool l2]) (w':=W) ?_ (hK _ _ (by simp) hI (Below.refl _ _) rfl)
         clear hfix hdep hK hk hsz hI
         go_simp
       | 5,hk =>
         cases hk
         refine .inl ⟨z03 rfl,fun K hK=>?_⟩
         have e31:aa.tmps.getD 31 undef=.slice (some ⟨b0,0,none⟩) nn c:=hdep 0 _ rfl (by kernel_rfl)
         have e35:aa.tmps.getD 35 undef=.agg #[.int .i64 k2,.string t2,.slice a2 n2 c2,.bool l2]:=hdep 4 _ rfl (by kernel_rfl)
         have hcon:=Q1.out W hI
         refine z1h 210 #[.slice (some ⟨b0,0,none⟩) nn c,.agg #[.int .i64 k2,.string t2,.slice a2 n2 c2,.bool l2]] ?_ hcon ?_
         ·clear hfix hdep hK hk hsz hcon hI
          go_simp
          try rfl
         ·rintro e W2 ⟨rfl,A⟩
          exact⟨_,rfl,hK _ _ (by simp) (hI.trans (A.mono hI.size)) A rfl⟩
       | 6,hk =>
         cases hk
         refine .inl ⟨z03 rfl,fun K hK=>?_⟩
         have e36:aa.tmps.getD 36 undef=.bool false:=hdep 5 _ rfl (by kernel_rfl)
         refine z05 (v:=.bool true) (w':=W) ?_ (hK _ _ (by simp) hI (Below.refl _ _) rfl)
         clear hfix hdep hK hk hsz hI
         go_simp
       | 7,hk =>
         cases hk
         refine .inl ⟨z03 rfl,fun K hK=>?_⟩
         have e37:aa.tmps.getD 37 undef=.bool true:=hdep 6 _ rfl (by kernel_rfl)
         refine z05 (v:=.bool true) (w':=W) ?_ (hK _ _ (by simp) hI (Below.refl _ _) rfl)
         clear hfix hdep hK hk hsz hI
         go_simp
       | 8,hk =>
         cases hk
         exact .inr ⟨(z0n (c:=true) (b:=false) rfl rfl rfl (hdep 7 _ rfl (by kernel_rfl))).trans rfl,trivial⟩
       | 9,hk =>
         cases hk
         exact .inr ⟨(z0n (c:=true) (b:=false) rfl rfl rfl (hdep 7 _ rfl (by kernel_rfl))).trans rfl,trivial⟩
       | 10,hk =>
         cases hk
         exact .inr ⟨(z0n (c:=true) (b:=false) rfl rfl rfl (hdep 7 _ rfl (by kernel_rfl))).trans rfl,trivial⟩
       | 11,hk =>
         cases hk
         exact .inr ⟨(z0n (c:=true) (b:=false) rfl rfl rfl (hdep 7 _ rfl (by kernel_rfl))).trans rfl,trivial⟩
       | 12,hk =>
         cases hk
         exact .inr ⟨(z0n (c:=true) (b:=false) rfl rfl rfl (hdep 7 _ rfl (by kernel_rfl))).trans rfl,trivial⟩
       | 13,hk =>
         cases hk
         exact .inr ⟨(z0n (c:=true) (b:=false) rfl rfl rfl (hdep 7 _ rfl (by kernel_rfl))).trans rfl,trivial⟩
       | 14,hk =>
         cases hk
         exact .inr ⟨(z0n (c:=true) (b:=false) rfl rfl rfl (hdep 7 _ rfl (by kernel_rfl))).trans rfl,trivial⟩
       | 15,hk =>
         cases hk
         exact .inr ⟨(z0n (c:=true) (b:=false) rfl rfl rfl (hdep 7 _ rfl (by kernel_rfl))).trans rfl,trivial⟩
       | 16,hk =>
         cases hk
         exact .inr ⟨(z0n (c:=true) (b:=false) rfl rfl rfl (hdep 7 _ rfl (by kernel_rfl))).trans rfl,trivial⟩
       | 17,hk =>
         cases hk
         exact .inr ⟨(z0n (c:=true) (b:=false) rfl rfl rfl (hdep 7 _ rfl (by kernel_rfl))).trans rfl,trivial⟩
       | 18,hk =>
         cases hk
         exact .inr ⟨(z0n (c:=true) (b:=false) rfl rfl rfl (hdep 7 _ rfl (by kernel_rfl))).trans rfl,trivial⟩
       | 19,hk =>
         cases hk
         refine .inl ⟨z03 rfl,fun K hK=>?_⟩
         have e38:aa.tmps.getD 38 undef=.bool true:=hdep 7 _ rfl (by kernel_rfl)
         refine z05 (v:=.bool true) (w':=W) ?_ (hK _ _ (by simp) hI (Below.refl _ _) rfl)
         clear hfix hdep hK hk hsz hI
         go_simp
      case refine_2 =>
       intro aa W hI hd hsz hfix hpost
       have e50:aa.tmps.getD 50 undef=.bool true:=hpost 19 _ rfl
       have e0:aa.tmps.getD 0 undef=.slice (some ⟨b0,0,none⟩) nn c:=hfix 0 (by kernel_rfl)
       have e1:aa.tmps.getD 1 undef=.agg #[.int .i64 kd,.string tx,.slice (some ⟨bk,0,none⟩) nk kc,.bool bl]:=hfix 1 (by kernel_rfl)
       have e2:aa.tmps.getD 2 undef=undef:=hfix 2 (by kernel_rfl)
       have e3:aa.tmps.getD 3 undef=.pointer (some ⟨w.heap.size,0,none⟩):=hfix 3 (by kernel_rfl)
       have e5:aa.tmps.getD 5 undef=FV:=hfix 5 (by kernel_rfl)
       have e6:aa.tmps.getD 6 undef=.int .i64 (nk:Int):=hfix 6 (by kernel_rfl)
       have e9:aa.tmps.getD 9 undef=.pointer (some ⟨w.heap.size,0,none⟩):=hfix 9 (by kernel_rfl)
       have e10:aa.tmps.getD 10 undef=.int .i64 kd:=hfix 10 (by kernel_rfl)
       have e11:aa.tmps.getD 11 undef=FV:=hfix 11 (by kernel_rfl)
       have e12:aa.tmps.getD 12 undef=.pointer (some ⟨w.heap.size,2,none⟩):=hfix 12 (by kernel_rfl)
       have e13:aa.tmps.getD 13 undef=.slice (some ⟨bk,0,none⟩) nk kc:=hfix 13 (by kernel_rfl)
       have e14:aa.tmps.getD 14 undef=.int .i64 (nk:Int):=hfix 14 (by kernel_rfl)
       have e15:aa.tmps.getD 15 undef=u15:=hfix 15 (by kernel_rfl)
       have e16:aa.tmps.getD 16 undef=u16:=hfix 16 (by kernel_rfl)
       have e17:aa.tmps.getD 17 undef=u17:=hfix 17 (by kernel_rfl)
       have e18:aa.tmps.getD 18 undef=u18:=hfix 18 (by kernel_rfl)
       have e19:aa.tmps.getD 19 undef=u19:=hfix 19 (by kernel_rfl)
       have e20:aa.tmps.getD 20 undef=u20:=hfix 20 (by kernel_rfl)
       have e21:aa.tmps.getD 21 undef=u21:=hfix 21 (by kernel_rfl)
       have e22:aa.tmps.getD 22 undef=.bool (!true):=hfix 22 (by kernel_rfl)
       have e23:aa.tmps.getD 23 undef=.pointer (some ⟨w.heap.size,2,none⟩):=hfix 23 (by kernel_rfl)
       have e24:aa.tmps.getD 24 undef=.slice (some ⟨bk,0,none⟩) nk kc:=hfix 24 (by kernel_rfl)
       have e25:aa.tmps.getD 25 undef=.int .i64 (nk:Int):=hfix 25 (by kernel_rfl)
       have e26:aa.tmps.getD 26 undef=.int .i64 (j:Int):=hfix 26 (by kernel_rfl)
       clear hfix hpost
       obtain⟨tm,df⟩:=aa
       obtain⟨x0,x1,x2,x3,x4,x5,x6,x7,x8,x9,x10,x11,x12,x13,x14,x15,x16,x17,x18,x19,x20,x21,x22,x23,x24,x25,x26,x27,x28,x29,x30,x31,x32,x33,x34,x35,x36,x37,x38,x39,x40,x41,x42,x43,x44,x45,x46,x47,x48,x49,x50,x51,rfl⟩:=znz tm hsz
       have hdf:df=[]:=hd
       subst hdf
       have f0:x0=.slice (some ⟨b0,0,none⟩) nn c:=e0
       have f1:x1=.agg #[.int .i64 kd,.string tx,.slice (some ⟨bk,0,none⟩) nk kc,.bool bl]:=e1
       have f2:x2=undef:=e2
       have f3:x3=.pointer (some ⟨w.heap.size,0,none⟩):=e3
       have f5:x5=FV:=e5
       have f6:x6=.int .i64 (nk:Int):=e6
       have f9:x9=.pointer (some ⟨w.heap.size,0,none⟩):=e9
       have f10:x10=.int .i64 kd:=e10
       have f11:x11=FV:=e11
       have f12:x12=.pointer (some ⟨w.heap.size,2,none⟩):=e12
       have f13:x13=.slice (some ⟨bk,0,none⟩) nk kc:=e13
       have f14:x14=.int .i64 (nk:Int):=e14
       have f15:x15=u15:=e15
       have f16:x16=u16:=e16
       have f17:x17=u17:=e17
       have f18:x18=u18:=e18
       have f19:x19=u19:=e19
       have f20:x20=u20:=e20
       have f21:x21=u21:=e21
       have f22:x22=.bool (!true):=e22
       have f23:x23=.pointer (some ⟨w.heap.size,2,none⟩):=e23
       have f24:x24=.slice (some ⟨bk,0,none⟩) nk kc:=e24
       have f25:x25=.int .i64 (nk:Int):=e25
       have f26:x26=.int .i64 (j:Int):=e26
       have f50:x50=.bool true:=e50
       subst f0 f1 f2 f3 f5 f6 f9 f10 f11 f12 f13 f14 f15 f16 f17 f18 f19 f20 f21 f22 f23 f24 f25 f26 f50
       clear e0 e1 e2 e3 e5 e6 e9 e10 e11 e12 e13 e14 e15 e16 e17 e18 e19 e20 e21 e22 e23 e24 e25 e26 e50 hsz hd
       have HBW:=z00 (hb.trans (hI.mono hb.size))
       clear hI
       go_wp2
       go_ret
       exact z0o HNO.out HBW.out
     ·have Q3:=z00 (Q3'.out rfl)
      by_cases hbv:b2=true
      ·have HB2:=z00 hbv
       have HNX:=z00 (HNX0.out rfl hbv)
       clear hbv
       go_wp2
       refine z36 (by kernel_rfl) (fun W=>Below wr.heap.size wr W) (fun W W'=>Below W.heap.size W W') (zs1 b0 nn c m k2 t2 a2 n2 c2 l2 true FV j nk r b2) ((Below.refl _ wr).drew) (by kernel_rfl) (fun i v W W' h _ _=>zbr b0 nn c m k2 t2 a2 n2 c2 l2 true FV j nk r b2 i v W W' h) ?_ ?_
       case refine_1 =>
        intro kk oo hk aa W hI hsz hfix hdep
        match kk,hk with
        | 0,hk =>
          cases hk
          refine .inl ⟨z03 rfl,fun K hK=>?_⟩
          have e0:aa.tmps.getD 0 undef=.slice (some ⟨b0,0,none⟩) nn c:=hfix 0 (by kernel_rfl)
          refine z05 (v:=.slice (some ⟨b0,0,none⟩) nn c) (w':=W) ?_ (hK _ _ (by simp) hI (Below.refl _ _) rfl)
          clear hfix hdep hK hk hsz hI
          go_simp
        | 1,hk =>
          cases hk
          refine .inl ⟨z03 rfl,fun K hK=>?_⟩
          have e0:aa.tmps.getD 0 undef=.slice (some ⟨b0,0,none⟩) nn c:=hfix 0 (by kernel_rfl)
          refine z05 (v:=.slice (some ⟨b0,0,none⟩) nn c) (w':=W) ?_ (hK _ _ (by simp) hI (Below.refl _ _) rfl)
          clear hfix hdep hK hk hsz hI
          go_simp
        | 2,hk =>
          cases hk
          refine .inl ⟨z03 rfl,fun K hK=>?_⟩
          have e8:aa.tmps.getD 8 undef=.int .i64 (m:Int):=hfix 8 (by kernel_rfl)
          refine z05 (v:=.int .i64 (m:Int)) (w':=W) ?_ (hK _ _ (by simp) hI (Below.refl _ _) rfl)
          clear hfix hdep hK hk hsz hI
          go_simp
        | 3,hk =>
          cases hk
          refine .inl ⟨z03 rfl,fun K hK=>?_⟩
          have e32:aa.tmps.getD 32 undef=.slice (some ⟨b0,0,none⟩) nn c:=hdep 1 _ rfl (by kernel_rfl)
          have e33:aa.tmps.getD 33 undef=.int .i64 (m:Int):=hdep 2 _ rfl (by kernel_rfl)
          refine z05 (v:=.pointer (some ⟨b0,m*4,none⟩)) (w':=W) ?_ (hK _ _ (by simp) hI (Below.refl _ _) rfl)
          clear hfix hdep hK hk hsz hI
          go_simp
        | 4,hk =>
          cases hk
          refine .inl ⟨z03 rfl,fun K hK=>?_⟩
          have e34:aa.tmps.getD 34 undef=.pointer (some ⟨b0,m*4,none⟩):=hdep 3 _ rfl (by kernel_rfl)
          obtain⟨y0,y1,y2,y3⟩:=HC4.out W hI
          refine z05 (v:=.agg #[.int .i64 k2,.string t2,.slice a2 n2 c2,.bool l2]) (w':=W) ?_ (hK _ _ (by simp) hI (Below.refl _ _) rfl)
          clear hfix hdep hK hk hsz hI
          go_simp
        | 5,hk =>
          cases hk
          refine .inl ⟨z03 rfl,fun K hK=>?_⟩
          have e31:aa.tmps.getD 31 undef=.slice (some ⟨b0,0,none⟩) nn c:=hdep 0 _ rfl (by kernel_rfl)
          have e35:aa.tmps.getD 35 undef=.agg #[.int .i64 k2,.string t2,.slice a2 n2 c2,.bool l2]:=hdep 4 _ rfl (by kernel_rfl)
          have hcon:=Q1.out W hI
          refine z1h 210 #[.slice (some ⟨b0,0,none⟩) nn c,.agg #[.int .i64 k2,.string t2,.slice a2 n2 c2,.bool l2]] ?_ hcon ?_
          ·clear hfix hdep hK hk hsz hcon hI
           go_simp
           try rfl
          ·rintro e W2 ⟨rfl,A⟩
           exact⟨_,rfl,hK _ _ (by simp) (hI.trans (A.mono hI.size)) A rfl⟩
        | 6,hk =>
          cases hk
          refine .inl ⟨z03 rfl,fun K hK=>?_⟩
          have e36:aa.tmps.getD 36 undef=.bool true:=hdep 5 _ rfl (by kernel_rfl)
          refine z05 (v:=.bool false) (w':=W) ?_ (hK _ _ (by simp) hI (Below.refl _ _) rfl)
          clear hfix hdep hK hk hsz hI
          go_simp
        | 7,hk =>
          cases hk
          refine .inl ⟨z03 rfl,fun K hK=>?_⟩
          have e37:aa.tmps.getD 37 undef=.bool false:=hdep 6 _ rfl (by kernel_rfl)
          refine z05 (v:=.bool false) (w':=W) ?_ (hK _ _ (by simp) hI (Below.refl _ _) rfl)
          clear hfix hdep hK hk hsz hI
          go_simp
        | 8,hk =>
          cases hk
          refine .inl ⟨(z0n (c:=false) (b:=false) rfl rfl rfl (hdep 7 _ rfl (by kernel_rfl))).trans rfl,fun K hK=>?_⟩
          have e0:aa.tmps.getD 0 undef=.slice (some ⟨b0,0,none⟩) nn c:=hfix 0 (by kernel_rfl)
          refine z05 (v:=.slice (some ⟨b0,0,none⟩) nn c) (w':=W) ?_ (hK _ _ (by simp) hI (Below.refl _ _) rfl)
          clear hfix hdep hK hk hsz hI
          go_simp
        | 9,hk =>
          cases hk
          refine .inl ⟨(z0n (c:=false) (b:=false) rfl rfl rfl (hdep 7 _ rfl (by kernel_rfl))).trans rfl,fun K hK=>?_⟩
          have e0:aa.tmps.getD 0 undef=.slice (some ⟨b0,0,none⟩) nn c:=hfix 0 (by kernel_rfl)
          refine z05 (v:=.slice (some ⟨b0,0,none⟩) nn c) (w':=W) ?_ (hK _ _ (by simp) hI (Below.refl _ _) rfl)
          clear hfix hdep hK hk hsz hI
          go_simp
        | 10,hk =>
          cases hk
          refine .inl ⟨(z0n (c:=false) (b:=false) rfl rfl rfl (hdep 7 _ rfl (by kernel_rfl))).trans rfl,fun K hK=>?_⟩
          have e8:aa.tmps.getD 8 undef=.int .i64 (m:Int):=hfix 8 (by kernel_rfl)
          refine z05 (v:=.int .i64 (m:Int)) (w':=W) ?_ (hK _ _ (by simp) hI (Below.refl _ _) rfl)
          clear hfix hdep hK hk hsz hI
          go_simp
        | 11,hk =>
          cases hk
          refine .inl ⟨(z0n (c:=false) (b:=false) rfl rfl rfl (hdep 7 _ rfl (by kernel_rfl))).trans rfl,fun K hK=>?_⟩
          have e40:aa.tmps.getD 40 undef=.slice (some ⟨b0,0,none⟩) nn c:=hdep 9 _ rfl (by kernel_rfl)
          have e41:aa.tmps.getD 41 undef=.int .i64 (m:Int):=hdep 10 _ rfl (by kernel_rfl)
          refine z05 (v:=.pointer (some ⟨b0,m*4,none⟩)) (w':=W) ?_ (hK _ _ (by simp) hI (Below.refl _ _) rfl)
          clear hfix hdep hK hk hsz hI
          go_simp
        | 12,hk =>
          cases hk
          refine .inl ⟨(z0n (c:=false) (b:=false) rfl rfl rfl (hdep 7 _ rfl (by kernel_rfl))).trans rfl,fun K hK=>?_⟩
          have e42:aa.tmps.getD 42 undef=.pointer (some ⟨b0,m*4,none⟩):=hdep 11 _ rfl (by kernel_rfl)
          obtain⟨y0,y1,y2,y3⟩:=HC4.out W hI
          refine z05 (v:=.agg #[.int .i64 k2,.string t2,.slice a2 n2 c2,.bool l2]) (w':=W) ?_ (hK _ _ (by simp) hI (Below.refl _ _) rfl)
          clear hfix hdep hK hk hsz hI
          go_simp
        | 13,hk =>
          cases hk
          refine .inl ⟨(z0n (c:=false) (b:=false) rfl rfl rfl (hdep 7 _ rfl (by kernel_rfl))).trans rfl,fun K hK=>?_⟩
          have e5:aa.tmps.getD 5 undef=FV:=hfix 5 (by kernel_rfl)
          refine z05 (v:=FV) (w':=W) ?_ (hK _ _ (by simp) hI (Below.refl _ _) rfl)
          clear hfix hdep hK hk hsz hI
          go_simp
        | 14,hk =>
          cases hk
          refine .inl ⟨(z0n (c:=false) (b:=false) rfl rfl rfl (hdep 7 _ rfl (by kernel_rfl))).trans rfl,fun K hK=>?_⟩
          have e7:aa.tmps.getD 7 undef=.int .i64 (j:Int):=hfix 7 (by kernel_rfl)
          refine z05 (v:=.int .i64 (j:Int)) (w':=W) ?_ (hK _ _ (by simp) hI (Below.refl _ _) rfl)
          clear hfix hdep hK hk hsz hI
          go_simp
        | 15,hk =>
          cases hk
          refine .inl ⟨(z0n (c:=false) (b:=false) rfl rfl rfl (hdep 7 _ rfl (by kernel_rfl))).trans rfl,fun K hK=>?_⟩
          have e6:aa.tmps.getD 6 undef=.int .i64 (nk:Int):=hfix 6 (by kernel_rfl)
          refine z05 (v:=.int .i64 (nk:Int)) (w':=W) ?_ (hK _ _ (by simp) hI (Below.refl _ _) rfl)
          clear hfix hdep hK hk hsz hI
          go_simp
        | 16,hk =>
          cases hk
          refine .inl ⟨(z0n (c:=false) (b:=false) rfl rfl rfl (hdep 7 _ rfl (by kernel_rfl))).trans rfl,fun K hK=>?_⟩
          have e44:aa.tmps.getD 44 undef=FV:=hdep 13 _ rfl (by kernel_rfl)
          have e45:aa.tmps.getD 45 undef=.int .i64 (j:Int):=hdep 14 _ rfl (by kernel_rfl)
          have e46:aa.tmps.getD 46 undef=.int .i64 (nk:Int):=hdep 15 _ rfl (by kernel_rfl)
          have hcon:=Q2.out W
          refine z1h 212 #[FV,.int .i64 (j:Int),.int .i64 (nk:Int)] ?_ hcon ?_
          ·clear hfix hdep hK hk hsz hcon hI
           go_simp
           try rfl
          ·rintro e W2 ⟨rfl,A⟩
           exact⟨_,rfl,hK _ _ (by simp) (hI.trans (A.mono hI.size)) A rfl⟩
        | 17,hk =>
          cases hk
          refine .inl ⟨(z0n (c:=false) (b:=false) rfl rfl rfl (hdep 7 _ rfl (by kernel_rfl))).trans rfl,fun K hK=>?_⟩
          have e39:aa.tmps.getD 39 undef=.slice (some ⟨b0,0,none⟩) nn c:=hdep 8 _ rfl (by kernel_rfl)
          have e43:aa.tmps.getD 43 undef=.agg #[.int .i64 k2,.string t2,.slice a2 n2 c2,.bool l2]:=hdep 12 _ rfl (by kernel_rfl)
          have e47:aa.tmps.getD 47 undef=.int .i64 (r:Int):=hdep 16 _ rfl (by kernel_rfl)
          have hcon:=Q3.out W hI
          refine z1h 211 #[.slice (some ⟨b0,0,none⟩) nn c,.agg #[.int .i64 k2,.string t2,.slice a2 n2 c2,.bool l2],.int .i64 (r:Int)] ?_ hcon ?_
          ·clear hfix hdep hK hk hsz hcon hI
           go_simp
           try rfl
          ·rintro e W2 ⟨rfl,A⟩
           exact⟨_,rfl,hK _ _ (by simp) (hI.trans (A.mono hI.size)) A rfl⟩
        | 18,hk =>
          cases hk
          refine .inl ⟨(z0n (c:=false) (b:=false) rfl rfl rfl (hdep 7 _ rfl (by kernel_rfl))).trans rfl,fun K hK=>?_⟩
          have e48:aa.tmps.getD 48 undef=.bool b2:=hdep 17 _ rfl (by kernel_rfl)
          refine z05 (v:=.bool (!b2)) (w':=W) ?_ (hK _ _ (by simp) hI (Below.refl _ _) rfl)
          clear hfix hdep hK hk hsz hI
          go_simp
        | 19,hk =>
          cases hk
          refine .inl ⟨z03 rfl,fun K hK=>?_⟩
          have e38:aa.tmps.getD 38 undef=.bool false:=hdep 7 _ rfl (by kernel_rfl)
          have e49:aa.tmps.getD 49 undef=.bool (!b2):=hdep 18 _ rfl (by kernel_rfl)
          refine z05 (v:=.bool (!b2)) (w':=W) ?_ (hK _ _ (by simp) hI (Below.refl _ _) rfl)
          clear hfix hdep hK hk hsz hI
          go_simp
       case refine_2 =>
        intro aa W hI hd hsz hfix hpost
        have e50:aa.tmps.getD 50 undef=.bool (!b2):=hpost 19 _ rfl
        have e0:aa.tmps.getD 0 undef=.slice (some ⟨b0,0,none⟩) nn c:=hfix 0 (by kernel_rfl)
        have e1:aa.tmps.getD 1 undef=.agg #[.int .i64 kd,.string tx,.slice (some ⟨bk,0,none⟩) nk kc,.bool bl]:=hfix 1 (by kernel_rfl)
        have e2:aa.tmps.getD 2 undef=undef:=hfix 2 (by kernel_rfl)
        have e3:aa.tmps.getD 3 undef=.pointer (some ⟨w.heap.size,0,none⟩):=hfix 3 (by kernel_rfl)
        have e5:aa.tmps.getD 5 undef=FV:=hfix 5 (by kernel_rfl)
        have e6:aa.tmps.getD 6 undef=.int .i64 (nk:Int):=hfix 6 (by kernel_rfl)
        have e9:aa.tmps.getD 9 undef=.pointer (some ⟨w.heap.size,0,none⟩):=hfix 9 (by kernel_rfl)
        have e10:aa.tmps.getD 10 undef=.int .i64 kd:=hfix 10 (by kernel_rfl)
        have e11:aa.tmps.getD 11 undef=FV:=hfix 11 (by kernel_rfl)
        have e12:aa.tmps.getD 12 undef=.pointer (some ⟨w.heap.size,2,none⟩):=hfix 12 (by kernel_rfl)
        have e13:aa.tmps.getD 13 undef=.slice (some ⟨bk,0,none⟩) nk kc:=hfix 13 (by kernel_rfl)
        have e14:aa.tmps.getD 14 undef=.int .i64 (nk:Int):=hfix 14 (by kernel_rfl)
        have e15:aa.tmps.getD 15 undef=u15:=hfix 15 (by kernel_rfl)
        have e16:aa.tmps.getD 16 undef=u16:=hfix 16 (by kernel_rfl)
        have e17:aa.tmps.getD 17 undef=u17:=hfix 17 (by kernel_rfl)
        have e18:aa.tmps.getD 18 undef=u18:=hfix 18 (by kernel_rfl)
        have e19:aa.tmps.getD 19 undef=u19:=hfix 19 (by kernel_rfl)
        have e20:aa.tmps.getD 20 undef=u20:=hfix 20 (by kernel_rfl)
        have e21:aa.tmps.getD 21 undef=u21:=hfix 21 (by kernel_rfl)
        have e22:aa.tmps.getD 22 undef=.bool (!true):=hfix 22 (by kernel_rfl)
        have e23:aa.tmps.getD 23 undef=.pointer (some ⟨w.heap.size,2,none⟩):=hfix 23 (by kernel_rfl)
        have e24:aa.tmps.getD 24 undef=.slice (some ⟨bk,0,none⟩) nk kc:=hfix 24 (by kernel_rfl)
        have e25:aa.tmps.getD 25 undef=.int .i64 (nk:Int):=hfix 25 (by kernel_rfl)
        have e26:aa.tmps.getD 26 undef=.int .i64 (j:Int):=hfix 26 (by kernel_rfl)
        clear hfix hpost
        obtain⟨tm,df⟩:=aa
        obtain⟨x0,x1,x2,x3,x4,x5,x6,x7,x8,x9,x10,x11,x12,x13,x14,x15,x16,x17,x18,x19,x20,x21,x22,x23,x24,x25,x26,x27,x28,x29,x30,x31,x32,x33,x34,x35,x36,x37,x38,x39,x40,x41,x42,x43,x44,x45,x46,x47,x48,x49,x50,x51,rfl⟩:=znz tm hsz
        have hdf:df=[]:=hd
        subst hdf
        have f0:x0=.slice (some ⟨b0,0,none⟩) nn c:=e0
        have f1:x1=.agg #[.int .i64 kd,.string tx,.slice (some ⟨bk,0,none⟩) nk kc,.bool bl]:=e1
        have f2:x2=undef:=e2
        have f3:x3=.pointer (some ⟨w.heap.size,0,none⟩):=e3
        have f5:x5=FV:=e5
        have f6:x6=.int .i64 (nk:Int):=e6
        have f9:x9=.pointer (some ⟨w.heap.size,0,none⟩):=e9
        have f10:x10=.int .i64 kd:=e10
        have f11:x11=FV:=e11
        have f12:x12=.pointer (some ⟨w.heap.size,2,none⟩):=e12
        have f13:x13=.slice (some ⟨bk,0,none⟩) nk kc:=e13
        have f14:x14=.int .i64 (nk:Int):=e14
        have f15:x15=u15:=e15
        have f16:x16=u16:=e16
        have f17:x17=u17:=e17
        have f18:x18=u18:=e18
        have f19:x19=u19:=e19
        have f20:x20=u20:=e20
        have f21:x21=u21:=e21
        have f22:x22=.bool (!true):=e22
        have f23:x23=.pointer (some ⟨w.heap.size,2,none⟩):=e23
        have f24:x24=.slice (some ⟨bk,0,none⟩) nk kc:=e24
        have f25:x25=.int .i64 (nk:Int):=e25
        have f26:x26=.int .i64 (j:Int):=e26
        have f50:x50=.bool (!b2):=e50
        subst f0 f1 f2 f3 f5 f6 f9 f10 f11 f12 f13 f14 f15 f16 f17 f18 f19 f20 f21 f22 f23 f24 f25 f26 f50
        clear e0 e1 e2 e3 e5 e6 e9 e10 e11 e12 e13 e14 e15 e16 e17 e18 e19 e20 e21 e22 e23 e24 e25 e26 e50 hsz hd
        have HBW:=z00 (hb.trans (hI.mono hb.size))
        clear hI
        have hbv:b2=true:=HB2.out
        subst hbv
        go_wp2
        go_roundw
        case rel=>exact⟨j+1,by omega,by go_num,z00 (fun i2 z2 y2 h2 hz2 hy2=>HNX.out i2 z2 y2 h2 hz2 hy2),HBW.out⟩
        case measure=>simp[intOf];omega
      ·have HB2:=z00 (Bool.eq_false_iff.2 hbv)
       have HNO:=z00 (HNO0.out (.inr (Bool.eq_false_iff.2 hbv)))
       clear hbv
       go_wp2
       refine z36 (by kernel_rfl) (fun W=>Below wr.heap.size wr W) (fun W W'=>Below W.heap.size W W') (zs1 b0 nn c m k2 t2 a2 n2 c2 l2 true FV j nk r b2) ((Below.refl _ wr).drew) (by kernel_rfl) (fun i v W W' h _ _=>zbr b0 nn c m k2 t2 a2 n2 c2 l2 true FV j nk r b2 i v W W' h) ?_ ?_
       case refine_1 =>
        intro kk oo hk aa W hI hsz hfix hdep
        match kk,hk with
        | 0,hk =>
          cases hk
          refine .inl ⟨z03 rfl,fun K hK=>?_⟩
          have e0:aa.tmps.getD 0 undef=.slice (some ⟨b0,0,none⟩) nn c:=hfix 0 (by kernel_rfl)
          refine z05 (v:=.slice (some ⟨b0,0,none⟩) nn c) (w':=W) ?_ (hK _ _ (by simp) hI (Below.refl _ _) rfl)
          clear hfix hdep hK hk hsz hI
          go_simp
        | 1,hk =>
          cases hk
          refine .inl ⟨z03 rfl,fun K hK=>?_⟩
          have e0:aa.tmps.getD 0 undef=.slice (some ⟨b0,0,none⟩) nn c:=hfix 0 (by kernel_rfl)
          refine z05 (v:=.slice (some ⟨b0,0,none⟩) nn c) (w':=W) ?_ (hK _ _ (by simp) hI (Below.refl _ _) rfl)
          clear hfix hdep hK hk hsz hI
          go_simp
        | 2,hk =>
          cases hk
          refine .inl ⟨z03 rfl,fun K hK=>?_⟩
          have e8:aa.tmps.getD 8 undef=.int .i64 (m:Int):=hfix 8 (by kernel_rfl)
          refine z05 (v:=.int .i64 (m:Int)) (w':=W) ?_ (hK _ _ (by simp) hI (Below.refl _ _) rfl)
          clear hfix hdep hK hk hsz hI
          go_simp
        | 3,hk =>
          cases hk
          refine .inl ⟨z03 rfl,fun K hK=>?_⟩
          have e32:aa.tmps.getD 32 undef=.slice (some ⟨b0,0,none⟩) nn c:=hdep 1 _ rfl (by kernel_rfl)
          have e33:aa.tmps.getD 33 undef=.int .i64 (m:Int):=hdep 2 _ rfl (by kernel_rfl)
          refine z05 (v:=.pointer (some ⟨b0,m*4,none⟩)) (w':=W) ?_ (hK _ _ (by simp) hI (Below.refl _ _) rfl)
          clear hfix hdep hK hk hsz hI
          go_simp
        | 4,hk =>
          cases hk
          refine .inl ⟨z03 rfl,fun K hK=>?_⟩
          have e34:aa.tmps.getD 34 undef=.pointer (some ⟨b0,m*4,none⟩):=hdep 3 _ rfl (by kernel_rfl)
          obtain⟨y0,y1,y2,y3⟩:=HC4.out W hI
          refine z05 (v:=.agg #[.int .i64 k2,.string t2,.slice a2 n2 c2,.bool l2]) (w':=W) ?_ (hK _ _ (by simp) hI (Below.refl _ _) rfl)
          clear hfix hdep hK hk hsz hI
          go_simp
        | 5,hk =>
          cases hk
          refine .inl ⟨z03 rfl,fun K hK=>?_⟩
          have e31:aa.tmps.getD 31 undef=.slice (some ⟨b0,0,none⟩) nn c:=hdep 0 _ rfl (by kernel_rfl)
          have e35:aa.tmps.getD 35 undef=.agg #[.int .i64 k2,.string t2,.slice a2 n2 c2,.bool l2]:=hdep 4 _ rfl (by kernel_rfl)
          have hcon:=Q1.out W hI
          refine z1h 210 #[.slice (some ⟨b0,0,none⟩) nn c,.agg #[.int .i64 k2,.string t2,.slice a2 n2 c2,.bool l2]] ?_ hcon ?_
          ·clear hfix hdep hK hk hsz hcon hI
           go_simp
           try rfl
          ·rintro e W2 ⟨rfl,A⟩
           exact⟨_,rfl,hK _ _ (by simp) (hI.trans (A.mono hI.size)) A rfl⟩
        | 6,hk =>
          cases hk
          refine .inl ⟨z03 rfl,fun K hK=>?_⟩
          have e36:aa.tmps.getD 36 undef=.bool true:=hdep 5 _ rfl (by kernel_rfl)
          refine z05 (v:=.bool false) (w':=W) ?_ (hK _ _ (by simp) hI (Below.refl _ _) rfl)
          clear hfix hdep hK hk hsz hI
          go_simp
        | 7,hk =>
          cases hk
          refine .inl ⟨z03 rfl,fun K hK=>?_⟩
          have e37:aa.tmps.getD 37 undef=.bool false:=hdep 6 _ rfl (by kernel_rfl)
          refine z05 (v:=.bool false) (w':=W) ?_ (hK _ _ (by simp) hI (Below.refl _ _) rfl)
          clear hfix hdep hK hk hsz hI
          go_simp
        | 8,hk =>
          cases hk
          refine .inl ⟨(z0n (c:=false) (b:=false) rfl rfl rfl (hdep 7 _ rfl (by kernel_rfl))).trans rfl,fun K hK=>?_⟩
          have e0:aa.tmps.getD 0 undef=.slice (some ⟨b0,0,none⟩) nn c:=hfix 0 (by kernel_rfl)
          refine z05 (v:=.slice (some ⟨b0,0,none⟩) nn c) (w':=W) ?_ (hK _ _ (by simp) hI (Below.refl _ _) rfl)
          clear hfix hdep hK hk hsz hI
          go_simp
        | 9,hk =>
          cases hk
          refine .inl ⟨(z0n (c:=false) (b:=false) rfl rfl rfl (hdep 7 _ rfl (by kernel_rfl))).trans rfl,fun K hK=>?_⟩
          have e0:aa.tmps.getD 0 undef=.slice (some ⟨b0,0,none⟩) nn c:=hfix 0 (by kernel_rfl)
          refine z05 (v:=.slice (some ⟨b0,0,none⟩) nn c) (w':=W) ?_ (hK _ _ (by simp) hI (Below.refl _ _) rfl)
          clear hfix hdep hK hk hsz hI
          go_simp
        | 10,hk =>
          cases hk
          refine .inl ⟨(z0n (c:=false) (b:=false) rfl rfl rfl (hdep 7 _ rfl (by kernel_rfl))).trans rfl,fun K hK=>?_⟩
          have e8:aa.tmps.getD 8 undef=.int .i64 (m:Int):=hfix 8 (by kernel_rfl)
          refine z05 (v:=.int .i64 (m:Int)) (w':=W) ?_ (hK _ _ (by simp) hI (Below.refl _ _) rfl)
          clear hfix hdep hK hk hsz hI
          go_simp
        | 11,hk =>
          cases hk
          refine .inl ⟨(z0n (c:=false) (b:=false) rfl rfl rfl (hdep 7 _ rfl (by kernel_rfl))).trans rfl,fun K hK=>?_⟩
          have e40:aa.tmps.getD 40 undef=.slice (some ⟨b0,0,none⟩) nn c:=hdep 9 _ rfl (by kernel_rfl)
          have e41:aa.tmps.getD 41 undef=.int .i64 (m:Int):=hdep 10 _ rfl (by kernel_rfl)
          refine z05 (v:=.pointer (some ⟨b0,m*4,none⟩)) (w':=W) ?_ (hK _ _ (by simp) hI (Below.refl _ _) rfl)
          clear hfix hdep hK hk hsz hI
          go_simp
        | 12,hk =>
          cases hk
          refine .inl ⟨(z0n (c:=false) (b:=false) rfl rfl rfl (hdep 7 _ rfl (by kernel_rfl))).trans rfl,fun K hK=>?_⟩
          have e42:aa.tmps.getD 42 undef=.pointer (some ⟨b0,m*4,none⟩):=hdep 11 _ rfl (by kernel_rfl)
          obtain⟨y0,y1,y2,y3⟩:=HC4.out W hI
          refine z05 (v:=.agg #[.int .i64 k2,.string t2,.slice a2 n2 c2,.bool l2]) (w':=W) ?_ (hK _ _ (by simp) hI (Below.refl _ _) rfl)
          clear hfix hdep hK hk hsz hI
          go_simp
        | 13,hk =>
          cases hk
          refine .inl ⟨(z0n (c:=false) (b:=false) rfl rfl rfl (hdep 7 _ rfl (by kernel_rfl))).trans rfl,fun K hK=>?_⟩
          have e5:aa.tmps.getD 5 undef=FV:=hfix 5 (by kernel_rfl)
          refine z05 (v:=FV) (w':=W) ?_ (hK _ _ (by simp) hI (Below.refl _ _) rfl)
          clear hfix hdep hK hk hsz hI
          go_simp
        | 14,hk =>
          cases hk
          refine .inl ⟨(z0n (c:=false) (b:=false) rfl rfl rfl (hdep 7 _ rfl (by kernel_rfl))).trans rfl,fun K hK=>?_⟩
          have e7:aa.tmps.getD 7 undef=.int .i64 (j:Int):=hfix 7 (by kernel_rfl)
          refine z05 (v:=.int .i64 (j:Int)) (w':=W) ?_ (hK _ _ (by simp) hI (Below.refl _ _) rfl)
          clear hfix hdep hK hk hsz hI
          go_simp
        | 15,hk =>
          cases hk
          refine .inl ⟨(z0n (c:=false) (b:=false) rfl rfl rfl (hdep 7 _ rfl (by kernel_rfl))).trans rfl,fun K hK=>?_⟩
          have e6:aa.tmps.getD 6 undef=.int .i64 (nk:Int):=hfix 6 (by kernel_rfl)
          refine z05 (v:=.int .i64 (nk:Int)) (w':=W) ?_ (hK _ _ (by simp) hI (Below.refl _ _) rfl)
          clear hfix hdep hK hk hsz hI
          go_simp
        | 16,hk =>
          cases hk
          refine .inl ⟨(z0n (c:=false) (b:=false) rfl rfl rfl (hdep 7 _ rfl (by kernel_rfl))).trans rfl,fun K hK=>?_⟩
          have e44:aa.tmps.getD 44 undef=FV:=hdep 13 _ rfl (by kernel_rfl)
          have e45:aa.tmps.getD 45 undef=.int .i64 (j:Int):=hdep 14 _ rfl (by kernel_rfl)
          have e46:aa.tmps.getD 46 undef=.int .i64 (nk:Int):=hdep 15 _ rfl (by kernel_rfl)
          have hcon:=Q2.out W
          refine z1h 212 #[FV,.int .i64 (j:Int),.int .i64 (nk:Int)] ?_ hcon ?_
          ·clear hfix hdep hK hk hsz hcon hI
           go_simp
           try rfl
          ·rintro e W2 ⟨rfl,A⟩
           exact⟨_,rfl,hK _ _ (by simp) (hI.trans (A.mono hI.size)) A rfl⟩
        | 17,hk =>
          cases hk
          refine .inl ⟨(z0n (c:=false) (b:=false) rfl rfl rfl (hdep 7 _ rfl (by kernel_rfl))).trans rfl,fun K hK=>?_⟩
          have e39:aa.tmps.getD 39 undef=.slice (some ⟨b0,0,none⟩) nn c:=hdep 8 _ rfl (by kernel_rfl)
          have e43:aa.tmps.getD 43 undef=.agg #[.int .i64 k2,.string t2,.slice a2 n2 c2,.bool l2]:=hdep 12 _ rfl (by kernel_rfl)
          have e47:aa.tmps.getD 47 undef=.int .i64 (r:Int):=hdep 16 _ rfl (by kernel_rfl)
          have hcon:=Q3.out W hI
          refine z1h 211 #[.slice (some ⟨b0,0,none⟩) nn c,.agg #[.int .i64 k2,.string t2,.slice a2 n2 c2,.bool l2],.int .i64 (r:Int)] ?_ hcon ?_
          ·clear hfix hdep hK hk hsz hcon hI
           go_simp
           try rfl
          ·rintro e W2 ⟨rfl,A⟩
           exact⟨_,rfl,hK _ _ (by simp) (hI.trans (A.mono hI.size)) A rfl⟩
        | 18,hk =>
          cases hk
          refine .inl ⟨(z0n (c:=false) (b:=false) rfl rfl rfl (hdep 7 _ rfl (by kernel_rfl))).trans rfl,fun K hK=>?_⟩
          have e48:aa.tmps.getD 48 undef=.bool b2:=hdep 17 _ rfl (by kernel_rfl)
          refine z05 (v:=.bool (!b2)) (w':=W) ?_ (hK _ _ (by simp) hI (Below.refl _ _) rfl)
          clear hfix hdep hK hk hsz hI
          go_simp
        | 19,hk =>
          cases hk
          refine .inl ⟨z03 rfl,fun K hK=>?_⟩
          have e38:aa.tmps.getD 38 undef=.bool false:=hdep 7 _ rfl (by kernel_rfl)
          have e49:aa.tmps.getD 49 undef=.bool (!b2):=hdep 18 _ rfl (by kernel_rfl)
          refine z05 (v:=.bool (!b2)) (w':=W) ?_ (hK _ _ (by simp) hI (Below.refl _ _) rfl)
          clear hfix hdep hK hk hsz hI
          go_simp
       case refine_2 =>
        intro aa W hI hd hsz hfix hpost
        have e50:aa.tmps.getD 50 undef=.bool (!b2):=hpost 19 _ rfl
        have e0:aa.tmps.getD 0 undef=.slice (some ⟨b0,0,none⟩) nn c:=hfix 0 (by kernel_rfl)
        have e1:aa.tmps.getD 1 undef=.agg #[.int .i64 kd,.string tx,.slice (some ⟨bk,0,none⟩) nk kc,.bool bl]:=hfix 1 (by kernel_rfl)
        have e2:aa.tmps.getD 2 undef=undef:=hfix 2 (by kernel_rfl)
        have e3:aa.tmps.getD 3 undef=.pointer (some ⟨w.heap.size,0,none⟩):=hfix 3 (by kernel_rfl)
        have e5:aa.tmps.getD 5 undef=FV:=hfix 5 (by kernel_rfl)
        have e6:aa.tmps.getD 6 undef=.int .i64 (nk:Int):=hfix 6 (by kernel_rfl)
        have e9:aa.tmps.getD 9 undef=.pointer (some ⟨w.heap.size,0,none⟩):=hfix 9 (by kernel_rfl)
        have e10:aa.tmps.getD 10 undef=.int .i64 kd:=hfix 10 (by kernel_rfl)
        have e11:aa.tmps.getD 11 undef=FV:=hfix 11 (by kernel_rfl)
        have e12:aa.tmps.getD 12 undef=.pointer (some ⟨w.heap.size,2,none⟩):=hfix 12 (by kernel_rfl)
        have e13:aa.tmps.getD 13 undef=.slice (some ⟨bk,0,none⟩) nk kc:=hfix 13 (by kernel_rfl)
        have e14:aa.tmps.getD 14 undef=.int .i64 (nk:Int):=hfix 14 (by kernel_rfl)
        have e15:aa.tmps.getD 15 undef=u15:=hfix 15 (by kernel_rfl)
        have e16:aa.tmps.getD 16 undef=u16:=hfix 16 (by kernel_rfl)
        have e17:aa.tmps.getD 17 undef=u17:=hfix 17 (by kernel_rfl)
        have e18:aa.tmps.getD 18 undef=u18:=hfix 18 (by kernel_rfl)
        have e19:aa.tmps.getD 19 undef=u19:=hfix 19 (by kernel_rfl)
        have e20:aa.tmps.getD 20 undef=u20:=hfix 20 (by kernel_rfl)
        have e21:aa.tmps.getD 21 undef=u21:=hfix 21 (by kernel_rfl)
        have e22:aa.tmps.getD 22 undef=.bool (!true):=hfix 22 (by kernel_rfl)
        have e23:aa.tmps.getD 23 undef=.pointer (some ⟨w.heap.size,2,none⟩):=hfix 23 (by kernel_rfl)
        have e24:aa.tmps.getD 24 undef=.slice (some ⟨bk,0,none⟩) nk kc:=hfix 24 (by kernel_rfl)
        have e25:aa.tmps.getD 25 undef=.int .i64 (nk:Int):=hfix 25 (by kernel_rfl)
        have e26:aa.tmps.getD 26 undef=.int .i64 (j:Int):=hfix 26 (by kernel_rfl)
        clear hfix hpost
        obtain⟨tm,df⟩:=aa
        obtain⟨x0,x1,x2,x3,x4,x5,x6,x7,x8,x9,x10,x11,x12,x13,x14,x15,x16,x17,x18,x19,x20,x21,x22,x23,x24,x25,x26,x27,x28,x29,x30,x31,x32,x33,x34,x35,x36,x37,x38,x39,x40,x41,x42,x43,x44,x45,x46,x47,x48,x49,x50,x51,rfl⟩:=znz tm hsz
        have hdf:df=[]:=hd
        subst hdf
        have f0:x0=.slice (some ⟨b0,0,none⟩) nn c:=e0
        have f1:x1=.agg #[.int .i64 kd,.string tx,.slice (some ⟨bk,0,none⟩) nk kc,.bool bl]:=e1
        have f2:x2=undef:=e2
        have f3:x3=.pointer (some ⟨w.heap.size,0,none⟩):=e3
        have f5:x5=FV:=e5
        have f6:x6=.int .i64 (nk:Int):=e6
        have f9:x9=.pointer (some ⟨w.heap.size,0,none⟩):=e9
        have f10:x10=.int .i64 kd:=e10
        have f11:x11=FV:=e11
        have f12:x12=.pointer (some ⟨w.heap.size,2,none⟩):=e12
        have f13:x13=.slice (some ⟨bk,0,none⟩) nk kc:=e13
        have f14:x14=.int .i64 (nk:Int):=e14
        have f15:x15=u15:=e15
        have f16:x16=u16:=e16
        have f17:x17=u17:=e17
        have f18:x18=u18:=e18
        have f19:x19=u19:=e19
        have f20:x20=u20:=e20
        have f21:x21=u21:=e21
        have f22:x22=.bool (!true):=e22
        have f23:x23=.pointer (some ⟨w.heap.size,2,none⟩):=e23
        have f24:x24=.slice (some ⟨bk,0,none⟩) nk kc:=e24
        have f25:x25=.int .i64 (nk:Int):=e25
        have f26:x26=.int .i64 (j:Int):=e26
        have f50:x50=.bool (!b2):=e50
        subst f0 f1 f2 f3 f5 f6 f9 f10 f11 f12 f13 f14 f15 f16 f17 f18 f19 f20 f21 f22 f23 f24 f25 f26 f50
        clear e0 e1 e2 e3 e5 e6 e9 e10 e11 e12 e13 e14 e15 e16 e17 e18 e19 e20 e21 e22 e23 e24 e25 e26 e50 hsz hd
        have HBW:=z00 (hb.trans (hI.mono hb.size))
        clear hI
        have hbv:b2=false:=HB2.out
        subst hbv
        go_wp2
        go_ret
        exact z0o HNO.out HBW.out
    ·have HT:=z00 (HP.out.2 ⟨(HCI.out.1 HBC.out.symm).1,by rw[← HNK.out];exact(HCI.out.1 HBC.out.symm).2,fun i z y hi hy=>by
      have hil:i<nk:=by rw[HNK.out];exact(List.getElem?_eq_some_iff.1 hi).1
      rw[← HNK.out]
      exact HF.out i z y (by omega) hi hy⟩)
     go_wp2
     go_ret
     exact z12 HT.out hb
end Go.Proofs.YtekebloinobjnaaGreatDoor
