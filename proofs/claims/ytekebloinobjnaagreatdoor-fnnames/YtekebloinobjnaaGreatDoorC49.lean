/- Texts of one proof, laid together: FrI, SnL, NmLaw. -/
import Derived.Test.YtekebloinobjnaaGreatDoorC48
import Derived.Test.YtekebloinobjnaaGreatDoorC36
import Derived.Test.YtekebloinobjnaaGreatDoorC11
import Derived.Test.YtekebloinobjnaaGreatDoorC06
import Derived.Test.YtekebloinobjnaaGreatDoorC10
import Derived.Maps.OwnOps
import Derived.Lib.LaidTab
import Derived.Lib.AppendIntMem
import Derived.Deep.QuietTactic
import Derived.BigQuiet
import Derived.Test.YtekebloinobjnaaGreatDoorRows
import Derived.Test.YtekebloinobjnaaGreatDoorC43
import Derived.MakeChecks
import Derived.OpenShut
import Derived.Stop.LaidErr
import Derived.Stop.Joined
set_option maxHeartbeats 16000000
set_option maxRecDepth 100000
namespace Go.Proofs.YtekebloinobjnaaGreatDoor
open Go.RowKit
open Go.RowKit Go.Lib Go.Maps
abbrev zmv (w:World):Prop:=Lib.TabIs Tryz.prog w "internal/strconv.uint64pow10" .u64 Lib.pow10Tab
theorem zkv (n:Int) (w:World) (h0:0≤n) (h1:n≤1000) (hT:zmv w) :
 Calls Tryz.prog 63 #[.int .i64 n] w fun e w'=>e=.returned (.string ⟨(Lib.itoa n).toArray⟩)∧Below w.heap.size w w':=by
 have HT:=z00 hT
 clear hT
 go_enter Tryz.func63,Tryz.ntmps63
 go_wp2_with fail
 refine(Tryz.strconv_Itoa n (by omega) (by omega) _ HT.out).mono ?_
 rintro e w1 ⟨rfl,k,os,rfl⟩
 go_wp2
 go_ret
 exact⟨rfl,Lib.below_grow _ _ (Nat.le_refl _) k os⟩
def zoy (w:World) (b n:Nat) (D:Dt):Prop:=w.ownsMap Tryz.prog 9 (plainElem (H:=Unit) Tryz.prog 3) b n D
theorem zoy.below {w w':World} {b n:Nat} {D:Dt} (h:zoy w b n D) (hb:Below w.heap.size w w'):zoy w' b n D:=by
 have hl:=World.ownsMap.lt h
 obtain⟨es,clock,h1,F,hs,hD⟩:=h
 exact⟨es,clock,(hb.block _ hl).trans h1,F,hs,hD⟩
def TM (D:Dt) (l:List ByteArray):Prop:=IsMap D∧∀ s,∃ c:Nat,D.atKey (kS s) (.lit (.int .i64 0))=.lit (.int .i64 c)∧(0<c↔s∈l)∧c≤l.length
theorem zpf:TM (.map []) []:=⟨isMap_empty,fun s=>⟨0,rfl,by simp,Nat.le_refl _⟩⟩
theorem zs0 {D:Dt} {l:List ByteArray} (h:TM D l) (t:ByteArray) {c:Nat} (hc:c≤l.length):TM (D.put (kS t) (.lit (.int .i64 ((c:Int)+1)))) (l++[t]):=by
 refine⟨h.1.put _ _,fun s=>?_⟩
 by_cases e:s=t
 ·subst e
  exact⟨c+1,by rw[atKey_put_same h.1 (show WideAt.IsKeyLit (kS s) from trivial)];rfl,⟨fun _=>by simp,fun _=>by omega⟩,by simp;omega⟩
 ·obtain⟨d,h1,h2,h3⟩:=h.2 s
  refine⟨d,by rw[atKey_put_other (fun x=>e (zb2 x))];exact h1,h2.trans ?_,by simp;omega⟩
  rw[List.mem_append,List.mem_singleton]
  exact⟨.inl,fun h=>h.resolve_right e⟩
theorem zm1 (w:World):(zeroValue 3).run Tryz.prog w=.ok (.int .i64 0) w:=by kernel_rfl
theorem zic {D:Dt} {l:List ByteArray} (h:TM D l) {s:ByteArray} (hs:s.size≤maxLen) :
 ∃ c:Nat,(0<c↔s∈l)∧c≤l.length∧∀ (W:World) (b n:Nat),zoy W b n D→(Instr.lookup 75 (.map (some b)) (.string s) false).run Tryz.prog W=.ok (.int .i64 (c:Int)) W:=by
 obtain⟨c,h1,h2,h3⟩:=h.2 s
 refine⟨c,h2,h3,fun W b n hW=>?_⟩
 obtain⟨d,hrun,hat,_⟩:=World.ownsMap.lookup_int hW (string_keyed Tryz.underlying9) Tryz.underlying75 Tryz.underlying3 (zm1 W) (WideMaps.keyOf_string_mk Tryz.underlying9 hs)
 rw[show Lit.string s.data.toList=kS s from rfl,h1] at hat
 injection hat with hat
 injection hat with _ hat
 rw[hat]
 exact hrun
theorem zs9 {w:World} {B:Nat} {a:Option Addr} {c:Nat} {qs:List Np} (h:Nds w B a c qs) (hS:∀ q∈qs,SafeNd q.nd) (hn:qs.length≤300) (hT:∀ W,Below w.heap.size w W→zmv W) :
 Calls Tryz.prog 20 #[.slice a qs.length c,.string frB] w fun e w'=>∃ i,i≤300∧e=.returned (.string (z7a i))∧(∀ q∈qs,q.nd.text≠z7a i)∧Below w.heap.size w w':=by
 have hmm:=@run_makeMap Tryz.prog
 have qI:=z9o w (z7o (i:=0) (by omega)).1.1 (by decide) (by decide) (by decide)
 rw[zeg] at qI
 have hf5:frB.size=5:=rfl
 obtain⟨fb,hfb⟩:∃ fb,fb=frB:=⟨_,rfl⟩
 rw[← hfb] at qI hf5 ⊢
 have HF:=z00 hfb
 have HH:=z00 h
 have HS:=z00 hS
 have HT:=z00 hT
 clear h hS hT hfb
 go_enter Tryz.func20,Tryz.ntmps20
 go_wp2_with fail
 refine qI.mono ?_
 rintro e w1 ⟨rfl,b1⟩
 have hm0:zoy (w1.alloc (.map #[] 0)) w1.heap.size 0 (.map []):=World.ownsMap_made w1 Tryz.prog 9 _
 have B2:Below w.heap.size w (w1.alloc (.map #[] 0)):=b1.alloc b1.size _
 have s1:=b1.size
 obtain⟨mb,hmb⟩:∃ mb,mb=w1.heap.size:=⟨_,rfl⟩
 clear qI b1
 go_wp2
 rw[← hmb] at hm0 ⊢
 have hmb2:w.heap.size≤mb:=by omega
 clear hmb
 go_loopw [21] (fun i wr=>∃ (j:Nat) (D:Dt),j≤qs.length∧i=.int .i64 (j:Int)∧zoy wr mb j D∧Hid (TM D ((qs.take j).map fun q=>q.nd.text))∧Hid (Below w.heap.size w wr)) (fun i _=>qs.length-(intOf i).toNat)
 case atStart=>exact⟨0,_,Nat.zero_le _,rfl,hm0,z00 zpf,z00 B2⟩
 case round =>
  clear hm0 B2
  obtain⟨j,D,hj,rfl,hM,HD,HW⟩:=hrel
  have hws:=HW.out.size
  by_cases hlt:j<qs.length
  ·have hA:(0:Int)≤(j:Int):=by omega
   have hB1:(j:Int)<(qs.length:Int):=by omega
   obtain⟨q,hq⟩:∃ q,qs[j]?=some q:=⟨_,List.getElem?_eq_getElem hlt⟩
   obtain⟨a0,rfl,hb0,d0,d1,d2,d3⟩:=(HH.out.below HW.out).node hq
   have hsz:q.nd.text.size≤maxLen:=by have:=(HS.out q (List.mem_of_getElem? hq)).few;unfold maxLen;omega
   obtain⟨n,hn1,hn2,hL⟩:=zic HD.out hsz
   have hn3:n≤300:=by rw[List.length_map,List.length_take] at hn2;omega
   have HP:=z00 (show TM (D.put (kS q.nd.text) (.lit (.int .i64 ((n:Int)+1)))) ((qs.take (j+1)).map fun q=>q.nd.text) by
    rw[List.take_add_one,hq,List.map_append]
    exact zs0 HD.out q.nd.text hn2)
   have M2:zoy (wr.alloc (.cells #[.int .i64 q.nd.kind,.string q.nd.text,.slice q.a q.nd.kids.length q.c,.bool q.nd.blank] 56)) mb j D:=World.ownsMap.alloc hM _
   have hL2:=hL _ _ _ M2
   obtain⟨⟨kd,t,kk,bl⟩,ka,kc⟩:=q
   simp only at d0 d1 d2 d3 hsz hL2 HP M2
   have hwf:(Lit.int .i64 ((n:Int)+1)).wf=true:=by simp[Lit.wf,IntKind.min,IntKind.max,IntKind.signed,IntKind.bits];omega
   have hmbl:=World.ownsMap.lt hM
   clear hq hn1 hn2 hL hb0 hM HD
   go_wp2_with (at_mapUpdate;go_loud (refine wpList_mapUpdate_own _ rfl _ _ _ 75 rfl 9 3 (string_keyed Tryz.underlying9) Tryz.underlying75 _ mb j D rfl M2 (by unfold maxLen;omega) _ _ (kS t) rfl rfl (WideMaps.keyOf_string_mk Tryz.underlying9 hsz) _ [] (plainElem_int Tryz.underlying3 hwf) ?_);intro w6 hown6 hg6)
   go_wp2
   go_roundw
   case rel=>exact⟨j+1,_,by omega,by go_num,hown6,HP,z00 ((HW.out.alloc hws _).grown hg6 (by simp;omega) (fun k e=>by have h1:mb=k:=Option.some.inj e;omega))⟩
   case measure=>simp[intOf];omega
  ·obtain rfl:j=qs.length:=by omega
   have HTM:=z00 (show TM D (qs.map fun q=>q.nd.text) by have:=HD.out;rwa [List.take_length] at this)
   have qC:=fun W=>z6h fb W (by omega)
   have hlq:¬ ((qs.length:Int)<(qs.length:Int)):=by omega
   have hmbl:=World.ownsMap.lt hM
   have HM:=z00 hM
   clear HD hM hlt
   go_wp2_with fail
   refine(qC _).mono ?_
   rintro e w2 ⟨rfl,b2⟩
   have M2:=HM.out.below b2
   have HW2:=z00 (HW.out.trans (b2.mono hws))
   clear qC b2 HM HW
   go_wp2
   go_loopw [8,9] (fun nm nu wr=>∃ i:Nat,i≤300∧nm=.string (z7a i)∧nu=.int .i64 ((i:Int)+2)∧Hid (∀ j,j<i→z7a j∈qs.map fun q=>q.nd.text)∧zoy wr mb qs.length D∧Hid (Below w.heap.size w wr)) (fun _ nu _=>400-(intOf nu).toNat)
   case atStart=>exact⟨0,by omega,by rw[zeg,HF.out],rfl,z00 (fun j hj=>by omega),M2,HW2⟩
   case round =>
    clear M2 HW2
    obtain⟨i,hi,rfl,rfl,HI,hM,HW⟩:=hrel
    have hws:=HW.out.size
    have hcs:=(z7o (i:=i) (by omega)).2
    obtain⟨n,hn1,hn2,hL⟩:=zic HTM.out (s:=z7a i) (by unfold maxLen;omega)
    have hL2:=hL _ _ _ hM
    have hn3:n≤300:=by rw[List.length_map] at hn2;omega
    obtain⟨t,ht⟩:∃ t,t=z7a i:=⟨_,rfl⟩
    rw[← ht] at hL2
    have HTC:=z00 ht
    rw[← ht]
    by_cases hp:0<n
    ·have hIn:=hn1.1 hp
     have hI2:∀ j,j<i+1→z7a j∈qs.map fun q=>q.nd.text:=fun j hj=>by
      by_cases e:j=i
      ·rw[e];exact hIn
      ·exact HI.out j (by omega)
     have hi2:i+1≤300:=by
      have:=zkb hI2
      rw[List.length_map] at this
      omega
     have qD:=fun W (hW:Below w.heap.size w W)=>zkv ((i:Int)+2) W (by omega) (by omega) (HT.out W hW)
     have HI2:=z00 hI2
     have hds:(⟨(Lib.itoa ((i:Int)+2)).toArray⟩:ByteArray).size≤21:=by
      have h1:=(z7o (i:=i+1) (by omega)).2
      rw[z8q,ByteArray.size_append] at h1
      have e:(((i+2:Nat):Int))=(i:Int)+2:=by omega
      rw[e] at h1
      omega
     have HC:=z00 (show fb++⟨(Lib.itoa ((i:Int)+2)).toArray⟩=z7a (i+1) by
      rw[z8q,HF.out]
      congr 3)
     have qD2:=qD wr HW.out
     obtain⟨ds,hds2⟩:∃ ds,ds=(⟨(Lib.itoa ((i:Int)+2)).toArray⟩:ByteArray):=⟨_,rfl⟩
     rw[← hds2] at hds HC qD2
     have hg:¬ (9223372036854775807<fb.size+ds.size):=by omega
     have HM:=z00 hM
     clear hIn hI2 hn1 hn2 hL hM ht hds2 qD
     go_wp2_with fail
     refine qD2.mono ?_
     rintro e w3 ⟨rfl,b3⟩
     clear qD2
     go_wp2
     go_roundw
     case rel=>exact⟨i+1,hi2,by rw[HC.out],by go_num,HI2,HM.out.below b3,z00 (HW.out.trans (b3.mono hws))⟩
     case measure=>simp[intOf];omega
    ·obtain rfl:n=0:=by omega
     have hNo:¬ z7a i∈qs.map fun q=>q.nd.text:=fun h=>by have:=hn1.2 h;omega
     clear hn1 hn2 hL hM ht
     go_wp2
     go_ret
     exact⟨i,hi,by rw[← HTC.out];rfl,fun q hq e=>hNo (List.mem_map.2 ⟨q,hq,e⟩),HW.out⟩
theorem zgf {a1 a2:Option Addr} {c1 c2 B1 B2:Nat} {ks:List Int} {w:World} (hx:ks.length≤100000) (h1:w.ownsRow B1 tI 1 (.slice a1 ks.length c1) ks.length (z02 ks)) (h2:w.ownsRow B2 tI 1 (.slice a2 ks.length c2) ks.length (z02 ks)) :
 Calls Tryz.prog 67 #[.slice a1 ks.length c1,.slice a2 ks.length c2] w fun e w'=>e=.returned (.bool true)∧∃ q,w'=w.drewN q:=by
 have HH:=z00 (And.intro h1 h2)
 obtain⟨n,hn⟩:∃ n,n=ks.length:=⟨_,rfl⟩
 rw[← hn] at hx ⊢
 have HN:=z00 hn
 clear h1 h2 hn
 have hne:((n:Int) != (n:Int))=false:=by simp
 go_enter Tryz.func67,Tryz.ntmps67
 go_wp2
 go_loopw [5] (fun i wr=>∃ k q:Nat,k≤n∧i=.int .i64 k∧wr=w.drewN q) (fun i _=>n-(intOf i).toNat)
 case atStart=>exact⟨0,0,Nat.zero_le _,rfl,rfl⟩
 case round =>
  obtain⟨k,q,hk,rfl,rfl⟩:=hrel
  by_cases hlt:k<n
  ·obtain⟨x,ex⟩:∃ x,ks[k]?=some x:=⟨_,List.getElem?_eq_getElem (by rw[← HN.out];exact hlt)⟩
   have hv:(z02 ks)[k]?=some (.int .i64 x):=by unfold z02;rw[List.getElem?_map,ex];rfl
   obtain⟨b1,rfl⟩:=z0s HH.out.1 (by have:=HN.out;omega)
   obtain⟨b2,rfl⟩:=z0s HH.out.2 (by have:=HN.out;omega)
   have p0:=(HH.out.1.cellAt k (by have:=HN.out;omega)).trans hv
   have q0:=(HH.out.2.cellAt k (by have:=HN.out;omega)).trans hv
   clear ex hv
   have hm1:(x != x)=false:=by simp
   have hA:(0:Int)≤(k:Int):=by omega
   have hB:(k:Int)<(n:Int):=by omega
   go_wp2
   go_quiet (fail)
   go_wp2
   go_roundw
   case rel=>exact⟨k+1,q+nq,by omega,by go_num,rfl⟩
   case measure=>simp[intOf];omega
  ·go_wp2
   go_ret
   exact⟨rfl,_,rfl⟩
theorem zfa {w:World} {B1 B2 c1 c2:Nat} {a1 a2:Option Addr} {ps qs:List Np} (h1:Nds w B1 a1 c1 ps) (h2:Nds w B2 a2 c2 qs) (he:ps.map Np.nd=qs.map Np.nd) (hn:qs.length≤300) (h12:∀ q∈qs,q.nd.kids.length≤12) :
 Calls Tryz.prog 23 #[.slice a1 ps.length c1,.slice a2 qs.length c2] w fun e w'=>e=.returned (.bool true)∧∃ q,w'=w.drewN q:=by
 have hl:ps.length=qs.length:=by have:=congrArg List.length he;simpa using this
 have HH:=z00 (And.intro h1 h2)
 have HE:=z00 (And.intro he h12)
 have HL:=z00 hl
 rw[hl]
 clear h1 h2 he h12 hl
 have hne:((qs.length:Int) != (qs.length:Int))=false:=by simp
 go_enter Tryz.func23,Tryz.ntmps23
 go_wp2
 go_loopw [5] (fun i wr=>∃ k q:Nat,k≤qs.length∧i=.int .i64 k∧wr=w.drewN q) (fun i _=>qs.length-(intOf i).toNat)
 case atStart=>exact⟨0,0,Nat.zero_le _,rfl,rfl⟩
 case round =>
  obtain⟨k,q,hk,rfl,rfl⟩:=hrel
  by_cases hlt:k<qs.length
  ·obtain⟨y,hy⟩:∃ y,qs[k]?=some y:=⟨_,List.getElem?_eq_getElem hlt⟩
   obtain⟨x,hx⟩:∃ x,ps[k]?=some x:=⟨_,List.getElem?_eq_getElem (by rw[HL.out];exact hlt)⟩
   have hxy:x.nd=y.nd:=by
    have e1:(ps.map Np.nd)[k]?=some x.nd:=by rw[List.getElem?_map,hx];rfl
    rw[HE.out.1,List.getElem?_map,hy] at e1
    exact(Option.some.inj e1).symm
   obtain⟨b1,rfl,_,p0,p1,p2,p3⟩:=HH.out.1.node hx
   obtain⟨b2,rfl,_,r0,r1,r2,r3⟩:=HH.out.2.node hy
   have k1:=HH.out.1.each x (List.mem_of_getElem? hx)
   have k2:=HH.out.2.each y (List.mem_of_getElem? hy)
   have hkl:=HE.out.2 y (List.mem_of_getElem? hy)
   rw[hxy] at p0 p1 p2 p3 k1
   obtain⟨⟨kd,tx,ks,bl⟩,ka,kc⟩:=y
   simp only at p0 p1 p2 p3 r0 r1 r2 r3 k1 k2 hkl
   have HK:=z00 (fun n=>zgf (w:=w.drewN (q+n)) (by omega) (z07 k1 (z0e w _)) (z07 k2 (z0e w _)))
   have m0:(kd != kd)=false:=by simp
   have m1:(tx.toList != tx.toList)=false:=by simp
   have m2:(bl != bl)=false:=by simp
   have hA:(0:Int)≤(k:Int):=by omega
   have hB:(k:Int)<(qs.length:Int):=by omega
   clear hy hx hxy k1 k2 hkl
   go_wp2
   go_quiet ((go_at_call 67;refine(HK.out _).mono ?_;rintro e w' ⟨rfl,m,rfl⟩;exact⟨rfl,_,by rw[World.drewN_drewN,Nat.add_assoc]⟩))
   go_wp2
   go_roundw
   case rel=>exact⟨k+1,q+nq,by omega,by go_num,rfl⟩
   case measure=>simp[intOf];omega
  ·go_wp2
   go_ret
   exact⟨rfl,_,rfl⟩
theorem zv6:Tryz.prog.globalNamed "internal/strconv.uint64pow10"=some 0:=by kernel_rfl
theorem zcn {W:World} (h:laidMetH Tryz.prog Rows.fnNamesRow.laid W):Lib.TabBelow Tryz.prog W.heap.size W "internal/strconv.uint64pow10" .u64 Lib.pow10Tab:=by
 rw[MakeChecks.laidMetH_plain _ _ _ (by kernel_rfl)] at h
 exact Lib.tabBelow_of_tabIs (Lib.tabIs_of_head zv6 (by kernel_rfl) Tryz.underlying205 Tryz.underlying156 (by kernel_rfl) (by kernel_rfl) (laidMet.tail (laidMet.tail h)))
theorem zlw {base:Nat} {w w':World} {a:Option Addr} {len:Nat} (h:CodeAt base w a len) (hb:Below base w w') (hB:base≤w'.heap.size):CodeAt w'.heap.size w' a len:=by
 have h2:=h.below hb
 refine⟨h2.1,fun hl=>?_⟩
 obtain⟨b,off,ha,hbb,hc⟩:=h2.2 hl
 exact⟨b,off,ha,by omega,hc⟩
theorem zpv {w:World} {B e s n:Nat} {v:Value} {xs:List Value} (h:w.ownsRow B e s v n xs) (hv:v≠.slice none 0 0):∃ g c,v=.slice (some ⟨g,0,none⟩) n c:=by
 rcases h.2 with⟨e,_⟩|⟨g,c,_,e,-⟩
 ·exact absurd e hv
 ·exact⟨g,c,e⟩
theorem zjw {K:ByteArray→Prop} {w w':World} {e:Ending} (h:z9l K w e w') (h0:∀ s,¬ K s):z8s w e w':=by
 obtain⟨v,ys,rfl,_,hm,_,_,hb,g,c,rfl⟩:=h
 have:ys=[]:=List.eq_nil_iff_forall_not_mem.2 fun s hs=>h0 s ((hm s).1 hs)
 subst this
 exact⟨_,c,rfl,hb⟩
theorem lawNames (a:Option Addr) (len cap:Nat) (w:World) (hc:len≤1048576→CodeAt w.heap.size w a len) (hlm:len≤9223372036854775807) (hL:laidMetH Tryz.prog Rows.fnNamesRow.laid w) :
 Calls Tryz.prog 3 #[.slice a len cap] w fun e w'=>e=.returned (.bool true)∧Below w.heap.size w w':=by
 have HT:=z00 (zcn hL)
 obtain⟨i0,hi,hz0,hz1,hz2⟩:=info_parts zj4
 clear hL
 by_cases h0:1048576<len
 ·clear hc
  go_enter Tryz.func3,Tryz.ntmps3
  go_wp2
  go_ret
  exact⟨rfl,Below.refl _ _⟩
 ·have HC:=z00 (hc (by omega))
  clear hc
  go_enter Tryz.func3,Tryz.ntmps3
  go_wp2_with (first|(go_at_call 11;go_in))
  refine(z92 w _ len cap HC.out).mono ?_
  rintro e w1 ⟨na,nc,qs,k,rfl,hN,b1,⟨hS,hn⟩,hcase⟩
  have hex:∃ us,UnQ (qs.map Np.nd) k us∧(k=-1∨∃ kn:Nat,k=(kn:Int)∧MbT (qs.map Np.nd) kn us):=by
   rcases hcase with rfl|⟨hT,kn,rfl,hM,y,hy,h21⟩
   ·exact⟨[],.inr ⟨rfl,rfl⟩,.inl rfl⟩
   ·have hlt:=zms hM
    obtain⟨us,hU⟩:=zbl (z18 hT) hlt
    exact⟨us,.inl ⟨kn,rfl,hlt,hT,hU⟩,.inr ⟨kn,rfl,hT,fun x hx=>by obtain⟨q,hq,rfl⟩:=List.mem_map.1 hx;exact hS q hq,hU,hM,y,hy,h21⟩⟩
  obtain⟨us,hQ,hcs⟩:=hex
  have HQ:=z00 (And.intro hQ hcs)
  have HN:=z00 (And.intro hN hS)
  have HB1:=z00 b1
  have s1:=b1.size
  have qL:=zpn hN hS hQ
  clear hN hS hcase hQ hcs b1
  go_wp2_with fail
  refine qL.mono ?_
  rintro e w2 ⟨v1,ys1,rfl,n1,m1,l1,o1,b2,g1,c1,rfl⟩
  have B2:=HB1.out.trans (b2.mono s1)
  have HN2:=z00 (HN.out.1.below b2)
  have qN:=zk6 HN2.out HN.out.2 HQ.out.1
  have s2:=B2.size
  have HB2:=z00 B2
  have H1:=z00 (And.intro m1 n1)
  clear qL m1 n1 B2
  go_wp2_with fail
  refine qN.mono ?_
  rintro e w3 ⟨v2,ys2,rfl,n2,m2,l2,o2,b3,g2,c2,rfl⟩
  have B3:=HB2.out.trans (b3.mono s2)
  have o1':=z07 o1 b3
  have hcs2:=o2.cells (g:=g2) rfl
  have s3:=B3.size
  have s12:=b2.size
  have s23:=b3.size
  have HB3:=z00 B3
  have HN3:=z00 (HN2.out.below b3)
  have H2:=z00 (And.intro m2 n2)
  have hg1:=o1'.lt g1 rfl
  clear qN m2 n2 B3 o1 b2 b3 HN2 HB2
  obtain⟨L,hLL⟩:∃ L,L=ys1.length+ys2.length:=⟨_,rfl⟩
  have H12:=z00 (show (ys1++ys2).length=L by rw[List.length_append,hLL])
  have hbr:∀ s∈ys1++ys2,∃ i∈us,brB (qs.map Np.nd) i=true∧z0y (qs.map Np.nd) i=s:=fun s hs=>zib HQ.out.1 ((List.mem_append.1 hs).imp (H1.out.1 s).1 (H2.out.1 s).1)
  have HBR:=z00 hbr
  have HLL:=z00 hLL
  clear hbr hLL
  rcases Bool.eq_false_or_eq_true ((L:Int)==0) with hE|hE
  all_goals
   go_wp2_with (at_builtin;go_loud (refine z1z rfl _ _ 27 rfl w1.heap.size 9 i0 (.string ByteArray.empty) 1 16 Tryz.underlying27 hi hz0 hz1 hz2 rfl (by decide) (.slice (some ⟨g1,0,none⟩) ys1.length c1) ys1.length (z0h ys1) rfl o1' ⟨g2,0,none⟩ ys2.length c2 (z0h ys2) rfl (by unfold z0h;rw[List.length_map];omega) hcs2 (fun x hx=>by unfold z0h at hx;obtain⟨y,_,rfl⟩:=List.mem_map.1 hx;rfl) (by unfold maxLen;omega) (by omega) (by omega) ?_);intro v3 w4 o4 hg4 _ hnil4;rw[← HLL.out] at o4;obtain⟨g4,c4,rfl⟩:=zpv o4 (fun e=>by cases hnil4 e))
   rw[show z0h ys1++z0h ys2=z0h (ys1++ys2) by unfold z0h;rw[List.map_append]] at o4
   have B4:=HB3.out.grown hg4 (by omega) (fun k e=>by have h1:g1=k:=Option.some.inj e;omega)
   have HN4:=z00 (zdi HN3.out o1' hg4 (by decide) (by decide))
   have HB4:=z00 B4
   have s4:=B4.size
   clear o1' hcs2 o2 hg1 hg4 hnil4 HN3 HB3 B4
  ·have hL0:L=0:=by simpa using hE
   have e1:ys1=[]:=List.eq_nil_of_length_eq_zero (by have:=HLL.out;omega)
   have e2:ys2=[]:=List.eq_nil_of_length_eq_zero (by have:=HLL.out;omega)
   have h1e:∀ s,¬ s∈txs (qs.map Np.nd) (ltL (qs.map Np.nd) us):=fun s hs=>by have:=(H1.out.1 s).2 hs;rw[e1] at this;cases this
   have h2e:∀ s,¬ s∈txs (qs.map Np.nd) (nmL (qs.map Np.nd) us):=fun s hs=>by have:=(H2.out.1 s).2 hs;rw[e2] at this;cases this
   have HE:=z00 (And.intro h1e h2e)
   have q1:=zm0 HN4.out HN.out.2 hn HQ.out.1 h1e
   clear o4 e1 e2 h1e h2e H1 H2 H12 HBR
   go_wp2_with fail
   refine q1.mono ?_
   rintro e w5 ⟨a5,c5,rfl,b5⟩
   have HN5:=z00 (HN4.out.below b5)
   have B5:=HB4.out.trans (b5.mono s4)
   have q2:=ziv HN5.out HN.out.2 hn HQ.out.1 HE.out.2
   have s5:=B5.size
   have HB5:=z00 B5
   clear q1 b5 B5
   go_wp2_with fail
   refine q2.mono ?_
   rintro e w6 ⟨a6,c6,rfl,b6⟩
   have HN6:=z00 (HN5.out.below b6)
   have B6:=HB5.out.trans (b6.mono s5)
   have q3:=(zgx HN6.out HN.out.2 HQ.out.1).mono fun e w' h=>zjw h fun s hs=>HE.out.2 s hs.1
   have s6:=B6.size
   have HB6:=z00 B6
   clear q2 b6 B6
   go_wp2_with fail
   refine q3.mono ?_
   rintro e w7 ⟨a7,c7,rfl,b7⟩
   have B7:=HB6.out.trans (b7.mono s6)
   have q4:=(zd9 (HN6.out.below b7) HN.out.2 HQ.out.1).mono fun e w' h=>zjw h fun s hs=>HE.out.1 s hs.1
   have s7:=B7.size
   have HB7:=z00 B7
   clear q3 b7 B7
   go_wp2_with fail
   refine q4.mono ?_
   rintro e w8 ⟨a8,c8,rfl,b8⟩
   have B8:=HB7.out.trans (b8.mono s7)
   clear q4 b8
   go_wp2
   go_ret
   exact⟨rfl,B8⟩
  ·have hL0:0<L:=by
    rcases Nat.eq_zero_or_pos L with h|h
    ·rw[h] at hE;cases hE
    ·exact h
   obtain⟨x0,hx0⟩:∃ x0,(ys1++ys2)[0]?=some x0:=⟨_,List.getElem?_eq_getElem (by rw[H12.out];exact hL0)⟩
   obtain⟨kn,rfl,hM⟩:∃ kn:Nat,k=(kn:Int)∧MbT (qs.map Np.nd) kn us:=by
    rcases HQ.out.2 with hk|h
    ·obtain⟨i,hi,_⟩:=HBR.out x0 (List.mem_of_getElem? hx0)
     rcases HQ.out.1 with⟨n,hn2,_⟩|⟨_,h0⟩
     ·omega
     ·rw[h0] at hi;cases hi
    ·exact h
   have HM:=z00 hM
   clear hx0 hM H1 H2
   go_wp2_with fail
   refine(zex w4.heap.size _ a len cap (zlw HC.out HB4.out s4) (Nat.le_refl _)).mono ?_
   rintro e w5 ⟨vz,zs,hzl,hzr,rfl,hoz,b5⟩
   have HN5:=z00 (HN4.out.below b5)
   have B5:=HB4.out.trans (b5.mono s4)
   have s5:=B5.size
   have HB5:=z00 B5
   have o5:=z07 o4 b5
   obtain⟨z,hz⟩:∃ z,zs[0]?=some z:=⟨_,List.getElem?_eq_getElem (by omega)⟩
   obtain⟨hz1',hz2'⟩:=hzr z (List.mem_of_getElem? hz)
   obtain⟨az,cz,rfl⟩:=z06 hoz
   obtain⟨gz,rfl⟩:=z0s hoz (by omega)
   have hc0:=hoz.cellAt 0 (by omega)
   rw[show (zs.map (Value.int .i64))[0]?=some (.int .i64 z) by simp[hz]] at hc0
   obtain⟨zn,rfl⟩:∃ zn:Nat,z=(zn:Int):=⟨z.toNat,by omega⟩
   obtain⟨m,hm⟩:∃ m,m=zn % L:=⟨_,rfl⟩
   have hmL:m<L:=by rw[hm];exact Nat.mod_lt _ hL0
   have hm1:(zn:Int).tmod (L:Int)=(m:Int):=by rw[Int.tmod_eq_emod_of_nonneg (by omega),hm];rfl
   have hm2:(zn:Int) % (L:Int)=(m:Int):=by rw[hm];rfl
   obtain⟨f,hf⟩:∃ f,(ys1++ys2)[m]?=some f:=⟨_,List.getElem?_eq_getElem (by rw[H12.out];exact hmL)⟩
   obtain⟨i1,hi1,hb1,ht1⟩:=HBR.out f (List.mem_of_getElem? hf)
   have hi1l:=z40 HM.out.q i1 hi1
   have hfN:=zrj HM.out.2.1 hi1l hb1
   rw[ht1] at hfN
   have cf:w5.cell? ⟨g4,m,none⟩=some (.string f):=(o5.cellAt m (by omega)).trans (by unfold z0h;rw[List.getElem?_map,hf];rfl)
   have hA:(0:Int)≤(m:Int):=by omega
   have hB:(m:Int)<(L:Int):=by omega
   have HF:=z00 (And.intro hfN (show ∃ i∈us,brB (qs.map Np.nd) i=true∧z0y (qs.map Np.nd) i=f from⟨i1,hi1,hb1,ht1⟩))
   have qF:=zs9 HN5.out HN.out.2 hn (fun W hW=>HT.out W (B5.trans (hW.mono s5)))
   clear hz hzr hzl hoz b5 B5 o4 o5 hm hf hi1 hb1 ht1 hi1l hfN
   go_wp2_with fail
   refine qF.mono ?_
   rintro e w6 ⟨ci,hci,rfl,hno,b6⟩
   obtain⟨t,ht⟩:∃ t,t=z7a ci:=⟨_,rfl⟩
   have htN:=z7o (i:=ci) (by omega)
   rw[← ht] at hno htN ⊢
   have HT2:=z00 htN
   have hnoT:∀ i,i<(qs.map Np.nd).length→z0y (qs.map Np.nd) i≠t:=fun i hi e=>by
    have hx:(qs.map Np.nd)[i]?=some (qs.map Np.nd)[i]:=List.getElem?_eq_getElem hi
    rw[z1e hx] at e
    obtain⟨q,hq,hqe⟩:=List.mem_map.1 (List.mem_of_getElem? hx)
    exact hno q hq (by rw[hqe];exact e)
   have hcf:0<zau (qs.map Np.nd) us f:=by rw[← z9n];exact zsz.2 HF.out.2
   have hct:zau (qs.map Np.nd) us t=0:=by
    rw[← z9n]
    rcases Nat.eq_zero_or_pos (z2g (txs (qs.map Np.nd) (brL (qs.map Np.nd) us)) t) with h|h
    ·exact h
    ·obtain⟨i,hi,_,e⟩:=zsz.1 h
     exact absurd e (hnoT i (z40 HM.out.q i hi))
   have HNT:=z00 hnoT
   have HCF:=z00 (And.intro hcf hct)
   have HN6:=z00 (HN5.out.below b6)
   have B6:=HB5.out.trans (b6.mono s5)
   have s6:=B6.size
   have HB6:=z00 B6
   have qR:=zqt HN6.out HM.out HF.out.1.2 htN.1 (by omega) hcf hct
   clear qF hno htN hnoT hcf hct b6 B6 ht
   go_wp2_with fail
   refine qR.mono ?_
   rintro e w7 ⟨pa,pc,ps,rfl,hP,hR,b7⟩
   have HN7:=z00 (HN6.out.below b7)
   have B7:=HB6.out.trans (b7.mono s6)
   have s7:=B7.size
   have HB7:=z00 B7
   have HP7:=z00 hP
   have HR:=z00 hR
   have hMa:=HM.out.ren hR HT2.out.1 (by have:=HT2.out.2;omega)
   have HMa:=z00 hMa
   have hlt:=z40 HM.out.q
   have hne:t≠f:=fun e=>by
    obtain⟨i,hi,_,h3⟩:=HF.out.2
    exact HNT.out i (hlt i hi) (by rw[h3,e])
   have hca:zau (ps.map Np.nd) us t=zau (qs.map Np.nd) us f:=zl2 hR hlt (fun i hi _=>HNT.out i (hlt i hi))
   have hcb:zau (ps.map Np.nd) us f=0:=zlm hR hlt hne
   have HCA:=z00 (And.intro hca hcb)
   have qS:=zqt hP hMa (f:=t) (t:=f) (by have:=HT2.out.2;omega) HF.out.1.1 HF.out.1.2 (by rw[hca];exact HCF.out.1) hcb
   clear qR hP hR hMa hlt hne hca hcb b7 B7
   go_wp2_with fail
   refine qS.mono ?_
   rintro e w8 ⟨oa,oc,os,rfl,hO,hR2,b8⟩
   have hsh:=z43 HR.out
   have hback:os.map Np.nd=qs.map Np.nd:=by
    refine zl4 HR.out (fun i x hi hx e=>HNT.out i (List.getElem?_eq_some_iff.1 hx).1 (by rw[z1e hx];exact e)) (zbx hR2 fun i=>?_)
    unfold brB
    rw[z4o hsh]
   have HBK:=z00 hback
   have HO8:=z00 hO
   have HN8:=z00 (HN7.out.below b8)
   have HP8:=z00 (HP7.out.below b8)
   have B8:=HB7.out.trans (b8.mono s7)
   have s8:=B8.size
   have HB8:=z00 B8
   have qE:=zgx HN8.out HN.out.2 HM.out.q
   clear qS hO hR2 hsh hback b8 B8 HP7 HN7
   go_wp2_with fail
   refine qE.mono ?_
   rintro e w9 ⟨v9,ys9,rfl,n9,m9,l9,o9,b9,g9,c9,rfl⟩
   have HO9:=z00 (HO8.out.below b9)
   have HN9:=z00 (HN8.out.below b9)
   have HP9:=z00 (HP8.out.below b9)
   have B9:=HB8.out.trans (b9.mono s8)
   have s9:=B9.size
   have HB9:=z00 B9
   have HM9:=z00 m9
   have HO9':=z00 o9
   clear qE m9 n9 b9 B9 o9 HO8 HN8 HP8
   have h12:∀ q∈qs,q.nd.kids.length≤12:=fun q hq=>by
    obtain⟨j,hj⟩:=List.getElem?_of_mem hq
    exact z34 (z0x HM.out.1.deep (by have:=(List.getElem?_eq_some_iff.1 hj).1;simpa using this) (show (qs.map Np.nd)[j]?=some q.nd by rw[List.getElem?_map,hj];rfl)).cnt
   have H12k:=z00 h12
   have hpl:ps.length≤300:=by have:=HMa.out.1.most;simpa using this
   have hPS:∀ q∈ps,SafeNd q.nd:=fun q hq=>HMa.out.2.1 _ (List.mem_map_of_mem hq)
   have HPS:=z00 hPS
   obtain⟨fn,hfn⟩:∃ fn,fn=zau (qs.map Np.nd) us f:=⟨_,rfl⟩
   obtain⟨un,hun⟩:∃ un,un=us.length:=⟨_,rfl⟩
   have HFN:=z00 hfn
   have HUN:=z00 hun
   clear h12 hPS hfn hun
   go_wp2
   go_loopw [13] (fun i wr=>∃ j:Nat,j≤ys9.length∧i=.int .i64 (j:Int)∧Hid (Below w9.heap.size w9 wr)) (fun i _=>ys9.length-(intOf i).toNat)
   case atStart=>exact⟨0,Nat.zero_le _,rfl,z00 (Below.refl _ _)⟩
   case round =>
    obtain⟨j,hj,rfl,HW⟩:=hrel
    have hws:=HW.out.size
    by_cases hlt:j<ys9.length
    ·obtain⟨s,hs⟩:∃ s,ys9[j]?=some s:=⟨_,List.getElem?_eq_getElem hlt⟩
     obtain⟨sb,hsb,_,cs⟩:=zh3 (z07 HO9'.out HW.out) hs
     obtain rfl:g9=sb:=by injection hsb with hsb;injection hsb
     have hsn:=((HM9.out s).1 (List.mem_of_getElem? hs)).1
     have hc9:=zsz.2 (zib HM.out.q (.inr hsn))
     rw[z9n] at hc9
     have qC:=za3 (HN9.out.below HW.out) HM.out (s:=s) (z7z HN.out.2 hsn)
     obtain⟨cn,hcn⟩:∃ cn,cn=zau (qs.map Np.nd) us s:=⟨_,rfl⟩
     rw[← hcn] at qC hc9
     have hce:((cn:Int)==0)=false:=by rw[beq_eq_false_iff_ne];omega
     have hA:(0:Int)≤(j:Int):=by omega
     have hB:(j:Int)<(ys9.length:Int):=by omega
     clear hs hsb hsn hcn hc9
     go_wp2_with fail
     refine qC.mono ?_
     rintro e w10 ⟨rfl,b10⟩
     have HB10:=z00 (HW.out.trans (b10.mono hws))
     clear qC b10
     go_wp2
     go_roundw
     case rel=>exact⟨j+1,by omega,by go_num,HB10⟩
     case measure=>simp[intOf];omega
    ·obtain rfl:j=ys9.length:=by omega
     have HN10:=z00 (HN9.out.below HW.out)
     have HP10:=z00 (HP9.out.below HW.out)
     have HO10:=z00 (HO9.out.below HW.out)
     have B10:=HB9.out.trans (HW.out.mono s9)
     have HB10:=z00 B10
     have s10:=B10.size
     have qE:=zfa HO10.out HN10.out HBK.out hn H12k.out
     have hlq:¬ ((ys9.length:Int)<(ys9.length:Int)):=by omega
     clear B10 hlt HN9 HP9 HO9 HO9' HB9 HW
     go_wp2_with fail
     refine qE.mono ?_
     rintro e w11 ⟨rfl,nq,hw11⟩
     have b11:Below wr.heap.size wr w11:=by rw[hw11];exact z0e _ _
     have HN11:=z00 (HN10.out.below b11)
     have HP11:=z00 (HP10.out.below b11)
     have B11:=HB10.out.trans (b11.mono s10)
     have HB11:=z00 B11
     have s11:=B11.size
     have qT:=z68 _ w11 _ _ ps HP11.out HPS.out hpl
     clear qE hw11 b11 B11 HN10 HP10 HO10 HB10
     go_wp2_with fail
     refine qT.mono ?_
     rintro e w12 h12
     obtain⟨rfl,b12⟩:=h12.yes HMa.out.1
     have HN12:=z00 (HN11.out.below b12)
     have HP12:=z00 (HP11.out.below b12)
     have B12:=HB11.out.trans (b12.mono s11)
     have HB12:=z00 B12
     have s12':=B12.size
     have q1:=za3 HP12.out HMa.out (s:=f) HF.out.1.2
     rw[HCA.out.2] at q1
     clear qT h12 b12 B12 HN11 HP11 HB11
     go_wp2_with fail
     refine q1.mono ?_
     rintro e w13 ⟨rfl,b13⟩
     have HN13:=z00 (HN12.out.below b13)
     have HP13:=z00 (HP12.out.below b13)
     have B13:=HB12.out.trans (b13.mono s12')
     have HB13:=z00 B13
     have s13:=B13.size
     have q2:=za3 HP13.out HMa.out (s:=t) (by have:=HT2.out.2;omega)
     rw[HCA.out.1,← HFN.out] at q2
     clear q1 b13 B13 HN12 HP12 HB12
     go_wp2_with fail
     refine q2.mono ?_
     rintro e w14 ⟨rfl,b14⟩
     have HN14:=z00 (HN13.out.below b14)
     have HP14:=z00 (HP13.out.below b14)
     have B14:=HB13.out.trans (b14.mono s13)
     have HB14:=z00 B14
     have s14:=B14.size
     have q3:=za3 HN14.out HM.out (s:=f) HF.out.1.2
     rw[← HFN.out] at q3
     clear q2 b14 B14 HN13 HP13 HB13
     go_wp2_with fail
     refine q3.mono ?_
     rintro e w15 ⟨rfl,b15⟩
     have HN15:=z00 (HN14.out.below b15)
     have HP15:=z00 (HP14.out.below b15)
     have B15:=HB14.out.trans (b15.mono s14)
     have HB15:=z00 B15
     have s15:=B15.size
     have q4:=zd9 HP15.out HPS.out HMa.out.q
     have hff:((fn:Int)==(fn:Int))=true:=by simp
     clear q3 b15 B15 HN14 HP14 HB14
     go_wp2_with fail
     refine q4.mono ?_
     rintro e w16 ⟨v16,V,rfl,n16,m16,l16,o16,b16,g16,c16,rfl⟩
     have HV:=z00 (And.intro n16 m16)
     have HN16:=z00 (HN15.out.below b16)
     have B16:=HB15.out.trans (b16.mono s15)
     have HB16:=z00 B16
     have s16:=B16.size
     have q5:=zd9 HN16.out HN.out.2 HM.out.q
     clear q4 n16 m16 o16 b16 B16 HN15 HP15 HB15
     go_wp2_with fail
     refine q5.mono ?_
     rintro e w17 ⟨v17,U,rfl,n17,m17,l17,o17,b17,g17,c17,rfl⟩
     have hUV:V.length=U.length:=zeu HM.out.q HMa.out.q HR.out (fun i hi _=>HNT.out i (z40 HM.out.q i hi)) n17 HV.out.1 m17 HV.out.2
     rw[hUV]
     have HN17:=z00 (HN16.out.below b17)
     have B17:=HB16.out.trans (b17.mono s16)
     have HB17:=z00 B17
     have s17:=B17.size
     have q6:=zjh HN17.out HN.out.2 HM.out.q
     have huu:((U.length:Int)==(U.length:Int))=true:=by simp
     clear q5 n17 m17 o17 b17 B17 HN16 HB16 hUV
     go_wp2_with fail
     refine q6.mono ?_
     rintro e w18 ⟨g18,c18,rfl,o18,b18⟩
     rw[← HUN.out]
     have HN18:=z00 (HN17.out.below b18)
     have B18:=HB17.out.trans (b18.mono s17)
     have hkl:kn<qs.length:=by
      obtain⟨y,hy,_⟩:=HM.out.2.2.2.2
      have:=(List.getElem?_eq_some_iff.1 hy).1
      simpa using this
     have hdn:z2r (qs.map Np.nd) qs.length:=by have:=z18 HM.out.1;simpa using this
     have htd:=z18 HM.out.1
     have q7:=zqy (B:=w.heap.size) (a:=na) (c:=nc) hdn H12k.out (fun j hj=>by
      obtain⟨us',hU'⟩:=zbl htd (show j<(qs.map Np.nd).length by simpa using hj)
      rw[← zbn HM.out.1 (by simpa using hj) hU']
      have:=z6n htd (show j<(qs.map Np.nd).length by simpa using hj) hU'
      have:=HM.out.1.most
      omega) (kn+1) kn (Nat.lt_succ_self _) hkl w18 HN18.out
     rw[← zbn HM.out.1 (by simpa using hkl) HM.out.2.2.1,← HUN.out] at q7
     have hnn:((un:Int)==(un:Int))=true:=by simp
     clear q6 o18 b18 hdn htd
     go_wp2_with fail
     refine q7.mono ?_
     rintro e w19 ⟨rfl,rfl⟩
     clear q7
     go_wp2
     go_ret
     exact⟨rfl,B18⟩
end Go.Proofs.YtekebloinobjnaaGreatDoor
