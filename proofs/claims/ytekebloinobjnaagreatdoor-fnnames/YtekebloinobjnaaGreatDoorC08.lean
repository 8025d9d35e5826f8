/- Texts of one proof, laid together: TrI6, TrI7. -/
import Derived.Test.YtekebloinobjnaaGreatDoorC07
set_option maxHeartbeats 16000000
set_option maxRecDepth 100000
namespace Go.Proofs.YtekebloinobjnaaGreatDoor
open Go.RowKit
def InF (ks:List Int) (n:Nat) (z:Int):Prop:=∃ i,i<n∧ks[i]?=some z
theorem zrv {w:World} {b c n:Nat} {ks:List Int} {z:Int} (hn:n≤ks.length) (hm:ks.length≤12) (hc:∀ i u,ks[i]?=some u→w.cell? ⟨b,i,none⟩=some (.int .i64 u)) :
 Calls Tryz.prog 141 #[.slice (some ⟨b,0,none⟩) n c,.int .i64 z] w fun e w'=>w'=w∧∃ r:Int,e=.returned (.int .i64 r)∧(0≤r↔InF ks n z):=by
 have HC:=z00 hc
 clear hc
 go_enter Tryz.func141,Tryz.ntmps141
 go_wp2
 go_loop [8] (fun i=>∃ j:Nat,j≤n∧i=.int .i64 (j:Int)∧Hid (∀ i',i'<j→ks[i']?≠some z)) (fun i=>n-(intOf i).toNat)
 case atStart=>exact⟨0,Nat.zero_le _,rfl,z00 fun i h=>by omega⟩
 case round =>
  obtain⟨j,hj,rfl,HQ⟩:=hrel
  by_cases hlt:j<n
  ·have hA:(0:Int)≤(j:Int):=by omega
   have hB:(j:Int)<(n:Int):=by omega
   obtain⟨u,eu⟩:∃ u,ks[j]?=some u:=⟨_,List.getElem?_eq_getElem (by omega)⟩
   have cu:=HC.out j u eu
   have EU:=z00 eu
   clear eu
   cases hzu:(z==u) with
   | true =>
     have HE:=z00 (show InF ks n z from⟨j,hlt,by rw[show z=u by simpa using hzu];exact EU.out⟩)
     go_wp2
     go_ret
     exact⟨rfl,(j:Int),rfl,by simp[HE.out]⟩
   | false =>
     have HE:=z00 (show z≠u from by simpa using hzu)
     go_wp2
     go_round
     case rel=>exact⟨j+1,by omega,by go_num,z00 fun i' h9 e9=>by
      by_cases e:i'=j
      ·subst e;rw[EU.out] at e9;injection e9 with e9;exact HE.out e9.symm
      ·exact HQ.out i' (by omega) e9⟩
     case measure=>simp[intOf];omega
  ·have hB:¬ (j:Int)<(n:Int):=by omega
   go_wp2
   go_ret
   refine⟨rfl,-1,rfl,?_⟩
   constructor
   ·intro e;omega
   ·rintro⟨i,h1,h2⟩;exact absurd h2 (HQ.out i (by omega))
theorem zv3 {w:World} {b c n:Nat} {ks:List Int} {z:Int} (hn:n≤ks.length) (hm:ks.length≤12) (hc:∀ i u,ks[i]?=some u→w.cell? ⟨b,i,none⟩=some (.int .i64 u)) :
 Calls Tryz.prog 104 #[.slice (some ⟨b,0,none⟩) n c,.int .i64 z] w (zfs (InF ks n z) w):=by
 have q:=zrv (c:=c) (z:=z) hn hm hc
 clear hc
 go_enter Tryz.func104,Tryz.ntmps104
 go_wp2_with fail
 refine q.mono ?_
 rintro e w1 ⟨rfl,r,rfl,hr⟩
 have HR:=z00 hr
 clear hr q
 obtain⟨bb,hbb⟩:∃ bb,bb=decide ((0:Int)≤r):=⟨_,rfl⟩
 have HB:=z00 (show bb=true↔(0:Int)≤r by rw[hbb];simp)
 go_wp2
 rw[← hbb]
 go_ret
 exact⟨bb,rfl,HB.out.trans HR.out,rfl⟩
theorem zq8 {w:World} {B:Nat} {a:Option Addr} {c k:Nat} {qs:List Np} {q:Np} (h:Nds w B a c qs) (h1:qs[k]?=some q) :
 Calls Tryz.prog 176 #[.slice q.a q.nd.kids.length q.c,.int .i64 (k:Int)] w (zfs (q.nd.kids.length≤12∧PlK q.nd.kids k q.nd.kids.length) w):=by
 obtain⟨⟨kd,tx,ks,bl⟩,ka,kc⟩:=q
 have HH:=z00 (show ∀ i z,ks[i]?=some z→∃ b,ka=some ⟨b,0,none⟩∧b<w.heap.size∧w.cell? ⟨b,i,none⟩=some (.int .i64 z) from fun i z hz=>h.kid h1 hz)
 have hcap:ks.length≤kc:=by
  rcases(h.each _ (List.mem_of_getElem? h1)).2 with⟨e,e2⟩|⟨g,cap,cur,e,_,_,hnc,_⟩
  ·simp only at e2;omega
  ·injection e with _ _ e3
   rw[show kc=cap from e3]
   exact hnc
 clear h h1
 show Calls _ _ #[.slice ka ks.length kc,_] _ (zfs (ks.length≤12∧PlK ks k ks.length) w)
 obtain⟨P,hP⟩:∃ P,P=(ks.length≤12∧PlK ks k ks.length):=⟨_,rfl⟩
 have HP:=z00 (show P↔(ks.length≤12∧PlK ks k ks.length) by rw[hP])
 rw[← hP]
 clear hP
 by_cases h12:ks.length≤12
 case neg =>
  have hgt:(12:Int)<(ks.length:Int):=by omega
  have HN:=z00 h12
  clear h12
  go_enter Tryz.func176,Tryz.ntmps176
  go_wp2
  go_ret
  exact z5j (fun e=>HN.out (HP.out.1 e).1)
 have hgt:¬ (12:Int)<(ks.length:Int):=by omega
 go_enter Tryz.func176,Tryz.ntmps176
 go_wp2
 go_loop [12] (fun i=>∃ j:Nat,j≤ks.length∧i=.int .i64 (j:Int)∧Hid (PlK ks k j)) (fun i=>ks.length-(intOf i).toNat)
 case atStart=>exact⟨0,Nat.zero_le _,rfl,z00 (z6l ks k)⟩
 case round =>
  obtain⟨j,hj,rfl,HPL⟩:=hrel
  by_cases hlt:j<ks.length
  ·have hA:(0:Int)≤(j:Int):=by omega
   have hB:(j:Int)<(ks.length:Int):=by omega
   have hB2:(j:Int)≤(kc:Int):=by omega
   obtain⟨z,ez⟩:∃ z,ks[j]?=some z:=⟨_,List.getElem?_eq_getElem hlt⟩
   obtain⟨b,rfl,hb,ck⟩:=HH.out j z ez
   have qH:=zv3 (c:=kc) (z:=z) hj h12 (fun i u hu=>by
    obtain⟨b',e1,-,e3⟩:=HH.out i u hu
    obtain rfl:b=b':=by injection e1 with e1;injection e1
    exact e3)
   have EZ:=z00 ez
   clear ez
   by_cases hz0:z<0
   ·have HN:=z00 (show ¬ P from fun e=>by replace e:=HP.out.1 e;have:=(e.2.1 j z hlt EZ.out).1;omega)
    go_wp2
    go_ret
    exact z5j HN.out
   by_cases hzk:(k:Int)≤z
   ·have HN:=z00 (show ¬ P from fun e=>by replace e:=HP.out.1 e;have:=(e.2.1 j z hlt EZ.out).2;omega)
    go_wp2
    go_ret
    exact z5j HN.out
   by_cases hin:InF ks j z
   ·have HI:=z00 hin
    have HN:=z00 (show ¬ P from fun e=>by replace e:=HP.out.1 e;obtain⟨i,h1,h2⟩:=hin;exact e.2.2 i j z h1 hlt h2 EZ.out)
    clear hin
    go_wp2_with fail
    refine qH.mono ?_
    rintro e w1 h9
    obtain⟨rfl,rfl⟩:=h9.yes HI.out
    clear h9 qH
    go_wp2
    go_ret
    exact z5j HN.out
   ·have HI:=z00 hin
    clear hin
    go_wp2_with fail
    refine qH.mono ?_
    rintro e w1 h9
    obtain⟨rfl,rfl⟩:=h9.no HI.out
    clear h9 qH
    go_wp2
    go_round
    case rel=>exact⟨j+1,by omega,by go_num,z00 (z6m HPL.out EZ.out (by omega) (fun i h1 h2=>HI.out ⟨i,h1,h2⟩))⟩
    case measure=>simp[intOf];omega
  ·have hB:¬ (j:Int)<(ks.length:Int):=by omega
   obtain rfl:j=ks.length:=by omega
   go_wp2
   go_ret
   exact z4e (HP.out.2 ⟨h12,HPL.out⟩)
def z1q (k:Int):Value:=
 if k=1 then .iface 208 (.agg #[])
 else if k=2 then .iface 208 (.agg #[])
 else if k=3 then .iface 208 (.agg #[])
 else if k=4 then .iface 210 (.agg #[.int .i64 0,.int .i64 12])
 else if k=5 then .iface 210 (.agg #[.int .i64 1,.int .i64 12])
 else if k=6 then .iface 210 (.agg #[.int .i64 1,.int .i64 1])
 else if k=7 then .iface 210 (.agg #[.int .i64 2,.int .i64 12])
 else if k=8 then .iface 210 (.agg #[.int .i64 3,.int .i64 3])
 else if k=9 then .iface 212 (.agg #[.int .i64 1])
 else if k=10 then .iface 213 (.agg #[])
 else if k=11 then .iface 210 (.agg #[.int .i64 1,.int .i64 1])
 else if k=12 then .iface 210 (.agg #[.int .i64 0,.int .i64 1])
 else if k=13 then .iface 210 (.agg #[.int .i64 1,.int .i64 1])
 else if k=14 then .iface 210 (.agg #[.int .i64 1,.int .i64 1])
 else if k=15 then .iface 210 (.agg #[.int .i64 0,.int .i64 1])
 else if k=16 then .iface 215 (.agg #[.int .i64 3])
 else if k=17 then .iface 215 (.agg #[.int .i64 2])
 else if k=18 then .iface 217 (.agg #[.int .i64 5])
 else if k=19 then .iface 208 (.agg #[])
 else if k=20 then .iface 212 (.agg #[.int .i64 4])
 else if k=21 then .iface 217 (.agg #[.int .i64 6])
 else if k=22 then .iface 217 (.agg #[.int .i64 7])
 else .nilIface
def cI (k:Int) (n:Nat):Bool:=
 if k=1 then decide (n=0)
 else if k=2 then decide (n=0)
 else if k=3 then decide (n=0)
 else if k=4 then decide (n≤12)
 else if k=5 then decide (1≤n∧n≤12)
 else if k=6 then decide (n=1)
 else if k=7 then decide (2≤n∧n≤12)
 else if k=8 then decide (n=3)
 else if k=9 then decide (1≤n)
 else if k=10 then decide (1≤n)
 else if k=11 then decide (n=1)
 else if k=12 then decide (n≤1)
 else if k=13 then decide (n=1)
 else if k=14 then decide (n=1)
 else if k=15 then decide (n≤1)
 else if k=16 then decide (2≤n∧n≤3)
 else if k=17 then decide (n=2)
 else if k=18 then true
 else if k=19 then decide (n=0)
 else if k=20 then decide (1≤n)
 else if k=21 then true
 else if k=22 then true
 else false
theorem zdl {k:Int} (h:¬ (1≤k∧k≤22)):z1q k=.nilIface:=by
 unfold z1q
 rw[if_neg (show ¬ k=1 by omega)]
 rw[if_neg (show ¬ k=2 by omega)]
 rw[if_neg (show ¬ k=3 by omega)]
 rw[if_neg (show ¬ k=4 by omega)]
 rw[if_neg (show ¬ k=5 by omega)]
 rw[if_neg (show ¬ k=6 by omega)]
 rw[if_neg (show ¬ k=7 by omega)]
 rw[if_neg (show ¬ k=8 by omega)]
 rw[if_neg (show ¬ k=9 by omega)]
 rw[if_neg (show ¬ k=10 by omega)]
 rw[if_neg (show ¬ k=11 by omega)]
 rw[if_neg (show ¬ k=12 by omega)]
 rw[if_neg (show ¬ k=13 by omega)]
 rw[if_neg (show ¬ k=14 by omega)]
 rw[if_neg (show ¬ k=15 by omega)]
 rw[if_neg (show ¬ k=16 by omega)]
 rw[if_neg (show ¬ k=17 by omega)]
 rw[if_neg (show ¬ k=18 by omega)]
 rw[if_neg (show ¬ k=19 by omega)]
 rw[if_neg (show ¬ k=20 by omega)]
 rw[if_neg (show ¬ k=21 by omega)]
 rw[if_neg (show ¬ k=22 by omega)]
theorem zpa {k:Int} {n:Nat} (h:¬ (1≤k∧k≤22)):cI k n=false:=by
 unfold cI
 rw[if_neg (show ¬ k=1 by omega)]
 rw[if_neg (show ¬ k=2 by omega)]
 rw[if_neg (show ¬ k=3 by omega)]
 rw[if_neg (show ¬ k=4 by omega)]
 rw[if_neg (show ¬ k=5 by omega)]
 rw[if_neg (show ¬ k=6 by omega)]
 rw[if_neg (show ¬ k=7 by omega)]
 rw[if_neg (show ¬ k=8 by omega)]
 rw[if_neg (show ¬ k=9 by omega)]
 rw[if_neg (show ¬ k=10 by omega)]
 rw[if_neg (show ¬ k=11 by omega)]
 rw[if_neg (show ¬ k=12 by omega)]
 rw[if_neg (show ¬ k=13 by omega)]
 rw[if_neg (show ¬ k=14 by omega)]
 rw[if_neg (show ¬ k=15 by omega)]
 rw[if_neg (show ¬ k=16 by omega)]
 rw[if_neg (show ¬ k=17 by omega)]
 rw[if_neg (show ¬ k=18 by omega)]
 rw[if_neg (show ¬ k=19 by omega)]
 rw[if_neg (show ¬ k=20 by omega)]
 rw[if_neg (show ¬ k=21 by omega)]
 rw[if_neg (show ¬ k=22 by omega)]
theorem zsb {k:Int} {n:Nat} (h12:n≤12) (hc:k=10→n≠1):cI k n=true↔(1≤k∧k≤22)∧zjy k n:=by
 by_cases h:1≤k∧k≤22
 ·rcases z2j h with rfl|rfl|rfl|rfl|rfl|rfl|rfl|rfl|rfl|rfl|rfl|rfl|rfl|rfl|rfl|rfl|rfl|rfl|rfl|rfl|rfl|rfl
  all_goals simp[cI,zjy]
  all_goals omega
 ·rw[zpa h]
  simp[h]
theorem zt9 (k:Int) (w:World):Calls Tryz.prog 209 #[.int .i64 k] w fun e w'=>e=.returned (z1q k)∧w'=w:=by
 by_cases h:1≤k∧k≤22
 ·rcases z2j h with rfl|rfl|rfl|rfl|rfl|rfl|rfl|rfl|rfl|rfl|rfl|rfl|rfl|rfl|rfl|rfl|rfl|rfl|rfl|rfl|rfl|rfl
  all_goals clear h
  all_goals go_enter Tryz.func209,Tryz.ntmps209
  all_goals go_wp2
  all_goals go_ret
  all_goals exact⟨rfl,rfl⟩
 ·have HN:=z00 (zdl h)
  have n1:(k==1)=false:=by rw[beq_eq_false_iff_ne];omega
  have n2:(k==2)=false:=by rw[beq_eq_false_iff_ne];omega
  have n3:(k==3)=false:=by rw[beq_eq_false_iff_ne];omega
  have n4:(k==4)=false:=by rw[beq_eq_false_iff_ne];omega
  have n5:(k==5)=false:=by rw[beq_eq_false_iff_ne];omega
  have n6:(k==6)=false:=by rw[beq_eq_false_iff_ne];omega
  have n7:(k==7)=false:=by rw[beq_eq_false_iff_ne];omega
  have n8:(k==8)=false:=by rw[beq_eq_false_iff_ne];omega
  have n9:(k==9)=false:=by rw[beq_eq_false_iff_ne];omega
  have n10:(k==10)=false:=by rw[beq_eq_false_iff_ne];omega
  have n11:(k==11)=false:=by rw[beq_eq_false_iff_ne];omega
  have n12:(k==12)=false:=by rw[beq_eq_false_iff_ne];omega
  have n13:(k==13)=false:=by rw[beq_eq_false_iff_ne];omega
  have n14:(k==14)=false:=by rw[beq_eq_false_iff_ne];omega
  have n15:(k==15)=false:=by rw[beq_eq_false_iff_ne];omega
  have n16:(k==16)=false:=by rw[beq_eq_false_iff_ne];omega
  have n17:(k==17)=false:=by rw[beq_eq_false_iff_ne];omega
  have n18:(k==18)=false:=by rw[beq_eq_false_iff_ne];omega
  have n19:(k==19)=false:=by rw[beq_eq_false_iff_ne];omega
  have n20:(k==20)=false:=by rw[beq_eq_false_iff_ne];omega
  have n21:(k==21)=false:=by rw[beq_eq_false_iff_ne];omega
  have n22:(k==22)=false:=by rw[beq_eq_false_iff_ne];omega
  clear h
  go_enter Tryz.func209,Tryz.ntmps209
  go_wp2
  go_ret
  exact⟨by rw[HN.out];rfl,rfl⟩
theorem zjz (v:Value) (w:World):(Instr.typeAssert (.iface 210 v) 188 210 true).run Tryz.prog w=.ok (.tuple #[v,.bool true]) w:=by
 unfold Instr.typeAssert
 rw[Sem.run_bind,run_underlying Tryz.underlying210,Result.andThen_ok]
 first|rfl|(dsimp only;simp[Sem.run_bind,Result.andThen_ok,Sem.run_pure])
theorem zt7 (v:Value) (w:World):(Instr.typeAssert (.iface 212 v) 188 210 true).run Tryz.prog w=.ok (.tuple #[.agg #[.int .i64 0,.int .i64 0],.bool false]) w:=by
 unfold Instr.typeAssert
 rw[Sem.run_bind,run_underlying Tryz.underlying210,Result.andThen_ok]
 dsimp only
 simp[Result.andThen_ok]
theorem zt5 (v:Value) (w:World):(Instr.typeAssert (.iface 212 v) 188 212 true).run Tryz.prog w=.ok (.tuple #[v,.bool true]) w:=by
 unfold Instr.typeAssert
 rw[Sem.run_bind,run_underlying Tryz.underlying212,Result.andThen_ok]
 first|rfl|(dsimp only;simp[Sem.run_bind,Result.andThen_ok,Sem.run_pure])
theorem zv0 (v:Value) (w:World):(Instr.typeAssert (.iface 213 v) 188 210 true).run Tryz.prog w=.ok (.tuple #[.agg #[.int .i64 0,.int .i64 0],.bool false]) w:=by
 unfold Instr.typeAssert
 rw[Sem.run_bind,run_underlying Tryz.underlying210,Result.andThen_ok]
 dsimp only
 simp[Result.andThen_ok]
theorem zuz (v:Value) (w:World):(Instr.typeAssert (.iface 213 v) 188 212 true).run Tryz.prog w=.ok (.tuple #[.agg #[.int .i64 0],.bool false]) w:=by
 unfold Instr.typeAssert
 rw[Sem.run_bind,run_underlying Tryz.underlying212,Result.andThen_ok]
 dsimp only
 simp[Result.andThen_ok]
theorem zut (v:Value) (w:World):(Instr.typeAssert (.iface 213 v) 188 213 true).run Tryz.prog w=.ok (.tuple #[v,.bool true]) w:=by
 unfold Instr.typeAssert
 rw[Sem.run_bind,run_underlying Tryz.underlying213,Result.andThen_ok]
 first|rfl|(dsimp only;simp[Sem.run_bind,Result.andThen_ok,Sem.run_pure])
theorem zt1 (v:Value) (w:World):(Instr.typeAssert (.iface 215 v) 188 210 true).run Tryz.prog w=.ok (.tuple #[.agg #[.int .i64 0,.int .i64 0],.bool false]) w:=by
 unfold Instr.typeAssert
 rw[Sem.run_bind,run_underlying Tryz.underlying210,Result.andThen_ok]
 dsimp only
 simp[Result.andThen_ok]
theorem zt3 (v:Value) (w:World):(Instr.typeAssert (.iface 215 v) 188 212 true).run Tryz.prog w=.ok (.tuple #[.agg #[.int .i64 0],.bool false]) w:=by
 unfold Instr.typeAssert
 rw[Sem.run_bind,run_underlying Tryz.underlying212,Result.andThen_ok]
 dsimp only
 simp[Result.andThen_ok]
theorem zsx (v:Value) (w:World):(Instr.typeAssert (.iface 215 v) 188 213 true).run Tryz.prog w=.ok (.tuple #[.agg #[],.bool false]) w:=by
 unfold Instr.typeAssert
 rw[Sem.run_bind,run_underlying Tryz.underlying213,Result.andThen_ok]
 dsimp only
 simp[Result.andThen_ok]
theorem zt4 (v:Value) (w:World):(Instr.typeAssert (.iface 215 v) 188 215 true).run Tryz.prog w=.ok (.tuple #[v,.bool true]) w:=by
 unfold Instr.typeAssert
 rw[Sem.run_bind,run_underlying Tryz.underlying215,Result.andThen_ok]
 first|rfl|(dsimp only;simp[Sem.run_bind,Result.andThen_ok,Sem.run_pure])
theorem ztf (v:Value) (w:World):(Instr.typeAssert (.iface 217 v) 188 210 true).run Tryz.prog w=.ok (.tuple #[.agg #[.int .i64 0,.int .i64 0],.bool false]) w:=by
 unfold Instr.typeAssert
 rw[Sem.run_bind,run_underlying Tryz.underlying210,Result.andThen_ok]
 dsimp only
 simp[Result.andThen_ok]
theorem zuf (v:Value) (w:World):(Instr.typeAssert (.iface 217 v) 188 212 true).run Tryz.prog w=.ok (.tuple #[.agg #[.int .i64 0],.bool false]) w:=by
 unfold Instr.typeAssert
 rw[Sem.run_bind,run_underlying Tryz.underlying212,Result.andThen_ok]
 dsimp only
 simp[Result.andThen_ok]
theorem zui (v:Value) (w:World):(Instr.typeAssert (.iface 217 v) 188 213 true).run Tryz.prog w=.ok (.tuple #[.agg #[],.bool false]) w:=by
 unfold Instr.typeAssert
 rw[Sem.run_bind,run_underlying Tryz.underlying213,Result.andThen_ok]
 dsimp only
 simp[Result.andThen_ok]
theorem zu6 (v:Value) (w:World):(Instr.typeAssert (.iface 217 v) 188 215 true).run Tryz.prog w=.ok (.tuple #[.agg #[.int .i64 0],.bool false]) w:=by
 unfold Instr.typeAssert
 rw[Sem.run_bind,run_underlying Tryz.underlying215,Result.andThen_ok]
 dsimp only
 simp[Result.andThen_ok]
theorem ztu (v:Value) (w:World):(Instr.typeAssert (.iface 217 v) 188 217 true).run Tryz.prog w=.ok (.tuple #[v,.bool true]) w:=by
 unfold Instr.typeAssert
 rw[Sem.run_bind,run_underlying Tryz.underlying217,Result.andThen_ok]
 first|rfl|(dsimp only;simp[Sem.run_bind,Result.andThen_ok,Sem.run_pure])
theorem zsi (i n:Nat) (w:World) (_hn:n≤12) (_hi:i<n):Calls Tryz.prog 212 #[z1q 4,.int .i64 (i:Int),.int .i64 (n:Int)] w fun e w'=>e=.returned (.int .i64 ((z0f 4 i n:Nat):Int))∧Below w.heap.size w w':=by
 rw[show z1q 4=.iface 210 (.agg #[.int .i64 0,.int .i64 12]) from rfl]
 have HR:=z00 (show z0f 4 i n=1 by simp[z0f])
 have tV:=fun (v:Value) (W:World)=>zjz v W
 go_enter Tryz.func212,Tryz.ntmps212
 go_wp2
 go_ret
 exact⟨by rw[HR.out];rfl,(by repeat first|exact Below.refl _ _|refine Below.alloc ?_ (by simp) _|refine Below.setCell ?_ (by simp) _|refine Below.drew ?_)⟩
theorem zsq (i n:Nat) (w:World) (_hn:n≤12) (_hi:i<n):Calls Tryz.prog 212 #[z1q 5,.int .i64 (i:Int),.int .i64 (n:Int)] w fun e w'=>e=.returned (.int .i64 ((z0f 5 i n:Nat):Int))∧Below w.heap.size w w':=by
 rw[show z1q 5=.iface 210 (.agg #[.int .i64 1,.int .i64 12]) from rfl]
 have HR:=z00 (show z0f 5 i n=1 by simp[z0f])
 have tV:=fun (v:Value) (W:World)=>zjz v W
 go_enter Tryz.func212,Tryz.ntmps212
 go_wp2
 go_ret
 exact⟨by rw[HR.out];rfl,(by repeat first|exact Below.refl _ _|refine Below.alloc ?_ (by simp) _|refine Below.setCell ?_ (by simp) _|refine Below.drew ?_)⟩
theorem zsu (i n:Nat) (w:World) (_hn:n≤12) (_hi:i<n):Calls Tryz.prog 212 #[z1q 6,.int .i64 (i:Int),.int .i64 (n:Int)] w fun e w'=>e=.returned (.int .i64 ((z0f 6 i n:Nat):Int))∧Below w.heap.size w w':=by
 rw[show z1q 6=.iface 210 (.agg #[.int .i64 1,.int .i64 1]) from rfl]
 have HR:=z00 (show z0f 6 i n=1 by simp[z0f])
 have tV:=fun (v:Value) (W:World)=>zjz v W
 go_enter Tryz.func212,Tryz.ntmps212
 go_wp2
 go_ret
 exact⟨by rw[HR.out];rfl,(by repeat first|exact Below.refl _ _|refine Below.alloc ?_ (by simp) _|refine Below.setCell ?_ (by simp) _|refine Below.drew ?_)⟩
theorem zrk (i n:Nat) (w:World) (_hn:n≤12) (_hi:i<n):Calls Tryz.prog 212 #[z1q 7,.int .i64 (i:Int),.int .i64 (n:Int)] w fun e w'=>e=.returned (.int .i64 ((z0f 7 i n:Nat):Int))∧Below w.heap.size w w':=by
 rw[show z1q 7=.iface 210 (.agg #[.int .i64 2,.int .i64 12]) from rfl]
 have HR:=z00 (show z0f 7 i n=1 by simp[z0f])
 have tV:=fun (v:Value) (W:World)=>zjz v W
 go_enter Tryz.func212,Tryz.ntmps212
 go_wp2
 go_ret
 exact⟨by rw[HR.out];rfl,(by repeat first|exact Below.refl _ _|refine Below.alloc ?_ (by simp) _|refine Below.setCell ?_ (by simp) _|refine Below.drew ?_)⟩
theorem zrq (i n:Nat) (w:World) (_hn:n≤12) (_hi:i<n):Calls Tryz.prog 212 #[z1q 8,.int .i64 (i:Int),.int .i64 (n:Int)] w fun e w'=>e=.returned (.int .i64 ((z0f 8 i n:Nat):Int))∧Below w.heap.size w w':=by
 rw[show z1q 8=.iface 210 (.agg #[.int .i64 3,.int .i64 3]) from rfl]
 have HR:=z00 (show z0f 8 i n=1 by simp[z0f])
 have tV:=fun (v:Value) (W:World)=>zjz v W
 go_enter Tryz.func212,Tryz.ntmps212
 go_wp2
 go_ret
 exact⟨by rw[HR.out];rfl,(by repeat first|exact Below.refl _ _|refine Below.alloc ?_ (by simp) _|refine Below.setCell ?_ (by simp) _|refine Below.drew ?_)⟩
theorem zrl (i n:Nat) (w:World) (_hn:n≤12) (_hi:i<n):Calls Tryz.prog 212 #[z1q 9,.int .i64 (i:Int),.int .i64 (n:Int)] w fun e w'=>e=.returned (.int .i64 ((z0f 9 i n:Nat):Int))∧Below w.heap.size w w':=by
 rw[show z1q 9=.iface 212 (.agg #[.int .i64 1]) from rfl]
 by_cases hc:i+1<n
 ·have hd:decide ((i:Int)<(n:Int)-1)=true:=decide_eq_true (by omega)
  have HR:=z00 (show z0f 9 i n=2 by simp[z0f,hc])
  clear hc
  have tV:=fun (v:Value) (W:World)=>zt7 v W
  have tN:=fun (v:Value) (W:World)=>zt5 v W
  go_enter Tryz.func212,Tryz.ntmps212
  go_wp2
  go_ret
  exact⟨by rw[HR.out];rfl,(by repeat first|exact Below.refl _ _|refine Below.alloc ?_ (by simp) _|refine Below.setCell ?_ (by simp) _|refine Below.drew ?_)⟩
 ·have hd:decide ((i:Int)<(n:Int)-1)=false:=decide_eq_false (by omega)
  have HR:=z00 (show z0f 9 i n=1 by simp[z0f,hc])
  clear hc
  have tV:=fun (v:Value) (W:World)=>zt7 v W
  have tN:=fun (v:Value) (W:World)=>zt5 v W
  go_enter Tryz.func212,Tryz.ntmps212
  go_wp2
  go_ret
  exact⟨by rw[HR.out];rfl,(by repeat first|exact Below.refl _ _|refine Below.alloc ?_ (by simp) _|refine Below.setCell ?_ (by simp) _|refine Below.drew ?_)⟩
theorem zpj (i n:Nat) (w:World) (_hn:n≤12) (_hi:i<n):Calls Tryz.prog 212 #[z1q 10,.int .i64 (i:Int),.int .i64 (n:Int)] w fun e w'=>e=.returned (.int .i64 ((z0f 10 i n:Nat):Int))∧Below w.heap.size w w':=by
 rw[show z1q 10=.iface 213 (.agg #[]) from rfl]
 by_cases hc:0<i
 ·have hd:decide ((0:Int)<(i:Int))=true:=decide_eq_true (by omega)
  have HR:=z00 (show z0f 10 i n=3 by simp[z0f,hc])
  have hc2:(0:Int)<(i:Int):=by omega
  have hc3:decide (0<i)=true:=decide_eq_true hc
  have tV:=fun (v:Value) (W:World)=>zv0 v W
  have tN:=fun (v:Value) (W:World)=>zuz v W
  have tC:=fun (v:Value) (W:World)=>zut v W
  go_enter Tryz.func212,Tryz.ntmps212
  go_wp2
  go_ret
  exact⟨by rw[HR.out];rfl,(by repeat first|exact Below.refl _ _|refine Below.alloc ?_ (by simp) _|refine Below.setCell ?_ (by simp) _|refine Below.drew ?_)⟩
 ·have hd:decide ((0:Int)<(i:Int))=false:=decide_eq_false (by omega)
  have HR:=z00 (show z0f 10 i n=1 by simp[z0f,hc])
  have hc2:¬ (0:Int)<(i:Int):=by omega
  have hc3:decide (0<i)=false:=decide_eq_false hc
  have tV:=fun (v:Value) (W:World)=>zv0 v W
  have tN:=fun (v:Value) (W:World)=>zuz v W
  have tC:=fun (v:Value) (W:World)=>zut v W
  go_enter Tryz.func212,Tryz.ntmps212
  go_wp2
  go_ret
  exact⟨by rw[HR.out];rfl,(by repeat first|exact Below.refl _ _|refine Below.alloc ?_ (by simp) _|refine Below.setCell ?_ (by simp) _|refine Below.drew ?_)⟩
theorem znk (i n:Nat) (w:World) (_hn:n≤12) (_hi:i<n):Calls Tryz.prog 212 #[z1q 11,.int .i64 (i:Int),.int .i64 (n:Int)] w fun e w'=>e=.returned (.int .i64 ((z0f 11 i n:Nat):Int))∧Below w.heap.size w w':=by
 rw[show z1q 11=.iface 210 (.agg #[.int .i64 1,.int .i64 1]) from rfl]
 have HR:=z00 (show z0f 11 i n=1 by simp[z0f])
 have tV:=fun (v:Value) (W:World)=>zjz v W
 go_enter Tryz.func212,Tryz.ntmps212
 go_wp2
 go_ret
 exact⟨by rw[HR.out];rfl,(by repeat first|exact Below.refl _ _|refine Below.alloc ?_ (by simp) _|refine Below.setCell ?_ (by simp) _|refine Below.drew ?_)⟩
theorem zpc (i n:Nat) (w:World) (_hn:n≤12) (_hi:i<n):Calls Tryz.prog 212 #[z1q 12,.int .i64 (i:Int),.int .i64 (n:Int)] w fun e w'=>e=.returned (.int .i64 ((z0f 12 i n:Nat):Int))∧Below w.heap.size w w':=by
 rw[show z1q 12=.iface 210 (.agg #[.int .i64 0,.int .i64 1]) from rfl]
 have HR:=z00 (show z0f 12 i n=1 by simp[z0f])
 have tV:=fun (v:Value) (W:World)=>zjz v W
 go_enter Tryz.func212,Tryz.ntmps212
 go_wp2
 go_ret
 exact⟨by rw[HR.out];rfl,(by repeat first|exact Below.refl _ _|refine Below.alloc ?_ (by simp) _|refine Below.setCell ?_ (by simp) _|refine Below.drew ?_)⟩
theorem zom (i n:Nat) (w:World) (_hn:n≤12) (_hi:i<n):Calls Tryz.prog 212 #[z1q 13,.int .i64 (i:Int),.int .i64 (n:Int)] w fun e w'=>e=.returned (.int .i64 ((z0f 13 i n:Nat):Int))∧Below w.heap.size w w':=by
 rw[show z1q 13=.iface 210 (.agg #[.int .i64 1,.int .i64 1]) from rfl]
 have HR:=z00 (show z0f 13 i n=1 by simp[z0f])
 have tV:=fun (v:Value) (W:World)=>zjz v W
 go_enter Tryz.func212,Tryz.ntmps212
 go_wp2
 go_ret
 exact⟨by rw[HR.out];rfl,(by repeat first|exact Below.refl _ _|refine Below.alloc ?_ (by simp) _|refine Below.setCell ?_ (by simp) _|refine Below.drew ?_)⟩
theorem zq3 (i n:Nat) (w:World) (_hn:n≤12) (_hi:i<n):Calls Tryz.prog 212 #[z1q 14,.int .i64 (i:Int),.int .i64 (n:Int)] w fun e w'=>e=.returned (.int .i64 ((z0f 14 i n:Nat):Int))∧Below w.heap.size w w':=by
 rw[show z1q 14=.iface 210 (.agg #[.int .i64 1,.int .i64 1]) from rfl]
 have HR:=z00 (show z0f 14 i n=1 by simp[z0f])
 have tV:=fun (v:Value) (W:World)=>zjz v W
 go_enter Tryz.func212,Tryz.ntmps212
 go_wp2
 go_ret
 exact⟨by rw[HR.out];rfl,(by repeat first|exact Below.refl _ _|refine Below.alloc ?_ (by simp) _|refine Below.setCell ?_ (by simp) _|refine Below.drew ?_)⟩
theorem znx (i n:Nat) (w:World) (_hn:n≤12) (_hi:i<n):Calls Tryz.prog 212 #[z1q 15,.int .i64 (i:Int),.int .i64 (n:Int)] w fun e w'=>e=.returned (.int .i64 ((z0f 15 i n:Nat):Int))∧Below w.heap.size w w':=by
 rw[show z1q 15=.iface 210 (.agg #[.int .i64 0,.int .i64 1]) from rfl]
 have HR:=z00 (show z0f 15 i n=1 by simp[z0f])
 have tV:=fun (v:Value) (W:World)=>zjz v W
 go_enter Tryz.func212,Tryz.ntmps212
 go_wp2
 go_ret
 exact⟨by rw[HR.out];rfl,(by repeat first|exact Below.refl _ _|refine Below.alloc ?_ (by simp) _|refine Below.setCell ?_ (by simp) _|refine Below.drew ?_)⟩
theorem znf (i n:Nat) (w:World) (_hn:n≤12) (_hi:i<n):Calls Tryz.prog 212 #[z1q 16,.int .i64 (i:Int),.int .i64 (n:Int)] w fun e w'=>e=.returned (.int .i64 ((z0f 16 i n:Nat):Int))∧Below w.heap.size w w':=by
 rw[show z1q 16=.iface 215 (.agg #[.int .i64 3]) from rfl]
 by_cases hc:0<i
 ·have hd:decide ((0:Int)<(i:Int))=true:=decide_eq_true (by omega)
  have HR:=z00 (show z0f 16 i n=4 by simp[z0f,hc])
  have hc2:(0:Int)<(i:Int):=by omega
  have hc3:decide (0<i)=true:=decide_eq_true hc
  have tV:=fun (v:Value) (W:World)=>zt1 v W
  have tN:=fun (v:Value) (W:World)=>zt3 v W
  have tC:=fun (v:Value) (W:World)=>zsx v W
  have tB:=fun (v:Value) (W:World)=>zt4 v W
  go_enter Tryz.func212,Tryz.ntmps212
  go_wp2
  go_ret
  exact⟨by rw[HR.out];rfl,(by repeat first|exact Below.refl _ _|refine Below.alloc ?_ (by simp) _|refine Below.setCell ?_ (by simp) _|refine Below.drew ?_)⟩
 ·have hd:decide ((0:Int)<(i:Int))=false:=decide_eq_false (by omega)
  have HR:=z00 (show z0f 16 i n=1 by simp[z0f,hc])
  have hc2:¬ (0:Int)<(i:Int):=by omega
  have hc3:decide (0<i)=false:=decide_eq_false hc
  have tV:=fun (v:Value) (W:World)=>zt1 v W
  have tN:=fun (v:Value) (W:World)=>zt3 v W
  have tC:=fun (v:Value) (W:World)=>zsx v W
  have tB:=fun (v:Value) (W:World)=>zt4 v W
  go_enter Tryz.func212,Tryz.ntmps212
  go_wp2
  go_ret
  exact⟨by rw[HR.out];rfl,(by repeat first|exact Below.refl _ _|refine Below.alloc ?_ (by simp) _|refine Below.setCell ?_ (by simp) _|refine Below.drew ?_)⟩
theorem zoc (i n:Nat) (w:World) (_hn:n≤12) (_hi:i<n):Calls Tryz.prog 212 #[z1q 17,.int .i64 (i:Int),.int .i64 (n:Int)] w fun e w'=>e=.returned (.int .i64 ((z0f 17 i n:Nat):Int))∧Below w.heap.size w w':=by
 rw[show z1q 17=.iface 215 (.agg #[.int .i64 2]) from rfl]
 by_cases hc:0<i
 ·have hd:decide ((0:Int)<(i:Int))=true:=decide_eq_true (by omega)
  have HR:=z00 (show z0f 17 i n=4 by simp[z0f,hc])
  have hc2:(0:Int)<(i:Int):=by omega
  have hc3:decide (0<i)=true:=decide_eq_true hc
  have tV:=fun (v:Value) (W:World)=>zt1 v W
  have tN:=fun (v:Value) (W:World)=>zt3 v W
  have tC:=fun (v:Value) (W:World)=>zsx v W
  have tB:=fun (v:Value) (W:World)=>zt4 v W
  go_enter Tryz.func212,Tryz.ntmps212
  go_wp2
  go_ret
  exact⟨by rw[HR.out];rfl,(by repeat first|exact Below.refl _ _|refine Below.alloc ?_ (by simp) _|refine Below.setCell ?_ (by simp) _|refine Below.drew ?_)⟩
 ·have hd:decide ((0:Int)<(i:Int))=false:=decide_eq_false (by omega)
  have HR:=z00 (show z0f 17 i n=1 by simp[z0f,hc])
  have hc2:¬ (0:Int)<(i:Int):=by omega
  have hc3:decide (0<i)=false:=decide_eq_false hc
  have tV:=fun (v:Value) (W:World)=>zt1 v W
  have tN:=fun (v:Value) (W:World)=>zt3 v W
  have tC:=fun (v:Value) (W:World)=>zsx v W
  have tB:=fun (v:Value) (W:World)=>zt4 v W
  go_enter Tryz.func212,Tryz.ntmps212
  go_wp2
  go_ret
  exact⟨by rw[HR.out];rfl,(by repeat first|exact Below.refl _ _|refine Below.alloc ?_ (by simp) _|refine Below.setCell ?_ (by simp) _|refine Below.drew ?_)⟩
theorem zpe (i n:Nat) (w:World) (_hn:n≤12) (_hi:i<n):Calls Tryz.prog 212 #[z1q 18,.int .i64 (i:Int),.int .i64 (n:Int)] w fun e w'=>e=.returned (.int .i64 ((z0f 18 i n:Nat):Int))∧Below w.heap.size w w':=by
 rw[show z1q 18=.iface 217 (.agg #[.int .i64 5]) from rfl]
 have HR:=z00 (show z0f 18 i n=5 by simp[z0f])
 have tV:=fun (v:Value) (W:World)=>ztf v W
 have tN:=fun (v:Value) (W:World)=>zuf v W
 have tC:=fun (v:Value) (W:World)=>zui v W
 have tB:=fun (v:Value) (W:World)=>zu6 v W
 have tD:=fun (v:Value) (W:World)=>ztu v W
 go_enter Tryz.func212,Tryz.ntmps212
 go_wp2
 go_ret
 exact⟨by rw[HR.out];rfl,(by repeat first|exact Below.refl _ _|refine Below.alloc ?_ (by simp) _|refine Below.setCell ?_ (by simp) _|refine Below.drew ?_)⟩
theorem zqf (i n:Nat) (w:World) (_hn:n≤12) (_hi:i<n):Calls Tryz.prog 212 #[z1q 20,.int .i64 (i:Int),.int .i64 (n:Int)] w fun e w'=>e=.returned (.int .i64 ((z0f 20 i n:Nat):Int))∧Below w.heap.size w w':=by
 rw[show z1q 20=.iface 212 (.agg #[.int .i64 4]) from rfl]
 by_cases hc:i+1<n
 ·have hd:decide ((i:Int)<(n:Int)-1)=true:=decide_eq_true (by omega)
  have HR:=z00 (show z0f 20 i n=2 by simp[z0f,hc])
  clear hc
  have tV:=fun (v:Value) (W:World)=>zt7 v W
  have tN:=fun (v:Value) (W:World)=>zt5 v W
  go_enter Tryz.func212,Tryz.ntmps212
  go_wp2
  go_ret
  exact⟨by rw[HR.out];rfl,(by repeat first|exact Below.refl _ _|refine Below.alloc ?_ (by simp) _|refine Below.setCell ?_ (by simp) _|refine Below.drew ?_)⟩
 ·have hd:decide ((i:Int)<(n:Int)-1)=false:=decide_eq_false (by omega)
  have HR:=z00 (show z0f 20 i n=4 by simp[z0f,hc])
  clear hc
  have tV:=fun (v:Value) (W:World)=>zt7 v W
  have tN:=fun (v:Value) (W:World)=>zt5 v W
  go_enter Tryz.func212,Tryz.ntmps212
  go_wp2
  go_ret
  exact⟨by rw[HR.out];rfl,(by repeat first|exact Below.refl _ _|refine Below.alloc ?_ (by simp) _|refine Below.setCell ?_ (by simp) _|refine Below.drew ?_)⟩
theorem zp8 (i n:Nat) (w:World) (_hn:n≤12) (_hi:i<n):Calls Tryz.prog 212 #[z1q 21,.int .i64 (i:Int),.int .i64 (n:Int)] w fun e w'=>e=.returned (.int .i64 ((z0f 21 i n:Nat):Int))∧Below w.heap.size w w':=by
 rw[show z1q 21=.iface 217 (.agg #[.int .i64 6]) from rfl]
 have HR:=z00 (show z0f 21 i n=6 by simp[z0f])
 have tV:=fun (v:Value) (W:World)=>ztf v W
 have tN:=fun (v:Value) (W:World)=>zuf v W
 have tC:=fun (v:Value) (W:World)=>zui v W
 have tB:=fun (v:Value) (W:World)=>zu6 v W
 have tD:=fun (v:Value) (W:World)=>ztu v W
 go_enter Tryz.func212,Tryz.ntmps212
 go_wp2
 go_ret
 exact⟨by rw[HR.out];rfl,(by repeat first|exact Below.refl _ _|refine Below.alloc ?_ (by simp) _|refine Below.setCell ?_ (by simp) _|refine Below.drew ?_)⟩
theorem zpb (i n:Nat) (w:World) (_hn:n≤12) (_hi:i<n):Calls Tryz.prog 212 #[z1q 22,.int .i64 (i:Int),.int .i64 (n:Int)] w fun e w'=>e=.returned (.int .i64 ((z0f 22 i n:Nat):Int))∧Below w.heap.size w w':=by
 rw[show z1q 22=.iface 217 (.agg #[.int .i64 7]) from rfl]
 have HR:=z00 (show z0f 22 i n=7 by simp[z0f])
 have tV:=fun (v:Value) (W:World)=>ztf v W
 have tN:=fun (v:Value) (W:World)=>zuf v W
 have tC:=fun (v:Value) (W:World)=>zui v W
 have tB:=fun (v:Value) (W:World)=>zu6 v W
 have tD:=fun (v:Value) (W:World)=>ztu v W
 go_enter Tryz.func212,Tryz.ntmps212
 go_wp2
 go_ret
 exact⟨by rw[HR.out];rfl,(by repeat first|exact Below.refl _ _|refine Below.alloc ?_ (by simp) _|refine Below.setCell ?_ (by simp) _|refine Below.drew ?_)⟩
end Go.Proofs.YtekebloinobjnaaGreatDoor
