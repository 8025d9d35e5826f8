/- Texts of one proof, laid together: Draw, DrawK, DrawW, DrawO, DrawPk, DrSa. -/
import Derived.Test.YtekebloinobjnaaGreatDoorChecked
import Derived.Test.YtekebloinobjnaaGreatDoorC00
import Derived.BigQuiet
import Derived.Deep.QuietTactic
import Derived.Laws.OwnMore
set_option maxHeartbeats 16000000
set_option maxRecDepth 100000
namespace Go.Proofs.YtekebloinobjnaaGreatDoor
open Go.RowKit
theorem ze5 (x:Int) (m:Nat) (hm:m<9223372036854775808):0≤bits .and .i64 x (m:Int)∧bits .and .i64 x (m:Int)≤m:=by
 have h1:(BitVec.ofInt 64 x &&& BitVec.ofInt 64 (m:Int)).toNat≤m:=by
  rw[BitVec.toNat_and]
  refine Nat.le_trans Nat.and_le_right ?_
  simp
  omega
 show 0≤IntKind.i64.wrap (((BitVec.ofInt 64 x &&& BitVec.ofInt 64 (m:Int)).toNat:Nat):Int)∧IntKind.i64.wrap (((BitVec.ofInt 64 x &&& BitVec.ofInt 64 (m:Int)).toNat:Nat):Int)≤m
 rw[IntWalk.i64_in _ ⟨by omega,by omega⟩]
 omega
theorem zjc (x:Int):0≤bits .and .i64 x 255∧bits .and .i64 x 255≤255:=ze5 x 255 (by omega)
theorem zsm (x:Int):0≤bits .and .i64 x 1073741823∧bits .and .i64 x 1073741823≤1073741823:=ze5 x 1073741823 (by omega)
def CodeAt (base:Nat) (w:World) (a:Option Addr) (len:Nat):Prop:=
 len≤1048576∧(0<len→∃ b off,a=some ⟨b,off,none⟩∧b<base∧∀ i,i<len→∃ z:Int,0≤z∧z≤255∧w.cell? ⟨b,off+i,none⟩=some (.int .u8 z))
theorem CodeAt.below {base:Nat} {w w':World} {a:Option Addr} {len:Nat} (h:CodeAt base w a len) (hb:Below base w w'):CodeAt base w' a len:=by
 refine⟨h.1,fun hl=>?_⟩
 obtain⟨b,off,ha,hbb,hc⟩:=h.2 hl
 refine⟨b,off,ha,hbb,fun i hi=>?_⟩
 obtain⟨z,h0,h1,h2⟩:=hc i hi
 exact⟨z,h0,h1,by rw[hb.cell hbb];exact h2⟩
structure Cur (base:Nat) (w:World) (blk:Nat) (a:Option Addr) (len cap:Nat):Prop where
 own:base≤blk
 code:CodeAt base w a len
 block:∃ (i:Nat) (h:Int),i≤len∧w.heap[blk]?=some (.cells #[.slice a len cap,.int .i64 i,.int .i64 h] 92 (0,0))
def zrs (base:Nat) (w:World) (blk:Nat) (a:Option Addr) (len cap:Nat) (e:Ending) (w':World):Prop:=
 ∃ x:Nat,x≤255∧e=.returned (.int .i64 x)∧Cur base w' blk a len cap∧w.grownBy w' (some blk)
theorem zfc {w:World} {blk t:Nat} {x y z:Value} (h:w.heap[blk]?=some (.cells #[x,y,z] t (0,0))) :
 w.cell? ⟨blk,0,none⟩=some x∧w.cell? ⟨blk,1,none⟩=some y∧w.cell? ⟨blk,2,none⟩=some z∧w.frozen? ⟨blk,1,none⟩=false∧w.frozen? ⟨blk,2,none⟩=false:=by
 refine⟨?_,?_,?_,?_,?_⟩
 ·rw[cell_of_row w blk 0 _ t (0,0) h];rfl
 ·rw[cell_of_row w blk 1 _ t (0,0) h];rfl
 ·rw[cell_of_row w blk 2 _ t (0,0) h];rfl
 ·exact frozen_of_row w blk 1 _ t h
 ·exact frozen_of_row w blk 2 _ t h
theorem zno {base:Nat} {w:World} {blk:Nat} {a:Option Addr} {len cap i:Nat} {h:Int} (hc:Cur base w blk a len cap) (hi:i≤len)
 (hblk:w.heap[blk]?=some (.cells #[.slice a len cap,.int .i64 i,.int .i64 h] 92 (0,0))) (H:Int) (q:Nat) :
 Cur base ((w.setCell ⟨blk,2,none⟩ (.int .i64 H)).drewN q) blk a len cap∧w.grownBy ((w.setCell ⟨blk,2,none⟩ (.int .i64 H)).drewN q) (some blk):=by
 have e1:=heap_setCell_same w blk 2 _ 92 (.int .i64 H) hblk
 have hg:w.grownBy ((w.setCell ⟨blk,2,none⟩ (.int .i64 H)).drewN q) (some blk):=⟨rfl,rfl,rfl,by show w.heap.size≤(w.setCell ⟨blk,2,none⟩ (.int .i64 H)).heap.size;simp,fun k _ hk=>heap_setCell_other w ⟨blk,2,none⟩ k (.int .i64 H) (fun e=>hk (by simp[e]))⟩
 exact⟨⟨hc.own,hc.code.below ((Below.refl base w).grown hg (by have:=(Array.getElem?_eq_some_iff.1 hblk).1;have:=hc.own;omega) (fun k hk=>by cases hk;exact hc.own)),i,H,hi,e1⟩,hg⟩
theorem zoj {base:Nat} {w:World} {blk:Nat} {a:Option Addr} {len cap i:Nat} {h:Int} (hc:Cur base w blk a len cap)
 (hblk:w.heap[blk]?=some (.cells #[.slice a len cap,.int .i64 i,.int .i64 h] 92 (0,0))) (H:Int) (hi:i<len) (q:Nat) :
 Cur base (((w.setCell ⟨blk,2,none⟩ (.int .i64 H)).setCell ⟨blk,1,none⟩ (.int .i64 ((i:Int)+1))).drewN q) blk a len cap∧w.grownBy (((w.setCell ⟨blk,2,none⟩ (.int .i64 H)).setCell ⟨blk,1,none⟩ (.int .i64 ((i:Int)+1))).drewN q) (some blk):=by
 have e1:=heap_setCell_same w blk 2 _ 92 (.int .i64 H) hblk
 have e2:=heap_setCell_same (w.setCell ⟨blk,2,none⟩ (.int .i64 H)) blk 1 _ 92 (.int .i64 ((i:Int)+1)) e1
 have hg:w.grownBy (((w.setCell ⟨blk,2,none⟩ (.int .i64 H)).setCell ⟨blk,1,none⟩ (.int .i64 ((i:Int)+1))).drewN q) (some blk):=
  ⟨rfl,rfl,rfl,by show w.heap.size≤((w.setCell ⟨blk,2,none⟩ (.int .i64 H)).setCell ⟨blk,1,none⟩ (.int .i64 ((i:Int)+1))).heap.size;simp,fun k _ hk=>by
   show ((w.setCell ⟨blk,2,none⟩ (.int .i64 H)).setCell ⟨blk,1,none⟩ (.int .i64 ((i:Int)+1))).heap[k]?=_
   rw[heap_setCell_other _ ⟨blk,1,none⟩ k _ (fun e=>hk (by simp[e])),heap_setCell_other w ⟨blk,2,none⟩ k _ (fun e=>hk (by simp[e]))]⟩
 exact⟨⟨hc.own,hc.code.below ((Below.refl base w).grown hg (by have:=(Array.getElem?_eq_some_iff.1 hblk).1;have:=hc.own;omega) (fun k hk=>by cases hk;exact hc.own)),i+1,H,hi,e2⟩,hg⟩
theorem zro {base:Nat} {w w':World} {blk:Nat} {a:Option Addr} {len cap:Nat} {v:Int} (h:0≤v∧v≤255) (hc:Cur base w' blk a len cap∧w.grownBy w' (some blk)):zrs base w blk a len cap (.returned (.int .i64 v)) w':=by
 obtain⟨n,rfl⟩:=Int.eq_ofNat_of_zero_le h.1
 exact⟨n,by omega,rfl,hc.1,hc.2⟩
theorem z52 (base:Nat) (w:World) (blk:Nat) (a:Option Addr) (len cap:Nat) (hc:Cur base w blk a len cap) :
 Calls Tryz.prog 60 #[.pointer (some ⟨blk,0,none⟩)] w fun e w'=>zrs base w blk a len cap e w':=by
 obtain⟨i,h,hi,hblk⟩:=hc.block
 obtain⟨c0,c1,c2,f1,f2⟩:=zfc hblk
 have hcode:=hc.code
 have hlen:=hcode.1
 have HB:=z00 hblk
 have HC:=z00 hc
 by_cases hil:i<len
 ·obtain⟨b,off,ha,hbb,hz⟩:=hcode.2 (by omega)
  obtain⟨z,hz0,hz1,hzc⟩:=hz i hil
  have hne:b≠blk:=by have:=hc.own;omega
  have hzc':∀ v,(w.setCell ⟨blk,2,none⟩ v).cell? ⟨b,off+i,none⟩=some (.int .u8 z):=fun v=>by
   rw[World.cell?_of_block (Below.heap_setCell w ⟨blk,2,none⟩ v b hne)]
   exact hzc
  subst ha
  have hA:(0:Int)≤(i:Int):=by omega
  have hB:(i:Int)<(len:Int):=by omega
  clear hblk hc hcode hz hne hbb
  go_enter Tryz.func60,Tryz.ntmps60
  go_wp2
  go_quiet (fail)
  go_wp2
  go_quiet (fail)
  go_wp2
  go_quiet (fail)
  go_wp2
  go_ret
  exact zro (zjc _) (zoj HC.out HB.out _ hil _)
 ·clear hblk hc hcode
  have hB:¬ (i:Int)<(len:Int):=by omega
  go_enter Tryz.func60,Tryz.ntmps60
  go_wp2
  go_quiet (fail)
  go_wp2
  go_quiet (fail)
  go_wp2
  go_ret
  refine zro (zjc _) ?_
  rw[World.drewN_drewN]
  exact zno HC.out hi HB.out _ _
theorem z0d {a b c:World} {row:Option Nat} (h1:a.grownBy b row) (h2:b.grownBy c row):a.grownBy c row:=
 ⟨h2.os.trans h1.os,h2.tape.trans h1.tape,h2.output.trans h1.output,Nat.le_trans h1.size h2.size,fun k hk hr=>(h2.block k (Nat.lt_of_lt_of_le hk h1.size) hr).trans (h1.block k hk hr)⟩
def zqz (base:Nat) (w:World) (blk:Nat) (a:Option Addr) (len cap:Nat) (n:Int) (e:Ending) (w':World):Prop:=
 ∃ x:Nat,(x:Int)<n∧e=.returned (.int .i64 x)∧Cur base w' blk a len cap∧w.grownBy w' (some blk)
theorem zs2 {base:Nat} {w w':World} {blk:Nat} {a:Option Addr} {len cap:Nat} {n v:Int} (h:0≤v∧v<n) (hc:Cur base w' blk a len cap) (hg:w.grownBy w' (some blk)):zqz base w blk a len cap n (.returned (.int .i64 v)) w':=by
 obtain⟨x,rfl⟩:=Int.eq_ofNat_of_zero_le h.1
 exact⟨x,h.2,rfl,hc,hg⟩
theorem z1v (base:Nat) (w:World) (blk:Nat) (a:Option Addr) (len cap:Nat) (n:Int) (hc:Cur base w blk a len cap) (h0:0<n) (h1:n≤2147483648) :
 Calls Tryz.prog 46 #[.pointer (some ⟨blk,0,none⟩),.int .i64 n] w fun e w'=>zqz base w blk a len cap n e w':=by
 have HC:=z00 hc
 clear hc
 by_cases hn:n≤256
 ·go_enter Tryz.func46,Tryz.ntmps46
  go_wp2_with fail
  refine(z52 base _ blk a len cap HC.out).mono ?_
  rintro e w1 ⟨x,hx,rfl,hc1,hg1⟩
  have H1:=z00 (And.intro hc1 hg1)
  clear hc1 hg1
  have hnz:(n==0)=false:=beq_eq_false_iff_ne.2 (by omega)
  go_wp2
  go_ret
  exact zs2 ⟨Int.emod_nonneg _ (by omega),Int.emod_lt_of_pos _ h0⟩ H1.out.1 H1.out.2
 ·have hnz:(n==0)=false:=beq_eq_false_iff_ne.2 (by omega)
  go_enter Tryz.func46,Tryz.ntmps46
  go_wp2_with fail
  refine(z52 base _ blk a len cap HC.out).mono ?_
  rintro e w1 ⟨x1,hx1,rfl,hc1,hg1⟩
  have H1:=z00 (And.intro hc1 hg1)
  clear hc1 hg1
  go_wp2_with fail
  refine(z52 base _ blk a len cap H1.out.1).mono ?_
  rintro e w2 ⟨x2,hx2,rfl,hc2,hg2⟩
  have H2:=z00 (And.intro hc2 (z0d H1.out.2 hg2))
  clear hc2 hg2
  go_wp2_with fail
  refine(z52 base _ blk a len cap H2.out.1).mono ?_
  rintro e w3 ⟨x3,hx3,rfl,hc3,hg3⟩
  have H3:=z00 (And.intro hc3 (z0d H2.out.2 hg3))
  clear hc3 hg3
  go_wp2_with fail
  refine(z52 base _ blk a len cap H3.out.1).mono ?_
  rintro e w4 ⟨x4,hx4,rfl,hc4,hg4⟩
  have H4:=z00 (And.intro hc4 (z0d H3.out.2 hg4))
  clear hc4 hg4
  go_wp2
  go_ret
  exact zs2 ⟨Int.emod_nonneg _ (by omega),Int.emod_lt_of_pos _ h0⟩ H4.out.1 H4.out.2
def zmu (base:Nat) (w:World) (a:Option Addr) (len cap:Nat) (e:Ending) (w':World):Prop:=
 ∃ blk,e=.returned (.pointer (some ⟨blk,0,none⟩))∧w.heap.size≤blk∧Cur base w' blk a len cap∧Below w.heap.size w w'
theorem zi3 (base:Nat) (w:World) (a:Option Addr) (len cap:Nat) (hc:CodeAt base w a len) (hb:base≤w.heap.size) :
 Calls Tryz.prog 44 #[.slice a len cap] w fun e w'=>zmu base w a len cap e w':=by
 have hlen:=hc.1
 have HC:=z00 hc
 clear hc
 go_enter Tryz.func44,Tryz.ntmps44
 go_wp2
 go_loop [3,4] (fun h i=>∃ (k:Nat) (H:Int),k≤len∧i=.int .i64 k∧h=.int .i64 H∧0≤H∧H≤1073741823) (fun _ i=>len-(intOf i).toNat)
 case atStart=>exact⟨0,_,Nat.zero_le _,rfl,rfl,by omega,by omega⟩
 case round =>
  obtain⟨k,H,hk,rfl,rfl,hH0,hH1⟩:=hrel
  have fin:∀ H:Int,zmu base w a len cap (.returned (.pointer (some ⟨w.heap.size,0,none⟩))) (w.alloc (.cells #[.slice a len cap,.int .i64 0,.int .i64 H] 92)):=fun H =>
   ⟨w.heap.size,rfl,Nat.le_refl _,⟨hb,HC.out.below (((Below.refl _ w).alloc (Nat.le_refl _) _).mono hb),0,H,Nat.zero_le _,heap_alloc_new w _⟩,(Below.refl _ w).alloc (Nat.le_refl _) _⟩
  have FIN:=z00 fin
  clear fin
  by_cases hlt:k<len
  ·obtain⟨b,off,ha,hbb,hz⟩:=HC.out.2 (by omega)
   obtain⟨z,hz0,hz1,hzc⟩:=hz k hlt
   have hA:(0:Int)≤(k:Int):=by omega
   have hB:(k:Int)<(len:Int):=by omega
   subst ha
   clear hz
   by_cases h4:k<4000
   ·have hand:=zsm (H*131+z+7)
    go_wp2
    go_round
    case rel=>exact⟨k+1,_,by omega,by go_num,rfl,hand.1,hand.2⟩
    case measure=>simp[intOf];omega
   ·go_wp2
    go_ret
    exact FIN.out H
  ·go_wp2
   go_ret
   exact FIN.out H
theorem Cur.lt {base:Nat} {w:World} {blk:Nat} {a:Option Addr} {len cap:Nat} (h:Cur base w blk a len cap):blk<w.heap.size:=by
 obtain⟨i,H,_,hb⟩:=h.block
 exact(Array.getElem?_eq_some_iff.1 hb).1
theorem Cur.kept {base:Nat} {w w':World} {blk:Nat} {a:Option Addr} {len cap:Nat} {row:Option Nat} (h:Cur base w blk a len cap) (hg:w.grownBy w' row) (hr:∀ k,row=some k→base≤k∧k≠blk):Cur base w' blk a len cap:=by
 obtain⟨i,H,hi,hb⟩:=h.block
 refine⟨h.own,h.code.below ((Below.refl base w).grown hg (by have:=h.lt;have:=h.own;omega) (fun k hk=>(hr k hk).1)),i,H,hi,?_⟩
 rw[hg.block blk h.lt (fun e=>(hr blk e.symm).2 rfl)]
 exact hb
theorem z65 {a b c:World} {r1 r2:Option Nat} (h1:a.grownBy b r1) (h2:b.grownBy c r2) (h:∀ k,r2=some k→a.heap.size≤k∨r1=some k):a.grownBy c r1:=
 ⟨h2.os.trans h1.os,h2.tape.trans h1.tape,h2.output.trans h1.output,Nat.le_trans h1.size h2.size,fun k hk hr=>(h2.block k (Nat.lt_of_lt_of_le hk h1.size) (fun e=>by rcases h k e.symm with h|h;omega;exact hr h.symm)).trans (h1.block k hk hr)⟩
def zco (base:Nat) (w:World) (blk:Nat) (a:Option Addr) (len cap:Nat) (n:Nat) (e:Ending) (w':World):Prop:=
 ∃ t:ByteArray,t.size≤n∧e=.returned (.string t)∧Cur base w' blk a len cap∧w.grownBy w' (some blk)
theorem z2q {base:Nat} {w w':World} {blk:Nat} {a:Option Addr} {len cap n:Nat} {t:ByteArray} (ht:t.size≤n) (hc:Cur base w' blk a len cap) (hg:w.grownBy w' (some blk)):zco base w blk a len cap n (.returned (.string t)) w':=⟨t,ht,rfl,hc,hg⟩
def zgz (base:Nat) (w:World) (blk:Nat) (a:Option Addr) (len cap:Nat) (e:Ending) (w':World):Prop:=
 ∃ b:Bool,e=.returned (.bool b)∧Cur base w' blk a len cap∧w.grownBy w' (some blk)
theorem zqe {base:Nat} {w w':World} {blk:Nat} {a:Option Addr} {len cap:Nat} {b:Bool} (hc:Cur base w' blk a len cap) (hg:w.grownBy w' (some blk)):zgz base w blk a len cap (.returned (.bool b)) w':=⟨b,rfl,hc,hg⟩
theorem z6c (base:Nat) (w:World) (blk:Nat) (a:Option Addr) (len cap:Nat) (n:Int) (hc:Cur base w blk a len cap) (h0:0<n) (h1:n≤2147483648) :
 Calls Tryz.prog 116 #[.pointer (some ⟨blk,0,none⟩),.int .i64 n] w fun e w'=>zgz base w blk a len cap e w':=by
 have HC:=z00 hc
 clear hc
 go_enter Tryz.func116,Tryz.ntmps116
 go_wp2_with fail
 refine(z1v base _ blk a len cap n HC.out h0 h1).mono ?_
 rintro e w1 ⟨x,hx,rfl,hc1,hg1⟩
 have H1:=z00 (And.intro hc1 hg1)
 clear hc1 hg1
 go_wp2
 go_ret
 exact zqe H1.out.1 H1.out.2
def zrz (base:Nat) (w:World) (blk:Nat) (a:Option Addr) (len cap:Nat) (L:List ByteArray) (e:Ending) (w':World):Prop:=
 ∃ t:ByteArray,t∈L∧e=.returned (.string t)∧Cur base w' blk a len cap∧w.grownBy w' (some blk)
theorem zun {base:Nat} {w w':World} {blk:Nat} {a:Option Addr} {len cap:Nat} {L:List ByteArray} {t:ByteArray} (ht:t∈L) (hc:Cur base w' blk a len cap) (hg:w.grownBy w' (some blk)):zrz base w blk a len cap L (.returned (.string t)) w':=⟨t,ht,rfl,hc,hg⟩
theorem zha (base:Nat) (w:World) (blk:Nat) (a:Option Addr) (len cap:Nat) (lb n c:Nat) (L:List ByteArray) (hc:Cur base w blk a len cap) (hn0:0<n) (hn:n≤1000) (hL:L.length=n) (hne:lb≠blk) (hlt:lb<w.heap.size)
 (hcell:∀ j,j<n→w.cell? ⟨lb,j,none⟩=(z0h L)[j]?) :
 Calls Tryz.prog 156 #[.pointer (some ⟨blk,0,none⟩),.slice (some ⟨lb,0,none⟩) n c] w fun e w'=>zrz base w blk a len cap L e w':=by
 have HC:=z00 hc
 have HE:=z00 hcell
 have HL:=z00 hL
 clear hc hcell hL
 go_enter Tryz.func156,Tryz.ntmps156
 go_wp2_with fail
 refine(z1v base _ blk a len cap n HC.out (by omega) (by omega)).mono ?_
 rintro e w1 ⟨x,hx,rfl,hc1,hg1⟩
 have hxn:x<n:=by omega
 obtain⟨z,hz⟩:∃ z,L[x]?=some z:=⟨_,List.getElem?_eq_getElem (by rw[HL.out];exact hxn)⟩
 have hcx:w1.cell? ⟨lb,x,none⟩=some (.string z):=by
  rw[World.cell?_of_block (hg1.block lb hlt (fun e=>hne (Option.some.inj e))),HE.out x hxn]
  simp[z0h,hz]
 have hA:(0:Int)≤(x:Int):=by omega
 have H1:=z00 (And.intro hc1 hg1)
 have hm:=List.mem_of_getElem? hz
 have HM:=z00 hm
 clear hc1 hg1 hz hm
 go_wp2
 go_ret
 exact zun HM.out H1.out.1 H1.out.2
theorem zif (w:World) (c:Array Value) (T:Nat) (L:List ByteArray) (h:c.toList=z0h L) (j:Nat):(w.alloc (.cells c T)).cell? ⟨w.heap.size,j,none⟩=(z0h L)[j]?:=by
 rw[World.cell?_alloc_new,← h]
 simp
theorem z3o (base:Nat) (w:World) (blk:Nat) (a:Option Addr) (len cap:Nat) (c:Array Value) (T n cc m:Nat) (L:List ByteArray) (hc:Cur base w blk a len cap) (hL:c.toList=z0h L) (hn:L.length=n) (h0:0<n) (h1:n≤1000) (hm:(L.all fun t=>decide (t.size≤m))=true) :
 Calls Tryz.prog 156 #[.pointer (some ⟨blk,0,none⟩),.slice (some ⟨w.heap.size,0,none⟩) n cc] (w.alloc (.cells c T)) (zco base w blk a len cap m):=by
 have hlt:=hc.lt
 have hca:Cur base (w.alloc (.cells c T)) blk a len cap:=hc.kept (World.grownBy_alloc w _ none) (fun k hk=>by cases hk)
 refine(zha base _ blk a len cap w.heap.size n cc L hca h0 h1 hn (by omega) (by simp) (fun j _=>zif w c T L hL j)).mono ?_
 rintro e w1 ⟨t,ht,rfl,hc1,hg1⟩
 exact z2q (by simpa using List.all_eq_true.1 hm t ht) hc1 (z65 (World.grownBy_alloc w _ (some blk)) hg1 (fun k hk=>.inr hk))
theorem zga (base:Nat) (w:World) (blk:Nat) (a:Option Addr) (len cap:Nat) (lb n c m:Nat) (L:List ByteArray) (hc:Cur base w blk a len cap) (h0:0<n) (h1:n≤1000) (hn:L.length=n) (hne:lb≠blk) (hlt:lb<w.heap.size)
 (hcell:∀ j,j<n→w.cell? ⟨lb,j,none⟩=(z0h L)[j]?) (hm:(L.all fun t=>decide (t.size≤m))=true) :
 Calls Tryz.prog 156 #[.pointer (some ⟨blk,0,none⟩),.slice (some ⟨lb,0,none⟩) n c] w (zco base w blk a len cap m):=by
 refine(zha base w blk a len cap lb n c L hc h0 h1 hn hne hlt hcell).mono ?_
 rintro e w1 ⟨t,ht,rfl,hc1,hg1⟩
 exact z2q (by simpa using List.all_eq_true.1 hm t ht) hc1 hg1
structure MkAt (base:Nat) (w:World) (mb blk:Nat) (a:Option Addr) (len cap:Nat) (t:ByteArray):Prop where
 cur:Cur base w blk a len cap
 own:base≤mb
 ne:mb≠blk
 row:w.heap[mb]?=some (.cells #[.pointer (some ⟨blk,0,none⟩),.string t] 128 (0,0))
section
variable {base:Nat} {w w':World} {mb blk:Nat} {a:Option Addr} {len cap:Nat} {t:ByteArray}
theorem MkAt.c0 (h:MkAt base w mb blk a len cap t):w.cell? ⟨mb,0,none⟩=some (.pointer (some ⟨blk,0,none⟩)):=cell_of_row w mb 0 _ _ _ h.row
theorem MkAt.c1 (h:MkAt base w mb blk a len cap t):w.cell? ⟨mb,1,none⟩=some (.string t):=cell_of_row w mb 1 _ _ _ h.row
theorem MkAt.lt (h:MkAt base w mb blk a len cap t):mb<w.heap.size:=(Array.getElem?_eq_some_iff.1 h.row).1
theorem MkAt.fz (h:MkAt base w mb blk a len cap t):w.frozen? ⟨mb,1,none⟩=false:=frozen_of_row w mb 1 _ _ h.row
theorem MkAt.gone (h:MkAt base w mb blk a len cap t) (hc:Cur base w' blk a len cap) (hg:w.grownBy w' (some blk)):MkAt base w' mb blk a len cap t:=
 ⟨hc,h.own,h.ne,(hg.block mb h.lt (fun e=>h.ne (Option.some.inj e))).trans h.row⟩
end
def zrc:List ByteArray:=[⟨#[97]⟩,⟨#[98]⟩,⟨#[118,97,108,117,101]⟩,⟨#[116,111,116,97,108]⟩,⟨#[115,111,109,101,76,111,110,103,101,114,78,97,109,101]⟩,⟨#[120,49]⟩,⟨#[116,104,101,86,101,114,121,76,111,110,103,101,115,116,78,97,109,101,79,102,65,108,108]⟩]
def zs4:List ByteArray:=[⟨#[48]⟩,⟨#[49,50]⟩,⟨#[49,50,51,52,53,54,55]⟩]
def zr3:List ByteArray:=[⟨#[39,115,97,105,100,39]⟩,⟨#[39,39]⟩,⟨#[39,97,32,108,111,110,103,101,114,32,116,101,120,116,32,104,101,114,101,39]⟩]
def zuu:List ByteArray:=[⟨#[43]⟩,⟨#[45]⟩,⟨#[42]⟩,⟨#[38,38]⟩,⟨#[124,124]⟩,⟨#[61,61]⟩,⟨#[60]⟩]
def zu2:List ByteArray:=[⟨#[]⟩,⟨#[97]⟩,⟨#[97,44,32,98]⟩]
theorem z47 (base:Nat) (w:World) (mb blk:Nat) (a:Option Addr) (len cap:Nat) (t:ByteArray) (h:MkAt base w mb blk a len cap t) :
 Calls Tryz.prog 155 #[.pointer (some ⟨mb,0,none⟩)] w (zco base w blk a len cap 23):=by
 have c0:=h.c0
 have HC:=z00 h.cur
 clear h
 go_enter Tryz.func155,Tryz.ntmps155
 go_wp2_with fail
 refine(z3o base _ blk a len cap _ _ 7 7 23 zrc HC.out rfl rfl (by omega) (by omega) (by decide)).mono ?_
 rintro e w1 ⟨u,hu,rfl,hc1,hg1⟩
 have HU:=z00 (And.intro hu (And.intro hc1 hg1))
 clear hu hc1 hg1
 go_wp2
 go_ret
 exact z2q HU.out.1 HU.out.2.1 HU.out.2.2
def vB:Nat→Nat
 | 0=>30
 | d+1=>3*vB d+80
def zqo (d:Nat):Prop:=∀ (base:Nat) (w:World) (mb blk:Nat) (a:Option Addr) (len cap:Nat) (t:ByteArray),MkAt base w mb blk a len cap t →
 Calls Tryz.prog 185 #[.pointer (some ⟨mb,0,none⟩),.int .i64 (d:Int)] w (zco base w blk a len cap (vB d))
def zs3 (d:Nat):Prop:=∀ (base:Nat) (w:World) (mb blk:Nat) (a:Option Addr) (len cap:Nat) (t:ByteArray),MkAt base w mb blk a len cap t →
 Calls Tryz.prog 217 #[.pointer (some ⟨mb,0,none⟩),.int .i64 ((d:Int)+1)] w (zco base w blk a len cap (3*vB d+7))
theorem ztw {d:Nat} (hd:d≤3) (hV:zqo d):zs3 d:=by
 intro base w mb blk a len cap t h
 have hb:vB d≤4000:=by
  rcases(show d=0∨d=1∨d=2∨d=3 by omega) with rfl|rfl|rfl|rfl<;>decide
 obtain⟨V,hVv⟩:∃ V,V=vB d:=⟨_,rfl⟩
 have qV:=fun W (h:MkAt base W mb blk a len cap t)=>hV base W mb blk a len cap t h
 rw[← hVv] at qV hb ⊢
 have c0:=h.c0
 have HM:=z00 (And.intro h (World.grownBy.refl w (some blk)))
 clear h hV hVv
 go_enter Tryz.func217,Tryz.ntmps217
 go_wp2_with fail
 refine(z1v base _ blk a len cap 4 HM.out.1.cur (by omega) (by omega)).mono ?_
 rintro e w1 ⟨n,hn,rfl,hc1,hg1⟩
 have H1:=z00 (And.intro (HM.out.1.gone hc1 hg1) (z0d HM.out.2 hg1))
 clear hc1 hg1 HM c0
 go_wp2
 go_loopw [5,7] (fun s i wr=>∃ (k:Nat) (u:ByteArray),k≤n∧u.size≤k*(V+2)∧s=.string u∧i=.int .i64 (k:Int)∧Hid (MkAt base wr mb blk a len cap t∧w.grownBy wr (some blk))) (fun _ i _=>n-(intOf i).toNat)
 case atStart=>exact⟨0,ByteArray.empty,Nat.zero_le _,by simp,rfl,rfl,H1⟩
 case round =>
  obtain⟨k,u,hk,hu,rfl,rfl,HI⟩:=hrel
  have hk4:k*(V+2)≤4*(V+2):=Nat.mul_le_mul_right _ (by omega)
  by_cases hlt:k<n
  ·have hA:(k:Int)<(n:Int):=by omega
   have hk5:(k+1)*(V+2)=k*(V+2)+(V+2):=Nat.succ_mul _ _
   by_cases h0:k=0
   ·subst h0
    go_wp2_with fail
    refine(qV _ HI.out.1).mono ?_
    rintro e w2 ⟨v,hv,rfl,hc2,hg2⟩
    have H2:=z00 (And.intro (HI.out.1.gone hc2 hg2) (z0d HI.out.2 hg2))
    clear hc2 hg2 HI qV
    go_wp2
    go_roundw
    case rel=>exact⟨1,_,by omega,by simp;omega,rfl,by go_num,H2⟩
    case measure=>simp[intOf];omega
   ·have h0':(0:Int)<(k:Int):=by omega
    go_wp2_with fail
    refine(qV _ HI.out.1).mono ?_
    rintro e w2 ⟨v,hv,rfl,hc2,hg2⟩
    have H2:=z00 (And.intro (HI.out.1.gone hc2 hg2) (z0d HI.out.2 hg2))
    clear hc2 hg2 HI qV
    go_wp2
    go_roundw
    case rel=>exact⟨k+1,_,by omega,by simp;have:(⟨#[44,32]⟩:ByteArray).size=2:=rfl;omega,rfl,by go_num,H2⟩
    case measure=>simp[intOf];omega
  ·have hA:¬ (k:Int)<(n:Int):=by omega
   obtain rfl:k=n:=by omega
   have c0:=HI.out.1.c0
   have h3:k*(V+2)≤3*(V+2):=Nat.mul_le_mul_right _ (by omega)
   by_cases h0:k=0
   ·subst h0
    go_wp2
    go_ret
    exact z2q (by omega) HI.out.1.cur HI.out.2
   ·have h0':(0:Int)<(k:Int):=by omega
    go_wp2_with fail
    refine(z6c base _ blk a len cap 5 HI.out.1.cur (by omega) (by omega)).mono ?_
    rintro e w2 ⟨b,rfl,hc2,hg2⟩
    have H2:=z00 (And.intro hc2 (z0d HI.out.2 hg2))
    clear hc2 hg2 HI qV
    cases b
    ·go_wp2
     go_ret
     exact z2q (by omega) H2.out.1 H2.out.2
    ·go_wp2
     go_ret
     exact z2q (by simp;have:(⟨#[44]⟩:ByteArray).size=1:=rfl;omega) H2.out.1 H2.out.2
end Go.Proofs.YtekebloinobjnaaGreatDoor
