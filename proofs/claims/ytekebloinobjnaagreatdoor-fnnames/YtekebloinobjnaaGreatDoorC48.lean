/- Texts of one proof, laid together: RdTr, DmS, DrawP, FrLib. -/
import Derived.Test.YtekebloinobjnaaGreatDoorC31
import Derived.Test.YtekebloinobjnaaGreatDoorC03
import Derived.Test.YtekebloinobjnaaGreatDoorC47
import Derived.Test.YtekebloinobjnaaGreatDoorC43
import Derived.Test.YtekebloinobjnaaGreatDoorC44
import Derived.Lib.ItoaNum
set_option maxHeartbeats 16000000
set_option maxRecDepth 100000
namespace Go.Proofs.YtekebloinobjnaaGreatDoor
open Go.RowKit
theorem z5x {t:ByteArray} (h:z8t t):TreeP (z84 t)∧∀ x∈z84 t,SafeNd x:=by
 obtain⟨_,k,s,hf,hT⟩:=h
 rw[z8p hf]
 exact⟨hT,fun x hx=>zi2 (zn3 t) k s hf x hx⟩
def z8c:Np:=⟨⟨22,⟨#[]⟩,[],false⟩,none,0⟩
theorem zh7:TreeP [z8c.nd]:=by
 refine⟨by simp,by simp,⟨z8c.nd,rfl,rfl⟩,⟨[1],[],z8c.nd,rfl,rfl,⟨?_,?_,?_,?_,?_,?_⟩,by decide,rfl⟩,fun i hi=>by simp at hi⟩
 ·decide
 ·unfold zjy z8c;simp
 ·intro h;cases h
 ·intro i z h;simp[z8c] at h
 ·intro i j z _ h;simp[z8c] at h
 ·intro i z y h;simp[z8c] at h
theorem zjo:∀ q∈[z8c],SafeNd q.nd:=fun q hq=>by
 obtain rfl:q=z8c:=by simpa using hq
 refine⟨?_,by decide,fun h=>by simp[z8c] at h⟩
 unfold zk0 z8c
 simp
 rfl
theorem zky (w:World):Nds (w.alloc (.cells #[.int .i64 22,.string ⟨#[]⟩,.slice none 0 0,.bool false] 56)) w.heap.size (some ⟨w.heap.size,0,none⟩) 1 [z8c]:=
 ⟨World.ownsRow_lit w #[.int .i64 22,.string ⟨#[]⟩,.slice none 0 0,.bool false] 1 (Nat.le_refl _) (by decide) rfl,fun q hq=>by
  obtain rfl:q=z8c:=by simpa using hq
  exact⟨rfl,.inl ⟨rfl,rfl⟩⟩⟩
theorem zk8 {w X:World} {B b c:Nat} {a:Option Addr} {qs:List Np} (h:Nds w B a c qs) (hg:w.grownBy X (some b)) (hb:b<B):Nds X B a c qs:=
 have k:∀ {e s n:Nat} {v:Value} {xs:List Value},w.ownsRow B e s v n xs→v.ownBlock=none∨v.ownBlock≠some b:=fun {e s n v xs} ho=>by
  cases hv:v.ownBlock with
  | none=>exact .inl rfl
  | some g=>exact .inr (fun e=>by have:=(ho.lt g hv).1;injection e with e;omega)
 ⟨World.ownsRow.kept h.row hg (k h.row),fun q hq=>World.ownsRow.kept (h.each q hq) hg (k (h.each q hq))⟩
def zpu (base:Nat) (w:World) (blk:Nat) (a:Option Addr) (len cap:Nat) (e:Ending) (w':World):Prop:=
 ∃ (na:Option Addr) (nc:Nat) (qs:List Np),e=.returned (.slice na qs.length nc)∧Nds w' w.heap.size na nc qs∧TreeP (qs.map Np.nd)∧(∀ q∈qs,SafeNd q.nd)∧Cur base w' blk a len cap∧w.grownBy w' (some blk)
def zm3:ByteArray:=⟨#[109,97,105,110,40,41,32,123,32,97,40,98,44,32,99,32,43,32,100,41,59,32,125]⟩
theorem zts (base:Nat) (w:World) (blk:Nat) (a:Option Addr) (len cap:Nat) (h:Cur base w blk a len cap) :
 Calls Tryz.prog 45 #[.pointer (some ⟨blk,0,none⟩)] w (zpu base w blk a len cap):=by
 have qX:=zue base w blk a len cap h
 have HC:=z00 h
 clear h
 go_enter Tryz.func45,Tryz.ntmps45
 go_wp2_with fail
 refine qX.mono ?_
 rintro e w1 ⟨t,ht,rfl,hc1,hg1⟩
 have qR:=fun W=>z8m t W (by omega)
 have H1:=z00 (And.intro hc1 hg1)
 have s1:=hg1.size
 clear hc1 hg1 qX HC
 go_wp2_with fail
 refine(qR _).mono ?_
 rintro e w2 ⟨na,nc,qs,pl,b,rfl,hN,b2,hR,hq,hq0⟩
 have hc2:=H1.out.1.kept (z0t b2 none) (fun k hk=>by cases hk)
 have hg2:=z65 H1.out.2 (z0t b2 none) (fun k hk=>by cases hk)
 have s2:=b2.size
 have H2:=z00 (And.intro hc2 hg2)
 clear qR H1 hc2 hg2 b2
 cases b with
 | true =>
   have hT:=z5x (hR.1 rfl)
   rw[← hq rfl] at hT
   have hl:1≤qs.length:=by have:=hT.1.least;simpa using this
   have hne:((qs.length:Int)==0)=false:=by rw[beq_eq_false_iff_ne];omega
   have HT:=z00 hT
   have HN:=z00 hN
   clear hT hN hR hq hq0
   go_wp2
   go_ret
   exact⟨na,nc,qs,rfl,z5d HN.out s1,HT.out.1,fun q hq=>HT.out.2 _ (List.mem_map_of_mem hq),H2.out.1,H2.out.2⟩
 | false =>
   clear hN hR hq hq0
   have qR:=fun W=>z8m zm3 W (by decide)
   unfold zm3 at qR
   go_wp2_with fail
   refine(qR _).mono ?_
   rintro e w3 ⟨na3,nc3,qs3,pl3,b3,rfl,hN,b3b,hR,hq,hq0⟩
   have hc3:=H2.out.1.kept (z0t b3b none) (fun k hk=>by cases hk)
   have hg3:=z65 H2.out.2 (z0t b3b none) (fun k hk=>by cases hk)
   have s3:=b3b.size
   have H3:=z00 (And.intro hc3 hg3)
   clear qR H2 hc3 hg3 b3b
   cases b3 with
   | true =>
     have hT:=z5x (hR.1 rfl)
     rw[← hq rfl] at hT
     have hl:1≤qs3.length:=by have:=hT.1.least;simpa using this
     have hne:((qs3.length:Int)==0)=false:=by rw[beq_eq_false_iff_ne];omega
     have HT:=z00 hT
     have HN:=z00 hN
     clear hT hN hR hq hq0
     go_wp2
     go_ret
     exact⟨na3,nc3,qs3,rfl,z5d HN.out (by omega),HT.out.1,fun q hq=>HT.out.2 _ (List.mem_map_of_mem hq),H3.out.1,H3.out.2⟩
   | false =>
     obtain rfl:=hq0 rfl
     clear hN hR hq hq0
     go_wp2
     go_ret
     exact⟨_,_,[z8c],rfl,z5d (zky w3) (by omega),zh7,zjo,H3.out.1.kept (World.grownBy_alloc w3 _ none) (fun k hk=>by cases hk),z65 H3.out.2 (World.grownBy_alloc w3 _ none) (fun k hk=>by cases hk)⟩
def zua (w:World) (e:Ending) (w':World):Prop:=
 ∃ (na:Option Addr) (nc:Nat) (qs:List Np) (k:Int),e=.returned (.tuple #[.slice na qs.length nc,.int .i64 k])∧Nds w' w.heap.size na nc qs∧Below w.heap.size w w'∧((∀ q∈qs,SafeNd q.nd)∧qs.length≤300) ∧
   (k=-1∨(TreeP (qs.map Np.nd)∧∃ kn:Nat,k=(kn:Int)∧zc3 (qs.map Np.nd) kn∧∃ y,(qs.map Np.nd)[kn]?=some y∧y.kind≠21))
theorem zms {ns:List Nd} {z:Nat} (h:zc3 ns z):z<ns.length:=by
 obtain⟨p,x,y,_,_,_,h,_⟩:=h
 exact(List.getElem?_eq_some_iff.1 h).1
theorem z92 (w:World) (a:Option Addr) (len cap:Nat) (hc:CodeAt w.heap.size w a len) :
 Calls Tryz.prog 12 #[.slice a len cap] w (zua w):=by
 have qN:=zi3 w.heap.size w a len cap hc (Nat.le_refl _)
 clear hc
 go_enter Tryz.func12,Tryz.ntmps12
 go_wp2_with fail
 refine qN.mono ?_
 rintro e w1 ⟨blk,rfl,hbk,hc1,hb1⟩
 have qT:=zts w.heap.size w1 blk a len cap hc1
 have s1:=hb1.size
 have hbl1:=hc1.lt
 have HB1:=z00 hb1
 clear qN hc1 hb1
 go_wp2_with fail
 refine qT.mono ?_
 rintro e w2 ⟨na,nc,qs,rfl,hN,hT,hS,hc2,hg2⟩
 have qM:=fun W (hW:Below w2.heap.size w2 W)=>zm7 z68 (hN.below hW) hS hT
 have hB2:=HB1.out.grown hg2 s1 (fun k hk=>by cases hk;omega)
 have hn:qs.length≤300:=by have:=hT.most;simpa using this
 have hml:∀ z,zc3 (qs.map Np.nd) z→z<qs.length:=fun z hz=>by have:=zms hz;simpa using this
 have s2:=hg2.size
 have HN:=z00 (And.intro hN (And.intro hT hS))
 have HC:=z00 hc2
 have HML:=z00 hml
 have hn1:1≤qs.length:=by have:=hT.least;simpa using this
 obtain⟨a0,ha0⟩:=z0s hN.row (by omega)
 subst ha0
 have HB2:=z00 hB2
 clear qT hN hT hS hc2 hg2 hB2 HB1 hml
 go_wp2_with fail
 refine(qM _ (Below.refl _ _)).mono ?_
 rintro e w3 ⟨us,hus,hu3,b3,ua,uc,rfl,ou⟩
 have hul:(z1d us).length=us.length:=z1t us
 rw[hul] at ou ⊢
 obtain⟨U,hUe⟩:∃ U,U=us.length:=⟨_,rfl⟩
 rw[← hUe] at ou hu3 ⊢
 have HUE:=z00 hUe
 have HUS:=z00 hus
 have hc3:=HC.out.kept (z0t b3 none) (fun k hk=>by cases hk)
 have s3:=b3.size
 have HC3:=z00 hc3
 have HU3:=z00 ou
 have HB3:=z00 b3
 have hblk:=hc3.lt
 clear qM HC hul hUe hus b3 ou hc3
 go_wp2
 go_loopw [7] (fun i wr=>∃ j:Nat,j≤U∧i=.int .i64 (j:Int)∧Hid (Cur w.heap.size wr blk a len cap∧w3.grownBy wr (some blk))) (fun i _=>U-(intOf i).toNat)
 case atStart=>exact⟨0,Nat.zero_le _,rfl,z00 ⟨HC3.out,World.grownBy.refl _ _⟩⟩
 case round =>
  clear HC3
  obtain⟨j,hj,rfl,HR⟩:=hrel
  by_cases hlt:j<U
  ·have hA:(j:Int)<(U:Int):=by omega
   go_wp2_with fail
   refine(z1v w.heap.size _ blk a len cap 5 HR.out.1 (by omega) (by omega)).mono ?_
   rintro e w4 ⟨x,hx,rfl,hc4,hg4⟩
   have H4:=z00 (And.intro hc4 (z0d HR.out.2 hg4))
   clear hc4 hg4 HR
   have hUnz:((U:Int)==0)=false:=by rw[beq_eq_false_iff_ne];omega
   obtain⟨m,hm⟩:∃ m,m=(j+x) % U:=⟨_,rfl⟩
   have hmU:m<U:=by rw[hm];exact Nat.mod_lt _ (by omega)
   have hm1:((j:Int)+(x:Int)).tmod (U:Int)=(m:Int):=by rw[Int.tmod_eq_emod_of_nonneg (by omega),hm];rfl
   have hm2:((j:Int)+(x:Int)) % (U:Int)=(m:Int):=by rw[hm];rfl
   obtain⟨z,hz⟩:∃ z,us[m]?=some z:=⟨_,List.getElem?_eq_getElem (by rw[← HUE.out];exact hmU)⟩
   have hzm:=HUS.out z (List.mem_of_getElem? hz)
   have hzl:=HML.out z hzm
   have o4:=World.ownsRow.kept HU3.out H4.out.2 (by
    rcases HU3.out.2 with⟨e,_⟩|⟨g,cap',cur,e,hg,_⟩
    ·rw[e];exact .inl rfl
    ·rw[e]
     refine .inr (fun e2=>?_)
     have e3:g=blk:=by injection e2
     have e4:w2.heap.size≤g:=hg
     omega)
   have N4:=zk8 (HN.out.1.below HB3.out) H4.out.2 hbl1
   obtain⟨ub,hub⟩:=z0s o4 (by omega)
   subst hub
   have cu:=(o4.cellAt m (by omega)).trans (z5r hz)
   obtain⟨q,hq⟩:∃ q,qs[z]?=some q:=⟨_,List.getElem?_eq_getElem hzl⟩
   obtain⟨b',hbb,hb2,d0,-,-,-⟩:=N4.node hq
   obtain rfl:a0=b':=by injection hbb with hbb;injection hbb
   obtain⟨kz,hkz⟩:∃ kz,kz=q.nd.kind:=⟨_,rfl⟩
   rw[← hkz] at d0
   have B4:=(HB2.out.trans (HB3.out.mono HB2.out.size)).grown H4.out.2 (by omega) (fun k hk=>by cases hk;omega)
   have HF:=z00 (show kz≠21→zc3 (qs.map Np.nd) z∧∃ y,(qs.map Np.nd)[z]?=some y∧y.kind≠21 from fun h21=>⟨hzm,q.nd,by rw[List.getElem?_map,hq];rfl,by rw[← hkz];exact h21⟩)
   have HN4:=z00 N4
   have HB4:=z00 B4
   have hA1:(0:Int)≤(m:Int):=by omega
   have hA2:(m:Int)<(U:Int):=by omega
   have hA3:(0:Int)≤(z:Int):=by omega
   have hA4:(z:Int)<(qs.length:Int):=by omega
   clear hm hz hzm hbb hq hkz N4 B4 o4
   by_cases h21:kz=21
   ·have he:(kz != 21)=false:=by simpa using h21
    clear h21
    go_wp2
    go_roundw
    case rel=>exact⟨j+1,by omega,by go_num,H4⟩
    case measure=>simp[intOf];omega
   ·have he:(kz != 21)=true:=by simpa using h21
    have HY:=z00 (HF.out h21)
    clear h21
    go_wp2
    go_ret2
    exact⟨_,nc,qs,_,rfl,z5d HN4.out s1,HB4.out,⟨HN.out.2.2,hn⟩,.inr ⟨HN.out.2.1,z,rfl,HY.out⟩⟩
  ·have hA:¬ (j:Int)<(U:Int):=by omega
   have qR:=fun W=>z8m zm3 W (by decide)
   unfold zm3 at qR
   have B3:=(HB2.out.trans (HB3.out.mono HB2.out.size)).grown HR.out.2 (by omega) (fun k hk=>by cases hk;omega)
   have HB4:=z00 B3
   have s4:=B3.size
   clear B3 HN HB2 HB3 HU3 HUS
   go_wp2_with fail
   refine(qR _).mono ?_
   rintro e w5 ⟨na5,nc5,qs5,pl5,b5,rfl,hN5,b5b,hR5,hq5,hq05⟩
   have hS5:(∀ q∈qs5,SafeNd q.nd)∧qs5.length≤300:=by
    cases b5 with
    | true =>
      have hT:=z5x (hR5.1 rfl)
      rw[← hq5 rfl] at hT
      exact⟨fun q hq=>hT.2 _ (List.mem_map_of_mem hq),by have:=hT.1.most;simpa using this⟩
    | false=>rw[hq05 rfl];exact⟨fun q hq=>(by cases hq),by simp⟩
   have qA:=fun W (hW:Below w5.heap.size w5 W)=>zgt z68 ⟨#[109,97,105,110]⟩ (hN5.below hW) hS5.1 hS5.2
   have HT5:=z00 (show b5=true→TreeP (qs5.map Np.nd) from fun h=>by rw[hq5 h];exact(z5x (hR5.1 h)).1)
   have HE5:=z00 (show b5=false→qs5=[] from hq05)
   have HN5:=z00 hN5
   have HS5:=z00 hS5
   have B5:=HB4.out.trans (b5b.mono s4)
   have HB5:=z00 B5
   have s5:=b5b.size
   clear qR hN5 b5b hR5 hq5 hq05 hS5 B5
   go_wp2_with fail
   refine(qA _ (Below.refl _ _)).mono ?_
   rintro e w6 ⟨z,rfl,hz,b6⟩
   have HZ:=z00 hz
   have HB6:=z00 b6
   clear qA hz b6
   go_wp2
   go_ret2
   refine⟨_,nc5,qs5,_,rfl,z5d (HN5.out.below HB6.out) s4,HB5.out.trans (HB6.out.mono HB5.out.size),HS5.out,?_⟩
   rcases HZ.out with h|⟨zn,h1,h2,y,h3,h4⟩
   ·exact .inl h
   ·right
    cases b5 with
    | true=>exact⟨HT5.out rfl,zn,h1,h2,y,h3,by rw[h4];decide⟩
    | false =>
      rw[HE5.out rfl] at h3
      simp at h3
theorem zon:(Tryz.prog.info? 3).map (fun i=>(i.zero,i.size,i.bytes))=some (some (.int .i64 0),1,8):=by kernel_rfl
def zr5 (base:Nat) (w:World) (e:Ending) (w':World):Prop:=
 ∃ (v:Value) (zs:List Int),zs.length=12∧(∀ z∈zs,0≤z∧z<10000)∧e=.returned v∧w'.ownsRow w.heap.size 3 1 v 12 (zs.map (Value.int .i64))∧Below base w w'
theorem zuc {base:Nat} {w w':World} {v:Value} {zs:List Int} (hl:zs.length=12) (hz:∀ z∈zs,0≤z∧z<10000) (ho:w'.ownsRow w.heap.size 3 1 v 12 (zs.map (Value.int .i64))) (hb:Below base w w'):zr5 base w (.returned v) w':=⟨v,zs,hl,hz,rfl,ho,hb⟩
theorem zex (base:Nat) (w:World) (a:Option Addr) (len cap:Nat) (hc:CodeAt base w a len) (hb:base≤w.heap.size) :
 Calls Tryz.prog 19 #[.slice a len cap] w fun e w'=>zr5 base w e w':=by
 obtain⟨i0,hi,hz0,hz1,hz2⟩:=info_parts zon
 have HC:=z00 hc
 clear hc
 go_enter Tryz.func19,Tryz.ntmps19
 go_wp2_with fail
 refine(zi3 base _ a len cap HC.out hb).mono ?_
 rintro e w1 ⟨blk,rfl,hbk,hc1,hb1⟩
 have H1:=z00 (And.intro hc1 hb1)
 have hs1:=hb1.size
 clear hc1 hb1
 go_wp2_with fail
 refine(z52 base _ blk a len cap H1.out.1).mono ?_
 rintro e w2 ⟨x,hx,rfl,hc2,hg2⟩
 have hs2:=hg2.size
 have hbl:=hc2.lt
 have H2:Hid (Cur base w2 blk a len cap∧Below base w w2):=⟨hc2,(H1.out.2.mono hb).grown hg2 (by omega) (fun k hk=>by cases hk;omega)⟩
 clear hc2 hg2
 go_wp2
 go_loopw [4,5] (fun v i wr=>∃ (k:Nat) (zs:List Int),k≤12∧i=.int .i64 k∧Hid (zs.length=k∧∀ z∈zs,0≤z∧z<10000)∧wr.ownsRow w2.heap.size 3 1 v k (zs.map (Value.int .i64))∧Hid (Cur base wr blk a len cap∧Below base w wr)∧w2.heap.size≤wr.heap.size) (fun _ i _=>12-(intOf i).toNat)
 case atStart=>exact⟨0,[],Nat.zero_le _,rfl,⟨rfl,fun z hz=>by cases hz⟩,World.ownsRow_made w2 #[] 0 (Nat.le_refl _) (by decide) rfl,⟨H2.out.1.kept (World.grownBy_alloc w2 _ none) (fun k hk=>by cases hk),H2.out.2.alloc (by omega) _⟩,by simp⟩
 case round =>
  obtain⟨k,zs,hk,rfl,HL,hown,HI,hsz⟩:=hrel
  by_cases hlt:k<12
  ·go_wp2_with fail
   refine(z1v base _ blk a len cap 10000 HI.out.1 (by omega) (by omega)).mono ?_
   rintro e w3 ⟨y,hy,rfl,hc3,hg3⟩
   have hown3:=hown.kept hg3 (by
    cases hv:u4.ownBlock with
    | none=>exact Or.inl rfl
    | some g=>right;intro e;have:=(hown.lt g hv).1;cases e;omega)
   have hs3:=hg3.size
   have hrow:∀ k,u4.ownBlock=some k→w2.heap.size≤k:=fun k hk=>(hown.lt k hk).1
   have H3:Hid (Cur base w3 blk a len cap∧Below base w w3):=⟨hc3,HI.out.2.grown hg3 (by omega) (fun k hk=>by cases hk;omega)⟩
   clear hc3 hg3
   go_wp2_with (at_builtin;refine wpList_append_own _ rfl _ _ 29 rfl w2.heap.size 3 i0 (.int .i64 0) 1 8 Tryz.underlying29 hi hz0 hz1 hz2 rfl (by decide) _ _ _ rfl (hown3.alloc _) ⟨w3.heap.size,0,none⟩ 1 1 [.int .i64 (y:Int)] rfl rfl (cell_one_new _ _ _) (fun x hx=>by simp at hx;subst hx;rfl) (by unfold maxLen;omega) (by omega) (by simp;omega) ?_;intro v' w4 hown' hgrow4 hnil4)
   go_roundw
   case rel =>
    have hca:=H3.out.1.kept (World.grownBy_alloc w3 (.cells #[.int .i64 (y:Int)] 3) none) (fun k hk=>by cases hk)
    refine⟨k+1,zs++[(y:Int)],by omega,by go_num,⟨by simp[HL.out.1],fun z hz=>?_⟩,by simpa using hown',⟨hca.kept hgrow4 (fun k hk=>⟨by have:=hrow k hk;omega,by have:=hrow k hk;omega⟩),(H3.out.2.alloc (by omega) _).grown hgrow4 (by simp;omega) (fun k hk=>by have:=hrow k hk;omega)⟩,by have:=hgrow4.size;simp at this;omega⟩
    rcases List.mem_append.1 hz with h|h
    ·exact HL.out.2 z h
    ·simp at h;omega
   case measure=>simp[intOf];omega
  ·have hk12:k=12:=by omega
   have HK:=z00 hk12
   clear hk12
   go_wp2
   go_ret
   have e:=HK.out
   subst e
   exact zuc HL.out.1 HL.out.2 (z01 hown (by omega)) HI.out.2
def zrt (l:List UInt8):Nat:=l.foldl (fun a b=>10*a+(b.toNat-48)) 0
theorem zht (l:List UInt8) (b:UInt8):zrt (l++[b])=10*zrt l+(b.toNat-48):=by simp[zrt]
theorem zt6 {d:Nat} (h:d<10):(UInt8.ofNat (48+d)).toNat=48+d:=by
 rw[UInt8.toNat_ofNat']
 omega
theorem z9y:∀ (n u:Nat),u<n→zrt (Lib.decDigits u)=u
 | 0,_,h=>by omega
 | n+1,u,h=>by
   by_cases h10:u<10
   ·rw[Lib.decDigits,dif_pos h10]
    show 10*0+((UInt8.ofNat (48+u)).toNat-48)=u
    rw[zt6 h10]
    omega
   ·rw[Lib.decDigits,dif_neg h10,zht,z9y n (u / 10) (by omega),zt6 (by omega)]
    omega
theorem zdq:∀ (n u:Nat),u<n→∀ b∈Lib.decDigits u,48≤b.toNat∧b.toNat≤57
 | 0,_,h=>by omega
 | n+1,u,h=>by
   intro b hb
   by_cases h10:u<10
   ·rw[Lib.decDigits,dif_pos h10] at hb
    rw[List.mem_singleton.1 hb,zt6 h10]
    omega
   ·rw[Lib.decDigits,dif_neg h10] at hb
    rcases List.mem_append.1 hb with hb|hb
    ·exact zdq n (u / 10) (by omega) b hb
    ·rw[List.mem_singleton.1 hb,zt6 (by omega)]
     omega
theorem zin:∀ (k u:Nat),u<10 ^ (k+1)→(Lib.decDigits u).length≤k+1
 | 0,u,h=>by rw[Lib.decDigits,dif_pos (by omega)];simp
 | k+1,u,h=>by
   by_cases h10:u<10
   ·rw[Lib.decDigits,dif_pos h10];simp
   ·rw[Lib.decDigits,dif_neg h10,List.length_append]
    have:=zin k (u / 10) (by rw[Nat.pow_succ] at h;omega)
    simp
    omega
def frB:ByteArray:=⟨#[102,114,101,115,104]⟩
def z7a (i:Nat):ByteArray:=if i=0 then frB else frB++⟨(Lib.itoa ((i+1:Nat):Int)).toArray⟩
theorem zeg:z7a 0=frB:=rfl
theorem z8q (i:Nat):z7a (i+1)=frB++⟨(Lib.itoa ((i+2:Nat):Int)).toArray⟩:=by unfold z7a;rw[if_neg (by omega)]
theorem z69 (i:Nat):(z7a (i+1)).data.toList=[102,114,101,115,104]++Lib.decDigits (i+2):=by
 rw[z8q]
 have h:Lib.itoa ((i+2:Nat):Int)=Lib.decDigits (i+2):=by
  unfold Lib.itoa
  rw[if_neg (by omega)]
  rfl
 rw[h,ByteArray.data_append,Array.toList_append]
 rfl
theorem zk1 {i j:Nat} (h:z7a i=z7a j):i=j:=by
 have hl:∀ k,(z7a (k+1)).data.toList≠(z7a 0).data.toList:=fun k e=>by
  rw[z69] at e
  have:=congrArg List.length e
  have h0:0<(Lib.decDigits (k+2)).length:=by rw[Lib.decDigits];split<;>simp
  have h5:(z7a 0).data.toList.length=5:=rfl
  rw[List.length_append,h5,show ([102,114,101,115,104]:List UInt8).length=5 from rfl] at this
  omega
 rcases i with _|i<;>rcases j with _|j
 ·rfl
 ·exact absurd (by rw[← h]) (hl j)
 ·exact absurd (by rw[h]) (hl i)
 ·have e:(z7a (i+1)).data.toList=(z7a (j+1)).data.toList:=by rw[h]
  rw[z69,z69] at e
  have e2:=List.append_cancel_left e
  have e3:=congrArg zrt e2
  rw[z9y _ _ (Nat.lt_succ_self _),z9y _ _ (Nat.lt_succ_self _)] at e3
  omega
theorem zed {t:ByteArray} {l:List UInt8} (h:t.data.toList=102::l) (hl:l.length≤20) (hb:∀ b∈l,(97≤b.toNat∧b.toNat≤122)∨(48≤b.toNat∧b.toNat≤57)):zj9 t∧t.size≤21:=by
 have hs:t.size=l.length+1:=by
  have:=congrArg List.length h
  simpa using this
 have h0:by8 t 0=102:=by unfold by8;rw[h];rfl
 have hn:∀ j,j<t.size→z3r (by8 t (0+j))=true:=fun j hj=>by
  rw[Nat.zero_add]
  rcases j with _|j
  ·rw[h0];decide
  ·have hj2:j<l.length:=by omega
   have e:by8 t (j+1)=(l[j].toNat:Int):=by
    unfold by8
    rw[h,List.getD_cons_succ,List.getD_eq_getElem?_getD,List.getElem?_eq_getElem hj2]
    rfl
   rw[e]
   unfold z3r z3u z2f
   rcases hb _ (List.getElem_mem hj2) with h1|h1
   ·have a1:(97:Int)≤(l[j].toNat:Int):=by omega
    have a2:(l[j].toNat:Int)≤122:=by omega
    simp[a1,a2]
   ·have a1:(48:Int)≤(l[j].toNat:Int):=by omega
    have a2:(l[j].toNat:Int)≤57:=by omega
    simp[a1,a2]
 refine⟨⟨?_,?_⟩,by omega⟩
 ·unfold z3b
  rw[z5f (by rw[h0];decide) (by rw[h0];decide),z2s t.size 0 (by omega) hn (fun hl=>by omega)]
  unfold z5h
  rw[if_neg (by omega)]
 ·unfold kw
  rw[ByteArray.toList_eq,h]
  rfl
theorem z7o {i:Nat} (h:i≤400):zj9 (z7a i)∧(z7a i).size≤21:=by
 rcases i with _|i
 ·exact zed (l:=[114,101,115,104]) rfl (by decide) (by decide)
 ·refine zed (l:=[114,101,115,104]++Lib.decDigits (i+2)) ((z69 i).trans rfl) ?_ (fun b hb=>?_)
  ·have:=zin 2 (i+2) (by omega)
   simp
   omega
  ·rcases List.mem_append.1 hb with hb|hb
   ·have:∀ b∈([114,101,115,104]:List UInt8),97≤b.toNat∧b.toNat≤122:=by decide
    exact .inl (this b hb)
   ·exact .inr (zdq _ _ (Nat.lt_succ_self _) b hb)
theorem zdr {α:Type} [DecidableEq α]:∀ {l1 l2:List α},l1.Nodup→(∀ x∈l1,x∈l2)→l1.length≤l2.length
 | [],_,_,_=>by simp
 | a::l1,l2,hn,h=>by
   obtain⟨h1,h2⟩:=List.nodup_cons.1 hn
   have ha:=h a List.mem_cons_self
   have:=zdr (l2:=l2.erase a) h2 (fun x hx=>(List.mem_erase_of_ne (fun e=>h1 (by rwa [← e]))).2 (h x (List.mem_cons_of_mem _ hx)))
   rw[List.length_erase_of_mem ha] at this
   have:=List.length_pos_of_mem ha
   simp
   omega
theorem zkb {l:List ByteArray} {i:Nat} (h:∀ j,j<i→z7a j∈l):i≤l.length:=by
 have:=zdr (l1:=(List.range i).map z7a) (l2:=l) (by
  rw[List.nodup_iff_pairwise_ne,List.pairwise_map]
  have:=List.nodup_range (n:=i)
  rw[List.nodup_iff_pairwise_ne] at this
  exact this.imp fun {a b} hab e=>hab (zk1 e)) (fun x hx=>by
  obtain⟨j,hj,rfl⟩:=List.mem_map.1 hx
  exact h j (List.mem_range.1 hj))
 simpa using this
end Go.Proofs.YtekebloinobjnaaGreatDoor
