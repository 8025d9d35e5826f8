/- Texts of one proof, laid together: ToI, TlJ. -/
import Derived.Test.YtekebloinobjnaaGreatDoorC36
import Derived.Test.YtekebloinobjnaaGreatDoorC10
import Derived.Test.YtekebloinobjnaaGreatDoorC35
import Derived.Test.YtekebloinobjnaaGreatDoorC37
set_option maxHeartbeats 16000000
set_option maxRecDepth 100000
namespace Go.Proofs.YtekebloinobjnaaGreatDoor
open Go.RowKit
open Go.RowKit Go.Lib Go.Maps Go.Sort
def zna:Dt→Int
 | .agg [.lit (.int _ c),_]=>c
 | _=>0
abbrev BK:Type:={ s:ByteArray // s.size≤maxLen }
def zmm (D:Dt) (x y:BK):Int:=Lib.compareInt (zna (D.atKey (kS x.1) (z5b 0 0))) (zna (D.atKey (kS y.1) (z5b 0 0)))
theorem ltF (D:Dt) (x y:BK):ltOf (zmm D) x y=decide (zna (D.atKey (kS x.1) (z5b 0 0))<zna (D.atKey (kS y.1) (z5b 0 0))):=by
 unfold ltOf zmm Lib.compareInt
 by_cases h1:zna (D.atKey (kS x.1) (z5b 0 0))<zna (D.atKey (kS y.1) (z5b 0 0))
 ·simp[h1]
 ·by_cases h2:zna (D.atKey (kS y.1) (z5b 0 0))<zna (D.atKey (kS x.1) (z5b 0 0))<;>simp[h1,h2]
theorem zv4 (D:Dt):SWO (ltOf (zmm D)):=⟨fun x=>by rw[ltF];simp,fun x y z h1 h2=>by rw[ltF] at *;simp at *;omega,fun x y z h1 h2=>by rw[ltF] at *;simp at *;omega⟩
theorem zst {W:World} {b n ob:Nat} {D:Dt} {K:ByteArray→Prop} {f:ByteArray→Nat} (hM:z2d W b n D) (hu:UM D K f) (h0:∀ s,¬ K s→f s=0) (hc:W.cell? ⟨ob,0,none⟩=some (.map (some b))) (x y:BK) :
 Calls Tryz.prog 92 #[.string x.1,.string y.1,.pointer (some ⟨ob,0,none⟩)] W fun e w'=>e=.returned (.int .i64 (zmm D x y))∧∃ q,w'=W.drewN q:=by
 obtain⟨a1,hat1,hL1⟩:=z56 hu h0 x.2
 obtain⟨a2,hat2,hL2⟩:=z56 hu h0 y.2
 have hv:zmm D x y=Lib.compareInt a1 a2:=by unfold zmm;rw[hat1,hat2];rfl
 rw[hv]
 have q1:=hL1 W b n hM
 have q2:=hL2 W b n hM
 have q3:=hL1 W.drew b n hM
 have q4:=hL2 W.drew b n hM
 have hf1:=fun W=>zbv W a1 (f x.1)
 have hf2:=fun W=>zbv W a2 (f y.1)
 have qc:=fun W=>Tryz.cmp_Compare_int a1 a2 W
 generalize Lib.compareInt a1 a2=r at qc ⊢
 obtain⟨s,hs⟩:=x
 obtain⟨t,ht⟩:=y
 clear hM hu h0 hat1 hat2 hL1 hL2 hv
 go_enter Tryz.func92,Tryz.ntmps92
 go_wp2_with (go_at_call 93;refine(qc _).mono ?_;rintro e w' ⟨rfl,rfl⟩)
 go_ret
 exact⟨rfl,0,rfl⟩
theorem zfd {g cap base ob:Nat} {ys:List ByteArray} {w:World} (D:Dt) (ho:w.ownsRow base tS 1 (.slice (some ⟨g,0,none⟩) ys.length cap) ys.length (z0h ys)) (hsz:∀ y∈ys,y.size≤maxLen) (hl:ys.length≤100000)
 (hC:∀ W,w.grownBy W (some g)→∀ x y:BK,Calls Tryz.prog 92 #[.string x.1,.string y.1,.pointer (some ⟨ob,0,none⟩)] W fun e w'=>e=.returned (.int .i64 (zmm D x y))∧∃ q,w'=W.drewN q) :
 Calls Tryz.prog 130 #[.slice (some ⟨g,0,none⟩) ys.length cap,.func (.func 92) #[] #[.pointer (some ⟨ob,0,none⟩)]] w fun e w'=>e=.returned (.tuple #[])∧∃ zs:List ByteArray,zs.Perm ys∧w.grownBy w' (some g)∧w'.ownsRow base tS 1 (.slice (some ⟨g,0,none⟩) ys.length cap) ys.length (z0h zs):=by
 letI:Inhabited BK:=⟨⟨ByteArray.empty,by decide⟩⟩
 obtain⟨zs,hzs⟩:∃ zs:List BK,zs.map Subtype.val=ys:=⟨ys.attachWith _ hsz,by simp⟩
 have hzl:zs.length=ys.length:=by rw[← hzs,List.length_map]
 have he:zs.map (fun x:BK=>Value.string x.1)=z0h ys:=by rw[← hzs];unfold z0h;rw[List.map_map];rfl
 have ho':w.ownsRow base tS 1 (.slice (some ⟨g,0,none⟩) ys.length cap) ys.length (zs.map fun x:BK=>Value.string x.1):=by rw[he];exact ho
 obtain⟨g',cap',e0,hb,hg,hc,hm,_,hH⟩:=holds_of_ownsRow ho' (by intro e;cases e)
 injection e0 with e1 _ e3
 injection e1 with e1
 injection e1 with e1
 subst e1;subst e3
 have eg:∀ (args:Array Value) (w:World),(callFunc 92 args).run Tryz.prog w=.ok (.enter 92 args) w:=enters_of Tryz.func92 (by kernel_rfl) rfl
 have q:=Tryz.slices_SortFunc (fun x:BK=>Value.string x.1) (fun _=>rfl) (zmm D) (zv4 D) 92 #[.pointer (some ⟨ob,0,none⟩)] g 0 cap zs.toArray w eg (CmpReads.lays fun m os dk _ x y=>hC _ (z2i (fun x:BK=>Value.string x.1) dk) x y) hH hg (by simp;omega)
 rw[show zs.toArray.size=ys.length from by simp[hzl]] at q
 refine q.mono ?_
 rintro e w' ⟨rfl,d',n,os,hp,-,rfl⟩
 have hd:d'.size=ys.length:=by rw[hp.1];simp[hzl]
 refine⟨rfl,d'.toList.map Subtype.val,?_,z2i (fun x:BK=>Value.string x.1) d',?_⟩
 ·rw[← hzs]
  refine List.Perm.map _ ?_
  have:=hp.2.2
  rw[← hzl] at this hd
  simpa[Array.toList_extract,List.take_of_length_le (show d'.toList.length≤zs.length by simp[hd])] using this
 ·have:=ownsRow_putRow (q:=n) (k:=ys.length) (ys:=d'.toList) ho' (by simp[hd]) (Nat.le_refl _)
  rw[List.take_of_length_le (by simp[hd])] at this
  have h2:=z07 this (below_grow _ os)
  have e2:d'.toList.map (fun x:BK=>Value.string x.1)=z0h (d'.toList.map Subtype.val):=by unfold z0h;rw[List.map_map];rfl
  rw[e2] at h2
  exact h2
def tsB (x:List UInt8):ByteArray:=⟨x.toArray⟩
theorem zpy {w:World} {b n ob:Nat} {D:Dt} {K:ByteArray→Prop} {f:ByteArray→Nat} (hM:z2d w b n D) (hu:UM D K f) (h0:∀ s,¬ K s→f s=0) (hc:w.cell? ⟨ob,0,none⟩=some (.map (some b))) (hn:n≤1000) {W:World} (hW:W=w.alloc (.cells #[.map (some b)] 61)) :
 Calls Tryz.prog 94 #[.func (.func 131) #[] #[.pointer (some ⟨w.heap.size,0,none⟩)],.func (.func 92) #[] #[.pointer (some ⟨ob,0,none⟩)]] W fun e w'=>∃ (v:Value) (ys:List ByteArray),e=.returned v∧ys.Nodup∧(∀ s,s∈ys↔K s)∧ys.length≤1000∧w'.ownsRow W.heap.size tS 1 v ys.length (z0h ys)∧Below W.heap.size W w':=by
 have hg:w.grownBy W none:=by rw[hW];exact World.grownBy_alloc w _ none
 have hM1:z2d W b n D:=World.ownsMap.kept hM hg (by simp)
 have hc1:=hg.cell hc (by simp)
 have hk:W.cell? ⟨w.heap.size,0,none⟩=some (.map (some b)):=by rw[hW];exact cell_one_new w _ _ 0 _ rfl
 have hWs:w.heap.size<W.heap.size:=by rw[hW];simp
 have hsz:Maps.size D≤1000:=by
  obtain⟨es,clock,hb,F,hs,rfl⟩:=hM
  show List.length _≤1000
  rw[length_sorted]
  simp
  omega
 have hlen:=strKeys_le hM1 Tryz.underlying9
 have hobl:=lt_of_cell hc1
 have hbl:=World.ownsMap.lt hM1
 have hseq:=AnyZ.keys_gives (ρ:=Tryz.keysM_ren) { Tryz.keysM with } Fence.wide 2 trivial rfl (by omega) w.heap.size b n D W hWs hk hM1
 have ek:∀ (args:Array Value) (w:World),(callFunc 131 args).run Tryz.prog w=.ok (.enter 131 args) w:=enters_of Tryz.func131 (by kernel_rfl) rfl
 have qC:=callsIn_wide.1 (AnyZ.collect_in Tryz.collectM Fence.wide 4 trivial trivial rfl (by omega) 131 #[.pointer (some ⟨w.heap.size,0,none⟩)] trivial ek _ (Maps.size D) (by unfold maxLen;omega) (by omega) W hseq)
 change Calls Tryz.prog 129 _ _ _ at qC
 have HU:=z00 hu
 have H0:=z00 h0
 have HM:=z00 hM1
 have HL:=z00 hlen
 have HC1:=z00 hc1
 clear hM hu h0 hM1 hc hlen hseq hk hg ek hc1 hW
 go_enter Tryz.func94,Tryz.ntmps94
 go_wp2_with fail
 refine qC.mono ?_
 rintro e w2 ⟨v,ss,rfl,hS,hrow,hnil,hb⟩
 obtain⟨hnd,hmem⟩:=znq HM.out (string_keyed Tryz.underlying9) HU.out hS
 have hsl:ss.length≤1000:=by
  have h1:=hS.length_eq
  have h2:(strKeys D).length=Maps.size D:=by
   obtain⟨es,rfl⟩:=HU.out.1
   show (es.map _).length=es.length
   rw[List.length_map]
  omega
 obtain⟨ys,hys⟩:∃ ys,ys=ss.map tsB:=⟨_,rfl⟩
 have hyl:ys.length=ss.length:=by rw[hys,List.length_map]
 have hyn:ys.Nodup:=by
  rw[hys,List.nodup_iff_pairwise_ne,List.pairwise_map]
  rw[List.nodup_iff_pairwise_ne] at hnd
  exact hnd.imp fun {x y} h e=>h (by unfold tsB at e;injection e with e;exact List.toArray_inj e)
 have hym:∀ s,s∈ys↔K s:=fun s=>by
  rw[← hmem s,hys,List.mem_map]
  exact⟨fun ⟨x,hx,e⟩=>by rw[← e];simpa[tsB] using hx,fun h=>⟨_,h,by simp[tsB]⟩⟩
 have hyz:∀ y∈ys,y.size≤maxLen:=fun y hy=>by
  rw[hys] at hy
  obtain⟨x,hx,rfl⟩:=List.mem_map.1 hy
  exact HL.out x (hS.mem_iff.1 hx)
 have hrow2:w2.ownsRow W.heap.size tS 1 v ys.length (z0h ys):=by
  have e:z0h ys=ss.map encStr:=by rw[hys];unfold z0h;rw[List.map_map];rfl
  rw[e,hyl]
  exact hrow
 have HYN:=z00 hyn
 have HYM:=z00 hym
 have HB:=z00 hb
 have hyl2:ys.length≤1000:=by omega
 rcases hrow2.2 with⟨rfl,hz⟩|⟨gb,cap,cur,rfl,hbase,hgb,r1,r2,r3,r4⟩
 ·have hss:ys=[]:=List.eq_nil_of_length_eq_zero hz
  have qS:=fun W=>Tryz.slices_SortFunc_none (α:=Nat) none 0 (.func (.func 92) #[] #[.pointer (some ⟨ob,0,none⟩)]) W
  clear hrow hnil hnd hmem hyn hym hyz hS hb hyl hys
  go_wp2_with (go_at_call 130;refine(qS _).mono ?_;rintro e w' ⟨rfl,rfl⟩)
  go_ret
  exact⟨_,ys,rfl,HYN.out,HYM.out,hyl2,hrow2,HB.out⟩
 ·have hgl:gb<w2.heap.size:=(Array.getElem?_eq_some_iff.1 hgb).1
  have qS:=zfd (ob:=ob) D hrow2 hyz (by omega) (fun W' hW' x y=>zst ((HM.out.below HB.out).kept hW' (by intro e;injection e with e;omega)) HU.out H0.out (hW'.cell ((HB.out.cell hobl).trans HC1.out) (by intro e;injection e with e;simp only at e;omega)) x y)
  clear hrow hnil hnd hmem hyn hym hyz hS hb hyl hys hgb r3 r4
  go_wp2_with (go_at_call 130;refine qS.mono ?_;rintro e w' ⟨rfl,zs,hzp,hg3,ho3⟩)
  go_ret
  have hzl:=hzp.length_eq
  refine⟨_,zs,rfl,(hzp.nodup_iff).2 HYN.out,fun s=>by rw[hzp.mem_iff];exact HYM.out s,by omega,by rw[hzl];exact ho3,HB.out.grown hg3 HB.out.size (fun k e=>by injection e with e;omega)⟩
open Go.RowKit Go.Lib Go.Maps Go.Sort
def z9l (K:ByteArray→Prop) (w:World) (e:Ending) (w':World):Prop:=
 ∃ (v:Value) (ys:List ByteArray),e=.returned v∧ys.Nodup∧(∀ s,s∈ys↔K s)∧ys.length≤1000∧w'.ownsRow w.heap.size tS 1 v ys.length (z0h ys)∧Below w.heap.size w w'∧∃ g c,v=.slice (some ⟨g,0,none⟩) ys.length c
theorem zeo {w:World} {b n:Nat} {D:Dt} {K:ByteArray→Prop} {f:ByteArray→Nat} (hM:z2d w b n D) (hu:UM D K f) (h0:∀ s,¬ K s→f s=0) (hn:n≤1000) (hz:∀ s,K s→s.size≤3000) :
 Calls Tryz.prog 50 #[.map (some b)] w (z9l K w):=by
 obtain⟨i0,hi,hz0,hz1,hz2⟩:=info_parts zj4
 obtain⟨W1,hW1⟩:∃ W1,W1=(w.alloc (.cells #[.map (some b)] 61)).alloc (.cells #[] tS):=⟨_,rfl⟩
 have B1:Below w.heap.size w W1:=by rw[hW1];exact((Below.refl _ _).alloc (Nat.le_refl _) _).alloc (by simp) _
 have s1:W1.heap.size=w.heap.size+2:=by rw[hW1];simp
 have hc1:W1.cell? ⟨w.heap.size,0,none⟩=some (.map (some b)):=by
  rw[hW1]
  exact(((Below.refl (w.alloc (.cells #[.map (some b)] 61)).heap.size _).alloc (Nat.le_refl _) _).cell (by simp)).trans (cell_one_new w _ _ 0 _ rfl)
 have o1:W1.ownsRow (w.heap.size+1) tS 1 (.slice (some ⟨w.heap.size+1,0,none⟩) 0 0) 0 (z0h []):=by rw[hW1];exact zbu w _ tS 1
 obtain⟨W2,hW2⟩:∃ W2,W2=W1.alloc (.cells #[.map (some b)] 61):=⟨_,rfl⟩
 have B2:Below W1.heap.size W1 W2:=by rw[hW2];exact(Below.refl _ _).alloc (Nat.le_refl _) _
 have s2:W2.heap.size=w.heap.size+3:=by rw[hW2];simp[s1]
 have qS:=zpy (ob:=w.heap.size) (hM.below B1) hu h0 hc1 hn hW2
 have qK:Calls Tryz.prog 95 #[.map (some b)] W1 (fun e w'=>e=.returned (.func (.func 131) #[] #[.pointer (some ⟨W1.heap.size,0,none⟩)])∧w'=W1.alloc (.cells #[.map (some b)] 61)):=callsIn_wide.1 (AnyZ.keys_in Tryz.keysM Fence.wide 5 trivial rfl (some b) W1)
 rw[s1] at qS
 have hcl:=(B1.size:w.heap.size≤W1.heap.size)
 have HM:=z00 hM
 have HZ:=z00 hz
 clear hM hu h0 hz
 go_enter Tryz.func50,Tryz.ntmps50
 go_wp2_with fail
 rw[← hW1]
 go_wp2_with fail
 refine qK.mono ?_
 rintro e w2 ⟨rfl,rfl⟩
 rw[← hW2,s1]
 have HB1:=z00 B1
 have HB2:=z00 B2
 have HO:=z00 o1
 clear qK hW1 hW2 hc1 hcl B1 B2 o1
 go_wp2_with (go_at_call 94;refine qS.mono ?_;rintro e w3 ⟨yv,ys,rfl,hnd,hmem,hyl,oy,b3⟩;obtain⟨ya,yc,rfl⟩:=z06 oy)
 have B3:=(HB1.out.trans (HB2.out.mono (by omega))).trans (b3.mono (by omega))
 have o3:=z07 (z07 HO.out HB2.out) b3
 have hs3:=b3.size
 have hyb:∀ g,(Value.slice ya ys.length yc).ownBlock=some g→w.heap.size+3≤g∧g<w3.heap.size:=fun g hg=>by
  have:=oy.lt g hg
  omega
 have HND:=z00 hnd
 have HMEM:=z00 hmem
 have HYB:=z00 hyb
 have HOY:=z00 (z01 oy (show w.heap.size+3≤W2.heap.size by omega))
 have HB3:=z00 B3
 obtain⟨N3,hN3⟩:∃ N3,N3=w3.heap.size:=⟨_,rfl⟩
 rw[s2,← hN3] at hs3
 rw[← hN3] at HYB
 clear qS hnd hmem hyb oy B3 b3 HB1 HB2 HO
 go_loopw [4,14] (fun v i wr=>∃ (j vb vc:Nat),j≤ys.length∧i=.int .i64 (j:Int)∧v=.slice (some ⟨vb,0,none⟩) j vc∧wr.ownsRow (w.heap.size+1) tS 1 v j (z0h (ys.take j))∧Hid (∀ g,v.ownBlock=some g→g<w.heap.size+3∨N3≤g)∧N3≤wr.heap.size∧Hid (wr.ownsRow (w.heap.size+3) tS 1 (.slice ya ys.length yc) ys.length (z0h ys))∧Hid (Below w.heap.size w wr)) (fun _ i _=>ys.length-(intOf i).toNat)
 case atStart=>exact⟨0,_,_,Nat.zero_le _,rfl,rfl,o3,z00 (fun g hg=>by have:w.heap.size+1=g:=Option.some.inj hg;omega),by omega,HOY,HB3⟩
 case round =>
  clear o3 HOY HB3 hN3
  obtain⟨j,vb,vc,hj,rfl,rfl,ho,HF,hN,HY,HW⟩:=hrel
  by_cases hlt:j<ys.length
  ·obtain⟨t,ht⟩:∃ t,ys[j]?=some t:=⟨_,List.getElem?_eq_getElem hlt⟩
   obtain⟨yb,rfl,hyb1,cy⟩:=zh3 HY.out ht
   have hys:=HYB.out yb rfl
   have htz:=HZ.out t ((HMEM.out t).1 (List.mem_of_getElem? ht))
   have hA:(0:Int)≤(j:Int):=by omega
   have hB1:(j:Int)<(ys.length:Int):=by omega
   have HT:=z00 (show z0h (ys.take (j+1))=z0h (ys.take j)++[.string t] by unfold z0h;rw[List.take_add_one,ht,List.map_append];rfl)
   have hws:=HW.out.size
   have qC:=fun W=>z6h t W (by omega)
   clear ht
   go_wp2_with (first
    | (go_at_call 62;refine(qC _).mono ?_;rintro e w5 ⟨rfl,b5⟩;have o5:=z07 ho b5;have hs5:=b5.size)
    | (at_builtin;refine z1z rfl _ _ 27 rfl (w.heap.size+1) 9 i0 (.string ByteArray.empty) 1 16 Tryz.underlying27 hi hz0 hz1 hz2 rfl (by decide) (.slice (some ⟨vb,0,none⟩) j vc) j (z0h (ys.take j)) rfl (o5.alloc _) ⟨w5.heap.size,0,none⟩ 1 1 [.string t] rfl rfl (cell_one_new _ _ _) (fun x hx=>by simp at hx;subst hx;rfl) (by unfold maxLen;omega) (by omega) (by simp;omega) ?_;intro v' w6 hown6 hg6 hpl6 hnil6)
    | go_in)
   have B5:=HW.out.trans (b5.mono hws)
   have G6:=(World.grownBy_alloc w5 (.cells #[.string t] tS) none)
   go_wp2
   go_roundw
   case rel =>
    obtain⟨vb6,vc6,rfl⟩:∃ vb6 vc6,v'=.slice (some ⟨vb6,0,none⟩) (j+1) vc6:=by
     rcases hown6.2 with⟨e,_⟩|⟨g6,c6,_,e,-⟩
     ·cases hnil6 e
     ·exact⟨g6,c6,e⟩
    refine⟨j+1,vb6,vc6,by omega,by go_num,rfl,by rw[HT.out];exact hown6,z00 (fun g hg=>?_),?_,z00 ?_,z00 ?_⟩
    ·rcases hpl6 g hg with h|h
     ·exact HF.out g h
     ·exact .inr (by simp at h;omega)
    ·have:=hg6.size
     simp at this
     omega
    ·refine World.ownsRow.kept ((z07 HY.out b5).alloc _) hg6 (.inr fun e=>?_)
     rcases HF.out yb e.symm with h|h<;>omega
    ·exact(B5.alloc (by omega) _).grown hg6 (by simp;omega) (fun k hk=>by have:=(ho.lt k hk).1;omega)
   case measure=>simp[intOf];omega
  ·obtain rfl:j=ys.length:=by omega
   go_wp2
   go_ret
   refine⟨_,ys,rfl,HND.out,HMEM.out,hyl,?_,HW.out,vb,vc,rfl⟩
   rw[List.take_length] at ho
   exact z01 ho (by omega)
end Go.Proofs.YtekebloinobjnaaGreatDoor
