/- Texts of one proof, laid together: SpI4, SpI5. -/
import Derived.Test.YtekebloinobjnaaGreatDoorC15
import Derived.Deep.LoopGhost
set_option maxHeartbeats 16000000
set_option maxRecDepth 100000
namespace Go.Proofs.YtekebloinobjnaaGreatDoor
open Go.RowKit
section
variable {B g:Nat} {xs:List Sg} {A:Nat→Prop} {w:World} {t:Option Ps}
theorem zcl {o:Option (ByteArray×Ps)} (k:Int) (hk:k=1∨k=2∨k=3∨k=5) (h:SR B g xs A w t) (hX:xs.length≤3000) (hr:z60 (z98 xs k) t o):Calls Tryz.prog 120 #[.pointer (some ⟨g,0,none⟩),.int .i64 k] w (z0j B g xs A w VTs o):=by
 have qK:=z3n h k hk
 by_cases hq:kdP xs t k=true
 ·rw[hq] at qK
  match t,h,hr,hq with
  | some s,h,hr,hq =>
    have hr2:z98 xs k s=some o:=hr
    unfold z98 at hr2
    rw[if_pos hq] at hr2
    obtain rfl:some (txt xs s.p,s.next)=o:=by injection hr2
    have hl:s.p<xs.length:=by
     unfold kdP at hq
     simp only[Bool.and_eq_true,beq_iff_eq] at hq
     exact z6f hq.1 (by rcases hk with rfl|rfl|rfl|rfl<;>decide)
    clear hr hr2 hq
    go_enter Tryz.func120,Tryz.ntmps120
    go_wp2_with fail
    refine qK.mono ?_
    rintro e w1 ⟨rfl,m,hm⟩
    have B1:Below w.heap.size w w1:=by rw[hm];exact z0a w m
    have F1:=Fr.ofB (B:=B) B1 h.base
    obtain⟨h1,hd⟩:=h.below B1
    have P1:=h1.setP (s.p+1) hl
    obtain⟨sa,sc,na,nc,-,c1,-,-,-,hz⟩:=h1.cells
    obtain⟨b,sc1,pl,hb,X0,d0,d1,d2,d3⟩:=h1.sign s.p hl
    have z1:=hz 1
    have hlt:=h1.lt
    have hbg:¬ b=g:=by
     rintro rfl
     obtain⟨sa',sc',na',nc',qs',dv',g1,g2,-⟩:=h1.mem
     rw[cell_of_row w1 b 0 _ _ _ g1] at X0
     injection X0 with X0
     injection X0 with X0 _ _
     subst X0
     rcases g2.2 with⟨e',_⟩|⟨k',cap,cur,e',_,e3',_⟩
     ·cases e'
     ·have:b=k':=by injection e' with e' _ _;injection e' with e';injection e'
      subst this
      rw[g1] at e3'
      injection e3' with e3'
      injection e3' with _ e3' _
      exact absurd e3' (by decide)
    have e1:((s.p:Int)+1)=((s.p+1:Nat):Int):=by omega
    have hA1:(0:Int)≤(s.p:Int):=by omega
    have hB1:(s.p:Int)<(xs.length:Int):=by omega
    have hw1:IntKind.i64.wrap ((s.p:Int)+1-1)=(s.p:Int):=(IntWalk.i64_in _ ⟨by omega,by omega⟩).trans (by omega)
    rw[← e1] at P1
    obtain⟨u0,hu0⟩:∃ u,u=txt xs s.p:=⟨_,rfl⟩
    rw[← hu0] at d1
    have HU:=z00 hu0
    have HP:=z00 P1
    have HF:=z00 F1
    have HD:=z00 hd
    clear qK h h1 hz P1 F1 e1 hd B1 d0 d2 d3 hu0 hm
    go_wp2
    go_quiet (fail)
    go_wp2
    go_ret
    have hdr:=z0e (w1.setCell ⟨g,1,none⟩ (.int .i64 ((s.p:Int)+1)))
    refine⟨⟨_,rfl,fun a ha=>?_⟩,⟨(HP.out.1).below (hdr _),HD.out⟩,(HF.out.trans HP.out.2).trans (Fr.ofB (hdr _) HP.out.1.base)⟩
    injection ha with ha
    rw[← ha]
    exact HU.out
 ·have hq2:kdP xs t k=false:=Bool.eq_false_iff.2 hq
  rw[hq2] at qK
  obtain rfl:none=o:=by
   match t,hr,hq with
   | none,hr,_=>exact hr.symm
   | some s,hr,hq =>
     have hr2:z98 xs k s=some o:=hr
     unfold z98 at hr2
     rw[if_neg hq] at hr2
     injection hr2
  clear hq hq2 hr
  go_enter Tryz.func120,Tryz.ntmps120
  go_wp2_with fail
  refine qK.mono ?_
  rintro e w1 ⟨rfl,m,hm⟩
  have B1:Below w.heap.size w w1:=by rw[hm];exact z0a w m
  obtain⟨bd,s,h1,hd⟩:=(h.below B1).any
  have P1:=h1.setB
  obtain⟨sa,sc,na,nc,-,-,c2,-,-,hz⟩:=h1.cells
  have z2:=hz 2
  have HP:=z00 P1
  have HF:=z00 (Fr.ofB (B:=B) B1 h.base)
  have HD:=z00 hd
  clear qK h h1 hz P1 hd B1 hm
  go_wp2
  go_ret
  exact⟨⟨_,rfl,fun a ha=>by cases ha⟩,⟨s,HP.out.1,HD.out⟩,HF.out.trans HP.out.2⟩
theorem z14 {o:Option (Nat×Ps)} (kind:Int) (u:ByteArray) (ks:List Int) (ka:Option Addr) (kc:Nat) (h:SR B g xs A w t) (ho:w.ownsRow B tI 1 (.slice ka ks.length kc) ks.length (z02 ks)) (hap:∀ b,(Value.slice ka ks.length kc).ownBlock=some b→¬ A b) (hr:z60 (z0z kind u ks) t o) :
 Calls Tryz.prog 90 #[.pointer (some ⟨g,0,none⟩),.int .i64 kind,.string u,.slice ka ks.length kc] w (z0j B g xs A w VNs o):=by
 obtain⟨i0,hi,hz0,hz1,hz2⟩:=info_parts zg7
 have hbase:=h.base
 have hbad:∀ (bd:Bool) (s:Ps),Sd B g xs A w bd s→s.d≤30→(bd=true∨s.ns.length=300)→o=none→Calls Tryz.prog 90 #[.pointer (some ⟨g,0,none⟩),.int .i64 kind,.string u,.slice ka ks.length kc] w (z0j B g xs A w VNs o):=by
  intro bd s h1 hd hb hon
  subst hon
  have P1:=h1.setB
  obtain⟨sa,sc,na,nc,-,-,c2,-,c4,hz⟩:=h1.cells
  have z2:=hz 2
  have hlt:=h1.lt
  have HP:=z00 P1
  have HD:=z00 hd
  have hge:bd=false→decide ((300:Int)≤(s.ns.length:Int))=true:=fun e=>by
   rcases hb with hb|hb
   ·rw[hb] at e;cases e
   ·simp;omega
  clear h ho hap hr h1 hz P1 hd hb
  cases bd with
  | true =>
    clear hge
    go_enter Tryz.func90,Tryz.ntmps90
    go_wp2
    go_ret
    exact⟨⟨_,rfl,fun a ha=>by cases ha⟩,⟨s,HP.out.1,HD.out⟩,HP.out.2⟩
  | false =>
    have hge2:=hge rfl
    have hge3:(300:Int)≤(s.ns.length:Int):=by simpa using hge2
    clear hge
    go_enter Tryz.func90,Tryz.ntmps90
    go_wp2
    go_ret
    exact⟨⟨_,rfl,fun a ha=>by cases ha⟩,⟨s,HP.out.1,HD.out⟩,HP.out.2⟩
 match t,h,hr with
 | none,⟨s,h1,hd⟩,hr=>exact hbad true s h1 hd (.inl rfl) hr
 | some s,⟨h,hd⟩,hr =>
   have hr2:z0z kind u ks s=some o:=hr
   have hfew:=h.few
   by_cases hn:s.ns.length=300
   ·refine hbad false s h (by omega) (.inr hn) ?_
    unfold z0z at hr2
    rw[if_pos hn] at hr2
    injection hr2 with hr2
    exact hr2.symm
   ·clear hbad
    obtain rfl:some (s.ns.length,⟨s.p,s.d,s.ns++[⟨kind,u,ks,false⟩]⟩)=o:=by
     unfold z0z at hr2
     rw[if_neg hn] at hr2
     injection hr2
    have hlt:=h.lt
    obtain⟨sa,sc,na,nc,qs,dv,h1,h2,h3,h4,e4,hdv⟩:=h.mem
    have hq:qs.length=s.ns.length:=by rw[← h4];simp
    have c2:w.cell? ⟨g,2,none⟩=some (.bool false):=cell_of_row w g 2 _ _ _ h1
    have c4:w.cell? ⟨g,4,none⟩=some (.slice na s.ns.length nc):=cell_of_row w g 4 _ _ _ h1
    have hge:¬ (300:Int)≤(s.ns.length:Int):=by omega
    have HB:Below w.heap.size w (w.alloc (.cells #[.int .i64 kind,.string u,.slice ka ks.length kc,.bool false] z32)):=(Below.refl _ _).alloc (Nat.le_refl _) _
    have R1:=h.below HB
    have g1:=(HB.block g hlt).trans h1
    have s1:=z07 h2 HB
    have n1:=h3.below HB
    have o1:=z07 ho HB
    have r1:=n1.row
    have hX:=zmh w ⟨⟨kind,u,ks,false⟩,ka,kc⟩
    rw[hq] at r1
    have HA:=z00 (fun (w2:World) (na':Option Addr) (nc':Nat) hg hw=>Sd.added (w2:=w2) R1 g1 hdv s1 n1 h4 e4 ⟨⟨kind,u,ks,false⟩,ka,kc⟩ hap o1 (by omega) (na':=na') (nc':=nc') hg hw)
    have HR:=z00 r1
    have HX:=z00 hX
    have HF:=z00 (Fr.ofB (B:=B) HB hbase)
    have HG:=z00 (fun (w2:World) (hg:World.grownBy _ w2 (Value.slice na s.ns.length nc).ownBlock)=>show w2.heap[g]?=some (.cells #[.slice sa xs.length sc,.int .i64 s.p,.bool false,.int .i64 dv,.slice na s.ns.length nc] tSp (0,0)) by
     rw[hg.block g (Array.getElem?_eq_some_iff.1 g1).1 (fun e=>?_)]
     ·exact g1
     ·rcases Sd.apart g1 r1 with h5|h5
      ·rw[h5] at e;cases e
      ·exact h5 e.symm)
    have HQ:=z00 hq
    have HD:=z00 hd
    clear hr hr2 h h1 h2 h3 h4 ho HB R1 g1 s1 n1 o1 r1 hX hq e4 hd hap hdv
    go_enter Tryz.func90,Tryz.ntmps90
    go_wp2_with (at_builtin;refine wpList_append_own _ rfl _ _ 24 rfl B 56 i0 _ 4 56 Tryz.underlying24 hi hz0 hz1 hz2 rfl (by decide) (.slice na s.ns.length nc) s.ns.length (z0r z0u qs) rfl HR.out ⟨w.heap.size,0,none⟩ 1 1 (z0u ⟨⟨kind,u,ks,false⟩,ka,kc⟩) rfl rfl HX.out (z8f _) (by unfold maxLen;omega) (by omega) (by simp;omega) ?_;intro v' w5 hown' hgrow5 hnil5;clear hnil5;obtain⟨na',nc',rfl⟩:=z06 hown';have G5:=HG.out w5 hgrow5;have c5:w5.cell? ⟨g,4,none⟩=some (.slice na s.ns.length nc):=cell_of_row w5 g 4 _ _ _ G5;have z5:=frozen_of_row w5 g 4 _ _ G5;clear G5;have HO:=z00 hown';have HW:=z00 hgrow5;clear hown' hgrow5)
    go_ret
    rw[← HQ.out] at HW
    have H:=HA.out w5 na' nc' HW.out HO.out
    exact⟨⟨_,rfl,fun a ha=>by injection ha with ha;rw[← ha]⟩,⟨H.1,HD.out⟩,HF.out.trans H.2⟩
end
def z1n (B g:Nat) (xs:List Sg) (K:Nat) (O:Ps→Rs Nat):Prop:=∀ (A:Nat→Prop) (W:World) (t:Option Ps) (o:Option (Nat×Ps)),(∀ b,A b→b<W.heap.size)→SR B g xs A W t→z60 O t o→Calls Tryz.prog K #[.pointer (some ⟨g,0,none⟩)] W (z0j B g xs A W VNs o)
def z9z (B g:Nat) (xs:List Sg) (A:Nat→Prop) (w0:World) (o:Option (List Int×Ps)) (e:Ending) (w':World):Prop:=
 ∃ a c ks,e=.returned (.slice a ks.length c)∧w'.ownsRow w0.heap.size tI 1 (.slice a ks.length c) ks.length (z02 ks)∧SR B g xs (z0g A (.slice a ks.length c)) w' (o.map (·.2))∧Fr B w0 w'∧ks.length≤4000∧∀ l s,o=some (l,s)→ks=l
theorem z60.bnd {α β:Type} {x:Ps→Rs α} {f:α→Ps→Rs β} {t:Option Ps} {o:Option (β×Ps)} (h:z60 (fun s=>bnd (x s) f) t o):∃ o1,z60 x t o1∧match o1 with|none=>o=none|some (a,s1)=>f a s1=some o:=by
 match t,h with
 | none,h=>exact⟨none,rfl,h⟩
 | some s,h =>
   have h2:Go.Proofs.YtekebloinobjnaaGreatDoor.bnd (x s) f=some o:=h
   rcases z09 h2 with⟨h3,h4⟩|⟨a,s1,h3,h4⟩
   ·exact⟨none,h3,h4⟩
   ·exact⟨some (a,s1),h3,h4⟩
section
variable {B g:Nat} {xs:List Sg} {A:Nat→Prop} {w w0:World} {t:Option Ps}
theorem z4h {O:Ps→Rs Nat} {en:ByteArray} {o:Option (List Int×Ps)} {ks0:List Int} {ka:Option Addr} {kc:Nat} (hX:xs.length≤3000) (hm:zfw xs en) (hc:zfw xs (⟨#[44]⟩:ByteArray)) (hF0:Fr B w0 w) (hB0:B≤w0.heap.size) (hA:∀ b,A b→b<w0.heap.size) (ho:w.ownsRow w0.heap.size tI 1 (.slice ka ks0.length kc) ks0.length (z02 ks0)) (hk0:ks0.length≤900) (h:SR B g xs (z0g A (.slice ka ks0.length kc)) w t) (hone:z1n B g xs 163 O)
 (hr:z60 (fun s=>z0v xs O en (lim xs) ks0 s) t o) :
 Calls Tryz.prog 189 #[.pointer (some ⟨g,0,none⟩),.string en,.slice ka ks0.length kc] w (z9z B g xs A w0 o):=by
 obtain⟨i0,hi,hz0,hz1,hz2⟩:=info_parts z29
 have hL:lim xs≤3001:=by unfold lim;omega
 have HO:=z00 ho
 have HS:=z00 h
 have HF:=z00 hF0
 have HR:=z00 hr
 have HH:=z00 hone
 clear ho h hF0 hr hone
 go_enter Tryz.func189,Tryz.ntmps189
 go_wp2
 go_loopg [2] (lim xs) (fun f v wr=>∃ (ks:List Int) (q:Option Ps),f+ks.length=lim xs+ks0.length∧wr.ownsRow w0.heap.size tI 1 v ks.length (z02 ks)∧SR B g xs (z0g A v) wr q∧Fr B w0 wr∧Hid (z60 (fun s=>z0v xs O en f ks s) q o))
 case atStart=>exact⟨ks0,t,rfl,HO.out,HS.out,HF.out,HR⟩
 case round =>
  obtain⟨ks,q,hf,P,R,F,HX⟩:=hrel
  clear HO HS HF HR
  obtain⟨ao,cc,rfl⟩:=z06 P
  have HP:=z00 P
  have HF:=z00 F
  have HS:=z00 R
  clear P F R
  match q,HS,HX with
  | none,HS,HX =>
    obtain rfl:o=none:=HX.out
    obtain⟨s1,h1,hd1⟩:=HS.out
    obtain⟨sa,sc,na,nc,-,-,c2,-,-,-⟩:=h1.cells
    clear h1 hd1 HX
    go_wp2
    go_ret
    exact⟨ao,cc,ks,rfl,HP.out,HS.out,HF.out,by omega,fun l s e=>by cases e⟩
  | some s1,HS,HX =>
    have hx:z0v xs O en gk ks s1=some o:=HX.out
    clear HX
    cases gk with
    | zero=>exact absurd hx (by simp[z0v])
    | succ f =>
      obtain⟨sa,sc,na,nc,-,-,c2,-,-,-⟩:=HS.out.1.cells
      unfold z0v at hx
      by_cases ht:txt xs s1.p=en
      ·rw[if_pos ht] at hx
       obtain rfl:some (ks,s1.next)=o:=by injection hx
       have qY:=z3p HS.out hX (by rw[z0q hm];exact decide_eq_true ht)
       clear hx ht
       go_wp2_with fail
       refine qY.mono ?_
       rintro e w2 ⟨rfl,S2,F2⟩
       have HQ:=z00 (F2.ints HP.out)
       have HT:=z00 S2
       have HU:=z00 (HF.out.trans F2)
       clear qY S2 F2 HP HF c2
       go_wp2
       go_ret
       exact⟨ao,cc,ks,rfl,HQ.out,HT.out,HU.out,by omega,fun l s e=>by injection e with e;injection e⟩
      ·rw[if_neg ht] at hx
       have qN:=z2c HS.out (by rw[z0q hm];exact decide_eq_false ht)
       have HX:=z00 hx
       clear ht hx
       go_wp2_with fail
       refine qN.mono ?_
       rintro e w2 ⟨rfl,B2⟩
       have S2:=HS.out.below B2
       have o2:=z07 HP.out B2
       have F2:=HF.out.trans (Fr.ofB (B:=B) B2 HS.out.base)
       clear qN HS HP HF B2 c2
       have HP:=z00 o2
       have HF:=z00 F2
       have HS:=z00 S2
       clear o2 F2 S2
       go_wp2_with fail
       rcases z09 HX.out with⟨h3,rfl⟩|⟨a,s3,h3,hr3⟩
       ·refine(HH.out _ _ _ none (z0g.lt hA HF.out.size HP.out) HS.out h3).mono ?_
        rintro e w3 ⟨⟨k,rfl,-⟩,S3,F3⟩
        clear HX h3
        have o3:=F3.ints HP.out
        have hs3:=(HF.out.trans F3).size
        have F4:=HF.out.trans F3
        have hkl:ks.length≤3901:=by omega
        clear HP HF HS F3
        have HF:=z00 F4
        have HS:=z00 S3
        clear F4 S3
        go_wp2_with (at_builtin;refine z04 rfl _ _ 29 rfl w0.heap.size 3 i0 _ 1 8 Tryz.underlying29 hi hz0 hz1 hz2 rfl (by decide) (.slice ao ks.length cc) ks.length (z02 ks) rfl (o3.alloc _) ⟨w3.heap.size,0,none⟩ 1 1 [.int .i64 k] rfl rfl (cell_one_new _ _ _) (by simp[Value.oneCell']) (by unfold maxLen;omega) (by omega) (by simp;omega) ?_;intro v' w5 hown' hgrow5 hpl5)
        have B4:Below w3.heap.size w3 (w3.alloc (.cells #[.int .i64 k] tI)):=(Below.refl _ _).alloc (Nat.le_refl _) _
        have F5:=(HF.out.trans (Fr.ofB (B:=B) B4 (by omega))).growI hB0 hgrow5 (fun b hb=>(o3.lt b hb).1)
        have S5:=(HS.out.below B4).growI (A':=z0g A v') (o3.alloc _) hgrow5 (fun b hb=>.inr hb) (fun b hb=>by
         rcases hb with hb|hb
         ·exact .inl (.inl hb)
         ·rcases hpl5 b hb with h6|h6
          ·exact .inl (.inr h6)
          ·exact .inr h6)
        have o5:=z0c hown' rfl
        clear hown' hgrow5 hpl5 B4 o3 HF HS
        obtain⟨ao',cc',rfl⟩:=z06 o5
        have HF:=z00 F5
        have HS:=z00 S5
        have HP:=z00 o5
        clear F5 S5 o5
        refine(z2c HS.out rfl).mono ?_
        rintro e w6 ⟨rfl,B6⟩
        have S6:=HS.out.below B6
        have o6:=z07 HP.out B6
        have F6:=HF.out.trans (Fr.ofB (B:=B) B6 HS.out.base)
        clear HS HP HF B6
        have HF:=z00 F6
        have HS:=z00 S6
        have HP:=z00 o6
        clear F6 S6 o6
        go_wp2_with fail
        refine(z0i (o:=none) HS.out hX hm rfl).mono ?_
        rintro e w7 ⟨rfl,S7,F7⟩
        have HQ:=z00 (show z9z B g xs A w0 none (.returned (.slice ao' (ks++[k]).length cc')) w7 from⟨ao',cc',ks++[k],rfl,F7.ints HP.out,S7,HF.out.trans F7,by simp;omega,fun l s e=>by cases e⟩)
        rw[show (ks++[k]).length=ks.length+1 by simp] at HQ
        clear HS HP HF S7 F7
        go_wp2
        go_ret
        exact HQ.out
       ·refine(HH.out _ _ _ (some (a,s3)) (z0g.lt hA HF.out.size HP.out) HS.out h3).mono ?_
        rintro e w3 ⟨⟨k,rfl,hka⟩,S3,F3⟩
        obtain rfl:k=(a:Int):=hka a rfl
        have HX:=z00 hr3
        clear h3 hr3 hka
        obtain⟨k,hk⟩:∃ k:Int,k=(a:Int):=⟨_,rfl⟩
        rw[← hk]
        rw[← hk] at HX
        clear hk
        have o3:=F3.ints HP.out
        have hs3:=(HF.out.trans F3).size
        have F4:=HF.out.trans F3
        have hkl:ks.length≤3901:=by omega
        clear HP HF HS F3
        have HF:=z00 F4
        have HS:=z00 S3
        clear F4 S3
        go_wp2_with (at_builtin;refine z04 rfl _ _ 29 rfl w0.heap.size 3 i0 _ 1 8 Tryz.underlying29 hi hz0 hz1 hz2 rfl (by decide) (.slice ao ks.length cc) ks.length (z02 ks) rfl (o3.alloc _) ⟨w3.heap.size,0,none⟩ 1 1 [.int .i64 k] rfl rfl (cell_one_new _ _ _) (by simp[Value.oneCell']) (by unfold maxLen;omega) (by omega) (by simp;omega) ?_;intro v' w5 hown' hgrow5 hpl5)
        have B4:Below w3.heap.size w3 (w3.alloc (.cells #[.int .i64 k] tI)):=(Below.refl _ _).alloc (Nat.le_refl _) _
        have F5:=(HF.out.trans (Fr.ofB (B:=B) B4 (by omega))).growI hB0 hgrow5 (fun b hb=>(o3.lt b hb).1)
        have S5:=(HS.out.below B4).growI (A':=z0g A v') (o3.alloc _) hgrow5 (fun b hb=>.inr hb) (fun b hb=>by
         rcases hb with hb|hb
         ·exact .inl (.inl hb)
         ·rcases hpl5 b hb with h6|h6
          ·exact .inl (.inr h6)
          ·exact .inr h6)
        have o5:=z0c hown' rfl
        clear hown' hgrow5 hpl5 B4 o3 HF HS
        obtain⟨ao',cc',rfl⟩:=z06 o5
        have HF:=z00 F5
        have HS:=z00 S5
        have HP:=z00 o5
        clear F5 S5 o5
        by_cases hcm:txt xs s3.p=(⟨#[44]⟩:ByteArray)
        ·have qC:=z3p HS.out hX (by rw[z0q hc];exact decide_eq_true hcm)
         have hr4:=HX.out
         rw[if_pos hcm] at hr4
         have H4:=z00 hr4
         clear HX hr4 hcm
         refine qC.mono ?_
         rintro e w6 ⟨rfl,S6,F6⟩
         have HZ:=z00 (show ∃ (ks':List Int) (q:Option Ps),f+ks'.length=lim xs+ks0.length∧w6.ownsRow w0.heap.size tI 1 (.slice ao' (ks++[k]).length cc') ks'.length (z02 ks')∧SR B g xs (z0g A (.slice ao' (ks++[k]).length cc')) w6 q∧Fr B w0 w6∧Hid (z60 (fun s=>z0v xs O en f ks' s) q o) from⟨ks++[k],some s3.next,by simp;omega,F6.ints HP.out,S6,HF.out.trans F6,z00 H4.out⟩)
         rw[show (ks++[k]).length=ks.length+1 by simp] at HZ
         clear qC HP HS HF S6 F6 H4
         go_wp2
         go_roundg f
         case measure=>omega
         case rel=>exact HZ.out
        ·have qC:=z2c HS.out (by rw[show (Option.map (fun x:Nat×Ps=>x.2) (some (a,s3)))=some s3 from rfl,z0q hc];exact decide_eq_false hcm)
         have hr4:=HX.out
         rw[if_neg hcm] at hr4
         have H4:=z00 hr4
         clear HX hr4 hcm
         refine qC.mono ?_
         rintro e w6 ⟨rfl,B6⟩
         have S6:=HS.out.below B6
         have o6:=z07 HP.out B6
         have F6:=HF.out.trans (Fr.ofB (B:=B) B6 HS.out.base)
         clear qC HS HP HF B6
         have HF:=z00 F6
         have HS:=z00 S6
         have HP:=z00 o6
         clear F6 S6 o6
         go_wp2_with fail
         rcases z09 H4.out with⟨h7,rfl⟩|⟨u,s7,h7,hr7⟩
         ·refine(z0i (o:=none) HS.out hX hm h7).mono ?_
          rintro e w7 ⟨rfl,S7,F7⟩
          have HQ:=z00 (show z9z B g xs A w0 none (.returned (.slice ao' (ks++[k]).length cc')) w7 from⟨ao',cc',ks++[k],rfl,F7.ints HP.out,S7,HF.out.trans F7,by simp;omega,fun l s e=>by cases e⟩)
          rw[show (ks++[k]).length=ks.length+1 by simp] at HQ
          clear HS HP HF S7 F7
          go_wp2
          go_ret
          exact HQ.out
         ·obtain rfl:some (ks++[k],s7)=o:=by injection hr7
          refine(z0i (o:=some (u,s7)) HS.out hX hm h7).mono ?_
          rintro e w7 ⟨rfl,S7,F7⟩
          have HQ:=z00 (show z9z B g xs A w0 (some (ks++[k],s7)) (.returned (.slice ao' (ks++[k]).length cc')) w7 from⟨ao',cc',ks++[k],rfl,F7.ints HP.out,S7,HF.out.trans F7,by simp;omega,fun l s e=>by injection e with e;injection e⟩)
          rw[show (ks++[k]).length=ks.length+1 by simp] at HQ
          clear HS HP HF S7 F7
          go_wp2
          go_ret
          exact HQ.out
end
end Go.Proofs.YtekebloinobjnaaGreatDoor
