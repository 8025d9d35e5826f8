/- Texts of one proof, laid together: SpI7. -/
import Derived.Test.YtekebloinobjnaaGreatDoorC19
set_option maxHeartbeats 16000000
set_option maxRecDepth 100000
namespace Go.Proofs.YtekebloinobjnaaGreatDoor
open Go.RowKit
theorem zfm {α β γ:Type} (x:Rs α) (f:α→Ps→Rs β) (k:β→Ps→Rs γ):bnd (bnd x f) k=bnd x fun a s=>bnd (f a s) k:=by
 match x with
 | none=>rfl
 | some none=>rfl
 | some (some (_,_))=>rfl
section
variable {B g:Nat} {xs:List Sg} {A:Nat→Prop} {w:World} {t:Option Ps}
theorem z4t {o:Option (List Int×Ps)} (h:SR B g xs A w t) (hX:xs.length≤3000) (hM:z3w xs) (hA:∀ b,A b→b<w.heap.size) (hr:z60 (z4p xs) t o):Calls Tryz.prog 125 #[.pointer (some ⟨g,0,none⟩)] w (z9z B g xs A w o):=by
 obtain⟨i0,hi,hz0,hz1,hz2⟩:=info_parts z29
 have hL:lim xs≤3001:=by unfold lim;omega
 have hbase:=h.base
 have hm:=hM (⟨#[41]⟩:ByteArray) (by decide)
 obtain⟨o1,hr1,hx⟩:=z60.bnd (x:=z0p xs (⟨#[40]⟩:ByteArray)) (f:=fun _ s1=>z0v xs (z4n xs) (⟨#[41]⟩:ByteArray) (lim xs) [] s1) hr
 have B0:Below w.heap.size w (w.alloc (.cells #[] tI)):=(Below.refl _ _).alloc (Nat.le_refl _) _
 have S0:SR B g xs (z0g A (.slice (some ⟨w.heap.size,0,none⟩) 0 0)) (w.alloc (.cells #[] tI)) t:=(h.avoid (A':=z0g A (.slice (some ⟨w.heap.size,0,none⟩) 0 0)) (fun k hk=>hk.imp_right (fun e=>by injection e with e;show w.heap.size≤k;exact Nat.le_of_eq e))).below B0
 have o0:(w.alloc (.cells #[] tI)).ownsRow w.heap.size tI 1 (.slice (some ⟨w.heap.size,0,none⟩) 0 0) 0 []:=World.ownsRow_made w #[] 0 (Nat.le_refl _) (by decide) rfl
 have F0:=Fr.ofB (B:=B) B0 h.base
 have qW:=z0i S0 hX (hM (⟨#[40]⟩:ByteArray) (by decide)) hr1
 have HX0:=z00 hx
 have HO:=z00 o0
 have HF0:=z00 F0
 clear hr hr1 hx B0 S0 o0 F0 h
 go_enter Tryz.func125,Tryz.ntmps125
 go_wp2_with fail
 refine qW.mono ?_
 rintro e w1 ⟨rfl,S1,F1⟩
 have o1':=F1.ints HO.out
 have F1':=HF0.out.trans F1
 clear qW HO HF0 F1
 have HO:=z00 o1'
 have HF:=z00 F1'
 have HS:=z00 S1
 obtain⟨q1,hq1⟩:∃ q1,q1=o1.map (·.2):=⟨_,rfl⟩
 rw[← hq1] at HS
 have HR:=z00 (show z60 (fun s=>z0v xs (z4n xs) (⟨#[41]⟩:ByteArray) (lim xs) [] s) q1 o by
  have h9:=HX0.out
  rw[hq1]
  match o1,h9 with
  | none,h9=>exact h9
  | some (_,_),h9=>exact h9)
 clear o1' F1' S1 HX0 hq1
 obtain⟨v0,hv0⟩:∃ v0,v0=Value.slice (some ⟨w.heap.size,0,none⟩) 0 0:=⟨_,rfl⟩
 rw[← hv0] at HO HS
 go_wp2
 rw[← hv0]
 clear hv0
 go_loopg [3] (lim xs) (fun f v wr=>∃ (ks:List Int) (q:Option Ps),f+ks.length=lim xs∧wr.ownsRow w.heap.size tI 1 v ks.length (z02 ks)∧SR B g xs (z0g A v) wr q∧Fr B w wr∧Hid (z60 (fun s=>z0v xs (z4n xs) (⟨#[41]⟩:ByteArray) f ks s) q o))
 case atStart=>exact⟨[],q1,rfl,HO.out,HS.out,HF.out,HR⟩
 case round =>
  obtain⟨ks,q,hf,P,R,F,HX⟩:=hrel
  clear HO HS HF HR
  obtain⟨ao,cc,rfl⟩:=z06 P
  have HP:=z00 P
  have HF:=z00 F
  have HS:=z00 R
  clear P F R
  match q,HS,HX with
  | none,HS,HX =>
    obtain rfl:o=none:=HX.out
    obtain⟨s1,h1,hd1⟩:=HS.out
    obtain⟨sa,sc,na,nc,-,-,c2,-,-,-⟩:=h1.cells
    clear h1 hd1 HX
    go_wp2
    go_ret
    exact⟨ao,cc,ks,rfl,HP.out,HS.out,HF.out,by omega,fun l s e=>by cases e⟩
  | some s1,HS,HX =>
    have hx:z0v xs (z4n xs) (⟨#[41]⟩:ByteArray) gk ks s1=some o:=HX.out
    clear HX
    cases gk with
    | zero=>exact absurd hx (by simp[z0v])
    | succ f =>
      obtain⟨sa,sc,na,nc,-,-,c2,-,-,-⟩:=HS.out.1.cells
      unfold z0v at hx
      by_cases ht:txt xs s1.p=(⟨#[41]⟩:ByteArray)
      ·rw[if_pos ht] at hx
       obtain rfl:some (ks,s1.next)=o:=by injection hx
       have qY:=z3p HS.out hX (by rw[z0q hm];exact decide_eq_true ht)
       clear hx ht
       go_wp2_with fail
       refine qY.mono ?_
       rintro e w2 ⟨rfl,S2,F2⟩
       have HQ:=z00 (F2.ints HP.out)
       have HT:=z00 S2
       have HU:=z00 (HF.out.trans F2)
       clear qY S2 F2 HP HF c2
       go_wp2
       go_ret
       exact⟨ao,cc,ks,rfl,HQ.out,HT.out,HU.out,by omega,fun l s e=>by injection e with e;injection e⟩
      ·rw[if_neg ht] at hx
       have qN:=z2c HS.out (by rw[z0q hm];exact decide_eq_false ht)
       unfold z4n at hx
       rw[zfm] at hx
       have HX:=z00 hx
       clear ht hx
       go_wp2_with fail
       refine qN.mono ?_
       rintro e w1b ⟨rfl,B2⟩
       have S2:=HS.out.below B2
       have o2:=z07 HP.out B2
       have F2:=HF.out.trans (Fr.ofB (B:=B) B2 HS.out.base)
       clear qN HS HP HF B2 c2
       have HP:=z00 o2
       have HF:=z00 F2
       have HS:=z00 S2
       clear o2 F2 S2
       go_wp2_with fail
       rcases z09 HX.out with⟨h3,rfl⟩|⟨nm,s2,h3,hr3⟩
       ·refine(z4f (o:=none) HS.out hX h3).mono ?_
        rintro e w2 ⟨⟨nmx,rfl,-⟩,S2,F2⟩
        have o2:=F2.ints HP.out
        have FF:=HF.out.trans F2
        clear HS HP HF HX h3 F2
        have HP:=z00 o2
        have HF:=z00 FF
        have HS:=z00 S2
        clear o2 FF S2
        have Ba:Below w2.heap.size w2 (w2.alloc (.cells #[] tI)):=(Below.refl _ _).alloc (Nat.le_refl _) _
        have Sa:=SR.below (t:=none) HS.out Ba
        have oa:=z07 HP.out Ba
        have Fa:=HF.out.trans (Fr.ofB (B:=B) Ba (SR.base (t:=none) HS.out))
        have ne:(w2.alloc (.cells #[] tI)).ownsRow B tI 1 (.slice (some ⟨w2.heap.size,0,none⟩) ([]:List Int).length 0) ([]:List Int).length (z02 []):=World.ownsRow_made w2 #[] 0 (SR.base (t:=none) HS.out) (by decide) rfl
        have nap:∀ b,(Value.slice (some ⟨w2.heap.size,0,none⟩) ([]:List Int).length 0).ownBlock=some b→¬ z0g A (.slice ao ks.length cc) b:=fun b hb hb2=>by
         injection hb with hb
         have h7:=z0g.lt hA HF.out.size HP.out b hb2
         have h8:w2.heap.size=b:=hb
         omega
        clear HS HP HF Ba
        have HF:=z00 Fa
        have HS:=z00 Sa
        have HP:=z00 oa
        clear Fa Sa oa
        go_wp2_with fail
        refine(z14 (o:=none) 1 nmx [] _ 0 HS.out ne nap rfl).mono ?_
        rintro e w3 ⟨⟨k,rfl,-⟩,S3,F3⟩
        clear ne nap
        have o3:=F3.ints HP.out
        have hs3:=(HF.out.trans F3).size
        have F4:=HF.out.trans F3
        have hb3:=S3.base
        have hkl:ks.length≤3901:=by omega
        clear HP HF HS F3
        have HF:=z00 F4
        have HS:=z00 S3
        clear F4 S3
        go_wp2_with (at_builtin;refine z04 rfl _ _ 29 rfl w.heap.size 3 i0 _ 1 8 Tryz.underlying29 hi hz0 hz1 hz2 rfl (by decide) (.slice ao ks.length cc) ks.length (z02 ks) rfl (o3.alloc _) ⟨w3.heap.size,0,none⟩ 1 1 [.int .i64 k] rfl rfl (cell_one_new _ _ _) (by simp[Value.oneCell']) (by unfold maxLen;omega) (by omega) (by simp;omega) ?_;intro v' w5 hown' hgrow5 hpl5)
        have B4:Below w3.heap.size w3 (w3.alloc (.cells #[.int .i64 k] tI)):=(Below.refl _ _).alloc (Nat.le_refl _) _
        have F5:=(HF.out.trans (Fr.ofB (B:=B) B4 hb3)).growI hbase hgrow5 (fun b hb=>(o3.lt b hb).1)
        have S5:=(HS.out.below B4).growI (A':=z0g A v') (o3.alloc _) hgrow5 (fun b hb=>.inr hb) (fun b hb=>by
         rcases hb with hb|hb
         ·exact .inl (.inl hb)
         ·rcases hpl5 b hb with h6|h6
          ·exact .inl (.inr h6)
          ·exact .inr h6)
        have o5:=z0c hown' rfl
        clear hown' hgrow5 hpl5 B4 o3 HF HS
        obtain⟨ao',cc',rfl⟩:=z06 o5
        have HF:=z00 F5
        have HS:=z00 S5
        have HP:=z00 o5
        clear F5 S5 o5
        refine(z2c (t:=none) HS.out rfl).mono ?_
        rintro e w6 ⟨rfl,B6⟩
        have S6:=SR.below (t:=none) HS.out B6
        have o6:=z07 HP.out B6
        have F6:=HF.out.trans (Fr.ofB (B:=B) B6 (SR.base (t:=none) HS.out))
        clear HS HP HF B6
        have HF:=z00 F6
        have HS:=z00 S6
        have HP:=z00 o6
        clear F6 S6 o6
        go_wp2_with fail
        refine(z0i (o:=none) HS.out hX (hM (⟨#[41]⟩:ByteArray) (by decide)) rfl).mono ?_
        rintro e w7 ⟨rfl,S7,F7⟩
        have HQ:=z00 (show z9z B g xs A w none (.returned (.slice ao' (ks++[k]).length cc')) w7 from⟨ao',cc',ks++[k],rfl,F7.ints HP.out,S7,HF.out.trans F7,by simp;omega,fun l s e=>by cases e⟩)
        rw[show (ks++[k]).length=ks.length+1 by simp] at HQ
        clear HS HP HF S7 F7
        go_wp2
        go_ret
        exact HQ.out
       ·refine(z4f (o:=some (nm,s2)) HS.out hX h3).mono ?_
        rintro e w2 ⟨⟨nmx,rfl,hnm⟩,S2,F2⟩
        obtain rfl:nmx=nm:=hnm nm rfl
        have o2:=F2.ints HP.out
        have FF:=HF.out.trans F2
        have HX2:=z00 hr3
        clear HS HP HF HX h3 F2 hr3 hnm
        have HP:=z00 o2
        have HF:=z00 FF
        have HS:=z00 S2
        clear o2 FF S2
        have Ba:Below w2.heap.size w2 (w2.alloc (.cells #[] tI)):=(Below.refl _ _).alloc (Nat.le_refl _) _
        have Sa:=SR.below (t:=some s2) HS.out Ba
        have oa:=z07 HP.out Ba
        have Fa:=HF.out.trans (Fr.ofB (B:=B) Ba (SR.base (t:=some s2) HS.out))
        have ne:(w2.alloc (.cells #[] tI)).ownsRow B tI 1 (.slice (some ⟨w2.heap.size,0,none⟩) ([]:List Int).length 0) ([]:List Int).length (z02 []):=World.ownsRow_made w2 #[] 0 (SR.base (t:=some s2) HS.out) (by decide) rfl
        have nap:∀ b,(Value.slice (some ⟨w2.heap.size,0,none⟩) ([]:List Int).length 0).ownBlock=some b→¬ z0g A (.slice ao ks.length cc) b:=fun b hb hb2=>by
         injection hb with hb
         have h7:=z0g.lt hA HF.out.size HP.out b hb2
         have h8:w2.heap.size=b:=hb
         omega
        clear HS HP HF Ba
        have HF:=z00 Fa
        have HS:=z00 Sa
        have HP:=z00 oa
        clear Fa Sa oa
        go_wp2_with fail
        rcases z09 HX2.out with⟨h4,rfl⟩|⟨a,s3,h4,hr4⟩
        ·refine(z14 (o:=none) 1 nmx [] _ 0 HS.out ne nap h4).mono ?_
         rintro e w3 ⟨⟨k,rfl,-⟩,S3,F3⟩
         clear ne nap HX2 h4
         have o3:=F3.ints HP.out
         have hs3:=(HF.out.trans F3).size
         have F4:=HF.out.trans F3
         have hb3:=S3.base
         have hkl:ks.length≤3901:=by omega
         clear HP HF HS F3
         have HF:=z00 F4
         have HS:=z00 S3
         clear F4 S3
         go_wp2_with (at_builtin;refine z04 rfl _ _ 29 rfl w.heap.size 3 i0 _ 1 8 Tryz.underlying29 hi hz0 hz1 hz2 rfl (by decide) (.slice ao ks.length cc) ks.length (z02 ks) rfl (o3.alloc _) ⟨w3.heap.size,0,none⟩ 1 1 [.int .i64 k] rfl rfl (cell_one_new _ _ _) (by simp[Value.oneCell']) (by unfold maxLen;omega) (by omega) (by simp;omega) ?_;intro v' w5 hown' hgrow5 hpl5)
         have B4:Below w3.heap.size w3 (w3.alloc (.cells #[.int .i64 k] tI)):=(Below.refl _ _).alloc (Nat.le_refl _) _
         have F5:=(HF.out.trans (Fr.ofB (B:=B) B4 hb3)).growI hbase hgrow5 (fun b hb=>(o3.lt b hb).1)
         have S5:=(HS.out.below B4).growI (A':=z0g A v') (o3.alloc _) hgrow5 (fun b hb=>.inr hb) (fun b hb=>by
          rcases hb with hb|hb
          ·exact .inl (.inl hb)
          ·rcases hpl5 b hb with h6|h6
           ·exact .inl (.inr h6)
           ·exact .inr h6)
         have o5:=z0c hown' rfl
         clear hown' hgrow5 hpl5 B4 o3 HF HS
         obtain⟨ao',cc',rfl⟩:=z06 o5
         have HF:=z00 F5
         have HS:=z00 S5
         have HP:=z00 o5
         clear F5 S5 o5
         refine(z2c (t:=none) HS.out rfl).mono ?_
         rintro e w6 ⟨rfl,B6⟩
         have S6:=SR.below (t:=none) HS.out B6
         have o6:=z07 HP.out B6
         have F6:=HF.out.trans (Fr.ofB (B:=B) B6 (SR.base (t:=none) HS.out))
         clear HS HP HF B6
         have HF:=z00 F6
         have HS:=z00 S6
         have HP:=z00 o6
         clear F6 S6 o6
         go_wp2_with fail
         refine(z0i (o:=none) HS.out hX (hM (⟨#[41]⟩:ByteArray) (by decide)) rfl).mono ?_
         rintro e w7 ⟨rfl,S7,F7⟩
         have HQ:=z00 (show z9z B g xs A w none (.returned (.slice ao' (ks++[k]).length cc')) w7 from⟨ao',cc',ks++[k],rfl,F7.ints HP.out,S7,HF.out.trans F7,by simp;omega,fun l s e=>by cases e⟩)
         rw[show (ks++[k]).length=ks.length+1 by simp] at HQ
         clear HS HP HF S7 F7
         go_wp2
         go_ret
         exact HQ.out
        ·refine(z14 (o:=some (a,s3)) 1 nmx [] _ 0 HS.out ne nap h4).mono ?_
         rintro e w3 ⟨⟨k,rfl,hka⟩,S3,F3⟩
         have hk:k=(a:Int):=hka a rfl
         have HX:=z00 hr4
         rw[← hk] at HX
         clear ne nap HX2 h4 hr4 hka hk
         have o3:=F3.ints HP.out
         have hs3:=(HF.out.trans F3).size
         have F4:=HF.out.trans F3
         have hb3:=S3.base
         have hkl:ks.length≤3901:=by omega
         clear HP HF HS F3
         have HF:=z00 F4
         have HS:=z00 S3
         clear F4 S3
         go_wp2_with (at_builtin;refine z04 rfl _ _ 29 rfl w.heap.size 3 i0 _ 1 8 Tryz.underlying29 hi hz0 hz1 hz2 rfl (by decide) (.slice ao ks.length cc) ks.length (z02 ks) rfl (o3.alloc _) ⟨w3.heap.size,0,none⟩ 1 1 [.int .i64 k] rfl rfl (cell_one_new _ _ _) (by simp[Value.oneCell']) (by unfold maxLen;omega) (by omega) (by simp;omega) ?_;intro v' w5 hown' hgrow5 hpl5)
         have B4:Below w3.heap.size w3 (w3.alloc (.cells #[.int .i64 k] tI)):=(Below.refl _ _).alloc (Nat.le_refl _) _
         have F5:=(HF.out.trans (Fr.ofB (B:=B) B4 hb3)).growI hbase hgrow5 (fun b hb=>(o3.lt b hb).1)
         have S5:=(HS.out.below B4).growI (A':=z0g A v') (o3.alloc _) hgrow5 (fun b hb=>.inr hb) (fun b hb=>by
          rcases hb with hb|hb
          ·exact .inl (.inl hb)
          ·rcases hpl5 b hb with h6|h6
           ·exact .inl (.inr h6)
           ·exact .inr h6)
         have o5:=z0c hown' rfl
         clear hown' hgrow5 hpl5 B4 o3 HF HS
         obtain⟨ao',cc',rfl⟩:=z06 o5
         have HF:=z00 F5
         have HS:=z00 S5
         have HP:=z00 o5
         clear F5 S5 o5
         by_cases hcm:txt xs s3.p=(⟨#[44]⟩:ByteArray)
         ·have qC:=z3p (s:=s3) HS.out hX (by rw[z0q (hM (⟨#[44]⟩:ByteArray) (by decide))];exact decide_eq_true hcm)
          have hr5:=HX.out
          rw[if_pos hcm] at hr5
          have H4:=z00 hr5
          clear HX hr5 hcm
          refine qC.mono ?_
          rintro e w6 ⟨rfl,S6,F6⟩
          have HZ:=z00 (show ∃ (ks':List Int) (q:Option Ps),f+ks'.length=lim xs∧w6.ownsRow w.heap.size tI 1 (.slice ao' (ks++[k]).length cc') ks'.length (z02 ks')∧SR B g xs (z0g A (.slice ao' (ks++[k]).length cc')) w6 q∧Fr B w w6∧Hid (z60 (fun s=>z0v xs (z4n xs) (⟨#[41]⟩:ByteArray) f ks' s) q o) from⟨ks++[k],some s3.next,by simp;omega,F6.ints HP.out,S6,HF.out.trans F6,z00 H4.out⟩)
          rw[show (ks++[k]).length=ks.length+1 by simp] at HZ
          clear qC HP HS HF S6 F6 H4
          go_wp2
          go_roundg f
          case measure=>omega
          case rel=>exact HZ.out
         ·have qC:=z2c (t:=some s3) (u:=(⟨#[44]⟩:ByteArray)) HS.out (by rw[z0q (hM (⟨#[44]⟩:ByteArray) (by decide))];exact decide_eq_false hcm)
          have hr5:=HX.out
          rw[if_neg hcm] at hr5
          have H4:=z00 hr5
          clear HX hr5 hcm
          refine qC.mono ?_
          rintro e w6 ⟨rfl,B6⟩
          have S6:=SR.below (t:=some s3) HS.out B6
          have o6:=z07 HP.out B6
          have F6:=HF.out.trans (Fr.ofB (B:=B) B6 (SR.base (t:=some s3) HS.out))
          clear qC HS HP HF B6
          have HF:=z00 F6
          have HS:=z00 S6
          have HP:=z00 o6
          clear F6 S6 o6
          go_wp2_with fail
          rcases z09 H4.out with⟨h7,rfl⟩|⟨u,s7,h7,hr7⟩
          ·refine(z0i (o:=none) HS.out hX hm h7).mono ?_
           rintro e w7 ⟨rfl,S7,F7⟩
           have HQ:=z00 (show z9z B g xs A w none (.returned (.slice ao' (ks++[k]).length cc')) w7 from⟨ao',cc',ks++[k],rfl,F7.ints HP.out,S7,HF.out.trans F7,by simp;omega,fun l s e=>by cases e⟩)
           rw[show (ks++[k]).length=ks.length+1 by simp] at HQ
           clear HS HP HF S7 F7
           go_wp2
           go_ret
           exact HQ.out
          ·obtain rfl:some (ks++[k],s7)=o:=by injection hr7
           refine(z0i (o:=some (u,s7)) HS.out hX hm h7).mono ?_
           rintro e w7 ⟨rfl,S7,F7⟩
           have HQ:=z00 (show z9z B g xs A w (some (ks++[k],s7)) (.returned (.slice ao' (ks++[k]).length cc')) w7 from⟨ao',cc',ks++[k],rfl,F7.ints HP.out,S7,HF.out.trans F7,by simp;omega,fun l s e=>by injection e with e;injection e⟩)
           rw[show (ks++[k]).length=ks.length+1 by simp] at HQ
           clear HS HP HF S7 F7
           go_wp2
           go_ret
           exact HQ.out
end
end Go.Proofs.YtekebloinobjnaaGreatDoor
