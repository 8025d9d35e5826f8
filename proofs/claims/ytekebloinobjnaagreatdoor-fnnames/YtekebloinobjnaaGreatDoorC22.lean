/- Texts of one proof, laid together: SpI9, RdCh. -/
import Derived.Test.YtekebloinobjnaaGreatDoorC21
import Derived.Test.YtekebloinobjnaaGreatDoorC02
set_option maxHeartbeats 16000000
set_option maxRecDepth 100000
namespace Go.Proofs.YtekebloinobjnaaGreatDoor
open Go.RowKit
def zd4 (B g:Nat) (xs:List Sg) (K:Nat) (c:Int) (O:Ps→Rs Nat):Prop:=∀ (A:Nat→Prop) (W:World) (t:Option Ps) (o:Option (Nat×Ps)),(∀ b,A b→b<W.heap.size)→SR B g xs A W t→z60 O t o→Calls Tryz.prog K #[.pointer (some ⟨g,0,none⟩),.int .i64 c] W (z0j B g xs A W VNs o)
section
variable {B g:Nat} {xs:List Sg} {A:Nat→Prop} {w:World} {t:Option Ps}
theorem ztd {O:Bool→Ps→Rs Nat} {o:Option (Nat×Ps)} (h:SR B g xs A w t) (hX:xs.length≤3000) (hM:z3w xs) (hA:∀ b,A b→b<w.heap.size) (hC:zd4 B g xs 218 0 (z1o xs O 6)) (hP:z1n B g xs 188 (O false)) (hSm:∀ b,z7l (O b)) (hr:z60 (z4u xs O) t o):Calls Tryz.prog 188 #[.pointer (some ⟨g,0,none⟩)] w (z0j B g xs A w VNs o):=by
 have hbase:=h.base
 match t,h,hr with
 | none,h,hr =>
   obtain rfl:o=none:=hr
   obtain⟨s1,h1,hd1⟩:=h
   obtain⟨sa,sc,na,nc,-,-,c2,-,-,-⟩:=h1.cells
   have HS:=z00 (show SR B g xs A w none from⟨s1,h1,hd1⟩)
   clear h1 hd1 hr
   go_enter Tryz.func188,Tryz.ntmps188
   go_wp2
   go_ret
   exact⟨⟨_,rfl,fun a ha=>by cases ha⟩,HS.out,Fr.refl _ _⟩
 | some s,h,hr =>
   have hr2:z4u xs O s=some o:=hr
   unfold z4u at hr2
   obtain⟨h1,hd1⟩:=h
   obtain⟨sa,sc,na,nc,-,-,c2,⟨dv,c3,hdv⟩,-,hz⟩:=h1.cells
   obtain rfl:dv=(s.d:Int):=hdv rfl
   have z2:=hz 2
   have z3:=hz 3
   have P1:=h1.setD (s.d+1)
   have e1:((s.d+1:Nat):Int)=(s.d:Int)+1:=by omega
   rw[e1] at P1
   have hdp:(0:Int)≤(s.d:Int):=by omega
   have hdq:(s.d:Int)≤20:=by omega
   by_cases hb:20<s.d+1
   ·rw[if_pos hb] at hr2
    obtain rfl:none=o:=by injection hr2
    have P2:=P1.1.setB
    have HF:=z00 (P1.2.trans P2.2)
    have HS:=z00 (show SR B g xs A _ none from⟨⟨s.p,s.d+1,s.ns⟩,P2.1,by show s.d+1≤30;omega⟩)
    have hb2:(20:Int)<(s.d:Int)+1:=by omega
    clear h1 hr hr2 hz P1 P2 e1 hdv hb
    go_enter Tryz.func188,Tryz.ntmps188
    go_wp2_with fail
    refine(hC _ _ _ none (fun b hb=>Nat.lt_of_lt_of_le (hA b hb) HF.out.size) HS.out rfl).mono ?_
    rintro e w1 ⟨⟨kx,rfl,-⟩,S1,F1⟩
    have FF1:=HF.out.trans F1
    clear HF HS
    have HF:=z00 FF1
    have HS:=z00 S1
    clear FF1 S1 F1
    go_wp2_with fail
    refine(z2c (t:=none) HS.out rfl).mono ?_
    rintro e w2 ⟨rfl,B2⟩
    have S2:=SR.below (t:=none) HS.out B2
    have FF2:=HF.out.trans (Fr.ofB (B:=B) B2 (SR.base (t:=none) HS.out))
    clear HF HS
    have HF:=z00 FF2
    have HS:=z00 S2
    clear FF2 S2 B2
    obtain⟨s9,h9,hd9⟩:=HS.out
    obtain⟨sa9,sc9,na9,nc9,-,-,-,⟨dv9,c39,-⟩,-,hz9⟩:=h9.cells
    have z39:=hz9 3
    have HY:=z00 h9
    have HDD:=z00 hd9
    clear h9 hd9 hz9 HS
    go_wp2
    go_ret
    exact⟨⟨_,rfl,fun a ha=>by cases ha⟩,⟨s9,(HY.out.setI _).1,HDD.out⟩,HF.out.trans (HY.out.setI _).2⟩
   ·rw[if_neg hb] at hr2
    have HF:=z00 P1.2
    have HS:=z00 (show SR B g xs A _ (some ⟨s.p,s.d+1,s.ns⟩) from⟨P1.1,by show s.d+1≤20;omega⟩)
    have HX:=z00 hr2
    have hb2:¬ (20:Int)<(s.d:Int)+1:=by omega
    clear h1 hr hr2 hz P1 e1 hdv hb
    go_enter Tryz.func188,Tryz.ntmps188
    go_wp2_with fail
    rcases z09 HX.out with⟨h1,rfl⟩|⟨k,s1,h1,hr1⟩
    ·refine(hC _ _ _ none (fun b hb=>Nat.lt_of_lt_of_le (hA b hb) HF.out.size) HS.out h1).mono ?_
     rintro e w1 ⟨⟨kx,rfl,-⟩,S1,F1⟩
     clear HX h1
     have FF1:=HF.out.trans F1
     clear HF HS
     have HF:=z00 FF1
     have HS:=z00 S1
     clear FF1 S1 F1
     go_wp2_with fail
     refine(z2c (t:=none) HS.out rfl).mono ?_
     rintro e w2 ⟨rfl,B2⟩
     have S2:=SR.below (t:=none) HS.out B2
     have FF2:=HF.out.trans (Fr.ofB (B:=B) B2 (SR.base (t:=none) HS.out))
     clear HF HS
     have HF:=z00 FF2
     have HS:=z00 S2
     clear FF2 S2 B2
     obtain⟨s9,h9,hd9⟩:=HS.out
     obtain⟨sa9,sc9,na9,nc9,-,-,-,⟨dv9,c39,-⟩,-,hz9⟩:=h9.cells
     have z39:=hz9 3
     have HY:=z00 h9
     have HDD:=z00 hd9
     clear h9 hd9 hz9 HS
     go_wp2
     go_ret
     exact⟨⟨_,rfl,fun a ha=>by cases ha⟩,⟨s9,(HY.out.setI _).1,HDD.out⟩,HF.out.trans (HY.out.setI _).2⟩
    ·refine(hC _ _ _ (some (k,s1)) (fun b hb=>Nat.lt_of_lt_of_le (hA b hb) HF.out.size) HS.out h1).mono ?_
     rintro e w1 ⟨⟨kx,rfl,hkx⟩,S1,F1⟩
     obtain rfl:kx=((k:Nat):Int):=hkx k rfl
     have HD1:=z00 (z7f hSm 6 (s.d+1) _ rfl _ _ h1)
     clear HX
     have HX:=z00 hr1
     clear h1 hr1 hkx
     have FF1:=HF.out.trans F1
     clear HF HS
     have HF:=z00 FF1
     have HS:=z00 S1
     clear FF1 S1 F1
     go_wp2_with fail
     by_cases ht:txt xs s1.p=(⟨#[63]⟩:ByteArray)
     ·have hx:=HX.out
      rw[if_pos ht] at hx
      clear HX
      have HX:=z00 hx
      clear hx
      refine(z3p (s:=s1) HS.out hX (by rw[z0q (hM (⟨#[63]⟩:ByteArray) (by decide))];exact decide_eq_true ht)).mono ?_
      clear ht
      rintro e w2 ⟨rfl,S2,F2⟩
      have FF2:=HF.out.trans F2
      clear HF HS
      have HF:=z00 FF2
      have HS:=z00 S2
      clear FF2 S2 F2
      go_wp2_with fail
      rcases z09 HX.out with⟨h3,rfl⟩|⟨ya,s3,h3,hr3⟩
      ·refine(hP _ _ _ none (fun b hb=>Nat.lt_of_lt_of_le (hA b hb) HF.out.size) HS.out h3).mono ?_
       rintro e w3 ⟨⟨yax,rfl,-⟩,S3,F3⟩
       clear HX h3
       have FF3:=HF.out.trans F3
       clear HF HS
       have HF:=z00 FF3
       have HS:=z00 S3
       clear FF3 S3 F3
       go_wp2_with fail
       refine(z0i (o:=none) HS.out hX (hM (⟨#[58]⟩:ByteArray) (by decide)) rfl).mono ?_
       rintro e w4 ⟨rfl,S4,F4⟩
       have FF4:=HF.out.trans F4
       clear HF HS
       have HF:=z00 FF4
       have HS:=z00 S4
       clear FF4 S4 F4
       go_wp2_with fail
       refine(hP _ _ _ none (fun b hb=>Nat.lt_of_lt_of_le (hA b hb) HF.out.size) HS.out rfl).mono ?_
       rintro e w5 ⟨⟨nbx,rfl,-⟩,S5,F5⟩
       have FF5:=HF.out.trans F5
       clear HF HS
       have HF:=z00 FF5
       have HS:=z00 S5
       clear FF5 S5 F5
       go_wp2_with fail
       have B6:Below w5.heap.size w5 (w5.alloc (.cells #[.int .i64 ((k:Nat):Int),.int .i64 yax,.int .i64 nbx] tI)):=(Below.refl _ _).alloc (Nat.le_refl _) _
       have R6:SR B g xs (z0g A (.slice (some ⟨w5.heap.size,0,none⟩) 3 3)) (w5.alloc (.cells #[.int .i64 ((k:Nat):Int),.int .i64 yax,.int .i64 nbx] tI)) none:=(SR.avoid (A':=z0g A (.slice (some ⟨w5.heap.size,0,none⟩) 3 3)) (t:=none) HS.out (fun k hk=>hk.imp_right (fun e=>by injection e with e;show w5.heap.size≤k;exact Nat.le_of_eq e))).below B6
       have o6:(w5.alloc (.cells #[.int .i64 ((k:Nat):Int),.int .i64 yax,.int .i64 nbx] tI)).ownsRow w.heap.size tI 1 (.slice (some ⟨w5.heap.size,0,none⟩) 3 3) 3 (z02 [((k:Nat):Int),yax,nbx]):=World.ownsRow_lit w5 #[.int .i64 ((k:Nat):Int),.int .i64 yax,.int .i64 nbx] 3 HF.out.size (by decide) rfl
       have FF6:=HF.out.trans (Fr.ofB (B:=B) B6 (SR.base (t:=none) HS.out))
       clear HF HS
       have HF:=z00 FF6
       have HS:=z00 R6
       have HP:=z00 o6
       clear FF6 R6 o6 B6
       refine(z14 (o:=none) 8 ByteArray.empty [((k:Nat):Int),yax,nbx] (some ⟨w5.heap.size,0,none⟩) 3 (SR.avoid (t:=none) HS.out (fun k hk=>.inl (.inl hk))) (z01 HP.out hbase) (fun b hb hb2=>by have h7:=(HP.out.lt b hb).1;have h8:=hA b hb2;omega) rfl).mono ?_
       rintro e w7 ⟨⟨kzx,rfl,-⟩,S7,F7⟩
       clear HP
       have FF7:=HF.out.trans F7
       clear HF HS
       have HF:=z00 FF7
       have HS:=z00 S7
       clear FF7 S7 F7
       obtain⟨s9,h9,hd9⟩:=HS.out
       obtain⟨sa9,sc9,na9,nc9,-,-,-,⟨dv9,c39,-⟩,-,hz9⟩:=h9.cells
       have z39:=hz9 3
       have HY:=z00 h9
       have HDD:=z00 hd9
       clear h9 hd9 hz9 HS
       go_wp2
       go_ret
       exact⟨⟨_,rfl,fun a ha=>by cases ha⟩,⟨s9,(HY.out.setI _).1,HDD.out⟩,HF.out.trans (HY.out.setI _).2⟩
      ·refine(hP _ _ _ (some (ya,s3)) (fun b hb=>Nat.lt_of_lt_of_le (hA b hb) HF.out.size) HS.out h3).mono ?_
       rintro e w3 ⟨⟨yax,rfl,hyax⟩,S3,F3⟩
       obtain rfl:yax=((ya:Nat):Int):=hyax ya rfl
       have HD2:=z00 (hSm false _ _ _ h3)
       clear HX
       have HX:=z00 hr3
       clear h3 hr3 hyax
       have FF3:=HF.out.trans F3
       clear HF HS
       have HF:=z00 FF3
       have HS:=z00 S3
       clear FF3 S3 F3
       go_wp2_with fail
       rcases z09 HX.out with⟨h4,rfl⟩|⟨u,s4,h4,hr4⟩
       ·refine(z0i (o:=none) HS.out hX (hM (⟨#[58]⟩:ByteArray) (by decide)) h4).mono ?_
        rintro e w4 ⟨rfl,S4,F4⟩
        clear HX h4
        have FF4:=HF.out.trans F4
        clear HF HS
        have HF:=z00 FF4
        have HS:=z00 S4
        clear FF4 S4 F4
        go_wp2_with fail
        refine(hP _ _ _ none (fun b hb=>Nat.lt_of_lt_of_le (hA b hb) HF.out.size) HS.out rfl).mono ?_
        rintro e w5 ⟨⟨nbx,rfl,-⟩,S5,F5⟩
        have FF5:=HF.out.trans F5
        clear HF HS
        have HF:=z00 FF5
        have HS:=z00 S5
        clear FF5 S5 F5
        go_wp2_with fail
        have B6:Below w5.heap.size w5 (w5.alloc (.cells #[.int .i64 ((k:Nat):Int),.int .i64 ((ya:Nat):Int),.int .i64 nbx] tI)):=(Below.refl _ _).alloc (Nat.le_refl _) _
        have R6:SR B g xs (z0g A (.slice (some ⟨w5.heap.size,0,none⟩) 3 3)) (w5.alloc (.cells #[.int .i64 ((k:Nat):Int),.int .i64 ((ya:Nat):Int),.int .i64 nbx] tI)) none:=(SR.avoid (A':=z0g A (.slice (some ⟨w5.heap.size,0,none⟩) 3 3)) (t:=none) HS.out (fun k hk=>hk.imp_right (fun e=>by injection e with e;show w5.heap.size≤k;exact Nat.le_of_eq e))).below B6
        have o6:(w5.alloc (.cells #[.int .i64 ((k:Nat):Int),.int .i64 ((ya:Nat):Int),.int .i64 nbx] tI)).ownsRow w.heap.size tI 1 (.slice (some ⟨w5.heap.size,0,none⟩) 3 3) 3 (z02 [((k:Nat):Int),((ya:Nat):Int),nbx]):=World.ownsRow_lit w5 #[.int .i64 ((k:Nat):Int),.int .i64 ((ya:Nat):Int),.int .i64 nbx] 3 HF.out.size (by decide) rfl
        have FF6:=HF.out.trans (Fr.ofB (B:=B) B6 (SR.base (t:=none) HS.out))
        clear HF HS
        have HF:=z00 FF6
        have HS:=z00 R6
        have HP:=z00 o6
        clear FF6 R6 o6 B6
        refine(z14 (o:=none) 8 ByteArray.empty [((k:Nat):Int),((ya:Nat):Int),nbx] (some ⟨w5.heap.size,0,none⟩) 3 (SR.avoid (t:=none) HS.out (fun k hk=>.inl (.inl hk))) (z01 HP.out hbase) (fun b hb hb2=>by have h7:=(HP.out.lt b hb).1;have h8:=hA b hb2;omega) rfl).mono ?_
        rintro e w7 ⟨⟨kzx,rfl,-⟩,S7,F7⟩
        clear HP
        have FF7:=HF.out.trans F7
        clear HF HS
        have HF:=z00 FF7
        have HS:=z00 S7
        clear FF7 S7 F7
        obtain⟨s9,h9,hd9⟩:=HS.out
        obtain⟨sa9,sc9,na9,nc9,-,-,-,⟨dv9,c39,-⟩,-,hz9⟩:=h9.cells
        have z39:=hz9 3
        have HY:=z00 h9
        have HDD:=z00 hd9
        clear h9 hd9 hz9 HS
        go_wp2
        go_ret
        exact⟨⟨_,rfl,fun a ha=>by cases ha⟩,⟨s9,(HY.out.setI _).1,HDD.out⟩,HF.out.trans (HY.out.setI _).2⟩
       ·refine(z0i (o:=(some (u,s4))) HS.out hX (hM (⟨#[58]⟩:ByteArray) (by decide)) h4).mono ?_
        rintro e w4 ⟨rfl,S4,F4⟩
        have HD3:=z00 (z1s rfl _ _ h4)
        clear HX
        have HX:=z00 hr4
        clear h4 hr4
        have FF4:=HF.out.trans F4
        clear HF HS
        have HF:=z00 FF4
        have HS:=z00 S4
        clear FF4 S4 F4
        go_wp2_with fail
        rcases z09 HX.out with⟨h5,rfl⟩|⟨nb,s5,h5,hr5⟩
        ·refine(hP _ _ _ none (fun b hb=>Nat.lt_of_lt_of_le (hA b hb) HF.out.size) HS.out h5).mono ?_
         rintro e w5 ⟨⟨nbx,rfl,-⟩,S5,F5⟩
         clear HX h5
         have FF5:=HF.out.trans F5
         clear HF HS
         have HF:=z00 FF5
         have HS:=z00 S5
         clear FF5 S5 F5
         go_wp2_with fail
         have B6:Below w5.heap.size w5 (w5.alloc (.cells #[.int .i64 ((k:Nat):Int),.int .i64 ((ya:Nat):Int),.int .i64 nbx] tI)):=(Below.refl _ _).alloc (Nat.le_refl _) _
         have R6:SR B g xs (z0g A (.slice (some ⟨w5.heap.size,0,none⟩) 3 3)) (w5.alloc (.cells #[.int .i64 ((k:Nat):Int),.int .i64 ((ya:Nat):Int),.int .i64 nbx] tI)) none:=(SR.avoid (A':=z0g A (.slice (some ⟨w5.heap.size,0,none⟩) 3 3)) (t:=none) HS.out (fun k hk=>hk.imp_right (fun e=>by injection e with e;show w5.heap.size≤k;exact Nat.le_of_eq e))).below B6
         have o6:(w5.alloc (.cells #[.int .i64 ((k:Nat):Int),.int .i64 ((ya:Nat):Int),.int .i64 nbx] tI)).ownsRow w.heap.size tI 1 (.slice (some ⟨w5.heap.size,0,none⟩) 3 3) 3 (z02 [((k:Nat):Int),((ya:Nat):Int),nbx]):=World.ownsRow_lit w5 #[.int .i64 ((k:Nat):Int),.int .i64 ((ya:Nat):Int),.int .i64 nbx] 3 HF.out.size (by decide) rfl
         have FF6:=HF.out.trans (Fr.ofB (B:=B) B6 (SR.base (t:=none) HS.out))
         clear HF HS
         have HF:=z00 FF6
         have HS:=z00 R6
         have HP:=z00 o6
         clear FF6 R6 o6 B6
         refine(z14 (o:=none) 8 ByteArray.empty [((k:Nat):Int),((ya:Nat):Int),nbx] (some ⟨w5.heap.size,0,none⟩) 3 (SR.avoid (t:=none) HS.out (fun k hk=>.inl (.inl hk))) (z01 HP.out hbase) (fun b hb hb2=>by have h7:=(HP.out.lt b hb).1;have h8:=hA b hb2;omega) rfl).mono ?_
         rintro e w7 ⟨⟨kzx,rfl,-⟩,S7,F7⟩
         clear HP
         have FF7:=HF.out.trans F7
         clear HF HS
         have HF:=z00 FF7
         have HS:=z00 S7
         clear FF7 S7 F7
         obtain⟨s9,h9,hd9⟩:=HS.out
         obtain⟨sa9,sc9,na9,nc9,-,-,-,⟨dv9,c39,-⟩,-,hz9⟩:=h9.cells
         have z39:=hz9 3
         have HY:=z00 h9
         have HDD:=z00 hd9
         clear h9 hd9 hz9 HS
         go_wp2
         go_ret
         exact⟨⟨_,rfl,fun a ha=>by cases ha⟩,⟨s9,(HY.out.setI _).1,HDD.out⟩,HF.out.trans (HY.out.setI _).2⟩
        ·refine(hP _ _ _ (some (nb,s5)) (fun b hb=>Nat.lt_of_lt_of_le (hA b hb) HF.out.size) HS.out h5).mono ?_
         rintro e w5 ⟨⟨nbx,rfl,hnbx⟩,S5,F5⟩
         obtain rfl:nbx=((nb:Nat):Int):=hnbx nb rfl
         have HD4:=z00 (hSm false _ _ _ h5)
         clear HX
         have HX:=z00 hr5
         clear h5 hr5 hnbx
         have FF5:=HF.out.trans F5
         clear HF HS
         have HF:=z00 FF5
         have HS:=z00 S5
         clear FF5 S5 F5
         go_wp2_with fail
         have B6:Below w5.heap.size w5 (w5.alloc (.cells #[.int .i64 ((k:Nat):Int),.int .i64 ((ya:Nat):Int),.int .i64 ((nb:Nat):Int)] tI)):=(Below.refl _ _).alloc (Nat.le_refl _) _
         have R6:SR B g xs (z0g A (.slice (some ⟨w5.heap.size,0,none⟩) 3 3)) (w5.alloc (.cells #[.int .i64 ((k:Nat):Int),.int .i64 ((ya:Nat):Int),.int .i64 ((nb:Nat):Int)] tI)) (some s5):=(SR.avoid (A':=z0g A (.slice (some ⟨w5.heap.size,0,none⟩) 3 3)) (t:=(some s5)) HS.out (fun k hk=>hk.imp_right (fun e=>by injection e with e;show w5.heap.size≤k;exact Nat.le_of_eq e))).below B6
         have o6:(w5.alloc (.cells #[.int .i64 ((k:Nat):Int),.int .i64 ((ya:Nat):Int),.int .i64 ((nb:Nat):Int)] tI)).ownsRow w.heap.size tI 1 (.slice (some ⟨w5.heap.size,0,none⟩) 3 3) 3 (z02 [((k:Nat):Int),((ya:Nat):Int),((nb:Nat):Int)]):=World.ownsRow_lit w5 #[.int .i64 ((k:Nat):Int),.int .i64 ((ya:Nat):Int),.int .i64 ((nb:Nat):Int)] 3 HF.out.size (by decide) rfl
         have FF6:=HF.out.trans (Fr.ofB (B:=B) B6 (SR.base (t:=(some s5)) HS.out))
         clear HF HS
         have HF:=z00 FF6
         have HS:=z00 R6
         have HP:=z00 o6
         clear FF6 R6 o6 B6
         rcases z09 HX.out with⟨h7,rfl⟩|⟨kz,s7,h7,hr7⟩
         ·refine(z14 (o:=none) 8 ByteArray.empty [((k:Nat):Int),((ya:Nat):Int),((nb:Nat):Int)] (some ⟨w5.heap.size,0,none⟩) 3 (SR.avoid (t:=some s5) HS.out (fun k hk=>.inl (.inl hk))) (z01 HP.out hbase) (fun b hb hb2=>by have h7:=(HP.out.lt b hb).1;have h8:=hA b hb2;omega) h7).mono ?_
          rintro e w7 ⟨⟨kzx,rfl,-⟩,S7,F7⟩
          clear HX h7 HP
          have FF7:=HF.out.trans F7
          clear HF HS
          have HF:=z00 FF7
          have HS:=z00 S7
          clear FF7 S7 F7
          obtain⟨s9,h9,hd9⟩:=HS.out
          obtain⟨sa9,sc9,na9,nc9,-,-,-,⟨dv9,c39,-⟩,-,hz9⟩:=h9.cells
          have z39:=hz9 3
          have HY:=z00 h9
          have HDD:=z00 hd9
          clear h9 hd9 hz9 HS
          go_wp2
          go_ret
          exact⟨⟨_,rfl,fun a ha=>by cases ha⟩,⟨s9,(HY.out.setI _).1,HDD.out⟩,HF.out.trans (HY.out.setI _).2⟩
         ·refine(z14 (o:=(some (kz,s7))) 8 ByteArray.empty [((k:Nat):Int),((ya:Nat):Int),((nb:Nat):Int)] (some ⟨w5.heap.size,0,none⟩) 3 (SR.avoid (t:=some s5) HS.out (fun k hk=>.inl (.inl hk))) (z01 HP.out hbase) (fun b hb hb2=>by have h7:=(HP.out.lt b hb).1;have h8:=hA b hb2;omega) h7).mono ?_
          rintro e w7 ⟨⟨kzx,rfl,hkzx⟩,S7,F7⟩
          obtain rfl:kzx=((kz:Nat):Int):=hkzx kz rfl
          have HD5:=z00 (z2a rfl _ _ h7)
          clear HX
          have HX:=z00 hr7
          clear h7 hr7 hkzx
          clear HP
          have FF7:=HF.out.trans F7
          clear HF HS
          have HF:=z00 FF7
          have HS:=z00 S7
          clear FF7 S7 F7
          obtain rfl:some (kz,(⟨s7.p,s7.d-1,s7.ns⟩:Ps))=o:=by
           have:=HX.out
           injection this
          have hpos:s7.d=s.d+1:=by
           have a1:=HD1.out
           have a2:_=(s1.next).d:=HD2.out
           have a3:=HD3.out
           have a4:=HD4.out
           have a5:=HD5.out
           have a6:(s1.next).d=s1.d:=rfl
           omega
          obtain⟨h9,hd9⟩:=HS.out
          obtain⟨sa9,sc9,na9,nc9,-,-,-,⟨dv9,c39,hdv9⟩,-,hz9⟩:=h9.cells
          obtain rfl:dv9=(s7.d:Int):=hdv9 rfl
          have z39:=hz9 3
          have P9:=h9.setD (s7.d-1)
          have e9:((s7.d-1:Nat):Int)=(s7.d:Int)-1:=by omega
          rw[e9] at P9
          have HP9:=z00 P9
          have HDD:=z00 (show s7.d-1≤20 by omega)
          have hle:(s7.d:Int)≤21:=by omega
          have hge:(0:Int)≤(s7.d:Int):=by omega
          clear h9 hd9 hz9 HS HX P9 e9 hdv9 hpos
          go_wp2
          go_ret
          exact⟨⟨_,rfl,fun a ha=>by injection ha with ha;rw[← ha]⟩,⟨HP9.out.1,HDD.out⟩,HF.out.trans HP9.out.2⟩
     ·have hx:=HX.out
      rw[if_neg ht] at hx
      clear HX
      have HX:=z00 hx
      clear hx
      refine(z2c (t:=some s1) HS.out (by rw[z0q (hM (⟨#[63]⟩:ByteArray) (by decide))];exact decide_eq_false ht)).mono ?_
      rintro e w2 ⟨rfl,B2⟩
      have S2:=SR.below (t:=some s1) HS.out B2
      have FF2:=HF.out.trans (Fr.ofB (B:=B) B2 (SR.base (t:=some s1) HS.out))
      clear HF HS
      have HF:=z00 FF2
      have HS:=z00 S2
      clear FF2 S2 B2
      clear ht
      obtain rfl:some (k,(⟨s1.p,s1.d-1,s1.ns⟩:Ps))=o:=by
       have:=HX.out
       injection this
      have hpos:s1.d=s.d+1:=HD1.out
      obtain⟨h9,hd9⟩:=HS.out
      obtain⟨sa9,sc9,na9,nc9,-,-,-,⟨dv9,c39,hdv9⟩,-,hz9⟩:=h9.cells
      obtain rfl:dv9=(s1.d:Int):=hdv9 rfl
      have z39:=hz9 3
      have P9:=h9.setD (s1.d-1)
      have e9:((s1.d-1:Nat):Int)=(s1.d:Int)-1:=by omega
      rw[e9] at P9
      have HP9:=z00 P9
      have HDD:=z00 (show s1.d-1≤20 by omega)
      have hle:(s1.d:Int)≤21:=by omega
      have hge:(0:Int)≤(s1.d:Int):=by omega
      clear h9 hd9 hz9 HS HX P9 e9 hdv9 hpos
      go_wp2
      go_ret
      exact⟨⟨_,rfl,fun a ha=>by injection ha with ha;rw[← ha]⟩,⟨HP9.out.1,HDD.out⟩,HF.out.trans HP9.out.2⟩
end
section
variable (xs:List Sg)
def spL (nx:Ps→Rs Nat) (lv:Nat):Nat→List Int→ByteArray→Ps→Rs Nat
 | 0,_,_,_=>none
 | f+1,ks,t,s =>
   if lvl (txt xs s.p)=lv then
    (if t≠ByteArray.empty∧txt xs s.p≠t then bnd (z0z 7 t ks s.next) fun k s1=>bnd (nx s1) fun k2 s2=>spL nx lv f [(k:Int),(k2:Int)] (txt xs s.p) s2
     else bnd (nx s.next) fun k2 s1=>spL nx lv f (ks++[(k2:Int)]) (txt xs s.p) s1)
   else if ks.length=1 then yes (ks.getD 0 0).toNat s else z0z 7 t ks s
end
section
variable {xs:List Sg}
theorem z8g {nx:Ps→Rs Nat} {lv f:Nat} {ks:List Int} {t:ByteArray} {s:Ps} (h:lvl (txt xs s.p)≠lv):spL xs nx lv (f+1) ks t s=if ks.length=1 then yes (ks.getD 0 0).toNat s else z0z 7 t ks s:=by rw[spL,if_neg h]
theorem z7w {nx:Ps→Rs Nat} {lv f:Nat} {ks:List Int} {t:ByteArray} {s:Ps} (h:lvl (txt xs s.p)=lv) (ht:t≠ByteArray.empty∧txt xs s.p≠t):spL xs nx lv (f+1) ks t s=bnd (z0z 7 t ks s.next) fun k s1=>bnd (nx s1) fun k2 s2=>spL xs nx lv f [(k:Int),(k2:Int)] (txt xs s.p) s2:=by rw[spL,if_pos h,if_pos ht]
theorem z49 {nx:Ps→Rs Nat} {lv f:Nat} {ks:List Int} {t:ByteArray} {s:Ps} (h:lvl (txt xs s.p)=lv) (ht:¬ (t≠ByteArray.empty∧txt xs s.p≠t)):spL xs nx lv (f+1) ks t s=bnd (nx s.next) fun k2 s1=>spL xs nx lv f (ks++[(k2:Int)]) (txt xs s.p) s1:=by rw[spL,if_pos h,if_neg ht]
theorem zkq {k:Int} {t:ByteArray} {ks:List Int} {s:Ps} {a:Nat} {s1:Ps} (h:z0z k t ks s=yes a s1):z0z k t ks s.next=yes a s1.next∧s1.p=s.p:=by
 unfold z0z at h ⊢
 by_cases hn:s.ns.length=300
 ·rw[if_pos hn] at h;cases h
 ·rw[if_neg hn] at h
  rw[if_neg (show ¬ s.next.ns.length=300 from hn)]
  injection h with h
  injection h with h
  injection h with h1 h2
  subst h1 h2
  exact⟨rfl,rfl⟩
theorem zd6 {k:Int} {t:ByteArray} {ks:List Int} {s:Ps} (h:z0z k t ks s=some none):z0z k t ks s.next=some none:=by
 unfold z0z at h ⊢
 by_cases hn:s.ns.length=300
 ·rw[if_pos (show s.next.ns.length=300 from hn)]
 ·rw[if_neg hn] at h;cases h
theorem zm9 {k:Int} {t:ByteArray} {ks:List Int} {s:Ps}:z0z k t ks s≠none:=by
 unfold z0z
 split<;>simp
theorem zg2 {nx:Ps→Rs Nat} {lv f G:Nat} {t:ByteArray} {o:Option (Nat×Ps)} (hv:lv≠0) (ht:lvl t=lv)
 (ih:∀ (k:Nat) (s:Ps),chL xs nx lv f k s=some o→∃ F,F≤G∧spL xs nx lv F [(k:Int)] ByteArray.empty s=some o) :
 ∀ (f2:Nat) (ks:List Int) (s:Ps),2≤ks.length→bnd (z5z xs nx t f2 ks s) (fun k s1=>chL xs nx lv f k s1)=some o→∃ F,F≤G+f2+1∧spL xs nx lv F ks t s=some o
 | 0,_,_,_,h=>by simp[z5z,bnd] at h
 | f2+1,ks,s,hk,h=>by
   have hte:=z8o ht hv
   unfold z5z at h
   by_cases hm:txt xs s.p=t
   ·rw[if_pos hm,z1y] at h
    have hl:lvl (txt xs s.p)=lv:=by rw[hm];exact ht
    have hno:¬ (t≠ByteArray.empty∧txt xs s.p≠t):=fun e=>e.2 hm
    match hx:nx s.next,h with
    | none,h=>cases h
    | some none,h =>
      exact⟨1,by omega,by rw[z49 hl hno,hx];exact h⟩
    | some (some (k2,s1)),h =>
      rw[z1a] at h
      obtain⟨F,hFl,hF⟩:=zg2 hv ht ih f2 (ks++[(k2:Int)]) s1 (by simp;omega) h
      exact⟨F+1,by omega,by rw[z49 hl hno,hx,z1a,hm];exact hF⟩
   ·rw[if_neg hm] at h
    match hx:z0z 7 t ks s,h with
    | none,_=>exact absurd hx zm9
    | some none,h =>
      refine⟨1,by omega,?_⟩
      by_cases hl:lvl (txt xs s.p)=lv
      ·rw[z7w hl ⟨hte,hm⟩,zd6 hx];exact h
      ·rw[z8g hl,if_neg (by omega),hx];exact h
    | some (some (k,s1)),h =>
      rw[z1a] at h
      obtain⟨e1,e2⟩:=zkq hx
      obtain⟨F,hFl,hF⟩:=ih k s1 h
      cases F with
      | zero=>simp[spL] at hF
      | succ F =>
        by_cases hl:lvl (txt xs s.p)=lv
        ·rw[z49 (by rw[e2];exact hl) (fun e=>e.1 rfl),e2] at hF
         exact⟨F+1,by omega,by rw[z7w hl ⟨hte,hm⟩,e1,z1a];exact hF⟩
        ·rw[z8g (by rw[e2];exact hl),if_pos (show [(k:Int)].length=1 from rfl)] at hF
         refine⟨1,by omega,?_⟩
         rw[z8g hl,if_neg (by omega),hx]
         exact hF
theorem zn0 {nx:Ps→Rs Nat} {lv:Nat} {o:Option (Nat×Ps)} (hv:lv≠0):∀ (f k:Nat) (s:Ps),chL xs nx lv f k s=some o→∃ F,F≤(lim xs+3)*f∧spL xs nx lv F [(k:Int)] ByteArray.empty s=some o
 | 0,_,_,h=>by simp[chL] at h
 | f+1,k,s,h=>by
   unfold chL at h
   have hmul:(lim xs+3)*(f+1)=(lim xs+3)*f+(lim xs+3):=Nat.mul_succ _ _
   by_cases hl:lvl (txt xs s.p)=lv
   ·have hno:¬ (ByteArray.empty≠ByteArray.empty∧txt xs s.p≠ByteArray.empty):=fun e=>e.1 rfl
    rw[if_pos hl] at h
    unfold lim z5z at h
    rw[if_pos rfl,z1y] at h
    match hx:nx s.next,h with
    | none,h=>cases h
    | some none,h=>exact⟨1,by omega,by rw[z49 hl hno,hx];exact h⟩
    | some (some (k2,s1)),h =>
      rw[z1a] at h
      obtain⟨F,hFl,hF⟩:=zg2 hv hl (fun k s=>zn0 hv f k s) _ ([(k:Int)]++[(k2:Int)]) s1 (by simp) h
      exact⟨F+1,by rw[hmul];unfold lim at hFl ⊢;omega,by rw[z49 hl hno,hx,z1a];exact hF⟩
   ·rw[if_neg hl] at h
    refine⟨1,by omega,?_⟩
    rw[z8g hl,if_pos (show [(k:Int)].length=1 from rfl)]
    exact h
def lvM (n:Nat):List ByteArray:=match n with|0=>[(⟨#[124,124]⟩:ByteArray)]|1=>[(⟨#[38,38]⟩:ByteArray)]|2=>[(⟨#[61,61]⟩:ByteArray)]|3=>[(⟨#[60]⟩:ByteArray)]|4=>[(⟨#[43]⟩:ByteArray),(⟨#[45]⟩:ByteArray)]|_=>[(⟨#[42]⟩:ByteArray)]
theorem zjn (n:Nat) (hn:n≤5) (t:ByteArray):t∈lvM n↔lvl t=n+1:=by
 have hc:t=(⟨#[124,124]⟩:ByteArray)∨t=(⟨#[38,38]⟩:ByteArray)∨t=(⟨#[61,61]⟩:ByteArray)∨t=(⟨#[60]⟩:ByteArray)∨t=(⟨#[43]⟩:ByteArray)∨t=(⟨#[45]⟩:ByteArray)∨t=(⟨#[42]⟩:ByteArray)∨(t≠(⟨#[124,124]⟩:ByteArray)∧t≠(⟨#[38,38]⟩:ByteArray)∧t≠(⟨#[61,61]⟩:ByteArray)∧t≠(⟨#[60]⟩:ByteArray)∧t≠(⟨#[43]⟩:ByteArray)∧t≠(⟨#[45]⟩:ByteArray)∧t≠(⟨#[42]⟩:ByteArray)):=by
  by_cases h1:t=(⟨#[124,124]⟩:ByteArray)
  ·exact .inl h1
  by_cases h2:t=(⟨#[38,38]⟩:ByteArray)
  ·exact .inr (.inl h2)
  by_cases h3:t=(⟨#[61,61]⟩:ByteArray)
  ·exact .inr (.inr (.inl h3))
  by_cases h4:t=(⟨#[60]⟩:ByteArray)
  ·exact .inr (.inr (.inr (.inl h4)))
  by_cases h5:t=(⟨#[43]⟩:ByteArray)
  ·exact .inr (.inr (.inr (.inr (.inl h5))))
  by_cases h6:t=(⟨#[45]⟩:ByteArray)
  ·exact .inr (.inr (.inr (.inr (.inr (.inl h6)))))
  by_cases h7:t=(⟨#[42]⟩:ByteArray)
  ·exact .inr (.inr (.inr (.inr (.inr (.inr (.inl h7))))))
  exact .inr (.inr (.inr (.inr (.inr (.inr (.inr ⟨h1,h2,h3,h4,h5,h6,h7⟩))))))
 have hn':n=0∨n=1∨n=2∨n=3∨n=4∨n=5:=by omega
 rcases hc with rfl|rfl|rfl|rfl|rfl|rfl|rfl|⟨h1,h2,h3,h4,h5,h6,h7⟩
 all_goals rcases hn' with rfl|rfl|rfl|rfl|rfl|rfl
 all_goals first
  | decide
  | (unfold lvl lvM;simp[*])
end
end Go.Proofs.YtekebloinobjnaaGreatDoor
