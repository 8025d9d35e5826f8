/- Texts of one proof, laid together: SpI14. -/
import Derived.Test.YtekebloinobjnaaGreatDoorC24
set_option maxHeartbeats 16000000
set_option maxRecDepth 100000
namespace Go.Proofs.YtekebloinobjnaaGreatDoor
open Go.RowKit
theorem z71 {xs:List Sg} {s:Ps} (h:z4r xs s.p=true):kdP xs (some s) 1=true:=by
 show ((knd xs s.p==1)&&(!((1:Int)==1)||!kw (txt xs s.p)))=true
 rw[show ((1:Int)==1)=true from rfl]
 exact h
theorem zmc {xs:List Sg} {s:Ps} (h:¬ z4r xs s.p=true):kdP xs (some s) 1=false:=by
 rw[Bool.not_eq_true] at h
 show ((knd xs s.p==1)&&(!((1:Int)==1)||!kw (txt xs s.p)))=false
 rw[show ((1:Int)==1)=true from rfl]
 exact h
theorem z3t {xs:List Sg} {s:Ps} {k:Int} (h:knd xs s.p=k) (hk:(k==1)=false:=by rfl):kdP xs (some s) k=true:=by
 show ((knd xs s.p==k)&&(!(k==1)||!kw (txt xs s.p)))=true
 rw[h,hk]
 simp
theorem z9i {xs:List Sg} {s:Ps} {k:Int} (h:¬ knd xs s.p=k):kdP xs (some s) k=false:=by
 show ((knd xs s.p==k)&&(!(k==1)||!kw (txt xs s.p)))=false
 rw[show (knd xs s.p==k)=false from by rw[beq_eq_false_iff_ne];exact h]
 rfl
theorem z59 {xs:List Sg} {s:Ps} {k:Int} (h:kdP xs (some s) k=true):z60 (z98 xs k) (some s) (some (txt xs s.p,s.next)):=by
 show z98 xs k s=_
 unfold z98
 rw[if_pos h]
section
variable {B g:Nat} {xs:List Sg} {A:Nat→Prop} {w:World} {t:Option Ps}
theorem zus {n0:Nat} {o:Option (Nat×Ps)} (h:SR B g xs A w t) (hX:xs.length≤3000) (hM:z3w xs) (hA:∀ b,A b→b<w.heap.size) (hV:z1n B g xs 163 (vpF xs n0 true)) (hP:z1n B g xs 188 (vpF xs n0 false)) (hr:z60 (z3l xs (vpF xs n0)) t o):Calls Tryz.prog 239 #[.pointer (some ⟨g,0,none⟩)] w (z0j B g xs A w VNs o):=by
 obtain⟨i0,hi,hz0,hz1,hz2⟩:=info_parts z29
 have hbase:=h.base
 have HF:=z00 (Fr.refl B w)
 match t,h,hr with
 | none,h,hr =>
   obtain rfl:o=none:=hr
   obtain⟨s1,h1,hd1⟩:=h
   obtain⟨sa,sc,na,nc,-,-,c2,-,-,-⟩:=h1.cells
   have HS:=z00 (show SR B g xs A w none from⟨s1,h1,hd1⟩)
   clear h1 hd1 hr
   go_enter Tryz.func239,Tryz.ntmps239
   go_wp2
   go_ret
   exact⟨⟨_,rfl,fun a ha=>by cases ha⟩,HS.out,Fr.refl _ _⟩
 | some s,h,hr =>
   have hr2:z3l xs (vpF xs n0) s=some o:=hr
   have HR0:=z00 hr2
   unfold z3l at hr2
   have HX:=z00 hr2
   obtain⟨sa,sc,na,nc,-,-,c2,-,-,-⟩:=h.1.cells
   have HS:=z00 h
   clear h hr hr2
   go_enter Tryz.func239,Tryz.ntmps239
   go_wp2_with fail
   clear c2
   by_cases hc:z4r xs s.p=true
   ·have qK:=z3n (t:=some s) HS.out 1 (.inl rfl)
    rw[show kdP xs (some s) 1=true from z71 hc] at qK
    have hx:=HX.out
    rw[if_pos hc] at hx
    clear HX
    have HX:=z00 hx
    clear hx
    refine qK.mono ?_
    clear qK
    rintro e w1 ⟨rfl,m1,hm1⟩
    have B1:Below w.heap.size w w1:=by rw[hm1];exact z0a _ _
    clear hm1
    have S1:=SR.below (t:=(some s)) HS.out B1
    have FF1:=HF.out.trans (Fr.ofB (B:=B) B1 (SR.base (t:=(some s)) HS.out))
    clear HF HS
    have HF:=z00 FF1
    have HS:=z00 S1
    clear FF1 S1 B1
    have HC:=z00 hc
    clear hc
    go_wp2_with fail
    have qT:=zcl (o:=some (txt xs s.p,s.next)) (t:=some s) 1 (.inl rfl) HS.out hX (z59 (z71 HC.out))
    have hx:z0z 1 (txt xs s.p) [] s.next=some o:=HX.out
    clear HX
    have HX:=z00 hx
    clear hx
    refine qT.mono ?_
    clear qT
    rintro e w2 ⟨⟨tx,rfl,htx⟩,S2,F2⟩
    obtain rfl:tx=txt xs s.p:=htx _ rfl
    clear htx
    have FF2:=HF.out.trans F2
    clear HF HS
    have HF:=z00 FF2
    have HS:=z00 S2
    clear FF2 S2 F2
    obtain⟨ux,hux⟩:∃ ux,ux=(txt xs s.p):=⟨_,rfl⟩
    rw[← hux] at HX ⊢
    clear hux
    have B3:Below w2.heap.size w2 (w2.alloc (.cells #[] tI)):=(Below.refl _ _).alloc (Nat.le_refl _) _
    have R3:SR B g xs (z0g A (.slice (some ⟨w2.heap.size,0,none⟩) 0 0)) (w2.alloc (.cells #[] tI)) (some s.next):=(SR.avoid (A':=z0g A (.slice (some ⟨w2.heap.size,0,none⟩) 0 0)) (t:=(some s.next)) HS.out (fun k hk=>hk.imp_right (fun e=>by injection e with e;show w2.heap.size≤k;exact Nat.le_of_eq e))).below B3
    have o3:(w2.alloc (.cells #[] tI)).ownsRow w.heap.size tI 1 (.slice (some ⟨w2.heap.size,0,none⟩) 0 0) 0 (z02 ([]:List Int)):=World.ownsRow_lit w2 #[] 0 HF.out.size (by decide) rfl
    have FF3:=HF.out.trans (Fr.ofB (B:=B) B3 (SR.base (t:=(some s.next)) HS.out))
    clear HF HS
    have HF:=z00 FF3
    have HS:=z00 R3
    have HP:=z00 o3
    clear FF3 R3 o3 B3
    go_wp2_with fail
    refine(z14 (o:=o) 1 ux ([]:List Int) (some ⟨w2.heap.size,0,none⟩) 0 (SR.avoid (t:=some s.next) HS.out (fun k hk=>.inl (.inl hk))) (z01 HP.out hbase) (fun b hb hb2=>by have h7:=(HP.out.lt b hb).1;have h8:=hA b hb2;omega) HX.out).mono ?_
    rintro e we ⟨⟨k9,rfl,hk9⟩,S9,F9⟩
    have HH:=z00 (show z0j B g xs A w VNs _ (.returned (.int .i64 k9)) we from⟨⟨k9,rfl,hk9⟩,S9,HF.out.trans F9⟩)
    clear S9 F9 HF HS
    go_wp2
    go_ret
    exact HH.out
   ·have qK:=z3n (t:=some s) HS.out 1 (.inl rfl)
    rw[show kdP xs (some s) 1=false from zmc hc] at qK
    have hx:=HX.out
    rw[if_neg hc] at hx
    clear HX
    have HX:=z00 hx
    clear hx
    refine qK.mono ?_
    clear qK
    rintro e w1 ⟨rfl,m1,hm1⟩
    have B1:Below w.heap.size w w1:=by rw[hm1];exact z0a _ _
    clear hm1
    have S1:=SR.below (t:=(some s)) HS.out B1
    have FF1:=HF.out.trans (Fr.ofB (B:=B) B1 (SR.base (t:=(some s)) HS.out))
    clear HF HS
    have HF:=z00 FF1
    have HS:=z00 S1
    clear FF1 S1 B1
    clear hc
    go_wp2_with fail
    by_cases hc:knd xs s.p=2
    ·have qK:=z3n (t:=some s) HS.out 2 (.inr (.inl rfl))
     rw[show kdP xs (some s) 2=true from z3t hc] at qK
     have hx:=HX.out
     rw[if_pos hc] at hx
     clear HX
     have HX:=z00 hx
     clear hx
     refine qK.mono ?_
     clear qK
     rintro e w2 ⟨rfl,m2,hm2⟩
     have B2:Below w1.heap.size w1 w2:=by rw[hm2];exact z0a _ _
     clear hm2
     have S2:=SR.below (t:=(some s)) HS.out B2
     have FF2:=HF.out.trans (Fr.ofB (B:=B) B2 (SR.base (t:=(some s)) HS.out))
     clear HF HS
     have HF:=z00 FF2
     have HS:=z00 S2
     clear FF2 S2 B2
     have HC:=z00 hc
     clear hc
     go_wp2_with fail
     have qT:=zcl (o:=some (txt xs s.p,s.next)) (t:=some s) 2 (.inr (.inl rfl)) HS.out hX (z59 (z3t HC.out))
     have hx:z0z 2 (txt xs s.p) [] s.next=some o:=HX.out
     clear HX
     have HX:=z00 hx
     clear hx
     refine qT.mono ?_
     clear qT
     rintro e w3 ⟨⟨tx,rfl,htx⟩,S3,F3⟩
     obtain rfl:tx=txt xs s.p:=htx _ rfl
     clear htx
     have FF3:=HF.out.trans F3
     clear HF HS
     have HF:=z00 FF3
     have HS:=z00 S3
     clear FF3 S3 F3
     obtain⟨ux,hux⟩:∃ ux,ux=(txt xs s.p):=⟨_,rfl⟩
     rw[← hux] at HX ⊢
     clear hux
     have B4:Below w3.heap.size w3 (w3.alloc (.cells #[] tI)):=(Below.refl _ _).alloc (Nat.le_refl _) _
     have R4:SR B g xs (z0g A (.slice (some ⟨w3.heap.size,0,none⟩) 0 0)) (w3.alloc (.cells #[] tI)) (some s.next):=(SR.avoid (A':=z0g A (.slice (some ⟨w3.heap.size,0,none⟩) 0 0)) (t:=(some s.next)) HS.out (fun k hk=>hk.imp_right (fun e=>by injection e with e;show w3.heap.size≤k;exact Nat.le_of_eq e))).below B4
     have o4:(w3.alloc (.cells #[] tI)).ownsRow w.heap.size tI 1 (.slice (some ⟨w3.heap.size,0,none⟩) 0 0) 0 (z02 ([]:List Int)):=World.ownsRow_lit w3 #[] 0 HF.out.size (by decide) rfl
     have FF4:=HF.out.trans (Fr.ofB (B:=B) B4 (SR.base (t:=(some s.next)) HS.out))
     clear HF HS
     have HF:=z00 FF4
     have HS:=z00 R4
     have HP:=z00 o4
     clear FF4 R4 o4 B4
     go_wp2_with fail
     refine(z14 (o:=o) 2 ux ([]:List Int) (some ⟨w3.heap.size,0,none⟩) 0 (SR.avoid (t:=some s.next) HS.out (fun k hk=>.inl (.inl hk))) (z01 HP.out hbase) (fun b hb hb2=>by have h7:=(HP.out.lt b hb).1;have h8:=hA b hb2;omega) HX.out).mono ?_
     rintro e we ⟨⟨k9,rfl,hk9⟩,S9,F9⟩
     have HH:=z00 (show z0j B g xs A w VNs _ (.returned (.int .i64 k9)) we from⟨⟨k9,rfl,hk9⟩,S9,HF.out.trans F9⟩)
     clear S9 F9 HF HS
     go_wp2
     go_ret
     exact HH.out
    ·have qK:=z3n (t:=some s) HS.out 2 (.inr (.inl rfl))
     rw[show kdP xs (some s) 2=false from z9i hc] at qK
     have hx:=HX.out
     rw[if_neg hc] at hx
     clear HX
     have HX:=z00 hx
     clear hx
     refine qK.mono ?_
     clear qK
     rintro e w2 ⟨rfl,m2,hm2⟩
     have B2:Below w1.heap.size w1 w2:=by rw[hm2];exact z0a _ _
     clear hm2
     have S2:=SR.below (t:=(some s)) HS.out B2
     have FF2:=HF.out.trans (Fr.ofB (B:=B) B2 (SR.base (t:=(some s)) HS.out))
     clear HF HS
     have HF:=z00 FF2
     have HS:=z00 S2
     clear FF2 S2 B2
     clear hc
     go_wp2_with fail
     by_cases hc:knd xs s.p=3
     ·have qK:=z3n (t:=some s) HS.out 3 (.inr (.inr (.inl rfl)))
      rw[show kdP xs (some s) 3=true from z3t hc] at qK
      have hx:=HX.out
      rw[if_pos hc] at hx
      clear HX
      have HX:=z00 hx
      clear hx
      refine qK.mono ?_
      clear qK
      rintro e w3 ⟨rfl,m3,hm3⟩
      have B3:Below w2.heap.size w2 w3:=by rw[hm3];exact z0a _ _
      clear hm3
      have S3:=SR.below (t:=(some s)) HS.out B3
      have FF3:=HF.out.trans (Fr.ofB (B:=B) B3 (SR.base (t:=(some s)) HS.out))
      clear HF HS
      have HF:=z00 FF3
      have HS:=z00 S3
      clear FF3 S3 B3
      have HC:=z00 hc
      clear hc
      go_wp2_with fail
      have qT:=zcl (o:=some (txt xs s.p,s.next)) (t:=some s) 3 (.inr (.inr (.inl rfl))) HS.out hX (z59 (z3t HC.out))
      have hx:z0z 3 (txt xs s.p) [] s.next=some o:=HX.out
      clear HX
      have HX:=z00 hx
      clear hx
      refine qT.mono ?_
      clear qT
      rintro e w4 ⟨⟨tx,rfl,htx⟩,S4,F4⟩
      obtain rfl:tx=txt xs s.p:=htx _ rfl
      clear htx
      have FF4:=HF.out.trans F4
      clear HF HS
      have HF:=z00 FF4
      have HS:=z00 S4
      clear FF4 S4 F4
      obtain⟨ux,hux⟩:∃ ux,ux=(txt xs s.p):=⟨_,rfl⟩
      rw[← hux] at HX ⊢
      clear hux
      have B5:Below w4.heap.size w4 (w4.alloc (.cells #[] tI)):=(Below.refl _ _).alloc (Nat.le_refl _) _
      have R5:SR B g xs (z0g A (.slice (some ⟨w4.heap.size,0,none⟩) 0 0)) (w4.alloc (.cells #[] tI)) (some s.next):=(SR.avoid (A':=z0g A (.slice (some ⟨w4.heap.size,0,none⟩) 0 0)) (t:=(some s.next)) HS.out (fun k hk=>hk.imp_right (fun e=>by injection e with e;show w4.heap.size≤k;exact Nat.le_of_eq e))).below B5
      have o5:(w4.alloc (.cells #[] tI)).ownsRow w.heap.size tI 1 (.slice (some ⟨w4.heap.size,0,none⟩) 0 0) 0 (z02 ([]:List Int)):=World.ownsRow_lit w4 #[] 0 HF.out.size (by decide) rfl
      have FF5:=HF.out.trans (Fr.ofB (B:=B) B5 (SR.base (t:=(some s.next)) HS.out))
      clear HF HS
      have HF:=z00 FF5
      have HS:=z00 R5
      have HP:=z00 o5
      clear FF5 R5 o5 B5
      go_wp2_with fail
      refine(z14 (o:=o) 3 ux ([]:List Int) (some ⟨w4.heap.size,0,none⟩) 0 (SR.avoid (t:=some s.next) HS.out (fun k hk=>.inl (.inl hk))) (z01 HP.out hbase) (fun b hb hb2=>by have h7:=(HP.out.lt b hb).1;have h8:=hA b hb2;omega) HX.out).mono ?_
      rintro e we ⟨⟨k9,rfl,hk9⟩,S9,F9⟩
      have HH:=z00 (show z0j B g xs A w VNs _ (.returned (.int .i64 k9)) we from⟨⟨k9,rfl,hk9⟩,S9,HF.out.trans F9⟩)
      clear S9 F9 HF HS
      go_wp2
      go_ret
      exact HH.out
     ·have qK:=z3n (t:=some s) HS.out 3 (.inr (.inr (.inl rfl)))
      rw[show kdP xs (some s) 3=false from z9i hc] at qK
      have hx:=HX.out
      rw[if_neg hc] at hx
      clear HX
      have HX:=z00 hx
      clear hx
      refine qK.mono ?_
      clear qK
      rintro e w3 ⟨rfl,m3,hm3⟩
      have B3:Below w2.heap.size w2 w3:=by rw[hm3];exact z0a _ _
      clear hm3
      have S3:=SR.below (t:=(some s)) HS.out B3
      have FF3:=HF.out.trans (Fr.ofB (B:=B) B3 (SR.base (t:=(some s)) HS.out))
      clear HF HS
      have HF:=z00 FF3
      have HS:=z00 S3
      clear FF3 S3 B3
      clear hc
      go_wp2_with fail
      by_cases ht:txt xs s.p=(⟨#[91]⟩:ByteArray)
      ·have hx:=HX.out
       rw[if_pos ht] at hx
       clear HX
       have HX:=z00 hx
       clear hx
       refine(z3p (s:=s) HS.out hX (by rw[z0q (hM (⟨#[91]⟩:ByteArray) (by decide))];exact decide_eq_true ht)).mono ?_
       clear ht
       rintro e w4 ⟨rfl,S4,F4⟩
       have FF4:=HF.out.trans F4
       clear HF HS
       have HF:=z00 FF4
       have HS:=z00 S4
       clear FF4 S4 F4
       have B5:Below w4.heap.size w4 (w4.alloc (.cells #[] tI)):=(Below.refl _ _).alloc (Nat.le_refl _) _
       have R5:SR B g xs (z0g A (.slice (some ⟨w4.heap.size,0,none⟩) 0 0)) (w4.alloc (.cells #[] tI)) (some s.next):=(SR.avoid (A':=z0g A (.slice (some ⟨w4.heap.size,0,none⟩) 0 0)) (t:=(some s.next)) HS.out (fun k hk=>hk.imp_right (fun e=>by injection e with e;show w4.heap.size≤k;exact Nat.le_of_eq e))).below B5
       have o5:(w4.alloc (.cells #[] tI)).ownsRow w.heap.size tI 1 (.slice (some ⟨w4.heap.size,0,none⟩) 0 0) 0 (z02 ([]:List Int)):=World.ownsRow_lit w4 #[] 0 HF.out.size (by decide) rfl
       have FF5:=HF.out.trans (Fr.ofB (B:=B) B5 (SR.base (t:=(some s.next)) HS.out))
       clear HF HS
       have HF:=z00 FF5
       have HS:=z00 R5
       have HP:=z00 o5
       clear FF5 R5 o5 B5
       go_wp2_with fail
       rcases z09 HX.out with⟨h6,rfl⟩|⟨l6,s6,h6,hr6⟩
       ·refine(z4h (w0:=w) (ks0:=([]:List Int)) (o:=none) (t:=some s.next) hX (hM (⟨#[93]⟩:ByteArray) (by decide)) (hM (⟨#[44]⟩:ByteArray) (by decide)) HF.out hbase hA HP.out (by show (([]:List Int):List Int).length≤900;decide) HS.out hV h6).mono ?_
        rintro e w6 ⟨a6,c6,ks6,rfl,o6,S6,F6,hl6,-⟩
        clear HX h6
        clear HF HS HP
        have HF:=z00 F6
        have HS:=z00 S6
        have HP:=z00 o6
        clear F6 S6 o6
        go_wp2_with fail
        refine(z14 (o:=none) 4 ByteArray.empty ks6 (a6) c6 (SR.avoid (t:=none) HS.out (fun k hk=>.inl (.inl hk))) (z01 HP.out hbase) (fun b hb hb2=>by have h7:=(HP.out.lt b hb).1;have h8:=hA b hb2;omega) rfl).mono ?_
        rintro e we ⟨⟨k9,rfl,hk9⟩,S9,F9⟩
        have HH:=z00 (show z0j B g xs A w VNs _ (.returned (.int .i64 k9)) we from⟨⟨k9,rfl,hk9⟩,S9,HF.out.trans F9⟩)
        clear S9 F9 HF HS
        go_wp2
        go_ret
        exact HH.out
       ·refine(z4h (w0:=w) (ks0:=([]:List Int)) (o:=some (l6,s6)) (t:=some s.next) hX (hM (⟨#[93]⟩:ByteArray) (by decide)) (hM (⟨#[44]⟩:ByteArray) (by decide)) HF.out hbase hA HP.out (by show (([]:List Int):List Int).length≤900;decide) HS.out hV h6).mono ?_
        rintro e w6 ⟨a6,c6,ks6,rfl,o6,S6,F6,hl6,hk6⟩
        obtain rfl:ks6=l6:=hk6 l6 s6 rfl
        clear HX
        have HX:=z00 hr6
        clear h6 hr6 hk6
        clear HF HS HP
        have HF:=z00 F6
        have HS:=z00 S6
        have HP:=z00 o6
        clear F6 S6 o6
        go_wp2_with fail
        refine(z14 (o:=o) 4 ByteArray.empty ks6 (a6) c6 (SR.avoid (t:=some s6) HS.out (fun k hk=>.inl (.inl hk))) (z01 HP.out hbase) (fun b hb hb2=>by have h7:=(HP.out.lt b hb).1;have h8:=hA b hb2;omega) HX.out).mono ?_
        rintro e we ⟨⟨k9,rfl,hk9⟩,S9,F9⟩
        have HH:=z00 (show z0j B g xs A w VNs _ (.returned (.int .i64 k9)) we from⟨⟨k9,rfl,hk9⟩,S9,HF.out.trans F9⟩)
        clear S9 F9 HF HS
        go_wp2
        go_ret
        exact HH.out
      ·have hx:=HX.out
       rw[if_neg ht] at hx
       clear HX
       have HX:=z00 hx
       clear hx
       refine(z2c (t:=some s) HS.out (by rw[z0q (hM (⟨#[91]⟩:ByteArray) (by decide))];exact decide_eq_false ht)).mono ?_
       rintro e w4 ⟨rfl,B4⟩
       have S4:=SR.below (t:=some s) HS.out B4
       have FF4:=HF.out.trans (Fr.ofB (B:=B) B4 (SR.base (t:=some s) HS.out))
       clear HF HS
       have HF:=z00 FF4
       have HS:=z00 S4
       clear FF4 S4 B4
       clear ht
       go_wp2_with fail
       have qA:=zsn (s:=s) HS.out hX hM
       rcases zig (xs:=xs) (hM (⟨#[41]⟩:ByteArray) (by decide)) s.p with hcase|⟨hcase,hno,htp,j,hpath⟩
       ·rw[hcase] at qA
        clear hcase
        by_cases hc:zh5 xs s.p=true
        ·have hx:=HX.out
         rw[if_pos hc] at hx
         clear HX
         have HX:=z00 hx
         clear hx
         rw[hc] at qA
         refine qA.mono ?_
         clear qA hc
         rintro e w5 ⟨rfl,B5⟩
         have S5:=SR.below (t:=(some s)) HS.out B5
         have FF5:=HF.out.trans (Fr.ofB (B:=B) B5 (SR.base (t:=(some s)) HS.out))
         clear HF HS
         have HF:=z00 FF5
         have HS:=z00 S5
         clear FF5 S5 B5
         have hx:bnd (z4p xs s) (fun ks s1=>bnd (z0p xs (⟨#[61,62]⟩:ByteArray) s1) fun _ s2=>bnd (vpF xs n0 false s2) fun k s3=>z0z 9 ByteArray.empty (ks++[(k:Int)]) s3)=some o:=HX.out
         clear HX
         have HX:=z00 hx
         clear hx
         go_wp2_with fail
         rcases z09 HX.out with⟨h6,rfl⟩|⟨l6,s6,h6,hr6⟩
         ·refine(z4t (o:=none) (t:=some s) HS.out hX hM (fun b hb=>Nat.lt_of_lt_of_le (hA b hb) HF.out.size) h6).mono ?_
          rintro e w6 ⟨a6,c6,ks6,rfl,o6,S6,F6,hl6,-⟩
          clear HX h6
          have o6:=z01 o6 HF.out.size
          have F6:=HF.out.trans F6
          clear HF HS
          have HF:=z00 F6
          have HS:=z00 S6
          have HP:=z00 o6
          clear F6 S6 o6
          go_wp2_with fail
          refine(z0i (o:=none) HS.out hX (hM (⟨#[61,62]⟩:ByteArray) (by decide)) rfl).mono ?_
          rintro e w7 ⟨rfl,S7,F7⟩
          have o7:=F7.ints HP.out
          have FF7:=HF.out.trans F7
          clear HF HS HP
          have HF:=z00 FF7
          have HS:=z00 S7
          have HP:=z00 o7
          clear FF7 S7 F7 o7
          go_wp2_with fail
          refine(hP _ _ _ none (z0g.lt hA HF.out.size HP.out) HS.out rfl).mono ?_
          rintro e w8 ⟨⟨kpx,rfl,-⟩,S8,F8⟩
          have o8:=F8.ints HP.out
          have FF8:=HF.out.trans F8
          clear HF HS HP
          have HF:=z00 FF8
          have HS:=z00 S8
          have HP:=z00 o8
          clear FF8 S8 F8 o8
          have hs9:=HF.out.size
          go_wp2_with (at_builtin;refine z04 rfl _ _ 29 rfl w.heap.size 3 i0 _ 1 8 Tryz.underlying29 hi hz0 hz1 hz2 rfl (by decide) (.slice a6 ks6.length c6) (ks6.length) (z02 ks6) rfl (HP.out.alloc _) ⟨w8.heap.size,0,none⟩ 1 1 [.int .i64 kpx] rfl rfl (cell_one_new _ _ _) (by simp[Value.oneCell']) (by unfold maxLen;omega) (by omega) (by simp;omega) ?_;intro v' w9 hown' hgrow5 hpl5)
          have B9:Below w8.heap.size w8 (w8.alloc (.cells #[.int .i64 kpx] tI)):=(Below.refl _ _).alloc (Nat.le_refl _) _
          have FF9:=(HF.out.trans (Fr.ofB (B:=B) B9 (SR.base (t:=none) HS.out))).growI hbase hgrow5 (fun b hb=>(HP.out.lt b hb).1)
          have R9:=(SR.below (t:=none) HS.out B9).growI (A':=z0g A v') (HP.out.alloc _) hgrow5 (fun b hb=>.inr hb) (fun b hb=>by
           rcases hb with hb|hb
           ·exact .inl (.inl hb)
           ·rcases hpl5 b hb with h6|h6
            ·exact .inl (.inr h6)
            ·exact .inr h6)
          have o9:=z0c (ks:=ks6) (k:=kpx) hown' rfl
          clear hown' hgrow5 hpl5 HF HS HP hs9 B9
          obtain⟨ao9,cc9,rfl⟩:=z06 o9
          have HF:=z00 FF9
          have HS:=z00 R9
          have HP:=z00 o9
          clear FF9 R9 o9
          refine(z14 (o:=none) 9 ByteArray.empty (ks6++[kpx]) (ao9) cc9 (SR.avoid (t:=none) HS.out (fun k hk=>.inl (.inl hk))) (z01 HP.out hbase) (fun b hb hb2=>by have h7:=(HP.out.lt b hb).1;have h8:=hA b hb2;omega) rfl).mono ?_
          rintro e we ⟨⟨k9,rfl,hk9⟩,S9,F9⟩
          have HH:=z00 (show z0j B g xs A w VNs _ (.returned (.int .i64 k9)) we from⟨⟨k9,rfl,hk9⟩,S9,HF.out.trans F9⟩)
          clear S9 F9 HF HS
          go_wp2
          go_ret
          exact HH.out
         ·refine(z4t (o:=some (l6,s6)) (t:=some s) HS.out hX hM (fun b hb=>Nat.lt_of_lt_of_le (hA b hb) HF.out.size) h6).mono ?_
          rintro e w6 ⟨a6,c6,ks6,rfl,o6,S6,F6,hl6,hk6⟩
          obtain rfl:ks6=l6:=hk6 l6 s6 rfl
          clear HX
          have HX:=z00 hr6
          clear h6 hr6 hk6
          have o6:=z01 o6 HF.out.size
          have F6:=HF.out.trans F6
          clear HF HS
          have HF:=z00 F6
          have HS:=z00 S6
          have HP:=z00 o6
          clear F6 S6 o6
          go_wp2_with fail
          rcases z09 HX.out with⟨h7,rfl⟩|⟨u,s7,h7,hr7⟩
          ·refine(z0i (o:=none) HS.out hX (hM (⟨#[61,62]⟩:ByteArray) (by decide)) h7).mono ?_
           rintro e w7 ⟨rfl,S7,F7⟩
           clear HX h7
           have o7:=F7.ints HP.out
           have FF7:=HF.out.trans F7
           clear HF HS HP
           have HF:=z00 FF7
           have HS:=z00 S7
           have HP:=z00 o7
           clear FF7 S7 F7 o7
           go_wp2_with fail
           refine(hP _ _ _ none (z0g.lt hA HF.out.size HP.out) HS.out rfl).mono ?_
           rintro e w8 ⟨⟨kpx,rfl,-⟩,S8,F8⟩
           have o8:=F8.ints HP.out
           have FF8:=HF.out.trans F8
           clear HF HS HP
           have HF:=z00 FF8
           have HS:=z00 S8
           have HP:=z00 o8
           clear FF8 S8 F8 o8
           have hs9:=HF.out.size
           go_wp2_with (at_builtin;refine z04 rfl _ _ 29 rfl w.heap.size 3 i0 _ 1 8 Tryz.underlying29 hi hz0 hz1 hz2 rfl (by decide) (.slice a6 ks6.length c6) (ks6.length) (z02 ks6) rfl (HP.out.alloc _) ⟨w8.heap.size,0,none⟩ 1 1 [.int .i64 kpx] rfl rfl (cell_one_new _ _ _) (by simp[Value.oneCell']) (by unfold maxLen;omega) (by omega) (by simp;omega) ?_;intro v' w9 hown' hgrow5 hpl5)
           have B9:Below w8.heap.size w8 (w8.alloc (.cells #[.int .i64 kpx] tI)):=(Below.refl _ _).alloc (Nat.le_refl _) _
           have FF9:=(HF.out.trans (Fr.ofB (B:=B) B9 (SR.base (t:=none) HS.out))).growI hbase hgrow5 (fun b hb=>(HP.out.lt b hb).1)
           have R9:=(SR.below (t:=none) HS.out B9).growI (A':=z0g A v') (HP.out.alloc _) hgrow5 (fun b hb=>.inr hb) (fun b hb=>by
            rcases hb with hb|hb
            ·exact .inl (.inl hb)
            ·rcases hpl5 b hb with h6|h6
             ·exact .inl (.inr h6)
             ·exact .inr h6)
           have o9:=z0c (ks:=ks6) (k:=kpx) hown' rfl
           clear hown' hgrow5 hpl5 HF HS HP hs9 B9
           obtain⟨ao9,cc9,rfl⟩:=z06 o9
           have HF:=z00 FF9
           have HS:=z00 R9
           have HP:=z00 o9
           clear FF9 R9 o9
           refine(z14 (o:=none) 9 ByteArray.empty (ks6++[kpx]) (ao9) cc9 (SR.avoid (t:=none) HS.out (fun k hk=>.inl (.inl hk))) (z01 HP.out hbase) (fun b hb hb2=>by have h7:=(HP.out.lt b hb).1;have h8:=hA b hb2;omega) rfl).mono ?_
           rintro e we ⟨⟨k9,rfl,hk9⟩,S9,F9⟩
           have HH:=z00 (show z0j B g xs A w VNs _ (.returned (.int .i64 k9)) we from⟨⟨k9,rfl,hk9⟩,S9,HF.out.trans F9⟩)
           clear S9 F9 HF HS
           go_wp2
           go_ret
           exact HH.out
          ·refine(z0i (o:=(some (u,s7))) HS.out hX (hM (⟨#[61,62]⟩:ByteArray) (by decide)) h7).mono ?_
           rintro e w7 ⟨rfl,S7,F7⟩
           clear HX
           have HX:=z00 hr7
           clear h7 hr7
           have o7:=F7.ints HP.out
           have FF7:=HF.out.trans F7
           clear HF HS HP
           have HF:=z00 FF7
           have HS:=z00 S7
           have HP:=z00 o7
           clear FF7 S7 F7 o7
           go_wp2_with fail
           rcases z09 HX.out with⟨h8,rfl⟩|⟨kp,s8,h8,hr8⟩
           ·refine(hP _ _ _ none (z0g.lt hA HF.out.size HP.out) HS.out h8).mono ?_
            rintro e w8 ⟨⟨kpx,rfl,-⟩,S8,F8⟩
            clear HX h8
            have o8:=F8.ints HP.out
            have FF8:=HF.out.trans F8
            clear HF HS HP
            have HF:=z00 FF8
            have HS:=z00 S8
            have HP:=z00 o8
            clear FF8 S8 F8 o8
            have hs9:=HF.out.size
            go_wp2_with (at_builtin;refine z04 rfl _ _ 29 rfl w.heap.size 3 i0 _ 1 8 Tryz.underlying29 hi hz0 hz1 hz2 rfl (by decide) (.slice a6 ks6.length c6) (ks6.length) (z02 ks6) rfl (HP.out.alloc _) ⟨w8.heap.size,0,none⟩ 1 1 [.int .i64 kpx] rfl rfl (cell_one_new _ _ _) (by simp[Value.oneCell']) (by unfold maxLen;omega) (by omega) (by simp;omega) ?_;intro v' w9 hown' hgrow5 hpl5)
            have B9:Below w8.heap.size w8 (w8.alloc (.cells #[.int .i64 kpx] tI)):=(Below.refl _ _).alloc (Nat.le_refl _) _
            have FF9:=(HF.out.trans (Fr.ofB (B:=B) B9 (SR.base (t:=none) HS.out))).growI hbase hgrow5 (fun b hb=>(HP.out.lt b hb).1)
            have R9:=(SR.below (t:=none) HS.out B9).growI (A':=z0g A v') (HP.out.alloc _) hgrow5 (fun b hb=>.inr hb) (fun b hb=>by
             rcases hb with hb|hb
             ·exact .inl (.inl hb)
             ·rcases hpl5 b hb with h6|h6
              ·exact .inl (.inr h6)
              ·exact .inr h6)
            have o9:=z0c (ks:=ks6) (k:=kpx) hown' rfl
            clear hown' hgrow5 hpl5 HF HS HP hs9 B9
            obtain⟨ao9,cc9,rfl⟩:=z06 o9
            have HF:=z00 FF9
            have HS:=z00 R9
            have HP:=z00 o9
            clear FF9 R9 o9
            refine(z14 (o:=none) 9 ByteArray.empty (ks6++[kpx]) (ao9) cc9 (SR.avoid (t:=none) HS.out (fun k hk=>.inl (.inl hk))) (z01 HP.out hbase) (fun b hb hb2=>by have h7:=(HP.out.lt b hb).1;have h8:=hA b hb2;omega) rfl).mono ?_
            rintro e we ⟨⟨k9,rfl,hk9⟩,S9,F9⟩
            have HH:=z00 (show z0j B g xs A w VNs _ (.returned (.int .i64 k9)) we from⟨⟨k9,rfl,hk9⟩,S9,HF.out.trans F9⟩)
            clear S9 F9 HF HS
            go_wp2
            go_ret
            exact HH.out
           ·refine(hP _ _ _ (some (kp,s8)) (z0g.lt hA HF.out.size HP.out) HS.out h8).mono ?_
            rintro e w8 ⟨⟨kpx,rfl,hkpx⟩,S8,F8⟩
            obtain rfl:kpx=((kp:Nat):Int):=hkpx kp rfl
            clear HX
            have HX:=z00 hr8
            clear h8 hr8 hkpx
            have o8:=F8.ints HP.out
            have FF8:=HF.out.trans F8
            clear HF HS HP
            have HF:=z00 FF8
            have HS:=z00 S8
            have HP:=z00 o8
            clear FF8 S8 F8 o8
            have hs9:=HF.out.size
            go_wp2_with (at_builtin;refine z04 rfl _ _ 29 rfl w.heap.size 3 i0 _ 1 8 Tryz.underlying29 hi hz0 hz1 hz2 rfl (by decide) (.slice a6 ks6.length c6) (ks6.length) (z02 ks6) rfl (HP.out.alloc _) ⟨w8.heap.size,0,none⟩ 1 1 [.int .i64 ((kp:Nat):Int)] rfl rfl (cell_one_new _ _ _) (by simp[Value.oneCell']) (by unfold maxLen;omega) (by omega) (by simp;omega) ?_;intro v' w9 hown' hgrow5 hpl5)
            have B9:Below w8.heap.size w8 (w8.alloc (.cells #[.int .i64 ((kp:Nat):Int)] tI)):=(Below.refl _ _).alloc (Nat.le_refl _) _
            have FF9:=(HF.out.trans (Fr.ofB (B:=B) B9 (SR.base (t:=(some s8)) HS.out))).growI hbase hgrow5 (fun b hb=>(HP.out.lt b hb).1)
            have R9:=(SR.below (t:=(some s8)) HS.out B9).growI (A':=z0g A v') (HP.out.alloc _) hgrow5 (fun b hb=>.inr hb) (fun b hb=>by
             rcases hb with hb|hb
             ·exact .inl (.inl hb)
             ·rcases hpl5 b hb with h6|h6
              ·exact .inl (.inr h6)
              ·exact .inr h6)
            have o9:=z0c (ks:=ks6) (k:=((kp:Nat):Int)) hown' rfl
            clear hown' hgrow5 hpl5 HF HS HP hs9 B9
            obtain⟨ao9,cc9,rfl⟩:=z06 o9
            have HF:=z00 FF9
            have HS:=z00 R9
            have HP:=z00 o9
            clear FF9 R9 o9
            refine(z14 (o:=o) 9 ByteArray.empty (ks6++[((kp:Nat):Int)]) (ao9) cc9 (SR.avoid (t:=some s8) HS.out (fun k hk=>.inl (.inl hk))) (z01 HP.out hbase) (fun b hb hb2=>by have h7:=(HP.out.lt b hb).1;have h8:=hA b hb2;omega) HX.out).mono ?_
            rintro e we ⟨⟨k9,rfl,hk9⟩,S9,F9⟩
            have HH:=z00 (show z0j B g xs A w VNs _ (.returned (.int .i64 k9)) we from⟨⟨k9,rfl,hk9⟩,S9,HF.out.trans F9⟩)
            clear S9 F9 HF HS
            go_wp2
            go_ret
            exact HH.out
        ·have hx:=HX.out
         rw[if_neg hc] at hx
         clear HX
         have HX:=z00 hx
         clear hx
         rw[show zh5 xs s.p=false by simpa using hc] at qA
         refine qA.mono ?_
         clear qA hc
         rintro e w5 ⟨rfl,B5⟩
         have S5:=SR.below (t:=(some s)) HS.out B5
         have FF5:=HF.out.trans (Fr.ofB (B:=B) B5 (SR.base (t:=(some s)) HS.out))
         clear HF HS
         have HF:=z00 FF5
         have HS:=z00 S5
         clear FF5 S5 B5
         go_wp2_with fail
         by_cases ht:txt xs s.p=(⟨#[40]⟩:ByteArray)
         ·have hx:=HX.out
          rw[if_pos ht] at hx
          clear HX
          have HX:=z00 hx
          clear hx
          refine(z0i (o:=some ((),s.next)) (t:=some s) HS.out hX (hM (⟨#[40]⟩:ByteArray) (by decide)) (show z0p xs (⟨#[40]⟩:ByteArray) s=_ by unfold z0p;rw[if_pos ht])).mono ?_
          clear ht
          rintro e w6 ⟨rfl,S6,F6⟩
          have FF6:=HF.out.trans F6
          clear HF HS
          have HF:=z00 FF6
          have HS:=z00 S6
          clear FF6 S6 F6
          obtain⟨sa,sc,na,nc,-,-,c2,-,-,-⟩:=(show SR B g xs A w6 (some s.next) from HS.out).1.cells
          go_wp2_with fail
          clear c2
          rcases z09 HX.out with⟨h7,rfl⟩|⟨kv,s7,h7,hr7⟩
          ·refine(hV _ _ _ none (fun b hb=>Nat.lt_of_lt_of_le (hA b hb) HF.out.size) HS.out h7).mono ?_
           rintro e w7 ⟨⟨kvx,rfl,-⟩,S7,F7⟩
           clear HX h7
           have FF7:=HF.out.trans F7
           clear HF HS
           have HF:=z00 FF7
           have HS:=z00 S7
           clear FF7 S7 F7
           go_wp2_with fail
           refine(z0i (o:=none) HS.out hX (hM (⟨#[41]⟩:ByteArray) (by decide)) rfl).mono ?_
           rintro e w8 ⟨rfl,S8,F8⟩
           have FF8:=HF.out.trans F8
           clear HF HS
           have HF:=z00 FF8
           have HS:=z00 S8
           clear FF8 S8 F8
           have B9:Below w8.heap.size w8 (w8.alloc (.cells #[.int .i64 kvx] tI)):=(Below.refl _ _).alloc (Nat.le_refl _) _
           have R9:SR B g xs (z0g A (.slice (some ⟨w8.heap.size,0,none⟩) 1 1)) (w8.alloc (.cells #[.int .i64 kvx] tI)) none:=(SR.avoid (A':=z0g A (.slice (some ⟨w8.heap.size,0,none⟩) 1 1)) (t:=none) HS.out (fun k hk=>hk.imp_right (fun e=>by injection e with e;show w8.heap.size≤k;exact Nat.le_of_eq e))).below B9
           have o9:(w8.alloc (.cells #[.int .i64 kvx] tI)).ownsRow w.heap.size tI 1 (.slice (some ⟨w8.heap.size,0,none⟩) 1 1) 1 (z02 [kvx]):=World.ownsRow_lit w8 #[.int .i64 kvx] 1 HF.out.size (by decide) rfl
           have FF9:=HF.out.trans (Fr.ofB (B:=B) B9 (SR.base (t:=none) HS.out))
           clear HF HS
           have HF:=z00 FF9
           have HS:=z00 R9
           have HP:=z00 o9
           clear FF9 R9 o9 B9
           go_wp2_with fail
           refine(z14 (o:=none) 11 ByteArray.empty [kvx] (some ⟨w8.heap.size,0,none⟩) 1 (SR.avoid (t:=none) HS.out (fun k hk=>.inl (.inl hk))) (z01 HP.out hbase) (fun b hb hb2=>by have h7:=(HP.out.lt b hb).1;have h8:=hA b hb2;omega) rfl).mono ?_
           rintro e we ⟨⟨k9,rfl,hk9⟩,S9,F9⟩
           have HH:=z00 (show z0j B g xs A w VNs _ (.returned (.int .i64 k9)) we from⟨⟨k9,rfl,hk9⟩,S9,HF.out.trans F9⟩)
           clear S9 F9 HF HS
           go_wp2
           go_ret
           exact HH.out
          ·refine(hV _ _ _ (some (kv,s7)) (fun b hb=>Nat.lt_of_lt_of_le (hA b hb) HF.out.size) HS.out h7).mono ?_
           rintro e w7 ⟨⟨kvx,rfl,hkvx⟩,S7,F7⟩
           obtain rfl:kvx=((kv:Nat):Int):=hkvx kv rfl
           clear HX
           have HX:=z00 hr7
           clear h7 hr7 hkvx
           have FF7:=HF.out.trans F7
           clear HF HS
           have HF:=z00 FF7
           have HS:=z00 S7
           clear FF7 S7 F7
           go_wp2_with fail
           rcases z09 HX.out with⟨h8,rfl⟩|⟨u2,s8,h8,hr8⟩
           ·refine(z0i (o:=none) HS.out hX (hM (⟨#[41]⟩:ByteArray) (by decide)) h8).mono ?_
            rintro e w8 ⟨rfl,S8,F8⟩
            clear HX h8
            have FF8:=HF.out.trans F8
            clear HF HS
            have HF:=z00 FF8
            have HS:=z00 S8
            clear FF8 S8 F8
            have B9:Below w8.heap.size w8 (w8.alloc (.cells #[.int .i64 ((kv:Nat):Int)] tI)):=(Below.refl _ _).alloc (Nat.le_refl _) _
            have R9:SR B g xs (z0g A (.slice (some ⟨w8.heap.size,0,none⟩) 1 1)) (w8.alloc (.cells #[.int .i64 ((kv:Nat):Int)] tI)) none:=(SR.avoid (A':=z0g A (.slice (some ⟨w8.heap.size,0,none⟩) 1 1)) (t:=none) HS.out (fun k hk=>hk.imp_right (fun e=>by injection e with e;show w8.heap.size≤k;exact Nat.le_of_eq e))).below B9
            have o9:(w8.alloc (.cells #[.int .i64 ((kv:Nat):Int)] tI)).ownsRow w.heap.size tI 1 (.slice (some ⟨w8.heap.size,0,none⟩) 1 1) 1 (z02 [((kv:Nat):Int)]):=World.ownsRow_lit w8 #[.int .i64 ((kv:Nat):Int)] 1 HF.out.size (by decide) rfl
            have FF9:=HF.out.trans (Fr.ofB (B:=B) B9 (SR.base (t:=none) HS.out))
            clear HF HS
            have HF:=z00 FF9
            have HS:=z00 R9
            have HP:=z00 o9
            clear FF9 R9 o9 B9
            go_wp2_with fail
            refine(z14 (o:=none) 11 ByteArray.empty [((kv:Nat):Int)] (some ⟨w8.heap.size,0,none⟩) 1 (SR.avoid (t:=none) HS.out (fun k hk=>.inl (.inl hk))) (z01 HP.out hbase) (fun b hb hb2=>by have h7:=(HP.out.lt b hb).1;have h8:=hA b hb2;omega) rfl).mono ?_
            rintro e we ⟨⟨k9,rfl,hk9⟩,S9,F9⟩
            have HH:=z00 (show z0j B g xs A w VNs _ (.returned (.int .i64 k9)) we from⟨⟨k9,rfl,hk9⟩,S9,HF.out.trans F9⟩)
            clear S9 F9 HF HS
            go_wp2
            go_ret
            exact HH.out
           ·refine(z0i (o:=(some (u2,s8))) HS.out hX (hM (⟨#[41]⟩:ByteArray) (by decide)) h8).mono ?_
            rintro e w8 ⟨rfl,S8,F8⟩
            clear HX
            have HX:=z00 hr8
            clear h8 hr8
            have FF8:=HF.out.trans F8
            clear HF HS
            have HF:=z00 FF8
            have HS:=z00 S8
            clear FF8 S8 F8
            have B9:Below w8.heap.size w8 (w8.alloc (.cells #[.int .i64 ((kv:Nat):Int)] tI)):=(Below.refl _ _).alloc (Nat.le_refl _) _
            have R9:SR B g xs (z0g A (.slice (some ⟨w8.heap.size,0,none⟩) 1 1)) (w8.alloc (.cells #[.int .i64 ((kv:Nat):Int)] tI)) (some s8):=(SR.avoid (A':=z0g A (.slice (some ⟨w8.heap.size,0,none⟩) 1 1)) (t:=(some s8)) HS.out (fun k hk=>hk.imp_right (fun e=>by injection e with e;show w8.heap.size≤k;exact Nat.le_of_eq e))).below B9
            have o9:(w8.alloc (.cells #[.int .i64 ((kv:Nat):Int)] tI)).ownsRow w.heap.size tI 1 (.slice (some ⟨w8.heap.size,0,none⟩) 1 1) 1 (z02 [((kv:Nat):Int)]):=World.ownsRow_lit w8 #[.int .i64 ((kv:Nat):Int)] 1 HF.out.size (by decide) rfl
            have FF9:=HF.out.trans (Fr.ofB (B:=B) B9 (SR.base (t:=(some s8)) HS.out))
            clear HF HS
            have HF:=z00 FF9
            have HS:=z00 R9
            have HP:=z00 o9
            clear FF9 R9 o9 B9
            go_wp2_with fail
            refine(z14 (o:=o) 11 ByteArray.empty [((kv:Nat):Int)] (some ⟨w8.heap.size,0,none⟩) 1 (SR.avoid (t:=some s8) HS.out (fun k hk=>.inl (.inl hk))) (z01 HP.out hbase) (fun b hb hb2=>by have h7:=(HP.out.lt b hb).1;have h8:=hA b hb2;omega) HX.out).mono ?_
            rintro e we ⟨⟨k9,rfl,hk9⟩,S9,F9⟩
            have HH:=z00 (show z0j B g xs A w VNs _ (.returned (.int .i64 k9)) we from⟨⟨k9,rfl,hk9⟩,S9,HF.out.trans F9⟩)
            clear S9 F9 HF HS
            go_wp2
            go_ret
            exact HH.out
         ·have hx:=HX.out
          rw[if_neg ht] at hx
          clear HX
          have HX:=z00 hx
          clear hx
          obtain rfl:none=o:=by
           have:=HX.out
           injection this
          refine(z0i (o:=none) (t:=some s) HS.out hX (hM (⟨#[40]⟩:ByteArray) (by decide)) (show z0p xs (⟨#[40]⟩:ByteArray) s=_ by unfold z0p;rw[if_neg ht])).mono ?_
          clear ht HX
          rintro e w6 ⟨rfl,S6,F6⟩
          have FF6:=HF.out.trans F6
          clear HF HS
          have HF:=z00 FF6
          have HS:=z00 S6
          clear FF6 S6 F6
          obtain⟨s9,h9,hd9⟩:=(show SR B g xs A w6 none from HS.out)
          obtain⟨sa,sc,na,nc,-,-,c2,-,-,-⟩:=h9.cells
          clear h9 hd9
          go_wp2
          go_ret
          exact⟨⟨_,rfl,fun a ha=>by cases ha⟩,HS.out,HF.out⟩
       ·obtain rfl:o=none:=zh4 (hM (⟨#[91]⟩:ByteArray) (by decide)) (hM (⟨#[40]⟩:ByteArray) (by decide)) htp hno hpath HR0.out
        have hnm:z4p xs s=some none:=by
         cases hq:z4p xs s with
         | none=>exact absurd hq (zgp (xs:=xs) (s:=s)).told
         | some o9=>rw[zfn (hM (⟨#[41]⟩:ByteArray) (by decide)) hpath hq]
        rw[hcase] at qA
        clear HX HR0
        refine qA.mono ?_
        clear qA hcase
        rintro e w5 ⟨rfl,B5⟩
        have S5:=SR.below (t:=(some s)) HS.out B5
        have FF5:=HF.out.trans (Fr.ofB (B:=B) B5 (SR.base (t:=(some s)) HS.out))
        clear HF HS
        have HF:=z00 FF5
        have HS:=z00 S5
        clear FF5 S5 B5
        go_wp2_with fail
        refine(z4t (o:=none) (t:=some s) HS.out hX hM (fun b hb=>Nat.lt_of_lt_of_le (hA b hb) HF.out.size) hnm).mono ?_
        rintro e w6 ⟨a6,c6,ks6,rfl,o6,S6,F6,hl6,-⟩
        have o6:=z01 o6 HF.out.size
        have F6:=HF.out.trans F6
        clear HF HS hnm
        have HF:=z00 F6
        have HS:=z00 S6
        have HP:=z00 o6
        clear F6 S6 o6
        go_wp2_with fail
        refine(z0i (o:=none) HS.out hX (hM (⟨#[61,62]⟩:ByteArray) (by decide)) rfl).mono ?_
        rintro e w7 ⟨rfl,S7,F7⟩
        have o7:=F7.ints HP.out
        have FF7:=HF.out.trans F7
        clear HF HS HP
        have HF:=z00 FF7
        have HS:=z00 S7
        have HP:=z00 o7
        clear FF7 S7 F7 o7
        go_wp2_with fail
        refine(hP _ _ _ none (z0g.lt hA HF.out.size HP.out) HS.out rfl).mono ?_
        rintro e w8 ⟨⟨kpx,rfl,-⟩,S8,F8⟩
        have o8:=F8.ints HP.out
        have FF8:=HF.out.trans F8
        clear HF HS HP
        have HF:=z00 FF8
        have HS:=z00 S8
        have HP:=z00 o8
        clear FF8 S8 F8 o8
        have hs9:=HF.out.size
        go_wp2_with (at_builtin;refine z04 rfl _ _ 29 rfl w.heap.size 3 i0 _ 1 8 Tryz.underlying29 hi hz0 hz1 hz2 rfl (by decide) (.slice a6 ks6.length c6) (ks6.length) (z02 ks6) rfl (HP.out.alloc _) ⟨w8.heap.size,0,none⟩ 1 1 [.int .i64 kpx] rfl rfl (cell_one_new _ _ _) (by simp[Value.oneCell']) (by unfold maxLen;omega) (by omega) (by simp;omega) ?_;intro v' w9 hown' hgrow5 hpl5)
        have B9:Below w8.heap.size w8 (w8.alloc (.cells #[.int .i64 kpx] tI)):=(Below.refl _ _).alloc (Nat.le_refl _) _
        have FF9:=(HF.out.trans (Fr.ofB (B:=B) B9 (SR.base (t:=none) HS.out))).growI hbase hgrow5 (fun b hb=>(HP.out.lt b hb).1)
        have R9:=(SR.below (t:=none) HS.out B9).growI (A':=z0g A v') (HP.out.alloc _) hgrow5 (fun b hb=>.inr hb) (fun b hb=>by
         rcases hb with hb|hb
         ·exact .inl (.inl hb)
         ·rcases hpl5 b hb with h6|h6
          ·exact .inl (.inr h6)
          ·exact .inr h6)
        have o9:=z0c (ks:=ks6) (k:=kpx) hown' rfl
        clear hown' hgrow5 hpl5 HF HS HP hs9 B9
        obtain⟨ao9,cc9,rfl⟩:=z06 o9
        have HF:=z00 FF9
        have HS:=z00 R9
        have HP:=z00 o9
        clear FF9 R9 o9
        refine(z14 (o:=none) 9 ByteArray.empty (ks6++[kpx]) (ao9) cc9 (SR.avoid (t:=none) HS.out (fun k hk=>.inl (.inl hk))) (z01 HP.out hbase) (fun b hb hb2=>by have h7:=(HP.out.lt b hb).1;have h8:=hA b hb2;omega) rfl).mono ?_
        rintro e we ⟨⟨k9,rfl,hk9⟩,S9,F9⟩
        have HH:=z00 (show z0j B g xs A w VNs _ (.returned (.int .i64 k9)) we from⟨⟨k9,rfl,hk9⟩,S9,HF.out.trans F9⟩)
        clear S9 F9 HF HS
        go_wp2
        go_ret
        exact HH.out
end
end Go.Proofs.YtekebloinobjnaaGreatDoor
