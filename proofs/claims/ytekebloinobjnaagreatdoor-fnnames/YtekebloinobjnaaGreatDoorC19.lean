/- Texts of one proof, laid together: SpI6. -/
import Derived.Test.YtekebloinobjnaaGreatDoorC16
set_option maxHeartbeats 16000000
set_option maxRecDepth 100000
namespace Go.Proofs.YtekebloinobjnaaGreatDoor
open Go.RowKit
def ztc:List ByteArray:=[(⟨#[40]⟩:ByteArray),(⟨#[41]⟩:ByteArray),(⟨#[91]⟩:ByteArray),(⟨#[93]⟩:ByteArray),(⟨#[123]⟩:ByteArray),(⟨#[125]⟩:ByteArray),(⟨#[44]⟩:ByteArray),(⟨#[59]⟩:ByteArray),(⟨#[61]⟩:ByteArray),(⟨#[61,62]⟩:ByteArray),(⟨#[63]⟩:ByteArray),(⟨#[58]⟩:ByteArray),(⟨#[46]⟩:ByteArray),(⟨#[46,46]⟩:ByteArray),(⟨#[124,124]⟩:ByteArray),(⟨#[38,38]⟩:ByteArray),(⟨#[61,61]⟩:ByteArray),(⟨#[60]⟩:ByteArray),(⟨#[43]⟩:ByteArray),(⟨#[45]⟩:ByteArray),(⟨#[42]⟩:ByteArray)]
def z3w (xs:List Sg):Prop:=∀ u,ztc.contains u=true→zfw xs u
theorem zjm (xs:List Sg):z98 xs 1=z4j xs:=by
 funext s
 unfold z98 z4j
 have e:kdP xs (some s) 1=z4r xs s.p:=by
  show ((knd xs s.p==1)&&(!((1:Int)==1)||!kw (txt xs s.p)))=_
  rw[show ((1:Int)==1)=true from rfl]
  rfl
 rw[e]
section
variable {B g:Nat} {xs:List Sg} {A:Nat→Prop} {w:World} {t:Option Ps}
theorem z4f {o:Option (ByteArray×Ps)} (h:SR B g xs A w t) (hX:xs.length≤3000) (hr:z60 (z4j xs) t o):Calls Tryz.prog 120 #[.pointer (some ⟨g,0,none⟩),.int .i64 1] w (z0j B g xs A w VTs o):=zcl 1 (.inl rfl) h hX (by rw[zjm];exact hr)
theorem zm8 {o:Option (Nat×Ps)} (h:SR B g xs A w t) (hX:xs.length≤3000) (hM:z3w xs) (hA:∀ b,A b→b<w.heap.size) (hV:z1n B g xs 163 (zde xs)) (hr:z60 (zcg xs) t o):Calls Tryz.prog 190 #[.pointer (some ⟨g,0,none⟩)] w (z0j B g xs A w VNs o):=by
 obtain⟨i0,hi,hz0,hz1,hz2⟩:=info_parts z29
 have hbase:=h.base
 have HF:=z00 (Fr.refl B w)
 match t,h,hr with
 | none,h,hr =>
   obtain rfl:o=none:=hr
   have HS:=z00 h
   clear h hr
   go_enter Tryz.func190,Tryz.ntmps190
   go_wp2_with fail
   refine(z0i (o:=none) HS.out hX (hM (⟨#[40]⟩:ByteArray) (by decide)) rfl).mono ?_
   rintro e w1 ⟨rfl,S1,F1⟩
   have FF1:=HF.out.trans F1
   clear HF HS
   have HF:=z00 FF1
   have HS:=z00 S1
   clear FF1 S1 F1
   go_wp2_with fail
   refine(hV _ _ _ none (fun b hb=>Nat.lt_of_lt_of_le (hA b hb) HF.out.size) HS.out rfl).mono ?_
   rintro e w2 ⟨⟨vx,rfl,-⟩,S2,F2⟩
   have FF2:=HF.out.trans F2
   clear HF HS
   have HF:=z00 FF2
   have HS:=z00 S2
   clear FF2 S2 F2
   go_wp2_with fail
   refine(z0i (o:=none) HS.out hX (hM (⟨#[41]⟩:ByteArray) (by decide)) rfl).mono ?_
   rintro e w3 ⟨rfl,S3,F3⟩
   have FF3:=HF.out.trans F3
   clear HF HS
   have HF:=z00 FF3
   have HS:=z00 S3
   clear FF3 S3 F3
   go_wp2
   go_ret
   exact⟨⟨_,rfl,fun a ha=>by cases ha⟩,HS.out,HF.out⟩
 | some s,h,hr =>
   have HX:=z00 (show (zcg xs) s=some o from hr)
   have HS:=z00 h
   clear h hr
   go_enter Tryz.func190,Tryz.ntmps190
   go_wp2_with fail
   rcases z09 HX.out with⟨h1,rfl⟩|⟨u,s1,h1,hr1⟩
   ·refine(z0i (o:=none) HS.out hX (hM (⟨#[40]⟩:ByteArray) (by decide)) h1).mono ?_
    rintro e w1 ⟨rfl,S1,F1⟩
    clear HX h1
    have FF1:=HF.out.trans F1
    clear HF HS
    have HF:=z00 FF1
    have HS:=z00 S1
    clear FF1 S1 F1
    go_wp2_with fail
    refine(hV _ _ _ none (fun b hb=>Nat.lt_of_lt_of_le (hA b hb) HF.out.size) HS.out rfl).mono ?_
    rintro e w2 ⟨⟨vx,rfl,-⟩,S2,F2⟩
    have FF2:=HF.out.trans F2
    clear HF HS
    have HF:=z00 FF2
    have HS:=z00 S2
    clear FF2 S2 F2
    go_wp2_with fail
    refine(z0i (o:=none) HS.out hX (hM (⟨#[41]⟩:ByteArray) (by decide)) rfl).mono ?_
    rintro e w3 ⟨rfl,S3,F3⟩
    have FF3:=HF.out.trans F3
    clear HF HS
    have HF:=z00 FF3
    have HS:=z00 S3
    clear FF3 S3 F3
    go_wp2
    go_ret
    exact⟨⟨_,rfl,fun a ha=>by cases ha⟩,HS.out,HF.out⟩
   ·refine(z0i (o:=(some (u,s1))) HS.out hX (hM (⟨#[40]⟩:ByteArray) (by decide)) h1).mono ?_
    rintro e w1 ⟨rfl,S1,F1⟩
    clear HX
    have HX:=z00 hr1
    clear h1 hr1
    have FF1:=HF.out.trans F1
    clear HF HS
    have HF:=z00 FF1
    have HS:=z00 S1
    clear FF1 S1 F1
    go_wp2_with fail
    rcases z09 HX.out with⟨h2,rfl⟩|⟨v,s2,h2,hr2⟩
    ·refine(hV _ _ _ none (fun b hb=>Nat.lt_of_lt_of_le (hA b hb) HF.out.size) HS.out h2).mono ?_
     rintro e w2 ⟨⟨vx,rfl,-⟩,S2,F2⟩
     clear HX h2
     have FF2:=HF.out.trans F2
     clear HF HS
     have HF:=z00 FF2
     have HS:=z00 S2
     clear FF2 S2 F2
     go_wp2_with fail
     refine(z0i (o:=none) HS.out hX (hM (⟨#[41]⟩:ByteArray) (by decide)) rfl).mono ?_
     rintro e w3 ⟨rfl,S3,F3⟩
     have FF3:=HF.out.trans F3
     clear HF HS
     have HF:=z00 FF3
     have HS:=z00 S3
     clear FF3 S3 F3
     go_wp2
     go_ret
     exact⟨⟨_,rfl,fun a ha=>by cases ha⟩,HS.out,HF.out⟩
    ·refine(hV _ _ _ (some (v,s2)) (fun b hb=>Nat.lt_of_lt_of_le (hA b hb) HF.out.size) HS.out h2).mono ?_
     rintro e w2 ⟨⟨vx,rfl,hvx⟩,S2,F2⟩
     obtain rfl:vx=((v:Nat):Int):=hvx v rfl
     clear HX
     have HX:=z00 hr2
     clear h2 hr2 hvx
     have FF2:=HF.out.trans F2
     clear HF HS
     have HF:=z00 FF2
     have HS:=z00 S2
     clear FF2 S2 F2
     go_wp2_with fail
     rcases z09 HX.out with⟨h3,rfl⟩|⟨u2,s3,h3,hr3⟩
     ·refine(z0i (o:=none) HS.out hX (hM (⟨#[41]⟩:ByteArray) (by decide)) h3).mono ?_
      rintro e w3 ⟨rfl,S3,F3⟩
      clear HX h3
      have FF3:=HF.out.trans F3
      clear HF HS
      have HF:=z00 FF3
      have HS:=z00 S3
      clear FF3 S3 F3
      go_wp2
      go_ret
      exact⟨⟨_,rfl,fun a ha=>by cases ha⟩,HS.out,HF.out⟩
     ·refine(z0i (o:=(some (u2,s3))) HS.out hX (hM (⟨#[41]⟩:ByteArray) (by decide)) h3).mono ?_
      rintro e w3 ⟨rfl,S3,F3⟩
      clear HX
      have HX:=z00 hr3
      clear h3 hr3
      have FF3:=HF.out.trans F3
      clear HF HS
      have HF:=z00 FF3
      have HS:=z00 S3
      clear FF3 S3 F3
      obtain rfl:some (v,s3)=o:=by
       have:=HX.out
       injection this
      clear HX
      go_wp2
      go_ret
      exact⟨⟨_,rfl,fun a ha=>by injection ha with ha;rw[← ha]⟩,HS.out,HF.out⟩
theorem zud {o:Option (Nat×Ps)} (h:SR B g xs A w t) (hX:xs.length≤3000) (hM:z3w xs) (hA:∀ b,A b→b<w.heap.size) (hV:z1n B g xs 163 (zde xs)) (hr:z60 (zdd xs) t o):Calls Tryz.prog 122 #[.pointer (some ⟨g,0,none⟩)] w (z0j B g xs A w VNs o):=by
 obtain⟨i0,hi,hz0,hz1,hz2⟩:=info_parts z29
 have hbase:=h.base
 have HF:=z00 (Fr.refl B w)
 match t,h,hr with
 | none,h,hr =>
   obtain rfl:o=none:=hr
   have HS:=z00 h
   clear h hr
   go_enter Tryz.func122,Tryz.ntmps122
   go_wp2_with fail
   refine(z4f (o:=none) HS.out hX rfl).mono ?_
   rintro e w1 ⟨⟨nmx,rfl,-⟩,S1,F1⟩
   have FF1:=HF.out.trans F1
   clear HF HS
   have HF:=z00 FF1
   have HS:=z00 S1
   clear FF1 S1 F1
   have B2:Below w1.heap.size w1 (w1.alloc (.cells #[] tI)):=(Below.refl _ _).alloc (Nat.le_refl _) _
   have R2:SR B g xs (z0g A (.slice (some ⟨w1.heap.size,0,none⟩) 0 0)) (w1.alloc (.cells #[] tI)) none:=(SR.avoid (A':=z0g A (.slice (some ⟨w1.heap.size,0,none⟩) 0 0)) (t:=none) HS.out (fun k hk=>hk.imp_right (fun e=>by injection e with e;show w1.heap.size≤k;exact Nat.le_of_eq e))).below B2
   have o2:(w1.alloc (.cells #[] tI)).ownsRow w.heap.size tI 1 (.slice (some ⟨w1.heap.size,0,none⟩) 0 0) 0 (z02 ([]:List Int)):=World.ownsRow_lit w1 #[] 0 HF.out.size (by decide) rfl
   have FF2:=HF.out.trans (Fr.ofB (B:=B) B2 (SR.base (t:=none) HS.out))
   clear HF HS
   have HF:=z00 FF2
   have HS:=z00 R2
   have HP:=z00 o2
   clear FF2 R2 o2 B2
   go_wp2_with fail
   refine(z2c HS.out rfl).mono ?_
   rintro e w3 ⟨rfl,B3⟩
   have S3:=SR.below (t:=none) HS.out B3
   have FF3:=HF.out.trans (Fr.ofB (B:=B) B3 (SR.base (t:=none) HS.out))
   have o3:=z07 HP.out B3
   clear HF HS HP
   have HF:=z00 FF3
   have HS:=z00 S3
   have HP:=z00 o3
   clear FF3 S3 B3 o3
   go_wp2_with fail
   refine(z0i (o:=none) HS.out hX (hM (⟨#[59]⟩:ByteArray) (by decide)) rfl).mono ?_
   rintro e w4 ⟨rfl,S4,F4⟩
   have o4:=F4.ints HP.out
   have FF4:=HF.out.trans F4
   clear HF HS HP
   have HF:=z00 FF4
   have HS:=z00 S4
   have HP:=z00 o4
   clear FF4 S4 F4 o4
   go_wp2_with fail
   refine(z14 (o:=none) 12 nmx ([]:List Int) (some ⟨w1.heap.size,0,none⟩) 0 (SR.avoid (t:=none) HS.out (fun k hk=>.inl (.inl hk))) (z01 HP.out hbase) (fun b hb hb2=>by have h7:=(HP.out.lt b hb).1;have h8:=hA b hb2;omega) rfl).mono ?_
   rintro e we ⟨⟨k9,rfl,hk9⟩,S9,F9⟩
   have HH:=z00 (show z0j B g xs A w VNs _ (.returned (.int .i64 k9)) we from⟨⟨k9,rfl,hk9⟩,S9,HF.out.trans F9⟩)
   clear S9 F9 HF HS
   go_wp2
   go_ret
   exact HH.out
 | some s,h,hr =>
   have HX:=z00 (show (zdd xs) s=some o from hr)
   have HS:=z00 h
   clear h hr
   go_enter Tryz.func122,Tryz.ntmps122
   go_wp2_with fail
   rcases z09 HX.out with⟨h1,rfl⟩|⟨nm,s1,h1,hr1⟩
   ·refine(z4f (o:=none) HS.out hX h1).mono ?_
    rintro e w1 ⟨⟨nmx,rfl,-⟩,S1,F1⟩
    clear HX h1
    have FF1:=HF.out.trans F1
    clear HF HS
    have HF:=z00 FF1
    have HS:=z00 S1
    clear FF1 S1 F1
    have B2:Below w1.heap.size w1 (w1.alloc (.cells #[] tI)):=(Below.refl _ _).alloc (Nat.le_refl _) _
    have R2:SR B g xs (z0g A (.slice (some ⟨w1.heap.size,0,none⟩) 0 0)) (w1.alloc (.cells #[] tI)) none:=(SR.avoid (A':=z0g A (.slice (some ⟨w1.heap.size,0,none⟩) 0 0)) (t:=none) HS.out (fun k hk=>hk.imp_right (fun e=>by injection e with e;show w1.heap.size≤k;exact Nat.le_of_eq e))).below B2
    have o2:(w1.alloc (.cells #[] tI)).ownsRow w.heap.size tI 1 (.slice (some ⟨w1.heap.size,0,none⟩) 0 0) 0 (z02 ([]:List Int)):=World.ownsRow_lit w1 #[] 0 HF.out.size (by decide) rfl
    have FF2:=HF.out.trans (Fr.ofB (B:=B) B2 (SR.base (t:=none) HS.out))
    clear HF HS
    have HF:=z00 FF2
    have HS:=z00 R2
    have HP:=z00 o2
    clear FF2 R2 o2 B2
    go_wp2_with fail
    refine(z2c HS.out rfl).mono ?_
    rintro e w3 ⟨rfl,B3⟩
    have S3:=SR.below (t:=none) HS.out B3
    have FF3:=HF.out.trans (Fr.ofB (B:=B) B3 (SR.base (t:=none) HS.out))
    have o3:=z07 HP.out B3
    clear HF HS HP
    have HF:=z00 FF3
    have HS:=z00 S3
    have HP:=z00 o3
    clear FF3 S3 B3 o3
    go_wp2_with fail
    refine(z0i (o:=none) HS.out hX (hM (⟨#[59]⟩:ByteArray) (by decide)) rfl).mono ?_
    rintro e w4 ⟨rfl,S4,F4⟩
    have o4:=F4.ints HP.out
    have FF4:=HF.out.trans F4
    clear HF HS HP
    have HF:=z00 FF4
    have HS:=z00 S4
    have HP:=z00 o4
    clear FF4 S4 F4 o4
    go_wp2_with fail
    refine(z14 (o:=none) 12 nmx ([]:List Int) (some ⟨w1.heap.size,0,none⟩) 0 (SR.avoid (t:=none) HS.out (fun k hk=>.inl (.inl hk))) (z01 HP.out hbase) (fun b hb hb2=>by have h7:=(HP.out.lt b hb).1;have h8:=hA b hb2;omega) rfl).mono ?_
    rintro e we ⟨⟨k9,rfl,hk9⟩,S9,F9⟩
    have HH:=z00 (show z0j B g xs A w VNs _ (.returned (.int .i64 k9)) we from⟨⟨k9,rfl,hk9⟩,S9,HF.out.trans F9⟩)
    clear S9 F9 HF HS
    go_wp2
    go_ret
    exact HH.out
   ·refine(z4f (o:=(some (nm,s1))) HS.out hX h1).mono ?_
    rintro e w1 ⟨⟨nmx,rfl,hnmx⟩,S1,F1⟩
    obtain rfl:nmx=nm:=hnmx nm rfl
    clear HX
    have HX:=z00 hr1
    clear h1 hr1 hnmx
    have FF1:=HF.out.trans F1
    clear HF HS
    have HF:=z00 FF1
    have HS:=z00 S1
    clear FF1 S1 F1
    have B2:Below w1.heap.size w1 (w1.alloc (.cells #[] tI)):=(Below.refl _ _).alloc (Nat.le_refl _) _
    have R2:SR B g xs (z0g A (.slice (some ⟨w1.heap.size,0,none⟩) 0 0)) (w1.alloc (.cells #[] tI)) (some s1):=(SR.avoid (A':=z0g A (.slice (some ⟨w1.heap.size,0,none⟩) 0 0)) (t:=(some s1)) HS.out (fun k hk=>hk.imp_right (fun e=>by injection e with e;show w1.heap.size≤k;exact Nat.le_of_eq e))).below B2
    have o2:(w1.alloc (.cells #[] tI)).ownsRow w.heap.size tI 1 (.slice (some ⟨w1.heap.size,0,none⟩) 0 0) 0 (z02 ([]:List Int)):=World.ownsRow_lit w1 #[] 0 HF.out.size (by decide) rfl
    have FF2:=HF.out.trans (Fr.ofB (B:=B) B2 (SR.base (t:=(some s1)) HS.out))
    clear HF HS
    have HF:=z00 FF2
    have HS:=z00 R2
    have HP:=z00 o2
    clear FF2 R2 o2 B2
    go_wp2_with fail
    by_cases ht:txt xs s1.p=(⟨#[61]⟩:ByteArray)
    ·have hx:=HX.out
     rw[if_pos ht] at hx
     clear HX
     have HX:=z00 hx
     clear hx
     refine(z3p (s:=s1) HS.out hX (by rw[z0q (hM (⟨#[61]⟩:ByteArray) (by decide))];exact decide_eq_true ht)).mono ?_
     clear ht
     rintro e w3 ⟨rfl,S3,F3⟩
     have o3:=F3.ints HP.out
     have FF3:=HF.out.trans F3
     clear HF HS HP
     have HF:=z00 FF3
     have HS:=z00 S3
     have HP:=z00 o3
     clear FF3 S3 F3 o3
     go_wp2_with fail
     rcases z09 HX.out with⟨h4,rfl⟩|⟨v,s4,h4,hr4⟩
     ·refine(hV _ _ _ none (z0g.lt hA HF.out.size HP.out) HS.out h4).mono ?_
      rintro e w4 ⟨⟨vx,rfl,-⟩,S4,F4⟩
      clear HX h4
      have o4:=F4.ints HP.out
      have FF4:=HF.out.trans F4
      clear HF HS HP
      have HF:=z00 FF4
      have HS:=z00 S4
      have HP:=z00 o4
      clear FF4 S4 F4 o4
      have hs5:=HF.out.size
      go_wp2_with (at_builtin;refine z04 rfl _ _ 29 rfl w.heap.size 3 i0 _ 1 8 Tryz.underlying29 hi hz0 hz1 hz2 rfl (by decide) (.slice (some ⟨w1.heap.size,0,none⟩) 0 0) (0) (z02 ([]:List Int)) rfl (HP.out.alloc _) ⟨w4.heap.size,0,none⟩ 1 1 [.int .i64 vx] rfl rfl (cell_one_new _ _ _) (by simp[Value.oneCell']) (by unfold maxLen;omega) (by omega) (by simp;omega) ?_;intro v' w5 hown' hgrow5 hpl5)
      have B5:Below w4.heap.size w4 (w4.alloc (.cells #[.int .i64 vx] tI)):=(Below.refl _ _).alloc (Nat.le_refl _) _
      have FF5:=(HF.out.trans (Fr.ofB (B:=B) B5 (SR.base (t:=none) HS.out))).growI hbase hgrow5 (fun b hb=>(HP.out.lt b hb).1)
      have R5:=(SR.below (t:=none) HS.out B5).growI (A':=z0g A v') (HP.out.alloc _) hgrow5 (fun b hb=>.inr hb) (fun b hb=>by
       rcases hb with hb|hb
       ·exact .inl (.inl hb)
       ·rcases hpl5 b hb with h6|h6
        ·exact .inl (.inr h6)
        ·exact .inr h6)
      have o5:=z0c (ks:=([]:List Int)) (k:=vx) hown' rfl
      clear hown' hgrow5 hpl5 HF HS HP hs5 B5
      obtain⟨ao5,cc5,rfl⟩:=z06 o5
      have HF:=z00 FF5
      have HS:=z00 R5
      have HP:=z00 o5
      clear FF5 R5 o5
      refine(z0i (o:=none) HS.out hX (hM (⟨#[59]⟩:ByteArray) (by decide)) rfl).mono ?_
      rintro e w6 ⟨rfl,S6,F6⟩
      have o6:=F6.ints HP.out
      have FF6:=HF.out.trans F6
      clear HF HS HP
      have HF:=z00 FF6
      have HS:=z00 S6
      have HP:=z00 o6
      clear FF6 S6 F6 o6
      go_wp2_with fail
      refine(z14 (o:=none) 12 nmx (([]:List Int)++[vx]) (ao5) cc5 (SR.avoid (t:=none) HS.out (fun k hk=>.inl (.inl hk))) (z01 HP.out hbase) (fun b hb hb2=>by have h7:=(HP.out.lt b hb).1;have h8:=hA b hb2;omega) rfl).mono ?_
      rintro e we ⟨⟨k9,rfl,hk9⟩,S9,F9⟩
      have HH:=z00 (show z0j B g xs A w VNs _ (.returned (.int .i64 k9)) we from⟨⟨k9,rfl,hk9⟩,S9,HF.out.trans F9⟩)
      clear S9 F9 HF HS
      go_wp2
      go_ret
      exact HH.out
     ·refine(hV _ _ _ (some (v,s4)) (z0g.lt hA HF.out.size HP.out) HS.out h4).mono ?_
      rintro e w4 ⟨⟨vx,rfl,hvx⟩,S4,F4⟩
      obtain rfl:vx=((v:Nat):Int):=hvx v rfl
      clear HX
      have HX:=z00 hr4
      clear h4 hr4 hvx
      have o4:=F4.ints HP.out
      have FF4:=HF.out.trans F4
      clear HF HS HP
      have HF:=z00 FF4
      have HS:=z00 S4
      have HP:=z00 o4
      clear FF4 S4 F4 o4
      have hs5:=HF.out.size
      go_wp2_with (at_builtin;refine z04 rfl _ _ 29 rfl w.heap.size 3 i0 _ 1 8 Tryz.underlying29 hi hz0 hz1 hz2 rfl (by decide) (.slice (some ⟨w1.heap.size,0,none⟩) 0 0) (0) (z02 ([]:List Int)) rfl (HP.out.alloc _) ⟨w4.heap.size,0,none⟩ 1 1 [.int .i64 ((v:Nat):Int)] rfl rfl (cell_one_new _ _ _) (by simp[Value.oneCell']) (by unfold maxLen;omega) (by omega) (by simp;omega) ?_;intro v' w5 hown' hgrow5 hpl5)
      have B5:Below w4.heap.size w4 (w4.alloc (.cells #[.int .i64 ((v:Nat):Int)] tI)):=(Below.refl _ _).alloc (Nat.le_refl _) _
      have FF5:=(HF.out.trans (Fr.ofB (B:=B) B5 (SR.base (t:=(some s4)) HS.out))).growI hbase hgrow5 (fun b hb=>(HP.out.lt b hb).1)
      have R5:=(SR.below (t:=(some s4)) HS.out B5).growI (A':=z0g A v') (HP.out.alloc _) hgrow5 (fun b hb=>.inr hb) (fun b hb=>by
       rcases hb with hb|hb
       ·exact .inl (.inl hb)
       ·rcases hpl5 b hb with h6|h6
        ·exact .inl (.inr h6)
        ·exact .inr h6)
      have o5:=z0c (ks:=([]:List Int)) (k:=((v:Nat):Int)) hown' rfl
      clear hown' hgrow5 hpl5 HF HS HP hs5 B5
      obtain⟨ao5,cc5,rfl⟩:=z06 o5
      have HF:=z00 FF5
      have HS:=z00 R5
      have HP:=z00 o5
      clear FF5 R5 o5
      rcases z09 HX.out with⟨h6,rfl⟩|⟨u,s6,h6,hr6⟩
      ·refine(z0i (o:=none) HS.out hX (hM (⟨#[59]⟩:ByteArray) (by decide)) h6).mono ?_
       rintro e w6 ⟨rfl,S6,F6⟩
       clear HX h6
       have o6:=F6.ints HP.out
       have FF6:=HF.out.trans F6
       clear HF HS HP
       have HF:=z00 FF6
       have HS:=z00 S6
       have HP:=z00 o6
       clear FF6 S6 F6 o6
       go_wp2_with fail
       refine(z14 (o:=none) 12 nmx (([]:List Int)++[((v:Nat):Int)]) (ao5) cc5 (SR.avoid (t:=none) HS.out (fun k hk=>.inl (.inl hk))) (z01 HP.out hbase) (fun b hb hb2=>by have h7:=(HP.out.lt b hb).1;have h8:=hA b hb2;omega) rfl).mono ?_
       rintro e we ⟨⟨k9,rfl,hk9⟩,S9,F9⟩
       have HH:=z00 (show z0j B g xs A w VNs _ (.returned (.int .i64 k9)) we from⟨⟨k9,rfl,hk9⟩,S9,HF.out.trans F9⟩)
       clear S9 F9 HF HS
       go_wp2
       go_ret
       exact HH.out
      ·refine(z0i (o:=(some (u,s6))) HS.out hX (hM (⟨#[59]⟩:ByteArray) (by decide)) h6).mono ?_
       rintro e w6 ⟨rfl,S6,F6⟩
       clear HX
       have HX:=z00 hr6
       clear h6 hr6
       have o6:=F6.ints HP.out
       have FF6:=HF.out.trans F6
       clear HF HS HP
       have HF:=z00 FF6
       have HS:=z00 S6
       have HP:=z00 o6
       clear FF6 S6 F6 o6
       go_wp2_with fail
       refine(z14 (o:=o) 12 nmx (([]:List Int)++[((v:Nat):Int)]) (ao5) cc5 (SR.avoid (t:=some s6) HS.out (fun k hk=>.inl (.inl hk))) (z01 HP.out hbase) (fun b hb hb2=>by have h7:=(HP.out.lt b hb).1;have h8:=hA b hb2;omega) HX.out).mono ?_
       rintro e we ⟨⟨k9,rfl,hk9⟩,S9,F9⟩
       have HH:=z00 (show z0j B g xs A w VNs _ (.returned (.int .i64 k9)) we from⟨⟨k9,rfl,hk9⟩,S9,HF.out.trans F9⟩)
       clear S9 F9 HF HS
       go_wp2
       go_ret
       exact HH.out
    ·have hx:=HX.out
     rw[if_neg ht] at hx
     clear HX
     have HX:=z00 hx
     clear hx
     refine(z2c HS.out (by rw[show _=some s1 from rfl,z0q (hM (⟨#[61]⟩:ByteArray) (by decide))];exact decide_eq_false ht)).mono ?_
     rintro e w3 ⟨rfl,B3⟩
     have S3:=SR.below (t:=some s1) HS.out B3
     have FF3:=HF.out.trans (Fr.ofB (B:=B) B3 (SR.base (t:=some s1) HS.out))
     have o3:=z07 HP.out B3
     clear HF HS HP
     have HF:=z00 FF3
     have HS:=z00 S3
     have HP:=z00 o3
     clear FF3 S3 B3 o3
     clear ht
     go_wp2_with fail
     rcases z09 HX.out with⟨h4,rfl⟩|⟨u,s4,h4,hr4⟩
     ·refine(z0i (o:=none) HS.out hX (hM (⟨#[59]⟩:ByteArray) (by decide)) h4).mono ?_
      rintro e w4 ⟨rfl,S4,F4⟩
      clear HX h4
      have o4:=F4.ints HP.out
      have FF4:=HF.out.trans F4
      clear HF HS HP
      have HF:=z00 FF4
      have HS:=z00 S4
      have HP:=z00 o4
      clear FF4 S4 F4 o4
      go_wp2_with fail
      refine(z14 (o:=none) 12 nmx ([]:List Int) (some ⟨w1.heap.size,0,none⟩) 0 (SR.avoid (t:=none) HS.out (fun k hk=>.inl (.inl hk))) (z01 HP.out hbase) (fun b hb hb2=>by have h7:=(HP.out.lt b hb).1;have h8:=hA b hb2;omega) rfl).mono ?_
      rintro e we ⟨⟨k9,rfl,hk9⟩,S9,F9⟩
      have HH:=z00 (show z0j B g xs A w VNs _ (.returned (.int .i64 k9)) we from⟨⟨k9,rfl,hk9⟩,S9,HF.out.trans F9⟩)
      clear S9 F9 HF HS
      go_wp2
      go_ret
      exact HH.out
     ·refine(z0i (o:=(some (u,s4))) HS.out hX (hM (⟨#[59]⟩:ByteArray) (by decide)) h4).mono ?_
      rintro e w4 ⟨rfl,S4,F4⟩
      clear HX
      have HX:=z00 hr4
      clear h4 hr4
      have o4:=F4.ints HP.out
      have FF4:=HF.out.trans F4
      clear HF HS HP
      have HF:=z00 FF4
      have HS:=z00 S4
      have HP:=z00 o4
      clear FF4 S4 F4 o4
      go_wp2_with fail
      refine(z14 (o:=o) 12 nmx ([]:List Int) (some ⟨w1.heap.size,0,none⟩) 0 (SR.avoid (t:=some s4) HS.out (fun k hk=>.inl (.inl hk))) (z01 HP.out hbase) (fun b hb hb2=>by have h7:=(HP.out.lt b hb).1;have h8:=hA b hb2;omega) HX.out).mono ?_
      rintro e we ⟨⟨k9,rfl,hk9⟩,S9,F9⟩
      have HH:=z00 (show z0j B g xs A w VNs _ (.returned (.int .i64 k9)) we from⟨⟨k9,rfl,hk9⟩,S9,HF.out.trans F9⟩)
      clear S9 F9 HF HS
      go_wp2
      go_ret
      exact HH.out
end
end Go.Proofs.YtekebloinobjnaaGreatDoor
