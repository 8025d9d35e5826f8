/- Texts of one proof, laid together: SpI18. -/
import Derived.Test.YtekebloinobjnaaGreatDoorC28
set_option maxHeartbeats 16000000
set_option maxRecDepth 100000
namespace Go.Proofs.YtekebloinobjnaaGreatDoor
open Go.RowKit
section
variable {B g:Nat} {xs:List Sg} {A:Nat→Prop} {w:World} {t:Option Ps}
theorem zmy (h:SR B g xs A w none) (hX:xs.length≤3000) (hM:z3w xs) (hA:∀ b,A b→b<w.heap.size) (hV:z1n B g xs 163 (zde xs)):Calls Tryz.prog 164 #[.pointer (some ⟨g,0,none⟩)] w (z0j B g xs A w VNs none):=by
 obtain⟨i0,hi,hz0,hz1,hz2⟩:=info_parts z29
 have hbase:=h.base
 have HF:=z00 (Fr.refl B w)
 have HS:=z00 h
 clear h
 go_enter Tryz.func164,Tryz.ntmps164
 go_wp2_with fail
 refine(z3n (t:=none) HS.out 5 (.inr (.inr (.inr rfl)))).mono ?_
 rintro e w1 ⟨rfl,m1,hm1⟩
 have B1:Below w.heap.size w w1:=by rw[hm1];exact z0a _ _
 clear hm1
 have S1:=SR.below (t:=none) HS.out B1
 have FF1:=HF.out.trans (Fr.ofB (B:=B) B1 (SR.base (t:=none) HS.out))
 clear HF HS
 have HF:=z00 FF1
 have HS:=z00 S1
 clear FF1 S1 B1
 go_wp2_with fail
 refine(z2t (t:=none) HS.out rfl).mono ?_
 rintro e w2 ⟨rfl,B2⟩
 have S2:=SR.below (t:=none) HS.out B2
 have FF2:=HF.out.trans (Fr.ofB (B:=B) B2 (SR.base (t:=none) HS.out))
 clear HF HS
 have HF:=z00 FF2
 have HS:=z00 S2
 clear FF2 S2 B2
 go_wp2_with fail
 refine(z2t (t:=none) HS.out rfl).mono ?_
 rintro e w3 ⟨rfl,B3⟩
 have S3:=SR.below (t:=none) HS.out B3
 have FF3:=HF.out.trans (Fr.ofB (B:=B) B3 (SR.base (t:=none) HS.out))
 clear HF HS
 have HF:=z00 FF3
 have HS:=z00 S3
 clear FF3 S3 B3
 go_wp2_with fail
 refine(z2t (t:=none) HS.out rfl).mono ?_
 rintro e w4 ⟨rfl,B4⟩
 have S4:=SR.below (t:=none) HS.out B4
 have FF4:=HF.out.trans (Fr.ofB (B:=B) B4 (SR.base (t:=none) HS.out))
 clear HF HS
 have HF:=z00 FF4
 have HS:=z00 S4
 clear FF4 S4 B4
 go_wp2_with fail
 refine(z2t (t:=none) HS.out rfl).mono ?_
 rintro e w5 ⟨rfl,B5⟩
 have S5:=SR.below (t:=none) HS.out B5
 have FF5:=HF.out.trans (Fr.ofB (B:=B) B5 (SR.base (t:=none) HS.out))
 clear HF HS
 have HF:=z00 FF5
 have HS:=z00 S5
 clear FF5 S5 B5
 obtain⟨s9,h9,hd9⟩:=HS.out
 have hgg:=h9.lt
 clear h9 hd9
 have qK:=fun m=>(z3n (t:=none) (SR.below (t:=none) HS.out (z0a w5 m)) 1 (.inl rfl))
 rw[show kdP xs none 1=false from rfl] at qK
 go_wp2
 go_quiet ((go_at_call 119;exact Calls.quiet_of (qK _)))
 have B6:Below w5.heap.size w5 (w5.drewN nq):=z0a _ _
 obtain⟨w6,hw6⟩:∃ w6,w6=w5.drewN nq:=⟨_,rfl⟩
 rw[← hw6] at B6 ⊢
 clear hw6 qK
 have S6:=SR.below (t:=none) HS.out B6
 have FF6:=HF.out.trans (Fr.ofB (B:=B) B6 (SR.base (t:=none) HS.out))
 clear HF HS
 have HF:=z00 FF6
 have HS:=z00 S6
 clear FF6 S6 B6
 go_wp2_with fail
 refine(hV _ _ _ none (fun b hb=>Nat.lt_of_lt_of_le (hA b hb) HF.out.size) HS.out rfl).mono ?_
 rintro e w7 ⟨⟨vx,rfl,-⟩,S7,F7⟩
 have FF7:=HF.out.trans F7
 clear HF HS
 have HF:=z00 FF7
 have HS:=z00 S7
 clear FF7 S7 F7
 go_wp2_with fail
 refine(z0i (o:=none) HS.out hX (hM (⟨#[59]⟩:ByteArray) (by decide)) rfl).mono ?_
 rintro e w8 ⟨rfl,S8,F8⟩
 have FF8:=HF.out.trans F8
 clear HF HS
 have HF:=z00 FF8
 have HS:=z00 S8
 clear FF8 S8 F8
 have B9:Below w8.heap.size w8 (w8.alloc (.cells #[.int .i64 vx] tI)):=(Below.refl _ _).alloc (Nat.le_refl _) _
 have R9:SR B g xs (z0g A (.slice (some ⟨w8.heap.size,0,none⟩) 1 1)) (w8.alloc (.cells #[.int .i64 vx] tI)) none:=(SR.avoid (A':=z0g A (.slice (some ⟨w8.heap.size,0,none⟩) 1 1)) (t:=none) HS.out (fun k hk=>hk.imp_right (fun e=>by injection e with e;show w8.heap.size≤k;exact Nat.le_of_eq e))).below B9
 have o9:(w8.alloc (.cells #[.int .i64 vx] tI)).ownsRow w.heap.size tI 1 (.slice (some ⟨w8.heap.size,0,none⟩) 1 1) 1 (z02 [vx]):=World.ownsRow_lit w8 #[.int .i64 vx] 1 HF.out.size (by decide) rfl
 have FF9:=HF.out.trans (Fr.ofB (B:=B) B9 (SR.base (t:=none) HS.out))
 clear HF HS
 have HF:=z00 FF9
 have HS:=z00 R9
 have HP:=z00 o9
 clear FF9 R9 o9 B9
 go_wp2_with fail
 refine(z14 (o:=none) 14 ByteArray.empty [vx] (some ⟨w8.heap.size,0,none⟩) 1 (SR.avoid (t:=none) HS.out (fun k hk=>.inl (.inl hk))) (z01 HP.out hbase) (fun b hb hb2=>by have h7:=(HP.out.lt b hb).1;have h8:=hA b hb2;omega) rfl).mono ?_
 rintro e we ⟨⟨k9,rfl,hk9⟩,S9,F9⟩
 have HH:=z00 (show z0j B g xs A w VNs _ (.returned (.int .i64 k9)) we from⟨⟨k9,rfl,hk9⟩,S9,HF.out.trans F9⟩)
 clear S9 F9 HF HS
 go_wp2
 go_ret
 exact HH.out
theorem ztl {st:Ps→Rs Nat} {o:Option (Nat×Ps)} (h:SR B g xs A w t) (hX:xs.length≤3000) (hM:z3w xs) (hWd:zd1 xs) (hA:∀ b,A b→b<w.heap.size) (hV:z1n B g xs 163 (zde xs)) (hBk:z1n B g xs 126 (z3k xs st)) (hr:z60 (z91 xs st) t o):Calls Tryz.prog 164 #[.pointer (some ⟨g,0,none⟩)] w (z0j B g xs A w VNs o):=by
 match t,h,hr with
 | none,h,hr =>
   obtain rfl:o=none:=hr
   exact zmy h hX hM hA hV
 | some s,h,hr =>
   obtain⟨i0,hi,hz0,hz1,hz2⟩:=info_parts z29
   have hbase:=h.base
   have HF:=z00 (Fr.refl B w)
   have hr2:z91 xs st s=some o:=hr
   unfold z91 at hr2
   have HX:=z00 hr2
   have HS:=z00 h
   clear h hr hr2
   go_enter Tryz.func164,Tryz.ntmps164
   go_wp2_with fail
   by_cases hc:knd xs s.p=5
   ·have qK:=z3n (t:=some s) HS.out 5 (.inr (.inr (.inr rfl)))
    rw[show kdP xs (some s) 5=true from z3t hc] at qK
    have hx:=HX.out
    rw[if_pos hc] at hx
    clear HX
    have HX:=z00 hx
    clear hx
    refine qK.mono ?_
    clear qK
    rintro e w1 ⟨rfl,m1,hm1⟩
    have B1:Below w.heap.size w w1:=by rw[hm1];exact z0a _ _
    clear hm1
    have S1:=SR.below (t:=(some s)) HS.out B1
    have FF1:=HF.out.trans (Fr.ofB (B:=B) B1 (SR.base (t:=(some s)) HS.out))
    clear HF HS
    have HF:=z00 FF1
    have HS:=z00 S1
    clear FF1 S1 B1
    have HC:=z00 hc
    clear hc
    go_wp2_with fail
    have qT:=zcl (o:=some (txt xs s.p,s.next)) (t:=some s) 5 (.inr (.inr (.inr rfl))) HS.out hX (z59 (z3t HC.out))
    have hx:z0z 19 (txt xs s.p) [] s.next=some o:=HX.out
    clear HX
    have HX:=z00 hx
    clear hx
    refine qT.mono ?_
    clear qT
    rintro e w2 ⟨⟨tx,rfl,htx⟩,S2,F2⟩
    obtain rfl:tx=txt xs s.p:=htx _ rfl
    clear htx
    have FF2:=HF.out.trans F2
    clear HF HS
    have HF:=z00 FF2
    have HS:=z00 S2
    clear FF2 S2 F2
    obtain⟨ux,hux⟩:∃ ux,ux=(txt xs s.p):=⟨_,rfl⟩
    rw[← hux] at HX ⊢
    clear hux
    have B3:Below w2.heap.size w2 (w2.alloc (.cells #[] tI)):=(Below.refl _ _).alloc (Nat.le_refl _) _
    have R3:SR B g xs (z0g A (.slice (some ⟨w2.heap.size,0,none⟩) 0 0)) (w2.alloc (.cells #[] tI)) (some s.next):=(SR.avoid (A':=z0g A (.slice (some ⟨w2.heap.size,0,none⟩) 0 0)) (t:=(some s.next)) HS.out (fun k hk=>hk.imp_right (fun e=>by injection e with e;show w2.heap.size≤k;exact Nat.le_of_eq e))).below B3
    have o3:(w2.alloc (.cells #[] tI)).ownsRow w.heap.size tI 1 (.slice (some ⟨w2.heap.size,0,none⟩) 0 0) 0 (z02 ([]:List Int)):=World.ownsRow_lit w2 #[] 0 HF.out.size (by decide) rfl
    have FF3:=HF.out.trans (Fr.ofB (B:=B) B3 (SR.base (t:=(some s.next)) HS.out))
    clear HF HS
    have HF:=z00 FF3
    have HS:=z00 R3
    have HP:=z00 o3
    clear FF3 R3 o3 B3
    go_wp2_with fail
    refine(z14 (o:=o) 19 ux ([]:List Int) (some ⟨w2.heap.size,0,none⟩) 0 (SR.avoid (t:=some s.next) HS.out (fun k hk=>.inl (.inl hk))) (z01 HP.out hbase) (fun b hb hb2=>by have h7:=(HP.out.lt b hb).1;have h8:=hA b hb2;omega) HX.out).mono ?_
    rintro e we ⟨⟨k9,rfl,hk9⟩,S9,F9⟩
    have HH:=z00 (show z0j B g xs A w VNs _ (.returned (.int .i64 k9)) we from⟨⟨k9,rfl,hk9⟩,S9,HF.out.trans F9⟩)
    clear S9 F9 HF HS
    go_wp2
    go_ret
    exact HH.out
   ·have qK:=z3n (t:=some s) HS.out 5 (.inr (.inr (.inr rfl)))
    rw[show kdP xs (some s) 5=false from z9i hc] at qK
    have hx:=HX.out
    rw[if_neg hc] at hx
    clear HX
    have HX:=z00 hx
    clear hx
    refine qK.mono ?_
    clear qK
    rintro e w1 ⟨rfl,m1,hm1⟩
    have B1:Below w.heap.size w w1:=by rw[hm1];exact z0a _ _
    clear hm1
    have S1:=SR.below (t:=(some s)) HS.out B1
    have FF1:=HF.out.trans (Fr.ofB (B:=B) B1 (SR.base (t:=(some s)) HS.out))
    clear HF HS
    have HF:=z00 FF1
    have HS:=z00 S1
    clear FF1 S1 B1
    clear hc
    go_wp2_with fail
    by_cases ht:txt xs s.p=(⟨#[118,97,114]⟩:ByteArray)
    ·have hx:=HX.out
     rw[if_pos ht] at hx
     clear HX
     have HX:=z00 hx
     clear hx
     refine(z74 (s:=s) HS.out hX (by rw[z1j hWd (by decide)];exact decide_eq_true ht)).mono ?_
     clear ht
     rintro e w2 ⟨rfl,S2,F2⟩
     have FF2:=HF.out.trans F2
     clear HF HS
     have HF:=z00 FF2
     have HS:=z00 S2
     clear FF2 S2 F2
     go_wp2_with fail
     refine(zud (o:=o) HS.out hX hM (fun b hb=>Nat.lt_of_lt_of_le (hA b hb) HF.out.size) hV HX.out).mono ?_
     rintro e we ⟨⟨k9,rfl,hk9⟩,S9,F9⟩
     have HH:=z00 (show z0j B g xs A w VNs _ (.returned (.int .i64 k9)) we from⟨⟨k9,rfl,hk9⟩,S9,HF.out.trans F9⟩)
     clear S9 F9 HF HS
     go_wp2
     go_ret
     exact HH.out
    ·have hx:=HX.out
     rw[if_neg ht] at hx
     clear HX
     have HX:=z00 hx
     clear hx
     refine(z2t (t:=some s) HS.out (by rw[z1j hWd (by decide)];exact decide_eq_false ht)).mono ?_
     rintro e w2 ⟨rfl,B2⟩
     have S2:=SR.below (t:=(some s)) HS.out B2
     have FF2:=HF.out.trans (Fr.ofB (B:=B) B2 (SR.base (t:=(some s)) HS.out))
     clear HF HS
     have HF:=z00 FF2
     have HS:=z00 S2
     clear FF2 S2 B2
     clear ht
     go_wp2_with fail
     by_cases ht:txt xs s.p=(⟨#[114,101,116,117,114,110]⟩:ByteArray)
     ·have hx:=HX.out
      rw[if_pos ht] at hx
      clear HX
      have HX:=z00 hx
      clear hx
      refine(z74 (s:=s) HS.out hX (by rw[z1j hWd (by decide)];exact decide_eq_true ht)).mono ?_
      clear ht
      rintro e w3 ⟨rfl,S3,F3⟩
      have FF3:=HF.out.trans F3
      clear HF HS
      have HF:=z00 FF3
      have HS:=z00 S3
      clear FF3 S3 F3
      have hx:=HX.out
      unfold zb3 at hx
      clear HX
      have HX:=z00 hx
      clear hx
      have B4:Below w3.heap.size w3 (w3.alloc (.cells #[] tI)):=(Below.refl _ _).alloc (Nat.le_refl _) _
      have R4:SR B g xs (z0g A (.slice (some ⟨w3.heap.size,0,none⟩) 0 0)) (w3.alloc (.cells #[] tI)) (some s.next):=(SR.avoid (A':=z0g A (.slice (some ⟨w3.heap.size,0,none⟩) 0 0)) (t:=(some s.next)) HS.out (fun k hk=>hk.imp_right (fun e=>by injection e with e;show w3.heap.size≤k;exact Nat.le_of_eq e))).below B4
      have o4:(w3.alloc (.cells #[] tI)).ownsRow w.heap.size tI 1 (.slice (some ⟨w3.heap.size,0,none⟩) 0 0) 0 (z02 ([]:List Int)):=World.ownsRow_lit w3 #[] 0 HF.out.size (by decide) rfl
      have FF4:=HF.out.trans (Fr.ofB (B:=B) B4 (SR.base (t:=(some s.next)) HS.out))
      clear HF HS
      have HF:=z00 FF4
      have HS:=z00 R4
      have HP:=z00 o4
      clear FF4 R4 o4 B4
      go_wp2_with fail
      by_cases ht:txt xs s.next.p=(⟨#[59]⟩:ByteArray)
      ·have qI:=sIs (t:=some s.next) HS.out 4 (⟨#[59]⟩:ByteArray) (by decide)
       rw[z0q (hM (⟨#[59]⟩:ByteArray) (by decide)),decide_eq_true ht] at qI
       have hx:=HX.out
       rw[if_pos ht] at hx
       clear HX
       have HX:=z00 hx
       clear hx
       refine qI.mono ?_
       clear qI ht
       rintro e w5 ⟨rfl,m5,hm5⟩
       have B5:Below (w3.alloc (.cells #[] tI)).heap.size (w3.alloc (.cells #[] tI)) w5:=by rw[hm5];exact z0a _ _
       clear hm5
       have S5:=SR.below (t:=(some s.next)) HS.out B5
       have FF5:=HF.out.trans (Fr.ofB (B:=B) B5 (SR.base (t:=(some s.next)) HS.out))
       have o5:=z07 HP.out B5
       clear HF HS HP
       have HF:=z00 FF5
       have HS:=z00 S5
       have HP:=z00 o5
       clear FF5 S5 B5 o5
       go_wp2_with fail
       rcases z09 HX.out with⟨h6,rfl⟩|⟨u,s6,h6,hr6⟩
       ·refine(z0i (o:=none) HS.out hX (hM (⟨#[59]⟩:ByteArray) (by decide)) h6).mono ?_
        rintro e w6 ⟨rfl,S6,F6⟩
        clear HX h6
        have o6:=F6.ints HP.out
        have FF6:=HF.out.trans F6
        clear HF HS HP
        have HF:=z00 FF6
        have HS:=z00 S6
        have HP:=z00 o6
        clear FF6 S6 F6 o6
        go_wp2_with fail
        refine(z14 (o:=none) 15 ByteArray.empty ([]:List Int) (some ⟨w3.heap.size,0,none⟩) 0 (SR.avoid (t:=none) HS.out (fun k hk=>.inl (.inl hk))) (z01 HP.out hbase) (fun b hb hb2=>by have h7:=(HP.out.lt b hb).1;have h8:=hA b hb2;omega) rfl).mono ?_
        rintro e we ⟨⟨k9,rfl,hk9⟩,S9,F9⟩
        have HH:=z00 (show z0j B g xs A w VNs _ (.returned (.int .i64 k9)) we from⟨⟨k9,rfl,hk9⟩,S9,HF.out.trans F9⟩)
        clear S9 F9 HF HS
        go_wp2
        go_ret
        exact HH.out
       ·refine(z0i (o:=(some (u,s6))) HS.out hX (hM (⟨#[59]⟩:ByteArray) (by decide)) h6).mono ?_
        rintro e w6 ⟨rfl,S6,F6⟩
        clear HX
        have HX:=z00 hr6
        clear h6 hr6
        have o6:=F6.ints HP.out
        have FF6:=HF.out.trans F6
        clear HF HS HP
        have HF:=z00 FF6
        have HS:=z00 S6
        have HP:=z00 o6
        clear FF6 S6 F6 o6
        go_wp2_with fail
        refine(z14 (o:=o) 15 ByteArray.empty ([]:List Int) (some ⟨w3.heap.size,0,none⟩) 0 (SR.avoid (t:=some s6) HS.out (fun k hk=>.inl (.inl hk))) (z01 HP.out hbase) (fun b hb hb2=>by have h7:=(HP.out.lt b hb).1;have h8:=hA b hb2;omega) HX.out).mono ?_
        rintro e we ⟨⟨k9,rfl,hk9⟩,S9,F9⟩
        have HH:=z00 (show z0j B g xs A w VNs _ (.returned (.int .i64 k9)) we from⟨⟨k9,rfl,hk9⟩,S9,HF.out.trans F9⟩)
        clear S9 F9 HF HS
        go_wp2
        go_ret
        exact HH.out
      ·have qI:=sIs (t:=some s.next) HS.out 4 (⟨#[59]⟩:ByteArray) (by decide)
       rw[z0q (hM (⟨#[59]⟩:ByteArray) (by decide)),decide_eq_false ht] at qI
       have hx:=HX.out
       rw[if_neg ht] at hx
       clear HX
       have HX:=z00 hx
       clear hx
       refine qI.mono ?_
       clear qI ht
       rintro e w5 ⟨rfl,m5,hm5⟩
       have B5:Below (w3.alloc (.cells #[] tI)).heap.size (w3.alloc (.cells #[] tI)) w5:=by rw[hm5];exact z0a _ _
       clear hm5
       have S5:=SR.below (t:=(some s.next)) HS.out B5
       have FF5:=HF.out.trans (Fr.ofB (B:=B) B5 (SR.base (t:=(some s.next)) HS.out))
       have o5:=z07 HP.out B5
       clear HF HS HP
       have HF:=z00 FF5
       have HS:=z00 S5
       have HP:=z00 o5
       clear FF5 S5 B5 o5
       go_wp2_with fail
       rcases z09 HX.out with⟨h6,rfl⟩|⟨v,s6,h6,hr6⟩
       ·refine(hV _ _ _ none (z0g.lt hA HF.out.size HP.out) HS.out h6).mono ?_
        rintro e w6 ⟨⟨vx,rfl,-⟩,S6,F6⟩
        clear HX h6
        have o6:=F6.ints HP.out
        have FF6:=HF.out.trans F6
        clear HF HS HP
        have HF:=z00 FF6
        have HS:=z00 S6
        have HP:=z00 o6
        clear FF6 S6 F6 o6
        have hs7:=HF.out.size
        go_wp2_with (at_builtin;refine z04 rfl _ _ 29 rfl w.heap.size 3 i0 _ 1 8 Tryz.underlying29 hi hz0 hz1 hz2 rfl (by decide) (.slice (some ⟨w3.heap.size,0,none⟩) 0 0) (0) (z02 ([]:List Int)) rfl (HP.out.alloc _) ⟨w6.heap.size,0,none⟩ 1 1 [.int .i64 vx] rfl rfl (cell_one_new _ _ _) (by simp[Value.oneCell']) (by unfold maxLen;omega) (by omega) (by simp;omega) ?_;intro v' w7 hown' hgrow5 hpl5)
        have B7:Below w6.heap.size w6 (w6.alloc (.cells #[.int .i64 vx] tI)):=(Below.refl _ _).alloc (Nat.le_refl _) _
        have FF7:=(HF.out.trans (Fr.ofB (B:=B) B7 (SR.base (t:=none) HS.out))).growI hbase hgrow5 (fun b hb=>(HP.out.lt b hb).1)
        have R7:=(SR.below (t:=none) HS.out B7).growI (A':=z0g A v') (HP.out.alloc _) hgrow5 (fun b hb=>.inr hb) (fun b hb=>by
         rcases hb with hb|hb
         ·exact .inl (.inl hb)
         ·rcases hpl5 b hb with h6|h6
          ·exact .inl (.inr h6)
          ·exact .inr h6)
        have o7:=z0c (ks:=([]:List Int)) (k:=vx) hown' rfl
        clear hown' hgrow5 hpl5 HF HS HP hs7 B7
        obtain⟨ao7,cc7,rfl⟩:=z06 o7
        have HF:=z00 FF7
        have HS:=z00 R7
        have HP:=z00 o7
        clear FF7 R7 o7
        refine(z0i (o:=none) HS.out hX (hM (⟨#[59]⟩:ByteArray) (by decide)) rfl).mono ?_
        rintro e w8 ⟨rfl,S8,F8⟩
        have o8:=F8.ints HP.out
        have FF8:=HF.out.trans F8
        clear HF HS HP
        have HF:=z00 FF8
        have HS:=z00 S8
        have HP:=z00 o8
        clear FF8 S8 F8 o8
        go_wp2_with fail
        refine(z14 (o:=none) 15 ByteArray.empty (([]:List Int)++[vx]) (ao7) cc7 (SR.avoid (t:=none) HS.out (fun k hk=>.inl (.inl hk))) (z01 HP.out hbase) (fun b hb hb2=>by have h7:=(HP.out.lt b hb).1;have h8:=hA b hb2;omega) rfl).mono ?_
        rintro e we ⟨⟨k9,rfl,hk9⟩,S9,F9⟩
        have HH:=z00 (show z0j B g xs A w VNs _ (.returned (.int .i64 k9)) we from⟨⟨k9,rfl,hk9⟩,S9,HF.out.trans F9⟩)
        clear S9 F9 HF HS
        go_wp2
        go_ret
        exact HH.out
       ·refine(hV _ _ _ (some (v,s6)) (z0g.lt hA HF.out.size HP.out) HS.out h6).mono ?_
        rintro e w6 ⟨⟨vx,rfl,hvx⟩,S6,F6⟩
        obtain rfl:vx=((v:Nat):Int):=hvx v rfl
        clear HX
        have HX:=z00 hr6
        clear h6 hr6 hvx
        have o6:=F6.ints HP.out
        have FF6:=HF.out.trans F6
        clear HF HS HP
        have HF:=z00 FF6
        have HS:=z00 S6
        have HP:=z00 o6
        clear FF6 S6 F6 o6
        have hs7:=HF.out.size
        go_wp2_with (at_builtin;refine z04 rfl _ _ 29 rfl w.heap.size 3 i0 _ 1 8 Tryz.underlying29 hi hz0 hz1 hz2 rfl (by decide) (.slice (some ⟨w3.heap.size,0,none⟩) 0 0) (0) (z02 ([]:List Int)) rfl (HP.out.alloc _) ⟨w6.heap.size,0,none⟩ 1 1 [.int .i64 ((v:Nat):Int)] rfl rfl (cell_one_new _ _ _) (by simp[Value.oneCell']) (by unfold maxLen;omega) (by omega) (by simp;omega) ?_;intro v' w7 hown' hgrow5 hpl5)
        have B7:Below w6.heap.size w6 (w6.alloc (.cells #[.int .i64 ((v:Nat):Int)] tI)):=(Below.refl _ _).alloc (Nat.le_refl _) _
        have FF7:=(HF.out.trans (Fr.ofB (B:=B) B7 (SR.base (t:=(some s6)) HS.out))).growI hbase hgrow5 (fun b hb=>(HP.out.lt b hb).1)
        have R7:=(SR.below (t:=(some s6)) HS.out B7).growI (A':=z0g A v') (HP.out.alloc _) hgrow5 (fun b hb=>.inr hb) (fun b hb=>by
         rcases hb with hb|hb
         ·exact .inl (.inl hb)
         ·rcases hpl5 b hb with h6|h6
          ·exact .inl (.inr h6)
          ·exact .inr h6)
        have o7:=z0c (ks:=([]:List Int)) (k:=((v:Nat):Int)) hown' rfl
        clear hown' hgrow5 hpl5 HF HS HP hs7 B7
        obtain⟨ao7,cc7,rfl⟩:=z06 o7
        have HF:=z00 FF7
        have HS:=z00 R7
        have HP:=z00 o7
        clear FF7 R7 o7
        rcases z09 HX.out with⟨h8,rfl⟩|⟨u,s8,h8,hr8⟩
        ·refine(z0i (o:=none) HS.out hX (hM (⟨#[59]⟩:ByteArray) (by decide)) h8).mono ?_
         rintro e w8 ⟨rfl,S8,F8⟩
         clear HX h8
         have o8:=F8.ints HP.out
         have FF8:=HF.out.trans F8
         clear HF HS HP
         have HF:=z00 FF8
         have HS:=z00 S8
         have HP:=z00 o8
         clear FF8 S8 F8 o8
         go_wp2_with fail
         refine(z14 (o:=none) 15 ByteArray.empty (([]:List Int)++[((v:Nat):Int)]) (ao7) cc7 (SR.avoid (t:=none) HS.out (fun k hk=>.inl (.inl hk))) (z01 HP.out hbase) (fun b hb hb2=>by have h7:=(HP.out.lt b hb).1;have h8:=hA b hb2;omega) rfl).mono ?_
         rintro e we ⟨⟨k9,rfl,hk9⟩,S9,F9⟩
         have HH:=z00 (show z0j B g xs A w VNs _ (.returned (.int .i64 k9)) we from⟨⟨k9,rfl,hk9⟩,S9,HF.out.trans F9⟩)
         clear S9 F9 HF HS
         go_wp2
         go_ret
         exact HH.out
        ·refine(z0i (o:=(some (u,s8))) HS.out hX (hM (⟨#[59]⟩:ByteArray) (by decide)) h8).mono ?_
         rintro e w8 ⟨rfl,S8,F8⟩
         clear HX
         have HX:=z00 hr8
         clear h8 hr8
         have o8:=F8.ints HP.out
         have FF8:=HF.out.trans F8
         clear HF HS HP
         have HF:=z00 FF8
         have HS:=z00 S8
         have HP:=z00 o8
         clear FF8 S8 F8 o8
         go_wp2_with fail
         refine(z14 (o:=o) 15 ByteArray.empty (([]:List Int)++[((v:Nat):Int)]) (ao7) cc7 (SR.avoid (t:=some s8) HS.out (fun k hk=>.inl (.inl hk))) (z01 HP.out hbase) (fun b hb hb2=>by have h7:=(HP.out.lt b hb).1;have h8:=hA b hb2;omega) HX.out).mono ?_
         rintro e we ⟨⟨k9,rfl,hk9⟩,S9,F9⟩
         have HH:=z00 (show z0j B g xs A w VNs _ (.returned (.int .i64 k9)) we from⟨⟨k9,rfl,hk9⟩,S9,HF.out.trans F9⟩)
         clear S9 F9 HF HS
         go_wp2
         go_ret
         exact HH.out
     ·have hx:=HX.out
      rw[if_neg ht] at hx
      clear HX
      have HX:=z00 hx
      clear hx
      refine(z2t (t:=some s) HS.out (by rw[z1j hWd (by decide)];exact decide_eq_false ht)).mono ?_
      rintro e w3 ⟨rfl,B3⟩
      have S3:=SR.below (t:=(some s)) HS.out B3
      have FF3:=HF.out.trans (Fr.ofB (B:=B) B3 (SR.base (t:=(some s)) HS.out))
      clear HF HS
      have HF:=z00 FF3
      have HS:=z00 S3
      clear FF3 S3 B3
      clear ht
      go_wp2_with fail
      by_cases ht:txt xs s.p=(⟨#[105,102]⟩:ByteArray)
      ·have hx:=HX.out
       rw[if_pos ht] at hx
       clear HX
       have HX:=z00 hx
       clear hx
       refine(z74 (s:=s) HS.out hX (by rw[z1j hWd (by decide)];exact decide_eq_true ht)).mono ?_
       clear ht
       rintro e w4 ⟨rfl,S4,F4⟩
       have FF4:=HF.out.trans F4
       clear HF HS
       have HF:=z00 FF4
       have HS:=z00 S4
       clear FF4 S4 F4
       have hx:=HX.out
       unfold zjx at hx
       clear HX
       have HX:=z00 hx
       clear hx
       go_wp2_with fail
       rcases z09 HX.out with⟨h5,rfl⟩|⟨c,s5,h5,hr5⟩
       ·refine(zm8 (o:=none) HS.out hX hM (fun b hb=>Nat.lt_of_lt_of_le (hA b hb) HF.out.size) hV h5).mono ?_
        rintro e w5 ⟨⟨cx,rfl,-⟩,S5,F5⟩
        clear HX h5
        have FF5:=HF.out.trans F5
        clear HF HS
        have HF:=z00 FF5
        have HS:=z00 S5
        clear FF5 S5 F5
        have B6:Below w5.heap.size w5 (w5.alloc (.cells #[.int .i64 cx] tI)):=(Below.refl _ _).alloc (Nat.le_refl _) _
        have R6:SR B g xs (z0g A (.slice (some ⟨w5.heap.size,0,none⟩) 1 1)) (w5.alloc (.cells #[.int .i64 cx] tI)) none:=(SR.avoid (A':=z0g A (.slice (some ⟨w5.heap.size,0,none⟩) 1 1)) (t:=none) HS.out (fun k hk=>hk.imp_right (fun e=>by injection e with e;show w5.heap.size≤k;exact Nat.le_of_eq e))).below B6
        have o6:(w5.alloc (.cells #[.int .i64 cx] tI)).ownsRow w.heap.size tI 1 (.slice (some ⟨w5.heap.size,0,none⟩) 1 1) 1 (z02 [cx]):=World.ownsRow_lit w5 #[.int .i64 cx] 1 HF.out.size (by decide) rfl
        have FF6:=HF.out.trans (Fr.ofB (B:=B) B6 (SR.base (t:=none) HS.out))
        clear HF HS
        have HF:=z00 FF6
        have HS:=z00 R6
        have HP:=z00 o6
        clear FF6 R6 o6 B6
        go_wp2_with fail
        refine(hBk _ _ _ none (z0g.lt hA HF.out.size HP.out) HS.out rfl).mono ?_
        rintro e w7 ⟨⟨b1x,rfl,-⟩,S7,F7⟩
        have o7:=F7.ints HP.out
        have FF7:=HF.out.trans F7
        clear HF HS HP
        have HF:=z00 FF7
        have HS:=z00 S7
        have HP:=z00 o7
        clear FF7 S7 F7 o7
        have hs8:=HF.out.size
        go_wp2_with (at_builtin;refine z04 rfl _ _ 29 rfl w.heap.size 3 i0 _ 1 8 Tryz.underlying29 hi hz0 hz1 hz2 rfl (by decide) (.slice (some ⟨w5.heap.size,0,none⟩) 1 1) (1) (z02 [cx]) rfl (HP.out.alloc _) ⟨w7.heap.size,0,none⟩ 1 1 [.int .i64 b1x] rfl rfl (cell_one_new _ _ _) (by simp[Value.oneCell']) (by unfold maxLen;omega) (by omega) (by simp;omega) ?_;intro v' w8 hown' hgrow5 hpl5)
        have B8:Below w7.heap.size w7 (w7.alloc (.cells #[.int .i64 b1x] tI)):=(Below.refl _ _).alloc (Nat.le_refl _) _
        have FF8:=(HF.out.trans (Fr.ofB (B:=B) B8 (SR.base (t:=none) HS.out))).growI hbase hgrow5 (fun b hb=>(HP.out.lt b hb).1)
        have R8:=(SR.below (t:=none) HS.out B8).growI (A':=z0g A v') (HP.out.alloc _) hgrow5 (fun b hb=>.inr hb) (fun b hb=>by
         rcases hb with hb|hb
         ·exact .inl (.inl hb)
         ·rcases hpl5 b hb with h6|h6
          ·exact .inl (.inr h6)
          ·exact .inr h6)
        have o8:=z0c (ks:=[cx]) (k:=b1x) hown' rfl
        clear hown' hgrow5 hpl5 HF HS HP hs8 B8
        obtain⟨ao8,cc8,rfl⟩:=z06 o8
        have HF:=z00 FF8
        have HS:=z00 R8
        have HP:=z00 o8
        clear FF8 R8 o8
        refine(z2t (t:=none) HS.out rfl).mono ?_
        rintro e w9 ⟨rfl,B9⟩
        have S9:=SR.below (t:=none) HS.out B9
        have FF9:=HF.out.trans (Fr.ofB (B:=B) B9 (SR.base (t:=none) HS.out))
        have o9:=z07 HP.out B9
        clear HF HS HP
        have HF:=z00 FF9
        have HS:=z00 S9
        have HP:=z00 o9
        clear FF9 S9 B9 o9
        go_wp2_with fail
        refine(z14 (o:=none) 16 ByteArray.empty ([cx]++[b1x]) (ao8) cc8 (SR.avoid (t:=none) HS.out (fun k hk=>.inl (.inl hk))) (z01 HP.out hbase) (fun b hb hb2=>by have h7:=(HP.out.lt b hb).1;have h8:=hA b hb2;omega) rfl).mono ?_
        rintro e we ⟨⟨k9,rfl,hk9⟩,S9,F9⟩
        have HH:=z00 (show z0j B g xs A w VNs _ (.returned (.int .i64 k9)) we from⟨⟨k9,rfl,hk9⟩,S9,HF.out.trans F9⟩)
        clear S9 F9 HF HS
        go_wp2
        go_ret
        exact HH.out
       ·refine(zm8 (o:=(some (c,s5))) HS.out hX hM (fun b hb=>Nat.lt_of_lt_of_le (hA b hb) HF.out.size) hV h5).mono ?_
        rintro e w5 ⟨⟨cx,rfl,hcx⟩,S5,F5⟩
        obtain rfl:cx=((c:Nat):Int):=hcx c rfl
        clear HX
        have HX:=z00 hr5
        clear h5 hr5 hcx
        have FF5:=HF.out.trans F5
        clear HF HS
        have HF:=z00 FF5
        have HS:=z00 S5
        clear FF5 S5 F5
        have B6:Below w5.heap.size w5 (w5.alloc (.cells #[.int .i64 ((c:Nat):Int)] tI)):=(Below.refl _ _).alloc (Nat.le_refl _) _
        have R6:SR B g xs (z0g A (.slice (some ⟨w5.heap.size,0,none⟩) 1 1)) (w5.alloc (.cells #[.int .i64 ((c:Nat):Int)] tI)) (some s5):=(SR.avoid (A':=z0g A (.slice (some ⟨w5.heap.size,0,none⟩) 1 1)) (t:=(some s5)) HS.out (fun k hk=>hk.imp_right (fun e=>by injection e with e;show w5.heap.size≤k;exact Nat.le_of_eq e))).below B6
        have o6:(w5.alloc (.cells #[.int .i64 ((c:Nat):Int)] tI)).ownsRow w.heap.size tI 1 (.slice (some ⟨w5.heap.size,0,none⟩) 1 1) 1 (z02 [((c:Nat):Int)]):=World.ownsRow_lit w5 #[.int .i64 ((c:Nat):Int)] 1 HF.out.size (by decide) rfl
        have FF6:=HF.out.trans (Fr.ofB (B:=B) B6 (SR.base (t:=(some s5)) HS.out))
        clear HF HS
        have HF:=z00 FF6
        have HS:=z00 R6
        have HP:=z00 o6
        clear FF6 R6 o6 B6
        go_wp2_with fail
        rcases z09 HX.out with⟨h7,rfl⟩|⟨b1,s7,h7,hr7⟩
        ·refine(hBk _ _ _ none (z0g.lt hA HF.out.size HP.out) HS.out h7).mono ?_
         rintro e w7 ⟨⟨b1x,rfl,-⟩,S7,F7⟩
         clear HX h7
         have o7:=F7.ints HP.out
         have FF7:=HF.out.trans F7
         clear HF HS HP
         have HF:=z00 FF7
         have HS:=z00 S7
         have HP:=z00 o7
         clear FF7 S7 F7 o7
         have hs8:=HF.out.size
         go_wp2_with (at_builtin;refine z04 rfl _ _ 29 rfl w.heap.size 3 i0 _ 1 8 Tryz.underlying29 hi hz0 hz1 hz2 rfl (by decide) (.slice (some ⟨w5.heap.size,0,none⟩) 1 1) (1) (z02 [((c:Nat):Int)]) rfl (HP.out.alloc _) ⟨w7.heap.size,0,none⟩ 1 1 [.int .i64 b1x] rfl rfl (cell_one_new _ _ _) (by simp[Value.oneCell']) (by unfold maxLen;omega) (by omega) (by simp;omega) ?_;intro v' w8 hown' hgrow5 hpl5)
         have B8:Below w7.heap.size w7 (w7.alloc (.cells #[.int .i64 b1x] tI)):=(Below.refl _ _).alloc (Nat.le_refl _) _
         have FF8:=(HF.out.trans (Fr.ofB (B:=B) B8 (SR.base (t:=none) HS.out))).growI hbase hgrow5 (fun b hb=>(HP.out.lt b hb).1)
         have R8:=(SR.below (t:=none) HS.out B8).growI (A':=z0g A v') (HP.out.alloc _) hgrow5 (fun b hb=>.inr hb) (fun b hb=>by
          rcases hb with hb|hb
          ·exact .inl (.inl hb)
          ·rcases hpl5 b hb with h6|h6
           ·exact .inl (.inr h6)
           ·exact .inr h6)
         have o8:=z0c (ks:=[((c:Nat):Int)]) (k:=b1x) hown' rfl
         clear hown' hgrow5 hpl5 HF HS HP hs8 B8
         obtain⟨ao8,cc8,rfl⟩:=z06 o8
         have HF:=z00 FF8
         have HS:=z00 R8
         have HP:=z00 o8
         clear FF8 R8 o8
         refine(z2t (t:=none) HS.out rfl).mono ?_
         rintro e w9 ⟨rfl,B9⟩
         have S9:=SR.below (t:=none) HS.out B9
         have FF9:=HF.out.trans (Fr.ofB (B:=B) B9 (SR.base (t:=none) HS.out))
         have o9:=z07 HP.out B9
         clear HF HS HP
         have HF:=z00 FF9
         have HS:=z00 S9
         have HP:=z00 o9
         clear FF9 S9 B9 o9
         go_wp2_with fail
         refine(z14 (o:=none) 16 ByteArray.empty ([((c:Nat):Int)]++[b1x]) (ao8) cc8 (SR.avoid (t:=none) HS.out (fun k hk=>.inl (.inl hk))) (z01 HP.out hbase) (fun b hb hb2=>by have h7:=(HP.out.lt b hb).1;have h8:=hA b hb2;omega) rfl).mono ?_
         rintro e we ⟨⟨k9,rfl,hk9⟩,S9,F9⟩
         have HH:=z00 (show z0j B g xs A w VNs _ (.returned (.int .i64 k9)) we from⟨⟨k9,rfl,hk9⟩,S9,HF.out.trans F9⟩)
         clear S9 F9 HF HS
         go_wp2
         go_ret
         exact HH.out
        ·refine(hBk _ _ _ (some (b1,s7)) (z0g.lt hA HF.out.size HP.out) HS.out h7).mono ?_
         rintro e w7 ⟨⟨b1x,rfl,hb1x⟩,S7,F7⟩
         obtain rfl:b1x=((b1:Nat):Int):=hb1x b1 rfl
         clear HX
         have HX:=z00 hr7
         clear h7 hr7 hb1x
         have o7:=F7.ints HP.out
         have FF7:=HF.out.trans F7
         clear HF HS HP
         have HF:=z00 FF7
         have HS:=z00 S7
         have HP:=z00 o7
         clear FF7 S7 F7 o7
         have hs8:=HF.out.size
         go_wp2_with (at_builtin;refine z04 rfl _ _ 29 rfl w.heap.size 3 i0 _ 1 8 Tryz.underlying29 hi hz0 hz1 hz2 rfl (by decide) (.slice (some ⟨w5.heap.size,0,none⟩) 1 1) (1) (z02 [((c:Nat):Int)]) rfl (HP.out.alloc _) ⟨w7.heap.size,0,none⟩ 1 1 [.int .i64 ((b1:Nat):Int)] rfl rfl (cell_one_new _ _ _) (by simp[Value.oneCell']) (by unfold maxLen;omega) (by omega) (by simp;omega) ?_;intro v' w8 hown' hgrow5 hpl5)
         have B8:Below w7.heap.size w7 (w7.alloc (.cells #[.int .i64 ((b1:Nat):Int)] tI)):=(Below.refl _ _).alloc (Nat.le_refl _) _
         have FF8:=(HF.out.trans (Fr.ofB (B:=B) B8 (SR.base (t:=(some s7)) HS.out))).growI hbase hgrow5 (fun b hb=>(HP.out.lt b hb).1)
         have R8:=(SR.below (t:=(some s7)) HS.out B8).growI (A':=z0g A v') (HP.out.alloc _) hgrow5 (fun b hb=>.inr hb) (fun b hb=>by
          rcases hb with hb|hb
          ·exact .inl (.inl hb)
          ·rcases hpl5 b hb with h6|h6
           ·exact .inl (.inr h6)
           ·exact .inr h6)
         have o8:=z0c (ks:=[((c:Nat):Int)]) (k:=((b1:Nat):Int)) hown' rfl
         clear hown' hgrow5 hpl5 HF HS HP hs8 B8
         obtain⟨ao8,cc8,rfl⟩:=z06 o8
         have HF:=z00 FF8
         have HS:=z00 R8
         have HP:=z00 o8
         clear FF8 R8 o8
         by_cases ht:txt xs s7.p=(⟨#[101,108,115,101]⟩:ByteArray)
         ·have hx:=HX.out
          rw[if_pos ht] at hx
          clear HX
          have HX:=z00 hx
          clear hx
          refine(z74 (s:=s7) HS.out hX (by rw[z1j hWd (by decide)];exact decide_eq_true ht)).mono ?_
          clear ht
          rintro e w9 ⟨rfl,S9,F9⟩
          have o9:=F9.ints HP.out
          have FF9:=HF.out.trans F9
          clear HF HS HP
          have HF:=z00 FF9
          have HS:=z00 S9
          have HP:=z00 o9
          clear FF9 S9 F9 o9
          go_wp2_with fail
          rcases z09 HX.out with⟨h10,rfl⟩|⟨b2,s10,h10,hr10⟩
          ·refine(hBk _ _ _ none (z0g.lt hA HF.out.size HP.out) HS.out h10).mono ?_
           rintro e w10 ⟨⟨b2x,rfl,-⟩,S10,F10⟩
           clear HX h10
           have o10:=F10.ints HP.out
           have FF10:=HF.out.trans F10
           clear HF HS HP
           have HF:=z00 FF10
           have HS:=z00 S10
           have HP:=z00 o10
           clear FF10 S10 F10 o10
           have hlnn:([((c:Nat):Int)]++[((b1:Nat):Int)]).length=2:=rfl
           have hs11:=HF.out.size
           go_wp2_with (at_builtin;refine z04 rfl _ _ 29 rfl w.heap.size 3 i0 _ 1 8 Tryz.underlying29 hi hz0 hz1 hz2 rfl (by decide) (.slice ao8 ([((c:Nat):Int)]++[((b1:Nat):Int)]).length cc8) (([((c:Nat):Int)]++[((b1:Nat):Int)]).length) (z02 ([((c:Nat):Int)]++[((b1:Nat):Int)])) rfl (HP.out.alloc _) ⟨w10.heap.size,0,none⟩ 1 1 [.int .i64 b2x] rfl rfl (cell_one_new _ _ _) (by simp[Value.oneCell']) (by unfold maxLen;omega) (by omega) (by simp;omega) ?_;intro v' w11 hown' hgrow5 hpl5)
           have B11:Below w10.heap.size w10 (w10.alloc (.cells #[.int .i64 b2x] tI)):=(Below.refl _ _).alloc (Nat.le_refl _) _
           have FF11:=(HF.out.trans (Fr.ofB (B:=B) B11 (SR.base (t:=none) HS.out))).growI hbase hgrow5 (fun b hb=>(HP.out.lt b hb).1)
           have R11:=(SR.below (t:=none) HS.out B11).growI (A':=z0g A v') (HP.out.alloc _) hgrow5 (fun b hb=>.inr hb) (fun b hb=>by
            rcases hb with hb|hb
            ·exact .inl (.inl hb)
            ·rcases hpl5 b hb with h6|h6
             ·exact .inl (.inr h6)
             ·exact .inr h6)
           have o11:=z0c (ks:=([((c:Nat):Int)]++[((b1:Nat):Int)])) (k:=b2x) hown' rfl
           clear hown' hgrow5 hpl5 HF HS HP hs11 B11
           obtain⟨ao11,cc11,rfl⟩:=z06 o11
           have HF:=z00 FF11
           have HS:=z00 R11
           have HP:=z00 o11
           clear FF11 R11 o11
           refine(z14 (o:=none) 16 ByteArray.empty (([((c:Nat):Int)]++[((b1:Nat):Int)])++[b2x]) (ao11) cc11 (SR.avoid (t:=none) HS.out (fun k hk=>.inl (.inl hk))) (z01 HP.out hbase) (fun b hb hb2=>by have h7:=(HP.out.lt b hb).1;have h8:=hA b hb2;omega) rfl).mono ?_
           rintro e we ⟨⟨k9,rfl,hk9⟩,S9,F9⟩
           have HH:=z00 (show z0j B g xs A w VNs _ (.returned (.int .i64 k9)) we from⟨⟨k9,rfl,hk9⟩,S9,HF.out.trans F9⟩)
           clear S9 F9 HF HS
           go_wp2
           go_ret
           exact HH.out
          ·refine(hBk _ _ _ (some (b2,s10)) (z0g.lt hA HF.out.size HP.out) HS.out h10).mono ?_
           rintro e w10 ⟨⟨b2x,rfl,hb2x⟩,S10,F10⟩
           obtain rfl:b2x=((b2:Nat):Int):=hb2x b2 rfl
           clear HX
           have HX:=z00 hr10
           clear h10 hr10 hb2x
           have o10:=F10.ints HP.out
           have FF10:=HF.out.trans F10
           clear HF HS HP
           have HF:=z00 FF10
           have HS:=z00 S10
           have HP:=z00 o10
           clear FF10 S10 F10 o10
           have hlnn:([((c:Nat):Int)]++[((b1:Nat):Int)]).length=2:=rfl
           have hs11:=HF.out.size
           go_wp2_with (at_builtin;refine z04 rfl _ _ 29 rfl w.heap.size 3 i0 _ 1 8 Tryz.underlying29 hi hz0 hz1 hz2 rfl (by decide) (.slice ao8 ([((c:Nat):Int)]++[((b1:Nat):Int)]).length cc8) (([((c:Nat):Int)]++[((b1:Nat):Int)]).length) (z02 ([((c:Nat):Int)]++[((b1:Nat):Int)])) rfl (HP.out.alloc _) ⟨w10.heap.size,0,none⟩ 1 1 [.int .i64 ((b2:Nat):Int)] rfl rfl (cell_one_new _ _ _) (by simp[Value.oneCell']) (by unfold maxLen;omega) (by omega) (by simp;omega) ?_;intro v' w11 hown' hgrow5 hpl5)
           have B11:Below w10.heap.size w10 (w10.alloc (.cells #[.int .i64 ((b2:Nat):Int)] tI)):=(Below.refl _ _).alloc (Nat.le_refl _) _
           have FF11:=(HF.out.trans (Fr.ofB (B:=B) B11 (SR.base (t:=(some s10)) HS.out))).growI hbase hgrow5 (fun b hb=>(HP.out.lt b hb).1)
           have R11:=(SR.below (t:=(some s10)) HS.out B11).growI (A':=z0g A v') (HP.out.alloc _) hgrow5 (fun b hb=>.inr hb) (fun b hb=>by
            rcases hb with hb|hb
            ·exact .inl (.inl hb)
            ·rcases hpl5 b hb with h6|h6
             ·exact .inl (.inr h6)
             ·exact .inr h6)
           have o11:=z0c (ks:=([((c:Nat):Int)]++[((b1:Nat):Int)])) (k:=((b2:Nat):Int)) hown' rfl
           clear hown' hgrow5 hpl5 HF HS HP hs11 B11
           obtain⟨ao11,cc11,rfl⟩:=z06 o11
           have HF:=z00 FF11
           have HS:=z00 R11
           have HP:=z00 o11
           clear FF11 R11 o11
           refine(z14 (o:=o) 16 ByteArray.empty (([((c:Nat):Int)]++[((b1:Nat):Int)])++[((b2:Nat):Int)]) (ao11) cc11 (SR.avoid (t:=some s10) HS.out (fun k hk=>.inl (.inl hk))) (z01 HP.out hbase) (fun b hb hb2=>by have h7:=(HP.out.lt b hb).1;have h8:=hA b hb2;omega) HX.out).mono ?_
           rintro e we ⟨⟨k9,rfl,hk9⟩,S9,F9⟩
           have HH:=z00 (show z0j B g xs A w VNs _ (.returned (.int .i64 k9)) we from⟨⟨k9,rfl,hk9⟩,S9,HF.out.trans F9⟩)
           clear S9 F9 HF HS
           go_wp2
           go_ret
           exact HH.out
         ·have hx:=HX.out
          rw[if_neg ht] at hx
          clear HX
          have HX:=z00 hx
          clear hx
          refine(z2t (t:=some s7) HS.out (by rw[z1j hWd (by decide)];exact decide_eq_false ht)).mono ?_
          rintro e w9 ⟨rfl,B9⟩
          have S9:=SR.below (t:=(some s7)) HS.out B9
          have FF9:=HF.out.trans (Fr.ofB (B:=B) B9 (SR.base (t:=(some s7)) HS.out))
          have o9:=z07 HP.out B9
          clear HF HS HP
          have HF:=z00 FF9
          have HS:=z00 S9
          have HP:=z00 o9
          clear FF9 S9 B9 o9
          clear ht
          go_wp2_with fail
          refine(z14 (o:=o) 16 ByteArray.empty ([((c:Nat):Int)]++[((b1:Nat):Int)]) (ao8) cc8 (SR.avoid (t:=some s7) HS.out (fun k hk=>.inl (.inl hk))) (z01 HP.out hbase) (fun b hb hb2=>by have h7:=(HP.out.lt b hb).1;have h8:=hA b hb2;omega) HX.out).mono ?_
          rintro e we ⟨⟨k9,rfl,hk9⟩,S9,F9⟩
          have HH:=z00 (show z0j B g xs A w VNs _ (.returned (.int .i64 k9)) we from⟨⟨k9,rfl,hk9⟩,S9,HF.out.trans F9⟩)
          clear S9 F9 HF HS
          go_wp2
          go_ret
          exact HH.out
      ·have hx:=HX.out
       rw[if_neg ht] at hx
       clear HX
       have HX:=z00 hx
       clear hx
       refine(z2t (t:=some s) HS.out (by rw[z1j hWd (by decide)];exact decide_eq_false ht)).mono ?_
       rintro e w4 ⟨rfl,B4⟩
       have S4:=SR.below (t:=(some s)) HS.out B4
       have FF4:=HF.out.trans (Fr.ofB (B:=B) B4 (SR.base (t:=(some s)) HS.out))
       clear HF HS
       have HF:=z00 FF4
       have HS:=z00 S4
       clear FF4 S4 B4
       clear ht
       go_wp2_with fail
       by_cases ht:txt xs s.p=(⟨#[119,104,105,108,101]⟩:ByteArray)
       ·have hx:=HX.out
        rw[if_pos ht] at hx
        clear HX
        have HX:=z00 hx
        clear hx
        refine(z74 (s:=s) HS.out hX (by rw[z1j hWd (by decide)];exact decide_eq_true ht)).mono ?_
        clear ht
        rintro e w5 ⟨rfl,S5,F5⟩
        have FF5:=HF.out.trans F5
        clear HF HS
        have HF:=z00 FF5
        have HS:=z00 S5
        clear FF5 S5 F5
        have hx:=HX.out
        unfold zij at hx
        clear HX
        have HX:=z00 hx
        clear hx
        go_wp2_with fail
        rcases z09 HX.out with⟨h6,rfl⟩|⟨c,s6,h6,hr6⟩
        ·refine(zm8 (o:=none) HS.out hX hM (fun b hb=>Nat.lt_of_lt_of_le (hA b hb) HF.out.size) hV h6).mono ?_
         rintro e w6 ⟨⟨cx,rfl,-⟩,S6,F6⟩
         clear HX h6
         have FF6:=HF.out.trans F6
         clear HF HS
         have HF:=z00 FF6
         have HS:=z00 S6
         clear FF6 S6 F6
         have B7:Below w6.heap.size w6 (w6.alloc (.cells #[.int .i64 cx] tI)):=(Below.refl _ _).alloc (Nat.le_refl _) _
         have R7:SR B g xs (z0g A (.slice (some ⟨w6.heap.size,0,none⟩) 1 1)) (w6.alloc (.cells #[.int .i64 cx] tI)) none:=(SR.avoid (A':=z0g A (.slice (some ⟨w6.heap.size,0,none⟩) 1 1)) (t:=none) HS.out (fun k hk=>hk.imp_right (fun e=>by injection e with e;show w6.heap.size≤k;exact Nat.le_of_eq e))).below B7
         have o7:(w6.alloc (.cells #[.int .i64 cx] tI)).ownsRow w.heap.size tI 1 (.slice (some ⟨w6.heap.size,0,none⟩) 1 1) 1 (z02 [cx]):=World.ownsRow_lit w6 #[.int .i64 cx] 1 HF.out.size (by decide) rfl
         have FF7:=HF.out.trans (Fr.ofB (B:=B) B7 (SR.base (t:=none) HS.out))
         clear HF HS
         have HF:=z00 FF7
         have HS:=z00 R7
         have HP:=z00 o7
         clear FF7 R7 o7 B7
         go_wp2_with fail
         refine(hBk _ _ _ none (z0g.lt hA HF.out.size HP.out) HS.out rfl).mono ?_
         rintro e w8 ⟨⟨b1x,rfl,-⟩,S8,F8⟩
         have o8:=F8.ints HP.out
         have FF8:=HF.out.trans F8
         clear HF HS HP
         have HF:=z00 FF8
         have HS:=z00 S8
         have HP:=z00 o8
         clear FF8 S8 F8 o8
         have hs9:=HF.out.size
         go_wp2_with (at_builtin;refine z04 rfl _ _ 29 rfl w.heap.size 3 i0 _ 1 8 Tryz.underlying29 hi hz0 hz1 hz2 rfl (by decide) (.slice (some ⟨w6.heap.size,0,none⟩) 1 1) (1) (z02 [cx]) rfl (HP.out.alloc _) ⟨w8.heap.size,0,none⟩ 1 1 [.int .i64 b1x] rfl rfl (cell_one_new _ _ _) (by simp[Value.oneCell']) (by unfold maxLen;omega) (by omega) (by simp;omega) ?_;intro v' w9 hown' hgrow5 hpl5)
         have B9:Below w8.heap.size w8 (w8.alloc (.cells #[.int .i64 b1x] tI)):=(Below.refl _ _).alloc (Nat.le_refl _) _
         have FF9:=(HF.out.trans (Fr.ofB (B:=B) B9 (SR.base (t:=none) HS.out))).growI hbase hgrow5 (fun b hb=>(HP.out.lt b hb).1)
         have R9:=(SR.below (t:=none) HS.out B9).growI (A':=z0g A v') (HP.out.alloc _) hgrow5 (fun b hb=>.inr hb) (fun b hb=>by
          rcases hb with hb|hb
          ·exact .inl (.inl hb)
          ·rcases hpl5 b hb with h6|h6
           ·exact .inl (.inr h6)
           ·exact .inr h6)
         have o9:=z0c (ks:=[cx]) (k:=b1x) hown' rfl
         clear hown' hgrow5 hpl5 HF HS HP hs9 B9
         obtain⟨ao9,cc9,rfl⟩:=z06 o9
         have HF:=z00 FF9
         have HS:=z00 R9
         have HP:=z00 o9
         clear FF9 R9 o9
         refine(z14 (o:=none) 17 ByteArray.empty ([cx]++[b1x]) (ao9) cc9 (SR.avoid (t:=none) HS.out (fun k hk=>.inl (.inl hk))) (z01 HP.out hbase) (fun b hb hb2=>by have h7:=(HP.out.lt b hb).1;have h8:=hA b hb2;omega) rfl).mono ?_
         rintro e we ⟨⟨k9,rfl,hk9⟩,S9,F9⟩
         have HH:=z00 (show z0j B g xs A w VNs _ (.returned (.int .i64 k9)) we from⟨⟨k9,rfl,hk9⟩,S9,HF.out.trans F9⟩)
         clear S9 F9 HF HS
         go_wp2
         go_ret
         exact HH.out
        ·refine(zm8 (o:=(some (c,s6))) HS.out hX hM (fun b hb=>Nat.lt_of_lt_of_le (hA b hb) HF.out.size) hV h6).mono ?_
         rintro e w6 ⟨⟨cx,rfl,hcx⟩,S6,F6⟩
         obtain rfl:cx=((c:Nat):Int):=hcx c rfl
         clear HX
         have HX:=z00 hr6
         clear h6 hr6 hcx
         have FF6:=HF.out.trans F6
         clear HF HS
         have HF:=z00 FF6
         have HS:=z00 S6
         clear FF6 S6 F6
         have B7:Below w6.heap.size w6 (w6.alloc (.cells #[.int .i64 ((c:Nat):Int)] tI)):=(Below.refl _ _).alloc (Nat.le_refl _) _
         have R7:SR B g xs (z0g A (.slice (some ⟨w6.heap.size,0,none⟩) 1 1)) (w6.alloc (.cells #[.int .i64 ((c:Nat):Int)] tI)) (some s6):=(SR.avoid (A':=z0g A (.slice (some ⟨w6.heap.size,0,none⟩) 1 1)) (t:=(some s6)) HS.out (fun k hk=>hk.imp_right (fun e=>by injection e with e;show w6.heap.size≤k;exact Nat.le_of_eq e))).below B7
         have o7:(w6.alloc (.cells #[.int .i64 ((c:Nat):Int)] tI)).ownsRow w.heap.size tI 1 (.slice (some ⟨w6.heap.size,0,none⟩) 1 1) 1 (z02 [((c:Nat):Int)]):=World.ownsRow_lit w6 #[.int .i64 ((c:Nat):Int)] 1 HF.out.size (by decide) rfl
         have FF7:=HF.out.trans (Fr.ofB (B:=B) B7 (SR.base (t:=(some s6)) HS.out))
         clear HF HS
         have HF:=z00 FF7
         have HS:=z00 R7
         have HP:=z00 o7
         clear FF7 R7 o7 B7
         go_wp2_with fail
         rcases z09 HX.out with⟨h8,rfl⟩|⟨b1,s8,h8,hr8⟩
         ·refine(hBk _ _ _ none (z0g.lt hA HF.out.size HP.out) HS.out h8).mono ?_
          rintro e w8 ⟨⟨b1x,rfl,-⟩,S8,F8⟩
          clear HX h8
          have o8:=F8.ints HP.out
          have FF8:=HF.out.trans F8
          clear HF HS HP
          have HF:=z00 FF8
          have HS:=z00 S8
          have HP:=z00 o8
          clear FF8 S8 F8 o8
          have hs9:=HF.out.size
          go_wp2_with (at_builtin;refine z04 rfl _ _ 29 rfl w.heap.size 3 i0 _ 1 8 Tryz.underlying29 hi hz0 hz1 hz2 rfl (by decide) (.slice (some ⟨w6.heap.size,0,none⟩) 1 1) (1) (z02 [((c:Nat):Int)]) rfl (HP.out.alloc _) ⟨w8.heap.size,0,none⟩ 1 1 [.int .i64 b1x] rfl rfl (cell_one_new _ _ _) (by simp[Value.oneCell']) (by unfold maxLen;omega) (by omega) (by simp;omega) ?_;intro v' w9 hown' hgrow5 hpl5)
          have B9:Below w8.heap.size w8 (w8.alloc (.cells #[.int .i64 b1x] tI)):=(Below.refl _ _).alloc (Nat.le_refl _) _
          have FF9:=(HF.out.trans (Fr.ofB (B:=B) B9 (SR.base (t:=none) HS.out))).growI hbase hgrow5 (fun b hb=>(HP.out.lt b hb).1)
          have R9:=(SR.below (t:=none) HS.out B9).growI (A':=z0g A v') (HP.out.alloc _) hgrow5 (fun b hb=>.inr hb) (fun b hb=>by
           rcases hb with hb|hb
           ·exact .inl (.inl hb)
           ·rcases hpl5 b hb with h6|h6
            ·exact .inl (.inr h6)
            ·exact .inr h6)
          have o9:=z0c (ks:=[((c:Nat):Int)]) (k:=b1x) hown' rfl
          clear hown' hgrow5 hpl5 HF HS HP hs9 B9
          obtain⟨ao9,cc9,rfl⟩:=z06 o9
          have HF:=z00 FF9
          have HS:=z00 R9
          have HP:=z00 o9
          clear FF9 R9 o9
          refine(z14 (o:=none) 17 ByteArray.empty ([((c:Nat):Int)]++[b1x]) (ao9) cc9 (SR.avoid (t:=none) HS.out (fun k hk=>.inl (.inl hk))) (z01 HP.out hbase) (fun b hb hb2=>by have h7:=(HP.out.lt b hb).1;have h8:=hA b hb2;omega) rfl).mono ?_
          rintro e we ⟨⟨k9,rfl,hk9⟩,S9,F9⟩
          have HH:=z00 (show z0j B g xs A w VNs _ (.returned (.int .i64 k9)) we from⟨⟨k9,rfl,hk9⟩,S9,HF.out.trans F9⟩)
          clear S9 F9 HF HS
          go_wp2
          go_ret
          exact HH.out
         ·refine(hBk _ _ _ (some (b1,s8)) (z0g.lt hA HF.out.size HP.out) HS.out h8).mono ?_
          rintro e w8 ⟨⟨b1x,rfl,hb1x⟩,S8,F8⟩
          obtain rfl:b1x=((b1:Nat):Int):=hb1x b1 rfl
          clear HX
          have HX:=z00 hr8
          clear h8 hr8 hb1x
          have o8:=F8.ints HP.out
          have FF8:=HF.out.trans F8
          clear HF HS HP
          have HF:=z00 FF8
          have HS:=z00 S8
          have HP:=z00 o8
          clear FF8 S8 F8 o8
          have hs9:=HF.out.size
          go_wp2_with (at_builtin;refine z04 rfl _ _ 29 rfl w.heap.size 3 i0 _ 1 8 Tryz.underlying29 hi hz0 hz1 hz2 rfl (by decide) (.slice (some ⟨w6.heap.size,0,none⟩) 1 1) (1) (z02 [((c:Nat):Int)]) rfl (HP.out.alloc _) ⟨w8.heap.size,0,none⟩ 1 1 [.int .i64 ((b1:Nat):Int)] rfl rfl (cell_one_new _ _ _) (by simp[Value.oneCell']) (by unfold maxLen;omega) (by omega) (by simp;omega) ?_;intro v' w9 hown' hgrow5 hpl5)
          have B9:Below w8.heap.size w8 (w8.alloc (.cells #[.int .i64 ((b1:Nat):Int)] tI)):=(Below.refl _ _).alloc (Nat.le_refl _) _
          have FF9:=(HF.out.trans (Fr.ofB (B:=B) B9 (SR.base (t:=(some s8)) HS.out))).growI hbase hgrow5 (fun b hb=>(HP.out.lt b hb).1)
          have R9:=(SR.below (t:=(some s8)) HS.out B9).growI (A':=z0g A v') (HP.out.alloc _) hgrow5 (fun b hb=>.inr hb) (fun b hb=>by
           rcases hb with hb|hb
           ·exact .inl (.inl hb)
           ·rcases hpl5 b hb with h6|h6
            ·exact .inl (.inr h6)
            ·exact .inr h6)
          have o9:=z0c (ks:=[((c:Nat):Int)]) (k:=((b1:Nat):Int)) hown' rfl
          clear hown' hgrow5 hpl5 HF HS HP hs9 B9
          obtain⟨ao9,cc9,rfl⟩:=z06 o9
          have HF:=z00 FF9
          have HS:=z00 R9
          have HP:=z00 o9
          clear FF9 R9 o9
          refine(z14 (o:=o) 17 ByteArray.empty ([((c:Nat):Int)]++[((b1:Nat):Int)]) (ao9) cc9 (SR.avoid (t:=some s8) HS.out (fun k hk=>.inl (.inl hk))) (z01 HP.out hbase) (fun b hb hb2=>by have h7:=(HP.out.lt b hb).1;have h8:=hA b hb2;omega) HX.out).mono ?_
          rintro e we ⟨⟨k9,rfl,hk9⟩,S9,F9⟩
          have HH:=z00 (show z0j B g xs A w VNs _ (.returned (.int .i64 k9)) we from⟨⟨k9,rfl,hk9⟩,S9,HF.out.trans F9⟩)
          clear S9 F9 HF HS
          go_wp2
          go_ret
          exact HH.out
       ·have hx:=HX.out
        rw[if_neg ht] at hx
        clear HX
        have HX:=z00 hx
        clear hx
        refine(z2t (t:=some s) HS.out (by rw[z1j hWd (by decide)];exact decide_eq_false ht)).mono ?_
        rintro e w5 ⟨rfl,B5⟩
        have S5:=SR.below (t:=(some s)) HS.out B5
        have FF5:=HF.out.trans (Fr.ofB (B:=B) B5 (SR.base (t:=(some s)) HS.out))
        clear HF HS
        have HF:=z00 FF5
        have HS:=z00 S5
        clear FF5 S5 B5
        clear ht
        by_cases hn:z4r xs s.p=true
        ·obtain⟨sa,sc,na,nc,-,c1,-,-,-,-⟩:=HS.out.1.cells
         have hgg:=HS.out.1.lt
         have hps:=HS.out.1.pos
         have hpl:=zcw hn
         obtain⟨sb,ss,hsb,g0,hcs⟩:=HS.out.1.signs (by omega)
         have hw3:IntKind.i64.wrap ((s.p:Int)+1)=(s.p:Int)+1:=IntWalk.i64_in _ ⟨by omega,by omega⟩
         by_cases hl:s.p+1<xs.length
         ·have hl1:(s.p:Int)+1<(xs.length:Int):=by omega
          have hl0:(0:Int)≤(s.p:Int)+1:=by omega
          have hld:decide ((s.p:Int)+1<(xs.length:Int))=true:=decide_eq_true hl1
          obtain⟨d0,d1⟩:=hcs (s.p+1) hl
          have hm1:=hM (⟨#[61]⟩:ByteArray) (by decide) (s.p+1)
          obtain⟨u1,hu1⟩:∃ u,u=txt xs (s.p+1):=⟨_,rfl⟩
          obtain⟨n1,hn1⟩:∃ u,u=knd xs (s.p+1):=⟨_,rfl⟩
          rw[← hu1] at d1 hm1
          rw[← hn1] at d0 hm1
          have hx:=HX.out
          rw[← hu1] at hx
          clear HX
          by_cases ht:u1=(⟨#[61]⟩:ByteArray)
          ·rw[if_pos (by rw[hn,decide_eq_true ht];rfl)] at hx
           have HX:=z00 hx
           have hk1:=hm1 ht
           have l1:(u1.toList==[61])=true:=by rw[z3a];exact decide_eq_true ht
           have l1k:(n1==4)=true:=by rw[hk1];rfl
           clear hx hu1 hn1 hk1 hm1 hcs ht
           have qK:=fun m=>(z3n (t:=some s) (SR.below (t:=some s) HS.out (z0a w5 m)) 1 (.inl rfl))
           rw[show kdP xs (some s) 1=true from z71 hn] at qK
           go_wp2
           go_quiet ((go_at_call 119;exact Calls.quiet_of (qK _)))
           have B6:Below w5.heap.size w5 (w5.drewN nq):=z0a _ _
           obtain⟨w6,hw6⟩:∃ w6,w6=w5.drewN nq:=⟨_,rfl⟩
           rw[← hw6] at B6 ⊢
           clear hw6 qK
           have S6:=SR.below (t:=(some s)) HS.out B6
           have FF6:=HF.out.trans (Fr.ofB (B:=B) B6 (SR.base (t:=(some s)) HS.out))
           clear HF HS
           have HF:=z00 FF6
           have HS:=z00 S6
           clear FF6 S6 B6
           clear c1 g0 d0 d1 l1 l1k hl hl1 hl0 hld hn
           have hx:=HX.out
           unfold zii at hx
           clear HX
           have HX:=z00 hx
           clear hx
           go_wp2_with fail
           rcases z09 HX.out with⟨h7,rfl⟩|⟨nm,s7,h7,hr7⟩
           ·refine(z4f (o:=none) HS.out hX h7).mono ?_
            rintro e w7 ⟨⟨nmx,rfl,-⟩,S7,F7⟩
            clear HX h7
            have FF7:=HF.out.trans F7
            clear HF HS
            have HF:=z00 FF7
            have HS:=z00 S7
            clear FF7 S7 F7
            go_wp2_with fail
            refine(z0i (o:=none) HS.out hX (hM (⟨#[61]⟩:ByteArray) (by decide)) rfl).mono ?_
            rintro e w8 ⟨rfl,S8,F8⟩
            have FF8:=HF.out.trans F8
            clear HF HS
            have HF:=z00 FF8
            have HS:=z00 S8
            clear FF8 S8 F8
            go_wp2_with fail
            refine(hV _ _ _ none (fun b hb=>Nat.lt_of_lt_of_le (hA b hb) HF.out.size) HS.out rfl).mono ?_
            rintro e w9 ⟨⟨vx,rfl,-⟩,S9,F9⟩
            have FF9:=HF.out.trans F9
            clear HF HS
            have HF:=z00 FF9
            have HS:=z00 S9
            clear FF9 S9 F9
            go_wp2_with fail
            refine(z0i (o:=none) HS.out hX (hM (⟨#[59]⟩:ByteArray) (by decide)) rfl).mono ?_
            rintro e w10 ⟨rfl,S10,F10⟩
            have FF10:=HF.out.trans F10
            clear HF HS
            have HF:=z00 FF10
            have HS:=z00 S10
            clear FF10 S10 F10
            have B11:Below w10.heap.size w10 (w10.alloc (.cells #[.int .i64 vx] tI)):=(Below.refl _ _).alloc (Nat.le_refl _) _
            have R11:SR B g xs (z0g A (.slice (some ⟨w10.heap.size,0,none⟩) 1 1)) (w10.alloc (.cells #[.int .i64 vx] tI)) none:=(SR.avoid (A':=z0g A (.slice (some ⟨w10.heap.size,0,none⟩) 1 1)) (t:=none) HS.out (fun k hk=>hk.imp_right (fun e=>by injection e with e;show w10.heap.size≤k;exact Nat.le_of_eq e))).below B11
            have o11:(w10.alloc (.cells #[.int .i64 vx] tI)).ownsRow w.heap.size tI 1 (.slice (some ⟨w10.heap.size,0,none⟩) 1 1) 1 (z02 [vx]):=World.ownsRow_lit w10 #[.int .i64 vx] 1 HF.out.size (by decide) rfl
            have FF11:=HF.out.trans (Fr.ofB (B:=B) B11 (SR.base (t:=none) HS.out))
            clear HF HS
            have HF:=z00 FF11
            have HS:=z00 R11
            have HP:=z00 o11
            clear FF11 R11 o11 B11
            go_wp2_with fail
            refine(z14 (o:=none) 13 nmx [vx] (some ⟨w10.heap.size,0,none⟩) 1 (SR.avoid (t:=none) HS.out (fun k hk=>.inl (.inl hk))) (z01 HP.out hbase) (fun b hb hb2=>by have h7:=(HP.out.lt b hb).1;have h8:=hA b hb2;omega) rfl).mono ?_
            rintro e we ⟨⟨k9,rfl,hk9⟩,S9,F9⟩
            have HH:=z00 (show z0j B g xs A w VNs _ (.returned (.int .i64 k9)) we from⟨⟨k9,rfl,hk9⟩,S9,HF.out.trans F9⟩)
            clear S9 F9 HF HS
            go_wp2
            go_ret
            exact HH.out
           ·refine(z4f (o:=(some (nm,s7))) HS.out hX h7).mono ?_
            rintro e w7 ⟨⟨nmx,rfl,hnmx⟩,S7,F7⟩
            obtain rfl:nmx=nm:=hnmx nm rfl
            clear HX
            have HX:=z00 hr7
            clear h7 hr7 hnmx
            have FF7:=HF.out.trans F7
            clear HF HS
            have HF:=z00 FF7
            have HS:=z00 S7
            clear FF7 S7 F7
            go_wp2_with fail
            rcases z09 HX.out with⟨h8,rfl⟩|⟨u,s8,h8,hr8⟩
            ·refine(z0i (o:=none) HS.out hX (hM (⟨#[61]⟩:ByteArray) (by decide)) h8).mono ?_
             rintro e w8 ⟨rfl,S8,F8⟩
             clear HX h8
             have FF8:=HF.out.trans F8
             clear HF HS
             have HF:=z00 FF8
             have HS:=z00 S8
             clear FF8 S8 F8
             go_wp2_with fail
             refine(hV _ _ _ none (fun b hb=>Nat.lt_of_lt_of_le (hA b hb) HF.out.size) HS.out rfl).mono ?_
             rintro e w9 ⟨⟨vx,rfl,-⟩,S9,F9⟩
             have FF9:=HF.out.trans F9
             clear HF HS
             have HF:=z00 FF9
             have HS:=z00 S9
             clear FF9 S9 F9
             go_wp2_with fail
             refine(z0i (o:=none) HS.out hX (hM (⟨#[59]⟩:ByteArray) (by decide)) rfl).mono ?_
             rintro e w10 ⟨rfl,S10,F10⟩
             have FF10:=HF.out.trans F10
             clear HF HS
             have HF:=z00 FF10
             have HS:=z00 S10
             clear FF10 S10 F10
             have B11:Below w10.heap.size w10 (w10.alloc (.cells #[.int .i64 vx] tI)):=(Below.refl _ _).alloc (Nat.le_refl _) _
             have R11:SR B g xs (z0g A (.slice (some ⟨w10.heap.size,0,none⟩) 1 1)) (w10.alloc (.cells #[.int .i64 vx] tI)) none:=(SR.avoid (A':=z0g A (.slice (some ⟨w10.heap.size,0,none⟩) 1 1)) (t:=none) HS.out (fun k hk=>hk.imp_right (fun e=>by injection e with e;show w10.heap.size≤k;exact Nat.le_of_eq e))).below B11
             have o11:(w10.alloc (.cells #[.int .i64 vx] tI)).ownsRow w.heap.size tI 1 (.slice (some ⟨w10.heap.size,0,none⟩) 1 1) 1 (z02 [vx]):=World.ownsRow_lit w10 #[.int .i64 vx] 1 HF.out.size (by decide) rfl
             have FF11:=HF.out.trans (Fr.ofB (B:=B) B11 (SR.base (t:=none) HS.out))
             clear HF HS
             have HF:=z00 FF11
             have HS:=z00 R11
             have HP:=z00 o11
             clear FF11 R11 o11 B11
             go_wp2_with fail
             refine(z14 (o:=none) 13 nmx [vx] (some ⟨w10.heap.size,0,none⟩) 1 (SR.avoid (t:=none) HS.out (fun k hk=>.inl (.inl hk))) (z01 HP.out hbase) (fun b hb hb2=>by have h7:=(HP.out.lt b hb).1;have h8:=hA b hb2;omega) rfl).mono ?_
             rintro e we ⟨⟨k9,rfl,hk9⟩,S9,F9⟩
             have HH:=z00 (show z0j B g xs A w VNs _ (.returned (.int .i64 k9)) we from⟨⟨k9,rfl,hk9⟩,S9,HF.out.trans F9⟩)
             clear S9 F9 HF HS
             go_wp2
             go_ret
             exact HH.out
            ·refine(z0i (o:=(some (u,s8))) HS.out hX (hM (⟨#[61]⟩:ByteArray) (by decide)) h8).mono ?_
             rintro e w8 ⟨rfl,S8,F8⟩
             clear HX
             have HX:=z00 hr8
             clear h8 hr8
             have FF8:=HF.out.trans F8
             clear HF HS
             have HF:=z00 FF8
             have HS:=z00 S8
             clear FF8 S8 F8
             go_wp2_with fail
             rcases z09 HX.out with⟨h9,rfl⟩|⟨v,s9,h9,hr9⟩
             ·refine(hV _ _ _ none (fun b hb=>Nat.lt_of_lt_of_le (hA b hb) HF.out.size) HS.out h9).mono ?_
              rintro e w9 ⟨⟨vx,rfl,-⟩,S9,F9⟩
              clear HX h9
              have FF9:=HF.out.trans F9
              clear HF HS
              have HF:=z00 FF9
              have HS:=z00 S9
              clear FF9 S9 F9
              go_wp2_with fail
              refine(z0i (o:=none) HS.out hX (hM (⟨#[59]⟩:ByteArray) (by decide)) rfl).mono ?_
              rintro e w10 ⟨rfl,S10,F10⟩
              have FF10:=HF.out.trans F10
              clear HF HS
              have HF:=z00 FF10
              have HS:=z00 S10
              clear FF10 S10 F10
              have B11:Below w10.heap.size w10 (w10.alloc (.cells #[.int .i64 vx] tI)):=(Below.refl _ _).alloc (Nat.le_refl _) _
              have R11:SR B g xs (z0g A (.slice (some ⟨w10.heap.size,0,none⟩) 1 1)) (w10.alloc (.cells #[.int .i64 vx] tI)) none:=(SR.avoid (A':=z0g A (.slice (some ⟨w10.heap.size,0,none⟩) 1 1)) (t:=none) HS.out (fun k hk=>hk.imp_right (fun e=>by injection e with e;show w10.heap.size≤k;exact Nat.le_of_eq e))).below B11
              have o11:(w10.alloc (.cells #[.int .i64 vx] tI)).ownsRow w.heap.size tI 1 (.slice (some ⟨w10.heap.size,0,none⟩) 1 1) 1 (z02 [vx]):=World.ownsRow_lit w10 #[.int .i64 vx] 1 HF.out.size (by decide) rfl
              have FF11:=HF.out.trans (Fr.ofB (B:=B) B11 (SR.base (t:=none) HS.out))
              clear HF HS
              have HF:=z00 FF11
              have HS:=z00 R11
              have HP:=z00 o11
              clear FF11 R11 o11 B11
              go_wp2_with fail
              refine(z14 (o:=none) 13 nmx [vx] (some ⟨w10.heap.size,0,none⟩) 1 (SR.avoid (t:=none) HS.out (fun k hk=>.inl (.inl hk))) (z01 HP.out hbase) (fun b hb hb2=>by have h7:=(HP.out.lt b hb).1;have h8:=hA b hb2;omega) rfl).mono ?_
              rintro e we ⟨⟨k9,rfl,hk9⟩,S9,F9⟩
              have HH:=z00 (show z0j B g xs A w VNs _ (.returned (.int .i64 k9)) we from⟨⟨k9,rfl,hk9⟩,S9,HF.out.trans F9⟩)
              clear S9 F9 HF HS
              go_wp2
              go_ret
              exact HH.out
             ·refine(hV _ _ _ (some (v,s9)) (fun b hb=>Nat.lt_of_lt_of_le (hA b hb) HF.out.size) HS.out h9).mono ?_
              rintro e w9 ⟨⟨vx,rfl,hvx⟩,S9,F9⟩
              obtain rfl:vx=((v:Nat):Int):=hvx v rfl
              clear HX
              have HX:=z00 hr9
              clear h9 hr9 hvx
              have FF9:=HF.out.trans F9
              clear HF HS
              have HF:=z00 FF9
              have HS:=z00 S9
              clear FF9 S9 F9
              go_wp2_with fail
              rcases z09 HX.out with⟨h10,rfl⟩|⟨u3,s10,h10,hr10⟩
              ·refine(z0i (o:=none) HS.out hX (hM (⟨#[59]⟩:ByteArray) (by decide)) h10).mono ?_
               rintro e w10 ⟨rfl,S10,F10⟩
               clear HX h10
               have FF10:=HF.out.trans F10
               clear HF HS
               have HF:=z00 FF10
               have HS:=z00 S10
               clear FF10 S10 F10
               have B11:Below w10.heap.size w10 (w10.alloc (.cells #[.int .i64 ((v:Nat):Int)] tI)):=(Below.refl _ _).alloc (Nat.le_refl _) _
               have R11:SR B g xs (z0g A (.slice (some ⟨w10.heap.size,0,none⟩) 1 1)) (w10.alloc (.cells #[.int .i64 ((v:Nat):Int)] tI)) none:=(SR.avoid (A':=z0g A (.slice (some ⟨w10.heap.size,0,none⟩) 1 1)) (t:=none) HS.out (fun k hk=>hk.imp_right (fun e=>by injection e with e;show w10.heap.size≤k;exact Nat.le_of_eq e))).below B11
               have o11:(w10.alloc (.cells #[.int .i64 ((v:Nat):Int)] tI)).ownsRow w.heap.size tI 1 (.slice (some ⟨w10.heap.size,0,none⟩) 1 1) 1 (z02 [((v:Nat):Int)]):=World.ownsRow_lit w10 #[.int .i64 ((v:Nat):Int)] 1 HF.out.size (by decide) rfl
               have FF11:=HF.out.trans (Fr.ofB (B:=B) B11 (SR.base (t:=none) HS.out))
               clear HF HS
               have HF:=z00 FF11
               have HS:=z00 R11
               have HP:=z00 o11
               clear FF11 R11 o11 B11
               go_wp2_with fail
               refine(z14 (o:=none) 13 nmx [((v:Nat):Int)] (some ⟨w10.heap.size,0,none⟩) 1 (SR.avoid (t:=none) HS.out (fun k hk=>.inl (.inl hk))) (z01 HP.out hbase) (fun b hb hb2=>by have h7:=(HP.out.lt b hb).1;have h8:=hA b hb2;omega) rfl).mono ?_
               rintro e we ⟨⟨k9,rfl,hk9⟩,S9,F9⟩
               have HH:=z00 (show z0j B g xs A w VNs _ (.returned (.int .i64 k9)) we from⟨⟨k9,rfl,hk9⟩,S9,HF.out.trans F9⟩)
               clear S9 F9 HF HS
               go_wp2
               go_ret
               exact HH.out
              ·refine(z0i (o:=(some (u3,s10))) HS.out hX (hM (⟨#[59]⟩:ByteArray) (by decide)) h10).mono ?_
               rintro e w10 ⟨rfl,S10,F10⟩
               clear HX
               have HX:=z00 hr10
               clear h10 hr10
               have FF10:=HF.out.trans F10
               clear HF HS
               have HF:=z00 FF10
               have HS:=z00 S10
               clear FF10 S10 F10
               have B11:Below w10.heap.size w10 (w10.alloc (.cells #[.int .i64 ((v:Nat):Int)] tI)):=(Below.refl _ _).alloc (Nat.le_refl _) _
               have R11:SR B g xs (z0g A (.slice (some ⟨w10.heap.size,0,none⟩) 1 1)) (w10.alloc (.cells #[.int .i64 ((v:Nat):Int)] tI)) (some s10):=(SR.avoid (A':=z0g A (.slice (some ⟨w10.heap.size,0,none⟩) 1 1)) (t:=(some s10)) HS.out (fun k hk=>hk.imp_right (fun e=>by injection e with e;show w10.heap.size≤k;exact Nat.le_of_eq e))).below B11
               have o11:(w10.alloc (.cells #[.int .i64 ((v:Nat):Int)] tI)).ownsRow w.heap.size tI 1 (.slice (some ⟨w10.heap.size,0,none⟩) 1 1) 1 (z02 [((v:Nat):Int)]):=World.ownsRow_lit w10 #[.int .i64 ((v:Nat):Int)] 1 HF.out.size (by decide) rfl
               have FF11:=HF.out.trans (Fr.ofB (B:=B) B11 (SR.base (t:=(some s10)) HS.out))
               clear HF HS
               have HF:=z00 FF11
               have HS:=z00 R11
               have HP:=z00 o11
               clear FF11 R11 o11 B11
               go_wp2_with fail
               refine(z14 (o:=o) 13 nmx [((v:Nat):Int)] (some ⟨w10.heap.size,0,none⟩) 1 (SR.avoid (t:=some s10) HS.out (fun k hk=>.inl (.inl hk))) (z01 HP.out hbase) (fun b hb hb2=>by have h7:=(HP.out.lt b hb).1;have h8:=hA b hb2;omega) HX.out).mono ?_
               rintro e we ⟨⟨k9,rfl,hk9⟩,S9,F9⟩
               have HH:=z00 (show z0j B g xs A w VNs _ (.returned (.int .i64 k9)) we from⟨⟨k9,rfl,hk9⟩,S9,HF.out.trans F9⟩)
               clear S9 F9 HF HS
               go_wp2
               go_ret
               exact HH.out
          ·rw[if_neg (by rw[decide_eq_false ht,Bool.and_false];decide)] at hx
           have HX:=z00 hx
           have l1:(u1.toList==[61])=false:=by rw[z3a];exact decide_eq_false ht
           clear hx hu1 hn1 hm1 hcs ht
           cases h4:(n1==4)
           ·have qK:=fun m=>(z3n (t:=some s) (SR.below (t:=some s) HS.out (z0a w5 m)) 1 (.inl rfl))
            rw[show kdP xs (some s) 1=true from z71 hn] at qK
            go_wp2
            go_quiet ((go_at_call 119;exact Calls.quiet_of (qK _)))
            have B6:Below w5.heap.size w5 (w5.drewN nq):=z0a _ _
            obtain⟨w6,hw6⟩:∃ w6,w6=w5.drewN nq:=⟨_,rfl⟩
            rw[← hw6] at B6 ⊢
            clear hw6 qK
            have S6:=SR.below (t:=(some s)) HS.out B6
            have FF6:=HF.out.trans (Fr.ofB (B:=B) B6 (SR.base (t:=(some s)) HS.out))
            clear HF HS
            have HF:=z00 FF6
            have HS:=z00 S6
            clear FF6 S6 B6
            clear c1 g0 d0 d1 l1 h4 hl hl1 hl0 hld hn
            go_wp2_with fail
            rcases z09 HX.out with⟨h7,rfl⟩|⟨v,s7,h7,hr7⟩
            ·refine(hV _ _ _ none (fun b hb=>Nat.lt_of_lt_of_le (hA b hb) HF.out.size) HS.out h7).mono ?_
             rintro e w7 ⟨⟨vx,rfl,-⟩,S7,F7⟩
             clear HX h7
             have FF7:=HF.out.trans F7
             clear HF HS
             have HF:=z00 FF7
             have HS:=z00 S7
             clear FF7 S7 F7
             go_wp2_with fail
             refine(z0i (o:=none) HS.out hX (hM (⟨#[59]⟩:ByteArray) (by decide)) rfl).mono ?_
             rintro e w8 ⟨rfl,S8,F8⟩
             have FF8:=HF.out.trans F8
             clear HF HS
             have HF:=z00 FF8
             have HS:=z00 S8
             clear FF8 S8 F8
             have B9:Below w8.heap.size w8 (w8.alloc (.cells #[.int .i64 vx] tI)):=(Below.refl _ _).alloc (Nat.le_refl _) _
             have R9:SR B g xs (z0g A (.slice (some ⟨w8.heap.size,0,none⟩) 1 1)) (w8.alloc (.cells #[.int .i64 vx] tI)) none:=(SR.avoid (A':=z0g A (.slice (some ⟨w8.heap.size,0,none⟩) 1 1)) (t:=none) HS.out (fun k hk=>hk.imp_right (fun e=>by injection e with e;show w8.heap.size≤k;exact Nat.le_of_eq e))).below B9
             have o9:(w8.alloc (.cells #[.int .i64 vx] tI)).ownsRow w.heap.size tI 1 (.slice (some ⟨w8.heap.size,0,none⟩) 1 1) 1 (z02 [vx]):=World.ownsRow_lit w8 #[.int .i64 vx] 1 HF.out.size (by decide) rfl
             have FF9:=HF.out.trans (Fr.ofB (B:=B) B9 (SR.base (t:=none) HS.out))
             clear HF HS
             have HF:=z00 FF9
             have HS:=z00 R9
             have HP:=z00 o9
             clear FF9 R9 o9 B9
             go_wp2_with fail
             refine(z14 (o:=none) 14 ByteArray.empty [vx] (some ⟨w8.heap.size,0,none⟩) 1 (SR.avoid (t:=none) HS.out (fun k hk=>.inl (.inl hk))) (z01 HP.out hbase) (fun b hb hb2=>by have h7:=(HP.out.lt b hb).1;have h8:=hA b hb2;omega) rfl).mono ?_
             rintro e we ⟨⟨k9,rfl,hk9⟩,S9,F9⟩
             have HH:=z00 (show z0j B g xs A w VNs _ (.returned (.int .i64 k9)) we from⟨⟨k9,rfl,hk9⟩,S9,HF.out.trans F9⟩)
             clear S9 F9 HF HS
             go_wp2
             go_ret
             exact HH.out
            ·refine(hV _ _ _ (some (v,s7)) (fun b hb=>Nat.lt_of_lt_of_le (hA b hb) HF.out.size) HS.out h7).mono ?_
             rintro e w7 ⟨⟨vx,rfl,hvx⟩,S7,F7⟩
             obtain rfl:vx=((v:Nat):Int):=hvx v rfl
             clear HX
             have HX:=z00 hr7
             clear h7 hr7 hvx
             have FF7:=HF.out.trans F7
             clear HF HS
             have HF:=z00 FF7
             have HS:=z00 S7
             clear FF7 S7 F7
             go_wp2_with fail
             rcases z09 HX.out with⟨h8,rfl⟩|⟨u,s8,h8,hr8⟩
             ·refine(z0i (o:=none) HS.out hX (hM (⟨#[59]⟩:ByteArray) (by decide)) h8).mono ?_
              rintro e w8 ⟨rfl,S8,F8⟩
              clear HX h8
              have FF8:=HF.out.trans F8
              clear HF HS
              have HF:=z00 FF8
              have HS:=z00 S8
              clear FF8 S8 F8
              have B9:Below w8.heap.size w8 (w8.alloc (.cells #[.int .i64 ((v:Nat):Int)] tI)):=(Below.refl _ _).alloc (Nat.le_refl _) _
              have R9:SR B g xs (z0g A (.slice (some ⟨w8.heap.size,0,none⟩) 1 1)) (w8.alloc (.cells #[.int .i64 ((v:Nat):Int)] tI)) none:=(SR.avoid (A':=z0g A (.slice (some ⟨w8.heap.size,0,none⟩) 1 1)) (t:=none) HS.out (fun k hk=>hk.imp_right (fun e=>by injection e with e;show w8.heap.size≤k;exact Nat.le_of_eq e))).below B9
              have o9:(w8.alloc (.cells #[.int .i64 ((v:Nat):Int)] tI)).ownsRow w.heap.size tI 1 (.slice (some ⟨w8.heap.size,0,none⟩) 1 1) 1 (z02 [((v:Nat):Int)]):=World.ownsRow_lit w8 #[.int .i64 ((v:Nat):Int)] 1 HF.out.size (by decide) rfl
              have FF9:=HF.out.trans (Fr.ofB (B:=B) B9 (SR.base (t:=none) HS.out))
              clear HF HS
              have HF:=z00 FF9
              have HS:=z00 R9
              have HP:=z00 o9
              clear FF9 R9 o9 B9
              go_wp2_with fail
              refine(z14 (o:=none) 14 ByteArray.empty [((v:Nat):Int)] (some ⟨w8.heap.size,0,none⟩) 1 (SR.avoid (t:=none) HS.out (fun k hk=>.inl (.inl hk))) (z01 HP.out hbase) (fun b hb hb2=>by have h7:=(HP.out.lt b hb).1;have h8:=hA b hb2;omega) rfl).mono ?_
              rintro e we ⟨⟨k9,rfl,hk9⟩,S9,F9⟩
              have HH:=z00 (show z0j B g xs A w VNs _ (.returned (.int .i64 k9)) we from⟨⟨k9,rfl,hk9⟩,S9,HF.out.trans F9⟩)
              clear S9 F9 HF HS
              go_wp2
              go_ret
              exact HH.out
             ·refine(z0i (o:=(some (u,s8))) HS.out hX (hM (⟨#[59]⟩:ByteArray) (by decide)) h8).mono ?_
              rintro e w8 ⟨rfl,S8,F8⟩
              clear HX
              have HX:=z00 hr8
              clear h8 hr8
              have FF8:=HF.out.trans F8
              clear HF HS
              have HF:=z00 FF8
              have HS:=z00 S8
              clear FF8 S8 F8
              have B9:Below w8.heap.size w8 (w8.alloc (.cells #[.int .i64 ((v:Nat):Int)] tI)):=(Below.refl _ _).alloc (Nat.le_refl _) _
              have R9:SR B g xs (z0g A (.slice (some ⟨w8.heap.size,0,none⟩) 1 1)) (w8.alloc (.cells #[.int .i64 ((v:Nat):Int)] tI)) (some s8):=(SR.avoid (A':=z0g A (.slice (some ⟨w8.heap.size,0,none⟩) 1 1)) (t:=(some s8)) HS.out (fun k hk=>hk.imp_right (fun e=>by injection e with e;show w8.heap.size≤k;exact Nat.le_of_eq e))).below B9
              have o9:(w8.alloc (.cells #[.int .i64 ((v:Nat):Int)] tI)).ownsRow w.heap.size tI 1 (.slice (some ⟨w8.heap.size,0,none⟩) 1 1) 1 (z02 [((v:Nat):Int)]):=World.ownsRow_lit w8 #[.int .i64 ((v:Nat):Int)] 1 HF.out.size (by decide) rfl
              have FF9:=HF.out.trans (Fr.ofB (B:=B) B9 (SR.base (t:=(some s8)) HS.out))
              clear HF HS
              have HF:=z00 FF9
              have HS:=z00 R9
              have HP:=z00 o9
              clear FF9 R9 o9 B9
              go_wp2_with fail
              refine(z14 (o:=o) 14 ByteArray.empty [((v:Nat):Int)] (some ⟨w8.heap.size,0,none⟩) 1 (SR.avoid (t:=some s8) HS.out (fun k hk=>.inl (.inl hk))) (z01 HP.out hbase) (fun b hb hb2=>by have h7:=(HP.out.lt b hb).1;have h8:=hA b hb2;omega) HX.out).mono ?_
              rintro e we ⟨⟨k9,rfl,hk9⟩,S9,F9⟩
              have HH:=z00 (show z0j B g xs A w VNs _ (.returned (.int .i64 k9)) we from⟨⟨k9,rfl,hk9⟩,S9,HF.out.trans F9⟩)
              clear S9 F9 HF HS
              go_wp2
              go_ret
              exact HH.out
           ·have qK:=fun m=>(z3n (t:=some s) (SR.below (t:=some s) HS.out (z0a w5 m)) 1 (.inl rfl))
            rw[show kdP xs (some s) 1=true from z71 hn] at qK
            go_wp2
            go_quiet ((go_at_call 119;exact Calls.quiet_of (qK _)))
            have B6:Below w5.heap.size w5 (w5.drewN nq):=z0a _ _
            obtain⟨w6,hw6⟩:∃ w6,w6=w5.drewN nq:=⟨_,rfl⟩
            rw[← hw6] at B6 ⊢
            clear hw6 qK
            have S6:=SR.below (t:=(some s)) HS.out B6
            have FF6:=HF.out.trans (Fr.ofB (B:=B) B6 (SR.base (t:=(some s)) HS.out))
            clear HF HS
            have HF:=z00 FF6
            have HS:=z00 S6
            clear FF6 S6 B6
            clear c1 g0 d0 d1 l1 h4 hl hl1 hl0 hld hn
            go_wp2_with fail
            rcases z09 HX.out with⟨h7,rfl⟩|⟨v,s7,h7,hr7⟩
            ·refine(hV _ _ _ none (fun b hb=>Nat.lt_of_lt_of_le (hA b hb) HF.out.size) HS.out h7).mono ?_
             rintro e w7 ⟨⟨vx,rfl,-⟩,S7,F7⟩
             clear HX h7
             have FF7:=HF.out.trans F7
             clear HF HS
             have HF:=z00 FF7
             have HS:=z00 S7
             clear FF7 S7 F7
             go_wp2_with fail
             refine(z0i (o:=none) HS.out hX (hM (⟨#[59]⟩:ByteArray) (by decide)) rfl).mono ?_
             rintro e w8 ⟨rfl,S8,F8⟩
             have FF8:=HF.out.trans F8
             clear HF HS
             have HF:=z00 FF8
             have HS:=z00 S8
             clear FF8 S8 F8
             have B9:Below w8.heap.size w8 (w8.alloc (.cells #[.int .i64 vx] tI)):=(Below.refl _ _).alloc (Nat.le_refl _) _
             have R9:SR B g xs (z0g A (.slice (some ⟨w8.heap.size,0,none⟩) 1 1)) (w8.alloc (.cells #[.int .i64 vx] tI)) none:=(SR.avoid (A':=z0g A (.slice (some ⟨w8.heap.size,0,none⟩) 1 1)) (t:=none) HS.out (fun k hk=>hk.imp_right (fun e=>by injection e with e;show w8.heap.size≤k;exact Nat.le_of_eq e))).below B9
             have o9:(w8.alloc (.cells #[.int .i64 vx] tI)).ownsRow w.heap.size tI 1 (.slice (some ⟨w8.heap.size,0,none⟩) 1 1) 1 (z02 [vx]):=World.ownsRow_lit w8 #[.int .i64 vx] 1 HF.out.size (by decide) rfl
             have FF9:=HF.out.trans (Fr.ofB (B:=B) B9 (SR.base (t:=none) HS.out))
             clear HF HS
             have HF:=z00 FF9
             have HS:=z00 R9
             have HP:=z00 o9
             clear FF9 R9 o9 B9
             go_wp2_with fail
             refine(z14 (o:=none) 14 ByteArray.empty [vx] (some ⟨w8.heap.size,0,none⟩) 1 (SR.avoid (t:=none) HS.out (fun k hk=>.inl (.inl hk))) (z01 HP.out hbase) (fun b hb hb2=>by have h7:=(HP.out.lt b hb).1;have h8:=hA b hb2;omega) rfl).mono ?_
             rintro e we ⟨⟨k9,rfl,hk9⟩,S9,F9⟩
             have HH:=z00 (show z0j B g xs A w VNs _ (.returned (.int .i64 k9)) we from⟨⟨k9,rfl,hk9⟩,S9,HF.out.trans F9⟩)
             clear S9 F9 HF HS
             go_wp2
             go_ret
             exact HH.out
            ·refine(hV _ _ _ (some (v,s7)) (fun b hb=>Nat.lt_of_lt_of_le (hA b hb) HF.out.size) HS.out h7).mono ?_
             rintro e w7 ⟨⟨vx,rfl,hvx⟩,S7,F7⟩
             obtain rfl:vx=((v:Nat):Int):=hvx v rfl
             clear HX
             have HX:=z00 hr7
             clear h7 hr7 hvx
             have FF7:=HF.out.trans F7
             clear HF HS
             have HF:=z00 FF7
             have HS:=z00 S7
             clear FF7 S7 F7
             go_wp2_with fail
             rcases z09 HX.out with⟨h8,rfl⟩|⟨u,s8,h8,hr8⟩
             ·refine(z0i (o:=none) HS.out hX (hM (⟨#[59]⟩:ByteArray) (by decide)) h8).mono ?_
              rintro e w8 ⟨rfl,S8,F8⟩
              clear HX h8
              have FF8:=HF.out.trans F8
              clear HF HS
              have HF:=z00 FF8
              have HS:=z00 S8
              clear FF8 S8 F8
              have B9:Below w8.heap.size w8 (w8.alloc (.cells #[.int .i64 ((v:Nat):Int)] tI)):=(Below.refl _ _).alloc (Nat.le_refl _) _
              have R9:SR B g xs (z0g A (.slice (some ⟨w8.heap.size,0,none⟩) 1 1)) (w8.alloc (.cells #[.int .i64 ((v:Nat):Int)] tI)) none:=(SR.avoid (A':=z0g A (.slice (some ⟨w8.heap.size,0,none⟩) 1 1)) (t:=none) HS.out (fun k hk=>hk.imp_right (fun e=>by injection e with e;show w8.heap.size≤k;exact Nat.le_of_eq e))).below B9
              have o9:(w8.alloc (.cells #[.int .i64 ((v:Nat):Int)] tI)).ownsRow w.heap.size tI 1 (.slice (some ⟨w8.heap.size,0,none⟩) 1 1) 1 (z02 [((v:Nat):Int)]):=World.ownsRow_lit w8 #[.int .i64 ((v:Nat):Int)] 1 HF.out.size (by decide) rfl
              have FF9:=HF.out.trans (Fr.ofB (B:=B) B9 (SR.base (t:=none) HS.out))
              clear HF HS
              have HF:=z00 FF9
              have HS:=z00 R9
              have HP:=z00 o9
              clear FF9 R9 o9 B9
              go_wp2_with fail
              refine(z14 (o:=none) 14 ByteArray.empty [((v:Nat):Int)] (some ⟨w8.heap.size,0,none⟩) 1 (SR.avoid (t:=none) HS.out (fun k hk=>.inl (.inl hk))) (z01 HP.out hbase) (fun b hb hb2=>by have h7:=(HP.out.lt b hb).1;have h8:=hA b hb2;omega) rfl).mono ?_
              rintro e we ⟨⟨k9,rfl,hk9⟩,S9,F9⟩
              have HH:=z00 (show z0j B g xs A w VNs _ (.returned (.int .i64 k9)) we from⟨⟨k9,rfl,hk9⟩,S9,HF.out.trans F9⟩)
              clear S9 F9 HF HS
              go_wp2
              go_ret
              exact HH.out
             ·refine(z0i (o:=(some (u,s8))) HS.out hX (hM (⟨#[59]⟩:ByteArray) (by decide)) h8).mono ?_
              rintro e w8 ⟨rfl,S8,F8⟩
              clear HX
              have HX:=z00 hr8
              clear h8 hr8
              have FF8:=HF.out.trans F8
              clear HF HS
              have HF:=z00 FF8
              have HS:=z00 S8
              clear FF8 S8 F8
              have B9:Below w8.heap.size w8 (w8.alloc (.cells #[.int .i64 ((v:Nat):Int)] tI)):=(Below.refl _ _).alloc (Nat.le_refl _) _
              have R9:SR B g xs (z0g A (.slice (some ⟨w8.heap.size,0,none⟩) 1 1)) (w8.alloc (.cells #[.int .i64 ((v:Nat):Int)] tI)) (some s8):=(SR.avoid (A':=z0g A (.slice (some ⟨w8.heap.size,0,none⟩) 1 1)) (t:=(some s8)) HS.out (fun k hk=>hk.imp_right (fun e=>by injection e with e;show w8.heap.size≤k;exact Nat.le_of_eq e))).below B9
              have o9:(w8.alloc (.cells #[.int .i64 ((v:Nat):Int)] tI)).ownsRow w.heap.size tI 1 (.slice (some ⟨w8.heap.size,0,none⟩) 1 1) 1 (z02 [((v:Nat):Int)]):=World.ownsRow_lit w8 #[.int .i64 ((v:Nat):Int)] 1 HF.out.size (by decide) rfl
              have FF9:=HF.out.trans (Fr.ofB (B:=B) B9 (SR.base (t:=(some s8)) HS.out))
              clear HF HS
              have HF:=z00 FF9
              have HS:=z00 R9
              have HP:=z00 o9
              clear FF9 R9 o9 B9
              go_wp2_with fail
              refine(z14 (o:=o) 14 ByteArray.empty [((v:Nat):Int)] (some ⟨w8.heap.size,0,none⟩) 1 (SR.avoid (t:=some s8) HS.out (fun k hk=>.inl (.inl hk))) (z01 HP.out hbase) (fun b hb hb2=>by have h7:=(HP.out.lt b hb).1;have h8:=hA b hb2;omega) HX.out).mono ?_
              rintro e we ⟨⟨k9,rfl,hk9⟩,S9,F9⟩
              have HH:=z00 (show z0j B g xs A w VNs _ (.returned (.int .i64 k9)) we from⟨⟨k9,rfl,hk9⟩,S9,HF.out.trans F9⟩)
              clear S9 F9 HF HS
              go_wp2
              go_ret
              exact HH.out
         ·have hl1:¬ (s.p:Int)+1<(xs.length:Int):=by omega
          have hld:decide ((s.p:Int)+1<(xs.length:Int))=false:=decide_eq_false hl1
          have hx:=HX.out
          rw[if_neg (by rw[show txt xs (s.p+1)=ByteArray.empty from za2 (by omega),decide_eq_false (show ¬ ByteArray.empty=(⟨#[61]⟩:ByteArray) by decide),Bool.and_false];decide)] at hx
          clear HX
          have HX:=z00 hx
          clear hx hcs
          have qK:=fun m=>(z3n (t:=some s) (SR.below (t:=some s) HS.out (z0a w5 m)) 1 (.inl rfl))
          rw[show kdP xs (some s) 1=true from z71 hn] at qK
          go_wp2
          go_quiet ((go_at_call 119;exact Calls.quiet_of (qK _)))
          have B6:Below w5.heap.size w5 (w5.drewN nq):=z0a _ _
          obtain⟨w6,hw6⟩:∃ w6,w6=w5.drewN nq:=⟨_,rfl⟩
          rw[← hw6] at B6 ⊢
          clear hw6 qK
          have S6:=SR.below (t:=(some s)) HS.out B6
          have FF6:=HF.out.trans (Fr.ofB (B:=B) B6 (SR.base (t:=(some s)) HS.out))
          clear HF HS
          have HF:=z00 FF6
          have HS:=z00 S6
          clear FF6 S6 B6
          clear c1 g0 hl hl1 hld hn
          go_wp2_with fail
          rcases z09 HX.out with⟨h7,rfl⟩|⟨v,s7,h7,hr7⟩
          ·refine(hV _ _ _ none (fun b hb=>Nat.lt_of_lt_of_le (hA b hb) HF.out.size) HS.out h7).mono ?_
           rintro e w7 ⟨⟨vx,rfl,-⟩,S7,F7⟩
           clear HX h7
           have FF7:=HF.out.trans F7
           clear HF HS
           have HF:=z00 FF7
           have HS:=z00 S7
           clear FF7 S7 F7
           go_wp2_with fail
           refine(z0i (o:=none) HS.out hX (hM (⟨#[59]⟩:ByteArray) (by decide)) rfl).mono ?_
           rintro e w8 ⟨rfl,S8,F8⟩
           have FF8:=HF.out.trans F8
           clear HF HS
           have HF:=z00 FF8
           have HS:=z00 S8
           clear FF8 S8 F8
           have B9:Below w8.heap.size w8 (w8.alloc (.cells #[.int .i64 vx] tI)):=(Below.refl _ _).alloc (Nat.le_refl _) _
           have R9:SR B g xs (z0g A (.slice (some ⟨w8.heap.size,0,none⟩) 1 1)) (w8.alloc (.cells #[.int .i64 vx] tI)) none:=(SR.avoid (A':=z0g A (.slice (some ⟨w8.heap.size,0,none⟩) 1 1)) (t:=none) HS.out (fun k hk=>hk.imp_right (fun e=>by injection e with e;show w8.heap.size≤k;exact Nat.le_of_eq e))).below B9
           have o9:(w8.alloc (.cells #[.int .i64 vx] tI)).ownsRow w.heap.size tI 1 (.slice (some ⟨w8.heap.size,0,none⟩) 1 1) 1 (z02 [vx]):=World.ownsRow_lit w8 #[.int .i64 vx] 1 HF.out.size (by decide) rfl
           have FF9:=HF.out.trans (Fr.ofB (B:=B) B9 (SR.base (t:=none) HS.out))
           clear HF HS
           have HF:=z00 FF9
           have HS:=z00 R9
           have HP:=z00 o9
           clear FF9 R9 o9 B9
           go_wp2_with fail
           refine(z14 (o:=none) 14 ByteArray.empty [vx] (some ⟨w8.heap.size,0,none⟩) 1 (SR.avoid (t:=none) HS.out (fun k hk=>.inl (.inl hk))) (z01 HP.out hbase) (fun b hb hb2=>by have h7:=(HP.out.lt b hb).1;have h8:=hA b hb2;omega) rfl).mono ?_
           rintro e we ⟨⟨k9,rfl,hk9⟩,S9,F9⟩
           have HH:=z00 (show z0j B g xs A w VNs _ (.returned (.int .i64 k9)) we from⟨⟨k9,rfl,hk9⟩,S9,HF.out.trans F9⟩)
           clear S9 F9 HF HS
           go_wp2
           go_ret
           exact HH.out
          ·refine(hV _ _ _ (some (v,s7)) (fun b hb=>Nat.lt_of_lt_of_le (hA b hb) HF.out.size) HS.out h7).mono ?_
           rintro e w7 ⟨⟨vx,rfl,hvx⟩,S7,F7⟩
           obtain rfl:vx=((v:Nat):Int):=hvx v rfl
           clear HX
           have HX:=z00 hr7
           clear h7 hr7 hvx
           have FF7:=HF.out.trans F7
           clear HF HS
           have HF:=z00 FF7
           have HS:=z00 S7
           clear FF7 S7 F7
           go_wp2_with fail
           rcases z09 HX.out with⟨h8,rfl⟩|⟨u,s8,h8,hr8⟩
           ·refine(z0i (o:=none) HS.out hX (hM (⟨#[59]⟩:ByteArray) (by decide)) h8).mono ?_
            rintro e w8 ⟨rfl,S8,F8⟩
            clear HX h8
            have FF8:=HF.out.trans F8
            clear HF HS
            have HF:=z00 FF8
            have HS:=z00 S8
            clear FF8 S8 F8
            have B9:Below w8.heap.size w8 (w8.alloc (.cells #[.int .i64 ((v:Nat):Int)] tI)):=(Below.refl _ _).alloc (Nat.le_refl _) _
            have R9:SR B g xs (z0g A (.slice (some ⟨w8.heap.size,0,none⟩) 1 1)) (w8.alloc (.cells #[.int .i64 ((v:Nat):Int)] tI)) none:=(SR.avoid (A':=z0g A (.slice (some ⟨w8.heap.size,0,none⟩) 1 1)) (t:=none) HS.out (fun k hk=>hk.imp_right (fun e=>by injection e with e;show w8.heap.size≤k;exact Nat.le_of_eq e))).below B9
            have o9:(w8.alloc (.cells #[.int .i64 ((v:Nat):Int)] tI)).ownsRow w.heap.size tI 1 (.slice (some ⟨w8.heap.size,0,none⟩) 1 1) 1 (z02 [((v:Nat):Int)]):=World.ownsRow_lit w8 #[.int .i64 ((v:Nat):Int)] 1 HF.out.size (by decide) rfl
            have FF9:=HF.out.trans (Fr.ofB (B:=B) B9 (SR.base (t:=none) HS.out))
            clear HF HS
            have HF:=z00 FF9
            have HS:=z00 R9
            have HP:=z00 o9
            clear FF9 R9 o9 B9
            go_wp2_with fail
            refine(z14 (o:=none) 14 ByteArray.empty [((v:Nat):Int)] (some ⟨w8.heap.size,0,none⟩) 1 (SR.avoid (t:=none) HS.out (fun k hk=>.inl (.inl hk))) (z01 HP.out hbase) (fun b hb hb2=>by have h7:=(HP.out.lt b hb).1;have h8:=hA b hb2;omega) rfl).mono ?_
            rintro e we ⟨⟨k9,rfl,hk9⟩,S9,F9⟩
            have HH:=z00 (show z0j B g xs A w VNs _ (.returned (.int .i64 k9)) we from⟨⟨k9,rfl,hk9⟩,S9,HF.out.trans F9⟩)
            clear S9 F9 HF HS
            go_wp2
            go_ret
            exact HH.out
           ·refine(z0i (o:=(some (u,s8))) HS.out hX (hM (⟨#[59]⟩:ByteArray) (by decide)) h8).mono ?_
            rintro e w8 ⟨rfl,S8,F8⟩
            clear HX
            have HX:=z00 hr8
            clear h8 hr8
            have FF8:=HF.out.trans F8
            clear HF HS
            have HF:=z00 FF8
            have HS:=z00 S8
            clear FF8 S8 F8
            have B9:Below w8.heap.size w8 (w8.alloc (.cells #[.int .i64 ((v:Nat):Int)] tI)):=(Below.refl _ _).alloc (Nat.le_refl _) _
            have R9:SR B g xs (z0g A (.slice (some ⟨w8.heap.size,0,none⟩) 1 1)) (w8.alloc (.cells #[.int .i64 ((v:Nat):Int)] tI)) (some s8):=(SR.avoid (A':=z0g A (.slice (some ⟨w8.heap.size,0,none⟩) 1 1)) (t:=(some s8)) HS.out (fun k hk=>hk.imp_right (fun e=>by injection e with e;show w8.heap.size≤k;exact Nat.le_of_eq e))).below B9
            have o9:(w8.alloc (.cells #[.int .i64 ((v:Nat):Int)] tI)).ownsRow w.heap.size tI 1 (.slice (some ⟨w8.heap.size,0,none⟩) 1 1) 1 (z02 [((v:Nat):Int)]):=World.ownsRow_lit w8 #[.int .i64 ((v:Nat):Int)] 1 HF.out.size (by decide) rfl
            have FF9:=HF.out.trans (Fr.ofB (B:=B) B9 (SR.base (t:=(some s8)) HS.out))
            clear HF HS
            have HF:=z00 FF9
            have HS:=z00 R9
            have HP:=z00 o9
            clear FF9 R9 o9 B9
            go_wp2_with fail
            refine(z14 (o:=o) 14 ByteArray.empty [((v:Nat):Int)] (some ⟨w8.heap.size,0,none⟩) 1 (SR.avoid (t:=some s8) HS.out (fun k hk=>.inl (.inl hk))) (z01 HP.out hbase) (fun b hb hb2=>by have h7:=(HP.out.lt b hb).1;have h8:=hA b hb2;omega) HX.out).mono ?_
            rintro e we ⟨⟨k9,rfl,hk9⟩,S9,F9⟩
            have HH:=z00 (show z0j B g xs A w VNs _ (.returned (.int .i64 k9)) we from⟨⟨k9,rfl,hk9⟩,S9,HF.out.trans F9⟩)
            clear S9 F9 HF HS
            go_wp2
            go_ret
            exact HH.out
        ·have hx:=HX.out
         rw[if_neg (by rw[show z4r xs s.p=false by simpa using hn,Bool.false_and];decide)] at hx
         clear HX
         have HX:=z00 hx
         clear hx
         have hgg:=HS.out.1.lt
         have qK:=fun m=>(z3n (t:=some s) (SR.below (t:=some s) HS.out (z0a w5 m)) 1 (.inl rfl))
         rw[show kdP xs (some s) 1=false from zmc hn] at qK
         go_wp2
         go_quiet ((go_at_call 119;exact Calls.quiet_of (qK _)))
         have B6:Below w5.heap.size w5 (w5.drewN nq):=z0a _ _
         obtain⟨w6,hw6⟩:∃ w6,w6=w5.drewN nq:=⟨_,rfl⟩
         rw[← hw6] at B6 ⊢
         clear hw6 qK
         have S6:=SR.below (t:=(some s)) HS.out B6
         have FF6:=HF.out.trans (Fr.ofB (B:=B) B6 (SR.base (t:=(some s)) HS.out))
         clear HF HS
         have HF:=z00 FF6
         have HS:=z00 S6
         clear FF6 S6 B6
         clear hn
         go_wp2_with fail
         rcases z09 HX.out with⟨h7,rfl⟩|⟨v,s7,h7,hr7⟩
         ·refine(hV _ _ _ none (fun b hb=>Nat.lt_of_lt_of_le (hA b hb) HF.out.size) HS.out h7).mono ?_
          rintro e w7 ⟨⟨vx,rfl,-⟩,S7,F7⟩
          clear HX h7
          have FF7:=HF.out.trans F7
          clear HF HS
          have HF:=z00 FF7
          have HS:=z00 S7
          clear FF7 S7 F7
          go_wp2_with fail
          refine(z0i (o:=none) HS.out hX (hM (⟨#[59]⟩:ByteArray) (by decide)) rfl).mono ?_
          rintro e w8 ⟨rfl,S8,F8⟩
          have FF8:=HF.out.trans F8
          clear HF HS
          have HF:=z00 FF8
          have HS:=z00 S8
          clear FF8 S8 F8
          have B9:Below w8.heap.size w8 (w8.alloc (.cells #[.int .i64 vx] tI)):=(Below.refl _ _).alloc (Nat.le_refl _) _
          have R9:SR B g xs (z0g A (.slice (some ⟨w8.heap.size,0,none⟩) 1 1)) (w8.alloc (.cells #[.int .i64 vx] tI)) none:=(SR.avoid (A':=z0g A (.slice (some ⟨w8.heap.size,0,none⟩) 1 1)) (t:=none) HS.out (fun k hk=>hk.imp_right (fun e=>by injection e with e;show w8.heap.size≤k;exact Nat.le_of_eq e))).below B9
          have o9:(w8.alloc (.cells #[.int .i64 vx] tI)).ownsRow w.heap.size tI 1 (.slice (some ⟨w8.heap.size,0,none⟩) 1 1) 1 (z02 [vx]):=World.ownsRow_lit w8 #[.int .i64 vx] 1 HF.out.size (by decide) rfl
          have FF9:=HF.out.trans (Fr.ofB (B:=B) B9 (SR.base (t:=none) HS.out))
          clear HF HS
          have HF:=z00 FF9
          have HS:=z00 R9
          have HP:=z00 o9
          clear FF9 R9 o9 B9
          go_wp2_with fail
          refine(z14 (o:=none) 14 ByteArray.empty [vx] (some ⟨w8.heap.size,0,none⟩) 1 (SR.avoid (t:=none) HS.out (fun k hk=>.inl (.inl hk))) (z01 HP.out hbase) (fun b hb hb2=>by have h7:=(HP.out.lt b hb).1;have h8:=hA b hb2;omega) rfl).mono ?_
          rintro e we ⟨⟨k9,rfl,hk9⟩,S9,F9⟩
          have HH:=z00 (show z0j B g xs A w VNs _ (.returned (.int .i64 k9)) we from⟨⟨k9,rfl,hk9⟩,S9,HF.out.trans F9⟩)
          clear S9 F9 HF HS
          go_wp2
          go_ret
          exact HH.out
         ·refine(hV _ _ _ (some (v,s7)) (fun b hb=>Nat.lt_of_lt_of_le (hA b hb) HF.out.size) HS.out h7).mono ?_
          rintro e w7 ⟨⟨vx,rfl,hvx⟩,S7,F7⟩
          obtain rfl:vx=((v:Nat):Int):=hvx v rfl
          clear HX
          have HX:=z00 hr7
          clear h7 hr7 hvx
          have FF7:=HF.out.trans F7
          clear HF HS
          have HF:=z00 FF7
          have HS:=z00 S7
          clear FF7 S7 F7
          go_wp2_with fail
          rcases z09 HX.out with⟨h8,rfl⟩|⟨u,s8,h8,hr8⟩
          ·refine(z0i (o:=none) HS.out hX (hM (⟨#[59]⟩:ByteArray) (by decide)) h8).mono ?_
           rintro e w8 ⟨rfl,S8,F8⟩
           clear HX h8
           have FF8:=HF.out.trans F8
           clear HF HS
           have HF:=z00 FF8
           have HS:=z00 S8
           clear FF8 S8 F8
           have B9:Below w8.heap.size w8 (w8.alloc (.cells #[.int .i64 ((v:Nat):Int)] tI)):=(Below.refl _ _).alloc (Nat.le_refl _) _
           have R9:SR B g xs (z0g A (.slice (some ⟨w8.heap.size,0,none⟩) 1 1)) (w8.alloc (.cells #[.int .i64 ((v:Nat):Int)] tI)) none:=(SR.avoid (A':=z0g A (.slice (some ⟨w8.heap.size,0,none⟩) 1 1)) (t:=none) HS.out (fun k hk=>hk.imp_right (fun e=>by injection e with e;show w8.heap.size≤k;exact Nat.le_of_eq e))).below B9
           have o9:(w8.alloc (.cells #[.int .i64 ((v:Nat):Int)] tI)).ownsRow w.heap.size tI 1 (.slice (some ⟨w8.heap.size,0,none⟩) 1 1) 1 (z02 [((v:Nat):Int)]):=World.ownsRow_lit w8 #[.int .i64 ((v:Nat):Int)] 1 HF.out.size (by decide) rfl
           have FF9:=HF.out.trans (Fr.ofB (B:=B) B9 (SR.base (t:=none) HS.out))
           clear HF HS
           have HF:=z00 FF9
           have HS:=z00 R9
           have HP:=z00 o9
           clear FF9 R9 o9 B9
           go_wp2_with fail
           refine(z14 (o:=none) 14 ByteArray.empty [((v:Nat):Int)] (some ⟨w8.heap.size,0,none⟩) 1 (SR.avoid (t:=none) HS.out (fun k hk=>.inl (.inl hk))) (z01 HP.out hbase) (fun b hb hb2=>by have h7:=(HP.out.lt b hb).1;have h8:=hA b hb2;omega) rfl).mono ?_
           rintro e we ⟨⟨k9,rfl,hk9⟩,S9,F9⟩
           have HH:=z00 (show z0j B g xs A w VNs _ (.returned (.int .i64 k9)) we from⟨⟨k9,rfl,hk9⟩,S9,HF.out.trans F9⟩)
           clear S9 F9 HF HS
           go_wp2
           go_ret
           exact HH.out
          ·refine(z0i (o:=(some (u,s8))) HS.out hX (hM (⟨#[59]⟩:ByteArray) (by decide)) h8).mono ?_
           rintro e w8 ⟨rfl,S8,F8⟩
           clear HX
           have HX:=z00 hr8
           clear h8 hr8
           have FF8:=HF.out.trans F8
           clear HF HS
           have HF:=z00 FF8
           have HS:=z00 S8
           clear FF8 S8 F8
           have B9:Below w8.heap.size w8 (w8.alloc (.cells #[.int .i64 ((v:Nat):Int)] tI)):=(Below.refl _ _).alloc (Nat.le_refl _) _
           have R9:SR B g xs (z0g A (.slice (some ⟨w8.heap.size,0,none⟩) 1 1)) (w8.alloc (.cells #[.int .i64 ((v:Nat):Int)] tI)) (some s8):=(SR.avoid (A':=z0g A (.slice (some ⟨w8.heap.size,0,none⟩) 1 1)) (t:=(some s8)) HS.out (fun k hk=>hk.imp_right (fun e=>by injection e with e;show w8.heap.size≤k;exact Nat.le_of_eq e))).below B9
           have o9:(w8.alloc (.cells #[.int .i64 ((v:Nat):Int)] tI)).ownsRow w.heap.size tI 1 (.slice (some ⟨w8.heap.size,0,none⟩) 1 1) 1 (z02 [((v:Nat):Int)]):=World.ownsRow_lit w8 #[.int .i64 ((v:Nat):Int)] 1 HF.out.size (by decide) rfl
           have FF9:=HF.out.trans (Fr.ofB (B:=B) B9 (SR.base (t:=(some s8)) HS.out))
           clear HF HS
           have HF:=z00 FF9
           have HS:=z00 R9
           have HP:=z00 o9
           clear FF9 R9 o9 B9
           go_wp2_with fail
           refine(z14 (o:=o) 14 ByteArray.empty [((v:Nat):Int)] (some ⟨w8.heap.size,0,none⟩) 1 (SR.avoid (t:=some s8) HS.out (fun k hk=>.inl (.inl hk))) (z01 HP.out hbase) (fun b hb hb2=>by have h7:=(HP.out.lt b hb).1;have h8:=hA b hb2;omega) HX.out).mono ?_
           rintro e we ⟨⟨k9,rfl,hk9⟩,S9,F9⟩
           have HH:=z00 (show z0j B g xs A w VNs _ (.returned (.int .i64 k9)) we from⟨⟨k9,rfl,hk9⟩,S9,HF.out.trans F9⟩)
           clear S9 F9 HF HS
           go_wp2
           go_ret
           exact HH.out
end
end Go.Proofs.YtekebloinobjnaaGreatDoor
