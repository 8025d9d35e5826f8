/- Texts of one proof, laid together: SpI17. -/
import Derived.Test.YtekebloinobjnaaGreatDoorC27
set_option maxHeartbeats 16000000
set_option maxRecDepth 100000
namespace Go.Proofs.YtekebloinobjnaaGreatDoor
open Go.RowKit
def z1p (xs:List Sg) (one:Ps→Rs Nat) (en:ByteArray) (K:List Int→Ps→Rs Nat) (d0 f:Nat) (ks:List Int) (q:Option Ps) (o:Option (Nat×Ps)):Prop:=
 match q with
 | none=>o=none
 | some s=>s.d=d0∧bnd (z3v xs one en f ks s) K=some o
section
variable {B g:Nat} {xs:List Sg} {A:Nat→Prop} {w:World} {t:Option Ps}
theorem z2o (k:Nat) (b:Bool) {s:Ps} (h:SR B g xs A w (some s)):Calls Tryz.prog 89 #[.pointer (some ⟨g,0,none⟩),.int .i64 (k:Int),.bool b] w fun e w'=>e=.returned (.tuple #[])∧SR B g xs A w' (some (z19 s k b))∧Fr B w w':=by
 by_cases hk:k<s.ns.length
 ·exact zj1 k b h hk
 ·have e9:z19 s k b=s:=by
   unfold z19
   rw[List.getElem?_eq_none (by omega)]
  rw[e9]
  obtain⟨sa,sc,na,nc,-,-,c2,-,c4,-⟩:=h.1.cells
  have hkC:decide ((k:Int)<(s.ns.length:Int))=false:=by simp;omega
  have hkD:¬ (k:Int)<(s.ns.length:Int):=by omega
  have HS:=z00 h
  clear h hk e9
  go_enter Tryz.func89,Tryz.ntmps89
  go_wp2
  go_end0
  exact⟨rfl,HS.out,Fr.refl _ _⟩
theorem zmp {st:Ps→Rs Nat} {o:Option (Nat×Ps)} (h:SR B g xs A w t) (hX:xs.length≤3000) (hM:z3w xs) (hA:∀ b,A b→b<w.heap.size) (hSt:z1n B g xs 164 st) (hSm:z7l st) (hr:z60 (z3k xs st) t o):Calls Tryz.prog 126 #[.pointer (some ⟨g,0,none⟩)] w (z0j B g xs A w VNs o):=by
 obtain⟨i0,hi,hz0,hz1,hz2⟩:=info_parts z29
 have hbase:=h.base
 have hL:lim xs≤3001:=by unfold lim;omega
 have HF:=z00 (Fr.refl B w)
 match t,h,hr with
 | none,h,hr =>
   obtain rfl:o=none:=hr
   have HS:=z00 h
   clear h hr
   go_enter Tryz.func126,Tryz.ntmps126
   go_wp2_with fail
   refine(z0i (o:=none) (t:=none) HS.out hX (hM (⟨#[123]⟩:ByteArray) (by decide)) rfl).mono ?_
   rintro e w1 ⟨rfl,S1,F1⟩
   have FF1:=HF.out.trans F1
   clear HF HS
   have HF:=z00 FF1
   have HS:=z00 S1
   clear FF1 S1 F1
   obtain⟨s7,h7,hd7⟩:=HS.out
   obtain⟨sa7,sc7,na7,nc7,-,-,c27,⟨dv7,c37,-⟩,-,hz7⟩:=h7.cells
   have z37:=hz7 3
   have z27:=hz7 2
   have P7:=h7.setI (wrap64 (dv7+1))
   by_cases hgt:(20:Int)<wrap64 (dv7+1)
   ·have P8:=P7.1.setB
    obtain⟨W8,hW8⟩:∃ W8,W8=(w1.setCell ⟨g,3,none⟩ (.int .i64 (wrap64 (dv7+1)))).setCell ⟨g,2,none⟩ (.bool true):=⟨_,rfl⟩
    have FF8:=HF.out.trans (P7.2.trans P8.2)
    have S8:SR B g xs A W8 none:=by rw[hW8];exact⟨s7,P8.1,hd7⟩
    rw[← hW8] at FF8
    have HSz:=z00 (show W8.heap.size=w1.heap.size by rw[hW8];simp)
    have HW8:=z00 hW8
    clear hW8 P7 h7 hd7 hz7 HF HS P8
    have HF:=z00 FF8
    have HS:=z00 S8
    clear FF8 S8
    have B2:Below W8.heap.size W8 (W8.alloc (.cells #[] tI)):=(Below.refl _ _).alloc (Nat.le_refl _) _
    have R2:SR B g xs (z0g A (.slice (some ⟨W8.heap.size,0,none⟩) 0 0)) (W8.alloc (.cells #[] tI)) none:=(SR.avoid (A':=z0g A (.slice (some ⟨W8.heap.size,0,none⟩) 0 0)) (t:=none) HS.out (fun k hk=>hk.imp_right (fun e=>by injection e with e;show W8.heap.size≤k;exact Nat.le_of_eq e))).below B2
    have o2:(W8.alloc (.cells #[] tI)).ownsRow w.heap.size tI 1 (.slice (some ⟨W8.heap.size,0,none⟩) 0 0) 0 (z02 ([]:List Int)):=World.ownsRow_lit W8 #[] 0 HF.out.size (by decide) rfl
    have FF2:=HF.out.trans (Fr.ofB (B:=B) B2 (SR.base (t:=none) HS.out))
    clear HF HS
    have HF:=z00 FF2
    have HS:=z00 R2
    have HP:=z00 o2
    clear FF2 R2 o2 B2
    go_wp2
    rw[← HW8.out]
    go_loopg [3] 0 (fun f kv wr=>kv=.slice (some ⟨W8.heap.size,0,none⟩) 0 0∧wr=(W8.alloc (.cells #[] tI)))
    case atStart=>exact⟨by rw[HSz.out],rfl⟩
    case round =>
     obtain⟨rfl,rfl⟩:=hrel
     obtain⟨s9,h9,hd9⟩:=HS.out
     obtain⟨sa,sc,na,nc,-,-,c2,-,-,-⟩:=h9.cells
     clear h9 hd9
     obtain⟨s8,h8,hd8⟩:=HS.out
     obtain⟨sa8,sc8,na8,nc8,-,-,-,⟨dv8,c38,-⟩,-,hz8⟩:=h8.cells
     have z38:=hz8 3
     have HY:=z00 h8
     have HDD:=z00 hd8
     clear h8 hd8 hz8 HS
     go_wp2_with fail
     have hY:=fun d=>HY.out.setI d
     refine(z14 (o:=none) 18 ByteArray.empty ([]:List Int) (some ⟨W8.heap.size,0,none⟩) 0 (SR.avoid (t:=none) (show SR B g xs (z0g A (.slice (some ⟨W8.heap.size,0,none⟩) 0 0)) _ none from⟨s8,(hY _).1,HDD.out⟩) (fun k hk=>.inl (.inl hk))) (z01 ((hY _).2.ints HP.out) hbase) (fun b hb hb2=>by have h7:=(HP.out.lt b hb).1;have h8:=hA b hb2;omega) rfl).mono ?_
     rintro e we ⟨⟨k9,rfl,hk9⟩,S9,F9⟩
     have HH:=z00 (show z0j B g xs A w VNs none (.returned (.int .i64 k9)) we from⟨⟨k9,rfl,hk9⟩,S9,HF.out.trans ((hY _).2.trans F9)⟩)
     clear S9 F9 HF HY hY
     go_wp2
     go_ret
     exact HH.out
   ·obtain⟨W8,hW8⟩:∃ W8,W8=(w1.setCell ⟨g,3,none⟩ (.int .i64 (wrap64 (dv7+1)))):=⟨_,rfl⟩
    have FF8:=HF.out.trans P7.2
    have S8:SR B g xs A W8 none:=by rw[hW8];exact⟨s7,P7.1,hd7⟩
    rw[← hW8] at FF8
    have HSz:=z00 (show W8.heap.size=w1.heap.size by rw[hW8];simp)
    have HW8:=z00 hW8
    clear hW8 P7 h7 hd7 hz7 HF HS
    have HF:=z00 FF8
    have HS:=z00 S8
    clear FF8 S8
    have B2:Below W8.heap.size W8 (W8.alloc (.cells #[] tI)):=(Below.refl _ _).alloc (Nat.le_refl _) _
    have R2:SR B g xs (z0g A (.slice (some ⟨W8.heap.size,0,none⟩) 0 0)) (W8.alloc (.cells #[] tI)) none:=(SR.avoid (A':=z0g A (.slice (some ⟨W8.heap.size,0,none⟩) 0 0)) (t:=none) HS.out (fun k hk=>hk.imp_right (fun e=>by injection e with e;show W8.heap.size≤k;exact Nat.le_of_eq e))).below B2
    have o2:(W8.alloc (.cells #[] tI)).ownsRow w.heap.size tI 1 (.slice (some ⟨W8.heap.size,0,none⟩) 0 0) 0 (z02 ([]:List Int)):=World.ownsRow_lit W8 #[] 0 HF.out.size (by decide) rfl
    have FF2:=HF.out.trans (Fr.ofB (B:=B) B2 (SR.base (t:=none) HS.out))
    clear HF HS
    have HF:=z00 FF2
    have HS:=z00 R2
    have HP:=z00 o2
    clear FF2 R2 o2 B2
    go_wp2
    rw[← HW8.out]
    go_loopg [3] 0 (fun f kv wr=>kv=.slice (some ⟨W8.heap.size,0,none⟩) 0 0∧wr=(W8.alloc (.cells #[] tI)))
    case atStart=>exact⟨by rw[HSz.out],rfl⟩
    case round =>
     obtain⟨rfl,rfl⟩:=hrel
     obtain⟨s9,h9,hd9⟩:=HS.out
     obtain⟨sa,sc,na,nc,-,-,c2,-,-,-⟩:=h9.cells
     clear h9 hd9
     obtain⟨s8,h8,hd8⟩:=HS.out
     obtain⟨sa8,sc8,na8,nc8,-,-,-,⟨dv8,c38,-⟩,-,hz8⟩:=h8.cells
     have z38:=hz8 3
     have HY:=z00 h8
     have HDD:=z00 hd8
     clear h8 hd8 hz8 HS
     go_wp2_with fail
     have hY:=fun d=>HY.out.setI d
     refine(z14 (o:=none) 18 ByteArray.empty ([]:List Int) (some ⟨W8.heap.size,0,none⟩) 0 (SR.avoid (t:=none) (show SR B g xs (z0g A (.slice (some ⟨W8.heap.size,0,none⟩) 0 0)) _ none from⟨s8,(hY _).1,HDD.out⟩) (fun k hk=>.inl (.inl hk))) (z01 ((hY _).2.ints HP.out) hbase) (fun b hb hb2=>by have h7:=(HP.out.lt b hb).1;have h8:=hA b hb2;omega) rfl).mono ?_
     rintro e we ⟨⟨k9,rfl,hk9⟩,S9,F9⟩
     have HH:=z00 (show z0j B g xs A w VNs none (.returned (.int .i64 k9)) we from⟨⟨k9,rfl,hk9⟩,S9,HF.out.trans ((hY _).2.trans F9)⟩)
     clear S9 F9 HF HY hY
     go_wp2
     go_ret
     exact HH.out
 | some s,h,hr =>
   obtain⟨d0,hd1⟩:∃ d0,s.d+1=d0:=⟨_,rfl⟩
   have hr2:z3k xs st s=some o:=hr
   unfold z3k at hr2
   have HS:=z00 h
   clear h hr
   by_cases hb:20<s.d+1
   ·rw[if_pos hb] at hr2
    obtain rfl:none=o:=by injection hr2
    clear hr2
    go_enter Tryz.func126,Tryz.ntmps126
    go_wp2_with fail
    by_cases ht:txt xs s.p=(⟨#[123]⟩:ByteArray)
    ·refine(z0i (o:=some ((),s.next)) (t:=some s) HS.out hX (hM (⟨#[123]⟩:ByteArray) (by decide)) (show z0p xs (⟨#[123]⟩:ByteArray) s=_ by unfold z0p;rw[if_pos ht])).mono ?_
     rintro e w1 ⟨rfl,S1,F1⟩
     have FF1:=HF.out.trans F1
     clear HF HS
     have HF:=z00 FF1
     have HS:=z00 S1
     clear FF1 S1 F1
     clear ht
     obtain⟨h7,hd7⟩:=HS.out
     obtain⟨sa7,sc7,na7,nc7,-,-,c27,⟨dv7,c37,hdv7⟩,-,hz7⟩:=h7.cells
     obtain rfl:dv7=(s.d:Int):=hdv7 rfl
     have z37:=hz7 3
     have z27:=hz7 2
     have P7:=h7.setD (s.d+1)
     have e7:((s.d+1:Nat):Int)=(s.d:Int)+1:=by omega
     rw[e7] at P7
     have hd8:s.d≤20:=hd7
     have hdp:(0:Int)≤(s.d:Int):=by omega
     have hdq:(s.d:Int)≤20:=by omega
     have hgt:(20:Int)<(s.d:Int)+1:=by omega
     have P8:=P7.1.setB
     obtain⟨W8,hW8⟩:∃ W8,W8=(w1.setCell ⟨g,3,none⟩ (.int .i64 ((s.d:Int)+1))).setCell ⟨g,2,none⟩ (.bool true):=⟨_,rfl⟩
     have FF8:=HF.out.trans (P7.2.trans P8.2)
     have S8:SR B g xs A W8 none:=by rw[hW8];exact⟨_,P8.1,show s.d+1≤30 by omega⟩
     rw[← hW8] at FF8
     have HSz:=z00 (show W8.heap.size=w1.heap.size by rw[hW8];simp)
     have HW8:=z00 hW8
     clear hW8 P7 h7 hd7 hz7 HF HS e7 hdv7 P8
     have HF:=z00 FF8
     have HS:=z00 S8
     clear FF8 S8
     have B2:Below W8.heap.size W8 (W8.alloc (.cells #[] tI)):=(Below.refl _ _).alloc (Nat.le_refl _) _
     have R2:SR B g xs (z0g A (.slice (some ⟨W8.heap.size,0,none⟩) 0 0)) (W8.alloc (.cells #[] tI)) none:=(SR.avoid (A':=z0g A (.slice (some ⟨W8.heap.size,0,none⟩) 0 0)) (t:=none) HS.out (fun k hk=>hk.imp_right (fun e=>by injection e with e;show W8.heap.size≤k;exact Nat.le_of_eq e))).below B2
     have o2:(W8.alloc (.cells #[] tI)).ownsRow w.heap.size tI 1 (.slice (some ⟨W8.heap.size,0,none⟩) 0 0) 0 (z02 ([]:List Int)):=World.ownsRow_lit W8 #[] 0 HF.out.size (by decide) rfl
     have FF2:=HF.out.trans (Fr.ofB (B:=B) B2 (SR.base (t:=none) HS.out))
     clear HF HS
     have HF:=z00 FF2
     have HS:=z00 R2
     have HP:=z00 o2
     clear FF2 R2 o2 B2
     go_wp2
     rw[← HW8.out]
     go_loopg [3] 0 (fun f kv wr=>kv=.slice (some ⟨W8.heap.size,0,none⟩) 0 0∧wr=(W8.alloc (.cells #[] tI)))
     case atStart=>exact⟨by rw[HSz.out],rfl⟩
     case round =>
      obtain⟨rfl,rfl⟩:=hrel
      obtain⟨s9,h9,hd9⟩:=HS.out
      obtain⟨sa,sc,na,nc,-,-,c2,-,-,-⟩:=h9.cells
      clear h9 hd9
      obtain⟨s8,h8,hd8⟩:=HS.out
      obtain⟨sa8,sc8,na8,nc8,-,-,-,⟨dv8,c38,-⟩,-,hz8⟩:=h8.cells
      have z38:=hz8 3
      have HY:=z00 h8
      have HDD:=z00 hd8
      clear h8 hd8 hz8 HS
      go_wp2_with fail
      have hY:=fun d=>HY.out.setI d
      refine(z14 (o:=none) 18 ByteArray.empty ([]:List Int) (some ⟨W8.heap.size,0,none⟩) 0 (SR.avoid (t:=none) (show SR B g xs (z0g A (.slice (some ⟨W8.heap.size,0,none⟩) 0 0)) _ none from⟨s8,(hY _).1,HDD.out⟩) (fun k hk=>.inl (.inl hk))) (z01 ((hY _).2.ints HP.out) hbase) (fun b hb hb2=>by have h7:=(HP.out.lt b hb).1;have h8:=hA b hb2;omega) rfl).mono ?_
      rintro e we ⟨⟨k9,rfl,hk9⟩,S9,F9⟩
      have HH:=z00 (show z0j B g xs A w VNs none (.returned (.int .i64 k9)) we from⟨⟨k9,rfl,hk9⟩,S9,HF.out.trans ((hY _).2.trans F9)⟩)
      clear S9 F9 HF HY hY
      go_wp2
      go_ret
      exact HH.out
    ·refine(z0i (o:=none) (t:=some s) HS.out hX (hM (⟨#[123]⟩:ByteArray) (by decide)) (show z0p xs (⟨#[123]⟩:ByteArray) s=_ by unfold z0p;rw[if_neg ht])).mono ?_
     rintro e w1 ⟨rfl,S1,F1⟩
     have FF1:=HF.out.trans F1
     clear HF HS
     have HF:=z00 FF1
     have HS:=z00 S1
     clear FF1 S1 F1
     clear ht
     obtain⟨s7,h7,hd7⟩:=HS.out
     obtain⟨sa7,sc7,na7,nc7,-,-,c27,⟨dv7,c37,-⟩,-,hz7⟩:=h7.cells
     have z37:=hz7 3
     have z27:=hz7 2
     have P7:=h7.setI (wrap64 (dv7+1))
     by_cases hgt:(20:Int)<wrap64 (dv7+1)
     ·have P8:=P7.1.setB
      obtain⟨W8,hW8⟩:∃ W8,W8=(w1.setCell ⟨g,3,none⟩ (.int .i64 (wrap64 (dv7+1)))).setCell ⟨g,2,none⟩ (.bool true):=⟨_,rfl⟩
      have FF8:=HF.out.trans (P7.2.trans P8.2)
      have S8:SR B g xs A W8 none:=by rw[hW8];exact⟨s7,P8.1,hd7⟩
      rw[← hW8] at FF8
      have HSz:=z00 (show W8.heap.size=w1.heap.size by rw[hW8];simp)
      have HW8:=z00 hW8
      clear hW8 P7 h7 hd7 hz7 HF HS P8
      have HF:=z00 FF8
      have HS:=z00 S8
      clear FF8 S8
      have B2:Below W8.heap.size W8 (W8.alloc (.cells #[] tI)):=(Below.refl _ _).alloc (Nat.le_refl _) _
      have R2:SR B g xs (z0g A (.slice (some ⟨W8.heap.size,0,none⟩) 0 0)) (W8.alloc (.cells #[] tI)) none:=(SR.avoid (A':=z0g A (.slice (some ⟨W8.heap.size,0,none⟩) 0 0)) (t:=none) HS.out (fun k hk=>hk.imp_right (fun e=>by injection e with e;show W8.heap.size≤k;exact Nat.le_of_eq e))).below B2
      have o2:(W8.alloc (.cells #[] tI)).ownsRow w.heap.size tI 1 (.slice (some ⟨W8.heap.size,0,none⟩) 0 0) 0 (z02 ([]:List Int)):=World.ownsRow_lit W8 #[] 0 HF.out.size (by decide) rfl
      have FF2:=HF.out.trans (Fr.ofB (B:=B) B2 (SR.base (t:=none) HS.out))
      clear HF HS
      have HF:=z00 FF2
      have HS:=z00 R2
      have HP:=z00 o2
      clear FF2 R2 o2 B2
      go_wp2
      rw[← HW8.out]
      go_loopg [3] 0 (fun f kv wr=>kv=.slice (some ⟨W8.heap.size,0,none⟩) 0 0∧wr=(W8.alloc (.cells #[] tI)))
      case atStart=>exact⟨by rw[HSz.out],rfl⟩
      case round =>
       obtain⟨rfl,rfl⟩:=hrel
       obtain⟨s9,h9,hd9⟩:=HS.out
       obtain⟨sa,sc,na,nc,-,-,c2,-,-,-⟩:=h9.cells
       clear h9 hd9
       obtain⟨s8,h8,hd8⟩:=HS.out
       obtain⟨sa8,sc8,na8,nc8,-,-,-,⟨dv8,c38,-⟩,-,hz8⟩:=h8.cells
       have z38:=hz8 3
       have HY:=z00 h8
       have HDD:=z00 hd8
       clear h8 hd8 hz8 HS
       go_wp2_with fail
       have hY:=fun d=>HY.out.setI d
       refine(z14 (o:=none) 18 ByteArray.empty ([]:List Int) (some ⟨W8.heap.size,0,none⟩) 0 (SR.avoid (t:=none) (show SR B g xs (z0g A (.slice (some ⟨W8.heap.size,0,none⟩) 0 0)) _ none from⟨s8,(hY _).1,HDD.out⟩) (fun k hk=>.inl (.inl hk))) (z01 ((hY _).2.ints HP.out) hbase) (fun b hb hb2=>by have h7:=(HP.out.lt b hb).1;have h8:=hA b hb2;omega) rfl).mono ?_
       rintro e we ⟨⟨k9,rfl,hk9⟩,S9,F9⟩
       have HH:=z00 (show z0j B g xs A w VNs none (.returned (.int .i64 k9)) we from⟨⟨k9,rfl,hk9⟩,S9,HF.out.trans ((hY _).2.trans F9)⟩)
       clear S9 F9 HF HY hY
       go_wp2
       go_ret
       exact HH.out
     ·obtain⟨W8,hW8⟩:∃ W8,W8=(w1.setCell ⟨g,3,none⟩ (.int .i64 (wrap64 (dv7+1)))):=⟨_,rfl⟩
      have FF8:=HF.out.trans P7.2
      have S8:SR B g xs A W8 none:=by rw[hW8];exact⟨s7,P7.1,hd7⟩
      rw[← hW8] at FF8
      have HSz:=z00 (show W8.heap.size=w1.heap.size by rw[hW8];simp)
      have HW8:=z00 hW8
      clear hW8 P7 h7 hd7 hz7 HF HS
      have HF:=z00 FF8
      have HS:=z00 S8
      clear FF8 S8
      have B2:Below W8.heap.size W8 (W8.alloc (.cells #[] tI)):=(Below.refl _ _).alloc (Nat.le_refl _) _
      have R2:SR B g xs (z0g A (.slice (some ⟨W8.heap.size,0,none⟩) 0 0)) (W8.alloc (.cells #[] tI)) none:=(SR.avoid (A':=z0g A (.slice (some ⟨W8.heap.size,0,none⟩) 0 0)) (t:=none) HS.out (fun k hk=>hk.imp_right (fun e=>by injection e with e;show W8.heap.size≤k;exact Nat.le_of_eq e))).below B2
      have o2:(W8.alloc (.cells #[] tI)).ownsRow w.heap.size tI 1 (.slice (some ⟨W8.heap.size,0,none⟩) 0 0) 0 (z02 ([]:List Int)):=World.ownsRow_lit W8 #[] 0 HF.out.size (by decide) rfl
      have FF2:=HF.out.trans (Fr.ofB (B:=B) B2 (SR.base (t:=none) HS.out))
      clear HF HS
      have HF:=z00 FF2
      have HS:=z00 R2
      have HP:=z00 o2
      clear FF2 R2 o2 B2
      go_wp2
      rw[← HW8.out]
      go_loopg [3] 0 (fun f kv wr=>kv=.slice (some ⟨W8.heap.size,0,none⟩) 0 0∧wr=(W8.alloc (.cells #[] tI)))
      case atStart=>exact⟨by rw[HSz.out],rfl⟩
      case round =>
       obtain⟨rfl,rfl⟩:=hrel
       obtain⟨s9,h9,hd9⟩:=HS.out
       obtain⟨sa,sc,na,nc,-,-,c2,-,-,-⟩:=h9.cells
       clear h9 hd9
       obtain⟨s8,h8,hd8⟩:=HS.out
       obtain⟨sa8,sc8,na8,nc8,-,-,-,⟨dv8,c38,-⟩,-,hz8⟩:=h8.cells
       have z38:=hz8 3
       have HY:=z00 h8
       have HDD:=z00 hd8
       clear h8 hd8 hz8 HS
       go_wp2_with fail
       have hY:=fun d=>HY.out.setI d
       refine(z14 (o:=none) 18 ByteArray.empty ([]:List Int) (some ⟨W8.heap.size,0,none⟩) 0 (SR.avoid (t:=none) (show SR B g xs (z0g A (.slice (some ⟨W8.heap.size,0,none⟩) 0 0)) _ none from⟨s8,(hY _).1,HDD.out⟩) (fun k hk=>.inl (.inl hk))) (z01 ((hY _).2.ints HP.out) hbase) (fun b hb hb2=>by have h7:=(HP.out.lt b hb).1;have h8:=hA b hb2;omega) rfl).mono ?_
       rintro e we ⟨⟨k9,rfl,hk9⟩,S9,F9⟩
       have HH:=z00 (show z0j B g xs A w VNs none (.returned (.int .i64 k9)) we from⟨⟨k9,rfl,hk9⟩,S9,HF.out.trans ((hY _).2.trans F9)⟩)
       clear S9 F9 HF HY hY
       go_wp2
       go_ret
       exact HH.out
   ·rw[if_neg hb] at hr2
    go_enter Tryz.func126,Tryz.ntmps126
    go_wp2_with fail
    by_cases ht:txt xs s.p=(⟨#[123]⟩:ByteArray)
    ·have hw9:z0p xs (⟨#[123]⟩:ByteArray) ⟨s.p,s.d+1,s.ns⟩=yes () ⟨s.p+1,s.d+1,s.ns⟩:=by unfold z0p;rw[if_pos (show txt xs s.p=(⟨#[123]⟩:ByteArray) from ht)];rfl
     rw[hw9,z1a] at hr2
     have HX:=z00 hr2
     clear hr2 hw9
     refine(z0i (o:=some ((),s.next)) (t:=some s) HS.out hX (hM (⟨#[123]⟩:ByteArray) (by decide)) (show z0p xs (⟨#[123]⟩:ByteArray) s=_ by unfold z0p;rw[if_pos ht])).mono ?_
     rintro e w1 ⟨rfl,S1,F1⟩
     have FF1:=HF.out.trans F1
     clear HF HS
     have HF:=z00 FF1
     have HS:=z00 S1
     clear FF1 S1 F1
     clear ht
     obtain⟨h7,hd7⟩:=HS.out
     obtain⟨sa7,sc7,na7,nc7,-,-,c27,⟨dv7,c37,hdv7⟩,-,hz7⟩:=h7.cells
     obtain rfl:dv7=(s.d:Int):=hdv7 rfl
     have z37:=hz7 3
     have z27:=hz7 2
     have P7:=h7.setD (s.d+1)
     have e7:((s.d+1:Nat):Int)=(s.d:Int)+1:=by omega
     rw[e7] at P7
     have hd8:s.d≤20:=hd7
     have hdp:(0:Int)≤(s.d:Int):=by omega
     have hdq:(s.d:Int)≤20:=by omega
     have hgt:¬ (20:Int)<(s.d:Int)+1:=by omega
     obtain⟨W8,hW8⟩:∃ W8,W8=(w1.setCell ⟨g,3,none⟩ (.int .i64 ((s.d:Int)+1))):=⟨_,rfl⟩
     have FF8:=HF.out.trans P7.2
     have S8:SR B g xs A W8 (some ⟨s.p+1,s.d+1,s.ns⟩):=by rw[hW8];exact⟨P7.1,show s.d+1≤20 by omega⟩
     rw[← hW8] at FF8
     have HSz:=z00 (show W8.heap.size=w1.heap.size by rw[hW8];simp)
     have HW8:=z00 hW8
     clear hW8 P7 h7 hd7 hz7 HF HS e7 hdv7
     have HF:=z00 FF8
     have HS:=z00 S8
     clear FF8 S8
     have B2:Below W8.heap.size W8 (W8.alloc (.cells #[] tI)):=(Below.refl _ _).alloc (Nat.le_refl _) _
     have R2:SR B g xs (z0g A (.slice (some ⟨W8.heap.size,0,none⟩) 0 0)) (W8.alloc (.cells #[] tI)) (some (⟨s.p+1,s.d+1,s.ns⟩:Ps)):=(SR.avoid (A':=z0g A (.slice (some ⟨W8.heap.size,0,none⟩) 0 0)) (t:=(some (⟨s.p+1,s.d+1,s.ns⟩:Ps))) HS.out (fun k hk=>hk.imp_right (fun e=>by injection e with e;show W8.heap.size≤k;exact Nat.le_of_eq e))).below B2
     have o2:(W8.alloc (.cells #[] tI)).ownsRow w.heap.size tI 1 (.slice (some ⟨W8.heap.size,0,none⟩) 0 0) 0 (z02 ([]:List Int)):=World.ownsRow_lit W8 #[] 0 HF.out.size (by decide) rfl
     have FF2:=HF.out.trans (Fr.ofB (B:=B) B2 (SR.base (t:=(some (⟨s.p+1,s.d+1,s.ns⟩:Ps))) HS.out))
     clear HF HS
     have HF:=z00 FF2
     have HS:=z00 R2
     have HP:=z00 o2
     clear FF2 R2 o2 B2
     have HTB:=z00 (show z1p xs st (⟨#[125]⟩:ByteArray) (fun ks s2=>bnd (z0p xs (⟨#[125]⟩:ByteArray) s2) fun _ s3=>z0z 18 ByteArray.empty ks ⟨s3.p,s3.d-1,s3.ns⟩) d0 (lim xs) [] (some (⟨s.p+1,s.d+1,s.ns⟩:Ps)) o from⟨hd1,HX.out⟩)
     obtain⟨v0,hv0⟩:∃ v0,v0=Value.slice (some ⟨W8.heap.size,0,none⟩) 0 0:=⟨_,rfl⟩
     rw[← hv0] at HP HS
     rw[HSz.out] at hv0
     clear HX
     go_wp2
     rw[← HW8.out]
     rw[← hv0]
     clear hv0
     go_loopg [3] (lim xs) (fun f kv wr=>∃ (ks:List Int) (q:Option Ps),f+ks.length=lim xs∧wr.ownsRow w.heap.size tI 1 kv ks.length (z02 ks)∧SR B g xs (z0g A kv) wr q∧Fr B w wr∧Hid (z1p xs st (⟨#[125]⟩:ByteArray) (fun ks s2=>bnd (z0p xs (⟨#[125]⟩:ByteArray) s2) fun _ s3=>z0z 18 ByteArray.empty ks ⟨s3.p,s3.d-1,s3.ns⟩) d0 f ks q o))
     case atStart=>exact⟨[],some (⟨s.p+1,s.d+1,s.ns⟩:Ps),by simp,HP.out,HS.out,HF.out,HTB⟩
     case round =>
      obtain⟨ks,q,hf,P,R,Fx,HX⟩:=hrel
      clear HP HS HF HTB
      obtain⟨ao,cc,rfl⟩:=z06 P
      have HP:=z00 P
      have HF:=z00 Fx
      have HS:=z00 R
      clear P R Fx
      have hkl:ks.length≤3001:=by omega
      match q,HS,HX with
      | none,HS,HX =>
        obtain rfl:o=none:=HX.out
        obtain⟨s9,h9,hd9⟩:=HS.out
        obtain⟨sa,sc,na,nc,-,-,c2,-,-,-⟩:=h9.cells
        clear h9 hd9 HX
        obtain⟨s8,h8,hd8⟩:=HS.out
        obtain⟨sa8,sc8,na8,nc8,-,-,-,⟨dv8,c38,-⟩,-,hz8⟩:=h8.cells
        have z38:=hz8 3
        have HY:=z00 h8
        have HDD:=z00 hd8
        clear h8 hd8 hz8 HS
        go_wp2_with fail
        have hY:=fun d=>HY.out.setI d
        refine(z14 (o:=none) 18 ByteArray.empty ks (ao) cc (SR.avoid (t:=none) (show SR B g xs (z0g A (.slice ao ks.length cc)) _ none from⟨s8,(hY _).1,HDD.out⟩) (fun k hk=>.inl (.inl hk))) (z01 ((hY _).2.ints HP.out) hbase) (fun b hb hb2=>by have h7:=(HP.out.lt b hb).1;have h8:=hA b hb2;omega) rfl).mono ?_
        rintro e we ⟨⟨k9,rfl,hk9⟩,S9,F9⟩
        have HH:=z00 (show z0j B g xs A w VNs none (.returned (.int .i64 k9)) we from⟨⟨k9,rfl,hk9⟩,S9,HF.out.trans ((hY _).2.trans F9)⟩)
        clear S9 F9 HF HY hY
        go_wp2
        go_ret
        exact HH.out
      | some s1,HS,HX =>
        obtain⟨hd0,hx⟩:s1.d=d0∧bnd (z3v xs st (⟨#[125]⟩:ByteArray) gk ks s1) (fun ks s2=>bnd (z0p xs (⟨#[125]⟩:ByteArray) s2) fun _ s3=>z0z 18 ByteArray.empty ks ⟨s3.p,s3.d-1,s3.ns⟩)=some o:=HX.out
        have HD0:=z00 hd0
        clear HX hd0
        cases gk with
        | zero=>exact absurd hx (by simp[z3v,bnd])
        | succ f =>
          rw[z3v] at hx
          obtain⟨sa,sc,na,nc,-,-,c2,-,-,-⟩:=HS.out.1.cells
          by_cases ht:txt xs s1.p=(⟨#[125]⟩:ByteArray)
          ·rw[if_pos ht,z1a] at hx
           have hw9:z0p xs (⟨#[125]⟩:ByteArray) s1=yes () s1.next:=by unfold z0p;rw[if_pos ht]
           have hx2:z0z 18 ByteArray.empty ks ⟨(s1.next).p,(s1.next).d-1,(s1.next).ns⟩=some o:=by
            have h9:bnd (z0p xs (⟨#[125]⟩:ByteArray) s1) _=some o:=hx
            rw[hw9,z1a] at h9
            exact h9
           have qY:=z3p (s:=s1) HS.out hX (by rw[z0q (hM (⟨#[125]⟩:ByteArray) (by decide))];exact decide_eq_true ht)
           have HX:=z00 hx2
           clear hx hx2 hw9 ht
           go_wp2_with fail
           refine qY.mono ?_
           rintro e w3 ⟨rfl,S3,F3⟩
           clear qY c2
           have o3:=F3.ints HP.out
           have FF3:=HF.out.trans F3
           clear HF HS HP
           have HF:=z00 FF3
           have HS:=z00 S3
           have HP:=z00 o3
           clear FF3 S3 F3 o3
           obtain⟨h8,hd8⟩:=HS.out
           obtain⟨sa8,sc8,na8,nc8,-,-,-,⟨dv8,c38,hdv8⟩,-,hz8⟩:=h8.cells
           obtain rfl:dv8=(((s1.next).d:Nat):Int):=hdv8 rfl
           have z38:=hz8 3
           have hpos:(s1.next).d=d0:=HD0.out
           have P8:=h8.setD ((s1.next).d-1)
           have e8:(((s1.next).d-1:Nat):Int)=(((s1.next).d:Nat):Int)-1:=by omega
           rw[e8] at P8
           have hle:(((s1.next).d:Nat):Int)≤21:=by omega
           have hge:(0:Int)≤(((s1.next).d:Nat):Int):=by omega
           clear hpos
           have HS8:=z00 (show SR B g xs (z0g A (.slice ao ks.length cc)) _ (some ⟨(s1.next).p,(s1.next).d-1,(s1.next).ns⟩) from⟨P8.1,show (s1.next).d-1≤20 by omega⟩)
           have HF8:=z00 P8.2
           clear h8 hd8 hz8 HS P8 e8 hdv8
           go_wp2_with fail
           refine(z14 (o:=o) (t:=some ⟨(s1.next).p,(s1.next).d-1,(s1.next).ns⟩) 18 ByteArray.empty ks (ao) cc (SR.avoid (t:=some ⟨(s1.next).p,(s1.next).d-1,(s1.next).ns⟩) HS8.out (fun k hk=>.inl (.inl hk))) (z01 (HF8.out.ints HP.out) hbase) (fun b hb hb2=>by have h7:=(HP.out.lt b hb).1;have h8:=hA b hb2;omega) HX.out).mono ?_
           rintro e we ⟨⟨k9,rfl,hk9⟩,S9,F9⟩
           have HH:=z00 (show z0j B g xs A w VNs _ (.returned (.int .i64 k9)) we from⟨⟨k9,rfl,hk9⟩,S9,HF.out.trans (HF8.out.trans F9)⟩)
           clear S9 F9 HF HF8 HS8
           go_wp2
           go_ret
           exact HH.out
          ·rw[if_neg ht,z1y] at hx
           have qN:=z2c (t:=some s1) (u:=(⟨#[125]⟩:ByteArray)) HS.out (by rw[z0q (hM (⟨#[125]⟩:ByteArray) (by decide))];exact decide_eq_false ht)
           have HX:=z00 hx
           clear hx ht
           go_wp2_with fail
           refine qN.mono ?_
           rintro e w3 ⟨rfl,B3⟩
           clear qN c2
           have S3:=SR.below (t:=(some s1)) HS.out B3
           have FF3:=HF.out.trans (Fr.ofB (B:=B) B3 (SR.base (t:=(some s1)) HS.out))
           have o3:=z07 HP.out B3
           clear HF HS HP
           have HF:=z00 FF3
           have HS:=z00 S3
           have HP:=z00 o3
           clear FF3 S3 B3 o3
           go_wp2_with fail
           refine(zgl (t:=some s1) HS.out).mono ?_
           rintro e w4 ⟨⟨bb,rfl,hbb⟩,m4,hm4⟩
           have B4:Below w3.heap.size w3 w4:=by rw[hm4];exact z0a _ _
           clear hm4
           have S4:=SR.below (t:=(some s1)) HS.out B4
           have FF4:=HF.out.trans (Fr.ofB (B:=B) B4 (SR.base (t:=(some s1)) HS.out))
           have o4:=z07 HP.out B4
           clear HF HS HP
           have HF:=z00 FF4
           have HS:=z00 S4
           have HP:=z00 o4
           clear FF4 S4 B4 o4
           have hbk:bb=blk xs s1.p:=hbb s1 rfl
           clear hbb
           cases bb with
           | false =>
             have hbl:(blk xs s1.p&&decide (0<ks.length))=false:=by rw[← hbk];rfl
             clear hbk
             have hx:=HX.out
             simp only[hbl] at hx
             clear HX
             have HX:=z00 hx
             clear hx hbl
             go_wp2_with fail
             rcases z09 HX.out with⟨h5,rfl⟩|⟨k,s5,h5,hr5⟩
             ·refine(hSt _ _ _ none (z0g.lt hA HF.out.size HP.out) HS.out h5).mono ?_
              rintro e w5 ⟨⟨kx,rfl,-⟩,S5,F5⟩
              clear HX h5
              have o5:=F5.ints HP.out
              have FF5:=HF.out.trans F5
              clear HF HS HP
              have HF:=z00 FF5
              have HS:=z00 S5
              have HP:=z00 o5
              clear FF5 S5 F5 o5
              go_wp2_with fail
              refine(z2n kx false HS.out).mono ?_
              rintro e w6 ⟨rfl,S6,F6⟩
              have o6:=F6.ints HP.out
              have FF6:=HF.out.trans F6
              clear HF HS HP
              have HF:=z00 FF6
              have HS:=z00 S6
              have HP:=z00 o6
              clear FF6 S6 F6 o6
              have hs7:=HF.out.size
              go_wp2_with (at_builtin;refine z04 rfl _ _ 29 rfl w.heap.size 3 i0 _ 1 8 Tryz.underlying29 hi hz0 hz1 hz2 rfl (by decide) (.slice ao ks.length cc) (ks.length) (z02 ks) rfl (HP.out.alloc _) ⟨w6.heap.size,0,none⟩ 1 1 [.int .i64 kx] rfl rfl (cell_one_new _ _ _) (by simp[Value.oneCell']) (by unfold maxLen;omega) (by omega) (by simp;omega) ?_;intro v' w7 hown' hgrow5 hpl5)
              have B7:Below w6.heap.size w6 (w6.alloc (.cells #[.int .i64 kx] tI)):=(Below.refl _ _).alloc (Nat.le_refl _) _
              have FF7:=(HF.out.trans (Fr.ofB (B:=B) B7 (SR.base (t:=none) HS.out))).growI hbase hgrow5 (fun b hb=>(HP.out.lt b hb).1)
              have R7:=(SR.below (t:=none) HS.out B7).growI (A':=z0g A v') (HP.out.alloc _) hgrow5 (fun b hb=>.inr hb) (fun b hb=>by
               rcases hb with hb|hb
               ·exact .inl (.inl hb)
               ·rcases hpl5 b hb with h6|h6
                ·exact .inl (.inr h6)
                ·exact .inr h6)
              have o7:=z0c (ks:=ks) (k:=kx) hown' rfl
              clear hown' hgrow5 hpl5 HF HS HP hs7 B7
              obtain⟨ao7,cc7,rfl⟩:=z06 o7
              have HF:=z00 FF7
              have HS:=z00 R7
              have HP:=z00 o7
              clear FF7 R7 o7
              have hlen:(ks++[kx]).length=ks.length+1:=by simp
              have HZ:=z00 (show ∃ (ls:List Int) (q:Option Ps),f+ls.length=lim xs∧w7.ownsRow w.heap.size tI 1 (.slice ao7 (ks++[kx]).length cc7) ls.length (z02 ls)∧SR B g xs (z0g A (.slice ao7 (ks++[kx]).length cc7)) w7 q∧Fr B w w7∧Hid (z1p xs st (⟨#[125]⟩:ByteArray) (fun ks s2=>bnd (z0p xs (⟨#[125]⟩:ByteArray) s2) fun _ s3=>z0z 18 ByteArray.empty ks ⟨s3.p,s3.d-1,s3.ns⟩) d0 f ls q none) from⟨(ks++[kx]),none,by rw[hlen];omega,HP.out,HS.out,HF.out,z00 (show z1p xs st (⟨#[125]⟩:ByteArray) (fun ks s2=>bnd (z0p xs (⟨#[125]⟩:ByteArray) s2) fun _ s3=>z0z 18 ByteArray.empty ks ⟨s3.p,s3.d-1,s3.ns⟩) d0 f _ none none from rfl)⟩)
              have HLn:=z00 hlen
              clear HP HS HF hlen
              go_wp2
              go_roundg f
              case measure=>omega
              case rel=>first|exact HZ.out|(rw[HLn.out] at HZ;exact HZ.out)
             ·refine(hSt _ _ _ (some (k,s5)) (z0g.lt hA HF.out.size HP.out) HS.out h5).mono ?_
              rintro e w5 ⟨⟨kx,rfl,hkx⟩,S5,F5⟩
              obtain rfl:kx=((k:Nat):Int):=hkx k rfl
              have HD:=z00 (hSm _ _ _ h5)
              clear HX
              have HX:=z00 hr5
              clear h5 hr5 hkx
              have o5:=F5.ints HP.out
              have FF5:=HF.out.trans F5
              clear HF HS HP
              have HF:=z00 FF5
              have HS:=z00 S5
              have HP:=z00 o5
              clear FF5 S5 F5 o5
              go_wp2_with fail
              refine(z2o k false (s:=s5) HS.out).mono ?_
              rintro e w6 ⟨rfl,S6,F6⟩
              have o6:=F6.ints HP.out
              have FF6:=HF.out.trans F6
              clear HF HS HP
              have HF:=z00 FF6
              have HS:=z00 S6
              have HP:=z00 o6
              clear FF6 S6 F6 o6
              have hs7:=HF.out.size
              go_wp2_with (at_builtin;refine z04 rfl _ _ 29 rfl w.heap.size 3 i0 _ 1 8 Tryz.underlying29 hi hz0 hz1 hz2 rfl (by decide) (.slice ao ks.length cc) (ks.length) (z02 ks) rfl (HP.out.alloc _) ⟨w6.heap.size,0,none⟩ 1 1 [.int .i64 ((k:Nat):Int)] rfl rfl (cell_one_new _ _ _) (by simp[Value.oneCell']) (by unfold maxLen;omega) (by omega) (by simp;omega) ?_;intro v' w7 hown' hgrow5 hpl5)
              have B7:Below w6.heap.size w6 (w6.alloc (.cells #[.int .i64 ((k:Nat):Int)] tI)):=(Below.refl _ _).alloc (Nat.le_refl _) _
              have FF7:=(HF.out.trans (Fr.ofB (B:=B) B7 (SR.base (t:=(some (z19 s5 k false))) HS.out))).growI hbase hgrow5 (fun b hb=>(HP.out.lt b hb).1)
              have R7:=(SR.below (t:=(some (z19 s5 k false))) HS.out B7).growI (A':=z0g A v') (HP.out.alloc _) hgrow5 (fun b hb=>.inr hb) (fun b hb=>by
               rcases hb with hb|hb
               ·exact .inl (.inl hb)
               ·rcases hpl5 b hb with h6|h6
                ·exact .inl (.inr h6)
                ·exact .inr h6)
              have o7:=z0c (ks:=ks) (k:=((k:Nat):Int)) hown' rfl
              clear hown' hgrow5 hpl5 HF HS HP hs7 B7
              obtain⟨ao7,cc7,rfl⟩:=z06 o7
              have HF:=z00 FF7
              have HS:=z00 R7
              have HP:=z00 o7
              clear FF7 R7 o7
              have hlen:(ks++[((k:Nat):Int)]).length=ks.length+1:=by simp
              have HZ:=z00 (show ∃ (ls:List Int) (q:Option Ps),f+ls.length=lim xs∧w7.ownsRow w.heap.size tI 1 (.slice ao7 (ks++[((k:Nat):Int)]).length cc7) ls.length (z02 ls)∧SR B g xs (z0g A (.slice ao7 (ks++[((k:Nat):Int)]).length cc7)) w7 q∧Fr B w w7∧Hid (z1p xs st (⟨#[125]⟩:ByteArray) (fun ks s2=>bnd (z0p xs (⟨#[125]⟩:ByteArray) s2) fun _ s3=>z0z 18 ByteArray.empty ks ⟨s3.p,s3.d-1,s3.ns⟩) d0 f ls q o) from⟨(ks++[((k:Nat):Int)]),some (z19 s5 k false),by rw[hlen];omega,HP.out,HS.out,HF.out,z00 (show z1p xs st (⟨#[125]⟩:ByteArray) (fun ks s2=>bnd (z0p xs (⟨#[125]⟩:ByteArray) s2) fun _ s3=>z0z 18 ByteArray.empty ks ⟨s3.p,s3.d-1,s3.ns⟩) d0 f _ (some (z19 s5 k false)) o from⟨(show _=_ from HD.out).trans HD0.out,HX.out⟩)⟩)
              have HLn:=z00 hlen
              clear HP HS HF hlen
              go_wp2
              go_roundg f
              case measure=>omega
              case rel=>first|exact HZ.out|(rw[HLn.out] at HZ;exact HZ.out)
           | true =>
             by_cases h0k:ks.length=0
             ·have hbl:(blk xs s1.p&&decide (0<ks.length))=false:=by rw[h0k,Bool.and_eq_false_iff];right;decide
              have hgt:¬ (0:Int)<(ks.length:Int):=by omega
              have hgd:decide ((0:Int)<(ks.length:Int))=false:=decide_eq_false hgt
              have hgn:decide (0<ks.length)=false:=decide_eq_false (by omega)
              clear hbk h0k
              have hx:=HX.out
              simp only[hbl] at hx
              clear HX
              have HX:=z00 hx
              clear hx hbl
              go_wp2_with fail
              rcases z09 HX.out with⟨h5,rfl⟩|⟨k,s5,h5,hr5⟩
              ·refine(hSt _ _ _ none (z0g.lt hA HF.out.size HP.out) HS.out h5).mono ?_
               rintro e w5 ⟨⟨kx,rfl,-⟩,S5,F5⟩
               clear HX h5
               have o5:=F5.ints HP.out
               have FF5:=HF.out.trans F5
               clear HF HS HP
               have HF:=z00 FF5
               have HS:=z00 S5
               have HP:=z00 o5
               clear FF5 S5 F5 o5
               go_wp2_with fail
               refine(z2n kx false HS.out).mono ?_
               rintro e w6 ⟨rfl,S6,F6⟩
               have o6:=F6.ints HP.out
               have FF6:=HF.out.trans F6
               clear HF HS HP
               have HF:=z00 FF6
               have HS:=z00 S6
               have HP:=z00 o6
               clear FF6 S6 F6 o6
               have hs7:=HF.out.size
               go_wp2_with (at_builtin;refine z04 rfl _ _ 29 rfl w.heap.size 3 i0 _ 1 8 Tryz.underlying29 hi hz0 hz1 hz2 rfl (by decide) (.slice ao ks.length cc) (ks.length) (z02 ks) rfl (HP.out.alloc _) ⟨w6.heap.size,0,none⟩ 1 1 [.int .i64 kx] rfl rfl (cell_one_new _ _ _) (by simp[Value.oneCell']) (by unfold maxLen;omega) (by omega) (by simp;omega) ?_;intro v' w7 hown' hgrow5 hpl5)
               have B7:Below w6.heap.size w6 (w6.alloc (.cells #[.int .i64 kx] tI)):=(Below.refl _ _).alloc (Nat.le_refl _) _
               have FF7:=(HF.out.trans (Fr.ofB (B:=B) B7 (SR.base (t:=none) HS.out))).growI hbase hgrow5 (fun b hb=>(HP.out.lt b hb).1)
               have R7:=(SR.below (t:=none) HS.out B7).growI (A':=z0g A v') (HP.out.alloc _) hgrow5 (fun b hb=>.inr hb) (fun b hb=>by
                rcases hb with hb|hb
                ·exact .inl (.inl hb)
                ·rcases hpl5 b hb with h6|h6
                 ·exact .inl (.inr h6)
                 ·exact .inr h6)
               have o7:=z0c (ks:=ks) (k:=kx) hown' rfl
               clear hown' hgrow5 hpl5 HF HS HP hs7 B7
               obtain⟨ao7,cc7,rfl⟩:=z06 o7
               have HF:=z00 FF7
               have HS:=z00 R7
               have HP:=z00 o7
               clear FF7 R7 o7
               have hlen:(ks++[kx]).length=ks.length+1:=by simp
               have HZ:=z00 (show ∃ (ls:List Int) (q:Option Ps),f+ls.length=lim xs∧w7.ownsRow w.heap.size tI 1 (.slice ao7 (ks++[kx]).length cc7) ls.length (z02 ls)∧SR B g xs (z0g A (.slice ao7 (ks++[kx]).length cc7)) w7 q∧Fr B w w7∧Hid (z1p xs st (⟨#[125]⟩:ByteArray) (fun ks s2=>bnd (z0p xs (⟨#[125]⟩:ByteArray) s2) fun _ s3=>z0z 18 ByteArray.empty ks ⟨s3.p,s3.d-1,s3.ns⟩) d0 f ls q none) from⟨(ks++[kx]),none,by rw[hlen];omega,HP.out,HS.out,HF.out,z00 (show z1p xs st (⟨#[125]⟩:ByteArray) (fun ks s2=>bnd (z0p xs (⟨#[125]⟩:ByteArray) s2) fun _ s3=>z0z 18 ByteArray.empty ks ⟨s3.p,s3.d-1,s3.ns⟩) d0 f _ none none from rfl)⟩)
               have HLn:=z00 hlen
               clear HP HS HF hlen
               go_wp2
               go_roundg f
               case measure=>omega
               case rel=>first|exact HZ.out|(rw[HLn.out] at HZ;exact HZ.out)
              ·refine(hSt _ _ _ (some (k,s5)) (z0g.lt hA HF.out.size HP.out) HS.out h5).mono ?_
               rintro e w5 ⟨⟨kx,rfl,hkx⟩,S5,F5⟩
               obtain rfl:kx=((k:Nat):Int):=hkx k rfl
               have HD:=z00 (hSm _ _ _ h5)
               clear HX
               have HX:=z00 hr5
               clear h5 hr5 hkx
               have o5:=F5.ints HP.out
               have FF5:=HF.out.trans F5
               clear HF HS HP
               have HF:=z00 FF5
               have HS:=z00 S5
               have HP:=z00 o5
               clear FF5 S5 F5 o5
               go_wp2_with fail
               refine(z2o k false (s:=s5) HS.out).mono ?_
               rintro e w6 ⟨rfl,S6,F6⟩
               have o6:=F6.ints HP.out
               have FF6:=HF.out.trans F6
               clear HF HS HP
               have HF:=z00 FF6
               have HS:=z00 S6
               have HP:=z00 o6
               clear FF6 S6 F6 o6
               have hs7:=HF.out.size
               go_wp2_with (at_builtin;refine z04 rfl _ _ 29 rfl w.heap.size 3 i0 _ 1 8 Tryz.underlying29 hi hz0 hz1 hz2 rfl (by decide) (.slice ao ks.length cc) (ks.length) (z02 ks) rfl (HP.out.alloc _) ⟨w6.heap.size,0,none⟩ 1 1 [.int .i64 ((k:Nat):Int)] rfl rfl (cell_one_new _ _ _) (by simp[Value.oneCell']) (by unfold maxLen;omega) (by omega) (by simp;omega) ?_;intro v' w7 hown' hgrow5 hpl5)
               have B7:Below w6.heap.size w6 (w6.alloc (.cells #[.int .i64 ((k:Nat):Int)] tI)):=(Below.refl _ _).alloc (Nat.le_refl _) _
               have FF7:=(HF.out.trans (Fr.ofB (B:=B) B7 (SR.base (t:=(some (z19 s5 k false))) HS.out))).growI hbase hgrow5 (fun b hb=>(HP.out.lt b hb).1)
               have R7:=(SR.below (t:=(some (z19 s5 k false))) HS.out B7).growI (A':=z0g A v') (HP.out.alloc _) hgrow5 (fun b hb=>.inr hb) (fun b hb=>by
                rcases hb with hb|hb
                ·exact .inl (.inl hb)
                ·rcases hpl5 b hb with h6|h6
                 ·exact .inl (.inr h6)
                 ·exact .inr h6)
               have o7:=z0c (ks:=ks) (k:=((k:Nat):Int)) hown' rfl
               clear hown' hgrow5 hpl5 HF HS HP hs7 B7
               obtain⟨ao7,cc7,rfl⟩:=z06 o7
               have HF:=z00 FF7
               have HS:=z00 R7
               have HP:=z00 o7
               clear FF7 R7 o7
               have hlen:(ks++[((k:Nat):Int)]).length=ks.length+1:=by simp
               have HZ:=z00 (show ∃ (ls:List Int) (q:Option Ps),f+ls.length=lim xs∧w7.ownsRow w.heap.size tI 1 (.slice ao7 (ks++[((k:Nat):Int)]).length cc7) ls.length (z02 ls)∧SR B g xs (z0g A (.slice ao7 (ks++[((k:Nat):Int)]).length cc7)) w7 q∧Fr B w w7∧Hid (z1p xs st (⟨#[125]⟩:ByteArray) (fun ks s2=>bnd (z0p xs (⟨#[125]⟩:ByteArray) s2) fun _ s3=>z0z 18 ByteArray.empty ks ⟨s3.p,s3.d-1,s3.ns⟩) d0 f ls q o) from⟨(ks++[((k:Nat):Int)]),some (z19 s5 k false),by rw[hlen];omega,HP.out,HS.out,HF.out,z00 (show z1p xs st (⟨#[125]⟩:ByteArray) (fun ks s2=>bnd (z0p xs (⟨#[125]⟩:ByteArray) s2) fun _ s3=>z0z 18 ByteArray.empty ks ⟨s3.p,s3.d-1,s3.ns⟩) d0 f _ (some (z19 s5 k false)) o from⟨(show _=_ from HD.out).trans HD0.out,HX.out⟩)⟩)
               have HLn:=z00 hlen
               clear HP HS HF hlen
               go_wp2
               go_roundg f
               case measure=>omega
               case rel=>first|exact HZ.out|(rw[HLn.out] at HZ;exact HZ.out)
             ·have hbl:(blk xs s1.p&&decide (0<ks.length))=true:=by rw[← hbk,Bool.true_and];exact decide_eq_true (by omega)
              have hgt:(0:Int)<(ks.length:Int):=by omega
              have hgd:decide ((0:Int)<(ks.length:Int))=true:=decide_eq_true hgt
              have hgn:decide (0<ks.length)=true:=decide_eq_true (by omega)
              clear hbk h0k
              have hx:=HX.out
              simp only[hbl] at hx
              clear HX
              have HX:=z00 hx
              clear hx hbl
              go_wp2_with fail
              rcases z09 HX.out with⟨h5,rfl⟩|⟨k,s5,h5,hr5⟩
              ·refine(hSt _ _ _ none (z0g.lt hA HF.out.size HP.out) HS.out h5).mono ?_
               rintro e w5 ⟨⟨kx,rfl,-⟩,S5,F5⟩
               clear HX h5
               have o5:=F5.ints HP.out
               have FF5:=HF.out.trans F5
               clear HF HS HP
               have HF:=z00 FF5
               have HS:=z00 S5
               have HP:=z00 o5
               clear FF5 S5 F5 o5
               go_wp2_with fail
               refine(z2n kx true HS.out).mono ?_
               rintro e w6 ⟨rfl,S6,F6⟩
               have o6:=F6.ints HP.out
               have FF6:=HF.out.trans F6
               clear HF HS HP
               have HF:=z00 FF6
               have HS:=z00 S6
               have HP:=z00 o6
               clear FF6 S6 F6 o6
               have hs7:=HF.out.size
               go_wp2_with (at_builtin;refine z04 rfl _ _ 29 rfl w.heap.size 3 i0 _ 1 8 Tryz.underlying29 hi hz0 hz1 hz2 rfl (by decide) (.slice ao ks.length cc) (ks.length) (z02 ks) rfl (HP.out.alloc _) ⟨w6.heap.size,0,none⟩ 1 1 [.int .i64 kx] rfl rfl (cell_one_new _ _ _) (by simp[Value.oneCell']) (by unfold maxLen;omega) (by omega) (by simp;omega) ?_;intro v' w7 hown' hgrow5 hpl5)
               have B7:Below w6.heap.size w6 (w6.alloc (.cells #[.int .i64 kx] tI)):=(Below.refl _ _).alloc (Nat.le_refl _) _
               have FF7:=(HF.out.trans (Fr.ofB (B:=B) B7 (SR.base (t:=none) HS.out))).growI hbase hgrow5 (fun b hb=>(HP.out.lt b hb).1)
               have R7:=(SR.below (t:=none) HS.out B7).growI (A':=z0g A v') (HP.out.alloc _) hgrow5 (fun b hb=>.inr hb) (fun b hb=>by
                rcases hb with hb|hb
                ·exact .inl (.inl hb)
                ·rcases hpl5 b hb with h6|h6
                 ·exact .inl (.inr h6)
                 ·exact .inr h6)
               have o7:=z0c (ks:=ks) (k:=kx) hown' rfl
               clear hown' hgrow5 hpl5 HF HS HP hs7 B7
               obtain⟨ao7,cc7,rfl⟩:=z06 o7
               have HF:=z00 FF7
               have HS:=z00 R7
               have HP:=z00 o7
               clear FF7 R7 o7
               have hlen:(ks++[kx]).length=ks.length+1:=by simp
               have HZ:=z00 (show ∃ (ls:List Int) (q:Option Ps),f+ls.length=lim xs∧w7.ownsRow w.heap.size tI 1 (.slice ao7 (ks++[kx]).length cc7) ls.length (z02 ls)∧SR B g xs (z0g A (.slice ao7 (ks++[kx]).length cc7)) w7 q∧Fr B w w7∧Hid (z1p xs st (⟨#[125]⟩:ByteArray) (fun ks s2=>bnd (z0p xs (⟨#[125]⟩:ByteArray) s2) fun _ s3=>z0z 18 ByteArray.empty ks ⟨s3.p,s3.d-1,s3.ns⟩) d0 f ls q none) from⟨(ks++[kx]),none,by rw[hlen];omega,HP.out,HS.out,HF.out,z00 (show z1p xs st (⟨#[125]⟩:ByteArray) (fun ks s2=>bnd (z0p xs (⟨#[125]⟩:ByteArray) s2) fun _ s3=>z0z 18 ByteArray.empty ks ⟨s3.p,s3.d-1,s3.ns⟩) d0 f _ none none from rfl)⟩)
               have HLn:=z00 hlen
               clear HP HS HF hlen
               go_wp2
               go_roundg f
               case measure=>omega
               case rel=>first|exact HZ.out|(rw[HLn.out] at HZ;exact HZ.out)
              ·refine(hSt _ _ _ (some (k,s5)) (z0g.lt hA HF.out.size HP.out) HS.out h5).mono ?_
               rintro e w5 ⟨⟨kx,rfl,hkx⟩,S5,F5⟩
               obtain rfl:kx=((k:Nat):Int):=hkx k rfl
               have HD:=z00 (hSm _ _ _ h5)
               clear HX
               have HX:=z00 hr5
               clear h5 hr5 hkx
               have o5:=F5.ints HP.out
               have FF5:=HF.out.trans F5
               clear HF HS HP
               have HF:=z00 FF5
               have HS:=z00 S5
               have HP:=z00 o5
               clear FF5 S5 F5 o5
               go_wp2_with fail
               refine(z2o k true (s:=s5) HS.out).mono ?_
               rintro e w6 ⟨rfl,S6,F6⟩
               have o6:=F6.ints HP.out
               have FF6:=HF.out.trans F6
               clear HF HS HP
               have HF:=z00 FF6
               have HS:=z00 S6
               have HP:=z00 o6
               clear FF6 S6 F6 o6
               have hs7:=HF.out.size
               go_wp2_with (at_builtin;refine z04 rfl _ _ 29 rfl w.heap.size 3 i0 _ 1 8 Tryz.underlying29 hi hz0 hz1 hz2 rfl (by decide) (.slice ao ks.length cc) (ks.length) (z02 ks) rfl (HP.out.alloc _) ⟨w6.heap.size,0,none⟩ 1 1 [.int .i64 ((k:Nat):Int)] rfl rfl (cell_one_new _ _ _) (by simp[Value.oneCell']) (by unfold maxLen;omega) (by omega) (by simp;omega) ?_;intro v' w7 hown' hgrow5 hpl5)
               have B7:Below w6.heap.size w6 (w6.alloc (.cells #[.int .i64 ((k:Nat):Int)] tI)):=(Below.refl _ _).alloc (Nat.le_refl _) _
               have FF7:=(HF.out.trans (Fr.ofB (B:=B) B7 (SR.base (t:=(some (z19 s5 k true))) HS.out))).growI hbase hgrow5 (fun b hb=>(HP.out.lt b hb).1)
               have R7:=(SR.below (t:=(some (z19 s5 k true))) HS.out B7).growI (A':=z0g A v') (HP.out.alloc _) hgrow5 (fun b hb=>.inr hb) (fun b hb=>by
                rcases hb with hb|hb
                ·exact .inl (.inl hb)
                ·rcases hpl5 b hb with h6|h6
                 ·exact .inl (.inr h6)
                 ·exact .inr h6)
               have o7:=z0c (ks:=ks) (k:=((k:Nat):Int)) hown' rfl
               clear hown' hgrow5 hpl5 HF HS HP hs7 B7
               obtain⟨ao7,cc7,rfl⟩:=z06 o7
               have HF:=z00 FF7
               have HS:=z00 R7
               have HP:=z00 o7
               clear FF7 R7 o7
               have hlen:(ks++[((k:Nat):Int)]).length=ks.length+1:=by simp
               have HZ:=z00 (show ∃ (ls:List Int) (q:Option Ps),f+ls.length=lim xs∧w7.ownsRow w.heap.size tI 1 (.slice ao7 (ks++[((k:Nat):Int)]).length cc7) ls.length (z02 ls)∧SR B g xs (z0g A (.slice ao7 (ks++[((k:Nat):Int)]).length cc7)) w7 q∧Fr B w w7∧Hid (z1p xs st (⟨#[125]⟩:ByteArray) (fun ks s2=>bnd (z0p xs (⟨#[125]⟩:ByteArray) s2) fun _ s3=>z0z 18 ByteArray.empty ks ⟨s3.p,s3.d-1,s3.ns⟩) d0 f ls q o) from⟨(ks++[((k:Nat):Int)]),some (z19 s5 k true),by rw[hlen];omega,HP.out,HS.out,HF.out,z00 (show z1p xs st (⟨#[125]⟩:ByteArray) (fun ks s2=>bnd (z0p xs (⟨#[125]⟩:ByteArray) s2) fun _ s3=>z0z 18 ByteArray.empty ks ⟨s3.p,s3.d-1,s3.ns⟩) d0 f _ (some (z19 s5 k true)) o from⟨(show _=_ from HD.out).trans HD0.out,HX.out⟩)⟩)
               have HLn:=z00 hlen
               clear HP HS HF hlen
               go_wp2
               go_roundg f
               case measure=>omega
               case rel=>first|exact HZ.out|(rw[HLn.out] at HZ;exact HZ.out)
    ·have hw9:z0p xs (⟨#[123]⟩:ByteArray) ⟨s.p,s.d+1,s.ns⟩=some none:=by unfold z0p;rw[if_neg (show ¬ txt xs s.p=(⟨#[123]⟩:ByteArray) from ht)]
     rw[hw9,zn6] at hr2
     obtain rfl:none=o:=by injection hr2
     clear hr2 hw9
     refine(z0i (o:=none) (t:=some s) HS.out hX (hM (⟨#[123]⟩:ByteArray) (by decide)) (show z0p xs (⟨#[123]⟩:ByteArray) s=_ by unfold z0p;rw[if_neg ht])).mono ?_
     rintro e w1 ⟨rfl,S1,F1⟩
     have FF1:=HF.out.trans F1
     clear HF HS
     have HF:=z00 FF1
     have HS:=z00 S1
     clear FF1 S1 F1
     clear ht
     obtain⟨s7,h7,hd7⟩:=HS.out
     obtain⟨sa7,sc7,na7,nc7,-,-,c27,⟨dv7,c37,-⟩,-,hz7⟩:=h7.cells
     have z37:=hz7 3
     have z27:=hz7 2
     have P7:=h7.setI (wrap64 (dv7+1))
     by_cases hgt:(20:Int)<wrap64 (dv7+1)
     ·have P8:=P7.1.setB
      obtain⟨W8,hW8⟩:∃ W8,W8=(w1.setCell ⟨g,3,none⟩ (.int .i64 (wrap64 (dv7+1)))).setCell ⟨g,2,none⟩ (.bool true):=⟨_,rfl⟩
      have FF8:=HF.out.trans (P7.2.trans P8.2)
      have S8:SR B g xs A W8 none:=by rw[hW8];exact⟨s7,P8.1,hd7⟩
      rw[← hW8] at FF8
      have HSz:=z00 (show W8.heap.size=w1.heap.size by rw[hW8];simp)
      have HW8:=z00 hW8
      clear hW8 P7 h7 hd7 hz7 HF HS P8
      have HF:=z00 FF8
      have HS:=z00 S8
      clear FF8 S8
      have B2:Below W8.heap.size W8 (W8.alloc (.cells #[] tI)):=(Below.refl _ _).alloc (Nat.le_refl _) _
      have R2:SR B g xs (z0g A (.slice (some ⟨W8.heap.size,0,none⟩) 0 0)) (W8.alloc (.cells #[] tI)) none:=(SR.avoid (A':=z0g A (.slice (some ⟨W8.heap.size,0,none⟩) 0 0)) (t:=none) HS.out (fun k hk=>hk.imp_right (fun e=>by injection e with e;show W8.heap.size≤k;exact Nat.le_of_eq e))).below B2
      have o2:(W8.alloc (.cells #[] tI)).ownsRow w.heap.size tI 1 (.slice (some ⟨W8.heap.size,0,none⟩) 0 0) 0 (z02 ([]:List Int)):=World.ownsRow_lit W8 #[] 0 HF.out.size (by decide) rfl
      have FF2:=HF.out.trans (Fr.ofB (B:=B) B2 (SR.base (t:=none) HS.out))
      clear HF HS
      have HF:=z00 FF2
      have HS:=z00 R2
      have HP:=z00 o2
      clear FF2 R2 o2 B2
      go_wp2
      rw[← HW8.out]
      go_loopg [3] 0 (fun f kv wr=>kv=.slice (some ⟨W8.heap.size,0,none⟩) 0 0∧wr=(W8.alloc (.cells #[] tI)))
      case atStart=>exact⟨by rw[HSz.out],rfl⟩
      case round =>
       obtain⟨rfl,rfl⟩:=hrel
       obtain⟨s9,h9,hd9⟩:=HS.out
       obtain⟨sa,sc,na,nc,-,-,c2,-,-,-⟩:=h9.cells
       clear h9 hd9
       obtain⟨s8,h8,hd8⟩:=HS.out
       obtain⟨sa8,sc8,na8,nc8,-,-,-,⟨dv8,c38,-⟩,-,hz8⟩:=h8.cells
       have z38:=hz8 3
       have HY:=z00 h8
       have HDD:=z00 hd8
       clear h8 hd8 hz8 HS
       go_wp2_with fail
       have hY:=fun d=>HY.out.setI d
       refine(z14 (o:=none) 18 ByteArray.empty ([]:List Int) (some ⟨W8.heap.size,0,none⟩) 0 (SR.avoid (t:=none) (show SR B g xs (z0g A (.slice (some ⟨W8.heap.size,0,none⟩) 0 0)) _ none from⟨s8,(hY _).1,HDD.out⟩) (fun k hk=>.inl (.inl hk))) (z01 ((hY _).2.ints HP.out) hbase) (fun b hb hb2=>by have h7:=(HP.out.lt b hb).1;have h8:=hA b hb2;omega) rfl).mono ?_
       rintro e we ⟨⟨k9,rfl,hk9⟩,S9,F9⟩
       have HH:=z00 (show z0j B g xs A w VNs none (.returned (.int .i64 k9)) we from⟨⟨k9,rfl,hk9⟩,S9,HF.out.trans ((hY _).2.trans F9)⟩)
       clear S9 F9 HF HY hY
       go_wp2
       go_ret
       exact HH.out
     ·obtain⟨W8,hW8⟩:∃ W8,W8=(w1.setCell ⟨g,3,none⟩ (.int .i64 (wrap64 (dv7+1)))):=⟨_,rfl⟩
      have FF8:=HF.out.trans P7.2
      have S8:SR B g xs A W8 none:=by rw[hW8];exact⟨s7,P7.1,hd7⟩
      rw[← hW8] at FF8
      have HSz:=z00 (show W8.heap.size=w1.heap.size by rw[hW8];simp)
      have HW8:=z00 hW8
      clear hW8 P7 h7 hd7 hz7 HF HS
      have HF:=z00 FF8
      have HS:=z00 S8
      clear FF8 S8
      have B2:Below W8.heap.size W8 (W8.alloc (.cells #[] tI)):=(Below.refl _ _).alloc (Nat.le_refl _) _
      have R2:SR B g xs (z0g A (.slice (some ⟨W8.heap.size,0,none⟩) 0 0)) (W8.alloc (.cells #[] tI)) none:=(SR.avoid (A':=z0g A (.slice (some ⟨W8.heap.size,0,none⟩) 0 0)) (t:=none) HS.out (fun k hk=>hk.imp_right (fun e=>by injection e with e;show W8.heap.size≤k;exact Nat.le_of_eq e))).below B2
      have o2:(W8.alloc (.cells #[] tI)).ownsRow w.heap.size tI 1 (.slice (some ⟨W8.heap.size,0,none⟩) 0 0) 0 (z02 ([]:List Int)):=World.ownsRow_lit W8 #[] 0 HF.out.size (by decide) rfl
      have FF2:=HF.out.trans (Fr.ofB (B:=B) B2 (SR.base (t:=none) HS.out))
      clear HF HS
      have HF:=z00 FF2
      have HS:=z00 R2
      have HP:=z00 o2
      clear FF2 R2 o2 B2
      go_wp2
      rw[← HW8.out]
      go_loopg [3] 0 (fun f kv wr=>kv=.slice (some ⟨W8.heap.size,0,none⟩) 0 0∧wr=(W8.alloc (.cells #[] tI)))
      case atStart=>exact⟨by rw[HSz.out],rfl⟩
      case round =>
       obtain⟨rfl,rfl⟩:=hrel
       obtain⟨s9,h9,hd9⟩:=HS.out
       obtain⟨sa,sc,na,nc,-,-,c2,-,-,-⟩:=h9.cells
       clear h9 hd9
       obtain⟨s8,h8,hd8⟩:=HS.out
       obtain⟨sa8,sc8,na8,nc8,-,-,-,⟨dv8,c38,-⟩,-,hz8⟩:=h8.cells
       have z38:=hz8 3
       have HY:=z00 h8
       have HDD:=z00 hd8
       clear h8 hd8 hz8 HS
       go_wp2_with fail
       have hY:=fun d=>HY.out.setI d
       refine(z14 (o:=none) 18 ByteArray.empty ([]:List Int) (some ⟨W8.heap.size,0,none⟩) 0 (SR.avoid (t:=none) (show SR B g xs (z0g A (.slice (some ⟨W8.heap.size,0,none⟩) 0 0)) _ none from⟨s8,(hY _).1,HDD.out⟩) (fun k hk=>.inl (.inl hk))) (z01 ((hY _).2.ints HP.out) hbase) (fun b hb hb2=>by have h7:=(HP.out.lt b hb).1;have h8:=hA b hb2;omega) rfl).mono ?_
       rintro e we ⟨⟨k9,rfl,hk9⟩,S9,F9⟩
       have HH:=z00 (show z0j B g xs A w VNs none (.returned (.int .i64 k9)) we from⟨⟨k9,rfl,hk9⟩,S9,HF.out.trans ((hY _).2.trans F9)⟩)
       clear S9 F9 HF HY hY
       go_wp2
       go_ret
       exact HH.out
end
end Go.Proofs.YtekebloinobjnaaGreatDoor
