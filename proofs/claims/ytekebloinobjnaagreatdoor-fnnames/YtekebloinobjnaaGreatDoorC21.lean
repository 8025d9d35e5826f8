/- Texts of one proof, laid together: SpI8, RdDp. -/
import Derived.Test.YtekebloinobjnaaGreatDoorC20
import Derived.Test.YtekebloinobjnaaGreatDoorC02
import Derived.Test.YtekebloinobjnaaGreatDoorC01
set_option maxHeartbeats 16000000
set_option maxRecDepth 100000
namespace Go.Proofs.YtekebloinobjnaaGreatDoor
open Go.RowKit
def zav (P:Nat→Ps→Rs Nat) (k:Int) (q:Option Ps) (o:Option (Nat×Ps)):Prop:=
 match q with
 | none=>o=none
 | some s=>∃ kn:Nat,k=(kn:Int)∧P kn s=some o
section
variable {B g:Nat} {xs:List Sg} {A:Nat→Prop} {w:World} {t:Option Ps}
theorem zv8 {O:Bool→Ps→Rs Nat} {o:Option (Nat×Ps)} (h:SR B g xs A w t) (hX:xs.length≤3000) (hM:z3w xs) (hA:∀ b,A b→b<w.heap.size) (hBs:z1n B g xs 239 (z3l xs O)) (hV:z1n B g xs 163 (O true)) (hr:z60 (za6 xs O) t o):Calls Tryz.prog 231 #[.pointer (some ⟨g,0,none⟩)] w (z0j B g xs A w VNs o):=by
 have hbase:=h.base
 obtain⟨o1,hr1,hx⟩:=z60.bnd (x:=z3l xs O) (f:=fun k s1=>z4w xs O (lim xs) k s1) hr
 have qB:=hBs A w t o1 hA h hr1
 have HX0:=z00 hx
 clear hr hr1 hx hBs h
 go_enter Tryz.func231,Tryz.ntmps231
 go_wp2_with fail
 refine qB.mono ?_
 rintro e w1 ⟨⟨k1,rfl,hk1⟩,S1,F1⟩
 have HS:=z00 S1
 have HF:=z00 F1
 obtain⟨q1,hq1⟩:∃ q1,q1=o1.map (·.2):=⟨_,rfl⟩
 rw[← hq1] at HS
 have HR:=z00 (show zav (z4w xs O (lim xs)) k1 q1 o by
  have h9:=HX0.out
  rw[hq1]
  match o1,h9,hk1 with
  | none,h9,_=>exact h9
  | some (a,_),h9,hk1=>exact⟨a,hk1 a rfl,h9⟩)
 clear S1 F1 HX0 hq1 qB hk1
 go_wp2
 go_loopg [3] (lim xs) (fun f v wr=>∃ (k:Int) (q:Option Ps),v=.int .i64 k∧SR B g xs A wr q∧Fr B w wr∧Hid (zav (z4w xs O f) k q o))
 case atStart=>exact⟨k1,q1,rfl,HS.out,HF.out,HR⟩
 case round =>
  obtain⟨k,q,rfl,S,F,HX⟩:=hrel
  clear HS HF HR
  have HS:=z00 S
  have HF:=z00 F
  clear S F
  match q,HS,HX with
  | none,HS,HX =>
    obtain rfl:o=none:=HX.out
    obtain⟨s1,h1,hd1⟩:=HS.out
    obtain⟨sa,sc,na,nc,-,-,c2,-,-,-⟩:=h1.cells
    clear h1 hd1 HX
    go_wp2
    go_ret
    exact⟨⟨k,rfl,fun a ha=>by cases ha⟩,HS.out,HF.out⟩
  | some s1,HS,HX =>
    obtain⟨kn,hkn,hx⟩:∃ kn:Nat,k=(kn:Int)∧z4w xs O gk kn s1=some o:=HX.out
    have HK:=z00 hkn
    clear HX hkn
    cases gk with
    | zero=>exact absurd hx (by simp[z4w])
    | succ f =>
      obtain⟨sa,sc,na,nc,-,-,c2,-,-,-⟩:=HS.out.1.cells
      unfold z4w at hx
      by_cases ht:txt xs s1.p=(⟨#[40]⟩:ByteArray)
      ·rw[if_pos ht,zoi O kn s1 ht,z1y,← HK.out] at hx
       have qY:=z3p (s:=s1) HS.out hX (by rw[z0q (hM (⟨#[40]⟩:ByteArray) (by decide))];exact decide_eq_true ht)
       have HX:=z00 hx
       clear hx ht
       go_wp2_with fail
       refine qY.mono ?_
       rintro e w2 ⟨rfl,S2,F2⟩
       clear qY c2
       have FF2:=HF.out.trans F2
       clear HF HS
       have HF:=z00 FF2
       have HS:=z00 S2
       clear FF2 S2 F2
       have Bo:Below w2.heap.size w2 (w2.alloc (.cells #[.int .i64 k] tI)):=(Below.refl _ _).alloc (Nat.le_refl _) _
       have Ro:SR B g xs (z0g A (.slice (some ⟨w2.heap.size,0,none⟩) 1 1)) (w2.alloc (.cells #[.int .i64 k] tI)) (some s1.next):=(SR.avoid (A':=z0g A (.slice (some ⟨w2.heap.size,0,none⟩) 1 1)) (t:=(some s1.next)) HS.out (fun k hk=>hk.imp_right (fun e=>by injection e with e;show w2.heap.size≤k;exact Nat.le_of_eq e))).below Bo
       have oo:(w2.alloc (.cells #[.int .i64 k] tI)).ownsRow w.heap.size tI 1 (.slice (some ⟨w2.heap.size,0,none⟩) 1 1) 1 (z02 [k]):=World.ownsRow_lit w2 #[.int .i64 k] 1 HF.out.size (by decide) rfl
       have Fo:=HF.out.trans (Fr.ofB (B:=B) Bo (SR.base (t:=(some s1.next)) HS.out))
       clear HF HS Bo
       have HF:=z00 Fo
       have HS:=z00 Ro
       have HP:=z00 oo
       clear Fo Ro oo
       go_wp2_with fail
       rcases z09 HX.out with⟨h3,rfl⟩|⟨l,s3,h3,hr3⟩
       ·refine(z4h (w0:=w) (o:=none) (t:=some s1.next) hX (hM (⟨#[41]⟩:ByteArray) (by decide)) (hM (⟨#[44]⟩:ByteArray) (by decide)) HF.out hbase hA HP.out (by show (1:Nat)≤900;omega) HS.out hV h3).mono ?_
        rintro e w3 ⟨a3,c3,ks3,rfl,o3,S3,F3,hl3,-⟩
        clear HF HS HP HX h3
        have HF:=z00 F3
        have HS:=z00 S3
        have HP:=z00 o3
        clear F3 S3 o3
        go_wp2_with fail
        refine(z14 (o:=none) 5 ByteArray.empty ks3 a3 c3 (SR.avoid (t:=none) HS.out (fun k hk=>.inl (.inl hk))) (z01 HP.out hbase) (fun b hb hb2=>by have h7:=(HP.out.lt b hb).1;have h8:=hA b hb2;omega) rfl).mono ?_
        rintro e w4 ⟨⟨k4,rfl,-⟩,S4,F4⟩
        clear HP
        have FF4:=HF.out.trans F4
        clear HF HS
        have HF:=z00 FF4
        have HS:=z00 S4
        clear FF4 S4 F4
        go_wp2
        go_roundg f
        case measure=>omega
        case rel=>exact⟨k4,none,rfl,HS.out,HF.out,z00 (show zav _ _ none none from rfl)⟩
       ·refine(z4h (w0:=w) (o:=some (l,s3)) (t:=some s1.next) hX (hM (⟨#[41]⟩:ByteArray) (by decide)) (hM (⟨#[44]⟩:ByteArray) (by decide)) HF.out hbase hA HP.out (by show (1:Nat)≤900;omega) HS.out hV h3).mono ?_
        rintro e w3 ⟨a3,c3,ks3,rfl,o3,S3,F3,hl3,hk3⟩
        obtain rfl:ks3=l:=hk3 l s3 rfl
        have HX2:=z00 hr3
        clear HF HS HP HX h3 hr3 hk3
        have HF:=z00 F3
        have HS:=z00 S3
        have HP:=z00 o3
        clear F3 S3 o3
        go_wp2_with fail
        rcases z09 HX2.out with⟨h4,rfl⟩|⟨a4,s4,h4,hr4⟩
        ·refine(z14 (o:=none) 5 ByteArray.empty ks3 a3 c3 (SR.avoid (t:=some s3) HS.out (fun k hk=>.inl (.inl hk))) (z01 HP.out hbase) (fun b hb hb2=>by have h7:=(HP.out.lt b hb).1;have h8:=hA b hb2;omega) h4).mono ?_
         rintro e w4 ⟨⟨k4,rfl,-⟩,S4,F4⟩
         clear HP HX2 h4
         have FF4:=HF.out.trans F4
         clear HF HS
         have HF:=z00 FF4
         have HS:=z00 S4
         clear FF4 S4 F4
         go_wp2
         go_roundg f
         case measure=>omega
         case rel=>exact⟨k4,none,rfl,HS.out,HF.out,z00 (show zav _ _ none none from rfl)⟩
        ·refine(z14 (o:=some (a4,s4)) 5 ByteArray.empty ks3 a3 c3 (SR.avoid (t:=some s3) HS.out (fun k hk=>.inl (.inl hk))) (z01 HP.out hbase) (fun b hb hb2=>by have h7:=(HP.out.lt b hb).1;have h8:=hA b hb2;omega) h4).mono ?_
         rintro e w4 ⟨⟨k4,rfl,hk4⟩,S4,F4⟩
         have hkk:k4=(a4:Int):=hk4 a4 rfl
         have HX:=z00 hr4
         have HKK:=z00 hkk
         clear HP HX2 h4 hr4 hk4 hkk
         have FF4:=HF.out.trans F4
         clear HF HS
         have HF:=z00 FF4
         have HS:=z00 S4
         clear FF4 S4 F4
         go_wp2
         go_roundg f
         case measure=>omega
         case rel=>exact⟨k4,some s4,rfl,HS.out,HF.out,z00 (show zav _ _ (some s4) o from⟨a4,HKK.out,HX.out⟩)⟩
      ·rw[if_neg ht] at hx
       have qN:=z2c (t:=some s1) (u:=(⟨#[40]⟩:ByteArray)) HS.out (by rw[z0q (hM (⟨#[40]⟩:ByteArray) (by decide))];exact decide_eq_false ht)
       clear ht
       have HX:=z00 hx
       clear hx
       go_wp2_with fail
       refine qN.mono ?_
       rintro e w2 ⟨rfl,B2⟩
       have S2:=SR.below (t:=some s1) HS.out B2
       have F2:=Fr.ofB (B:=B) B2 (SR.base (t:=some s1) HS.out)
       clear qN B2 c2
       have FF2:=HF.out.trans F2
       clear HF HS
       have HF:=z00 FF2
       have HS:=z00 S2
       clear FF2 S2 F2
       go_wp2_with fail
       by_cases ht:txt xs s1.p=(⟨#[46]⟩:ByteArray)
       ·have hx:=HX.out
        rw[if_pos ht] at hx
        have qY:=z3p (s:=s1) HS.out hX (by rw[z0q (hM (⟨#[46]⟩:ByteArray) (by decide))];exact decide_eq_true ht)
        clear HX ht
        have HX:=z00 hx
        clear hx
        refine qY.mono ?_
        rintro e w3 ⟨rfl,S3,F3⟩
        clear qY
        have FF3:=HF.out.trans F3
        clear HF HS
        have HF:=z00 FF3
        have HS:=z00 S3
        clear FF3 S3 F3
        go_wp2_with fail
        rcases z09 HX.out with⟨h4,rfl⟩|⟨nm,s4,h4,hr4⟩
        ·refine(z4f (t:=some s1.next) (o:=none) HS.out hX h4).mono ?_
         rintro e w4 ⟨⟨nmx,rfl,-⟩,S4,F4⟩
         clear HX h4
         have FF4:=HF.out.trans F4
         clear HF HS
         have HF:=z00 FF4
         have HS:=z00 S4
         clear FF4 S4 F4
         have Bo:Below w4.heap.size w4 (w4.alloc (.cells #[.int .i64 k] tI)):=(Below.refl _ _).alloc (Nat.le_refl _) _
         have Ro:SR B g xs (z0g A (.slice (some ⟨w4.heap.size,0,none⟩) 1 1)) (w4.alloc (.cells #[.int .i64 k] tI)) none:=(SR.avoid (A':=z0g A (.slice (some ⟨w4.heap.size,0,none⟩) 1 1)) (t:=none) HS.out (fun k hk=>hk.imp_right (fun e=>by injection e with e;show w4.heap.size≤k;exact Nat.le_of_eq e))).below Bo
         have oo:(w4.alloc (.cells #[.int .i64 k] tI)).ownsRow w.heap.size tI 1 (.slice (some ⟨w4.heap.size,0,none⟩) 1 1) 1 (z02 [k]):=World.ownsRow_lit w4 #[.int .i64 k] 1 HF.out.size (by decide) rfl
         have Fo:=HF.out.trans (Fr.ofB (B:=B) Bo (SR.base (t:=none) HS.out))
         clear HF HS Bo
         have HF:=z00 Fo
         have HS:=z00 Ro
         have HP:=z00 oo
         clear Fo Ro oo
         go_wp2_with fail
         refine(z14 (o:=none) 6 nmx [k] _ 1 (SR.avoid (t:=none) HS.out (fun k hk=>.inl (.inl hk))) (z01 HP.out hbase) (fun b hb hb2=>by have h7:=(HP.out.lt b hb).1;have h8:=hA b hb2;omega) rfl).mono ?_
         rintro e w5 ⟨⟨k5,rfl,-⟩,S5,F5⟩
         clear HP
         have FF5:=HF.out.trans F5
         clear HF HS
         have HF:=z00 FF5
         have HS:=z00 S5
         clear FF5 S5 F5
         go_wp2
         go_roundg f
         case measure=>omega
         case rel=>exact⟨k5,none,rfl,HS.out,HF.out,z00 (show zav _ _ none none from rfl)⟩
        ·refine(z4f (t:=some s1.next) (o:=some (nm,s4)) HS.out hX h4).mono ?_
         rintro e w4 ⟨⟨nmx,rfl,hnm⟩,S4,F4⟩
         obtain rfl:nmx=nm:=hnm nm rfl
         have hr4b:=hr4
         rw[← HK.out] at hr4b
         have HX2:=z00 hr4b
         clear HX h4 hr4 hr4b hnm
         have FF4:=HF.out.trans F4
         clear HF HS
         have HF:=z00 FF4
         have HS:=z00 S4
         clear FF4 S4 F4
         have Bo:Below w4.heap.size w4 (w4.alloc (.cells #[.int .i64 k] tI)):=(Below.refl _ _).alloc (Nat.le_refl _) _
         have Ro:SR B g xs (z0g A (.slice (some ⟨w4.heap.size,0,none⟩) 1 1)) (w4.alloc (.cells #[.int .i64 k] tI)) (some s4):=(SR.avoid (A':=z0g A (.slice (some ⟨w4.heap.size,0,none⟩) 1 1)) (t:=(some s4)) HS.out (fun k hk=>hk.imp_right (fun e=>by injection e with e;show w4.heap.size≤k;exact Nat.le_of_eq e))).below Bo
         have oo:(w4.alloc (.cells #[.int .i64 k] tI)).ownsRow w.heap.size tI 1 (.slice (some ⟨w4.heap.size,0,none⟩) 1 1) 1 (z02 [k]):=World.ownsRow_lit w4 #[.int .i64 k] 1 HF.out.size (by decide) rfl
         have Fo:=HF.out.trans (Fr.ofB (B:=B) Bo (SR.base (t:=(some s4)) HS.out))
         clear HF HS Bo
         have HF:=z00 Fo
         have HS:=z00 Ro
         have HP:=z00 oo
         clear Fo Ro oo
         go_wp2_with fail
         rcases z09 HX2.out with⟨h5,rfl⟩|⟨a5,s5,h5,hr5⟩
         ·refine(z14 (o:=none) 6 nmx [k] _ 1 (SR.avoid (t:=some s4) HS.out (fun k hk=>.inl (.inl hk))) (z01 HP.out hbase) (fun b hb hb2=>by have h7:=(HP.out.lt b hb).1;have h8:=hA b hb2;omega) h5).mono ?_
          rintro e w5 ⟨⟨k5,rfl,-⟩,S5,F5⟩
          clear HP HX2 h5
          have FF5:=HF.out.trans F5
          clear HF HS
          have HF:=z00 FF5
          have HS:=z00 S5
          clear FF5 S5 F5
          go_wp2
          go_roundg f
          case measure=>omega
          case rel=>exact⟨k5,none,rfl,HS.out,HF.out,z00 (show zav _ _ none none from rfl)⟩
         ·refine(z14 (o:=some (a5,s5)) 6 nmx [k] _ 1 (SR.avoid (t:=some s4) HS.out (fun k hk=>.inl (.inl hk))) (z01 HP.out hbase) (fun b hb hb2=>by have h7:=(HP.out.lt b hb).1;have h8:=hA b hb2;omega) h5).mono ?_
          rintro e w5 ⟨⟨k5,rfl,hk5⟩,S5,F5⟩
          have hkk:k5=(a5:Int):=hk5 a5 rfl
          have HX:=z00 hr5
          have HKK:=z00 hkk
          clear HP HX2 h5 hr5 hk5 hkk
          have FF5:=HF.out.trans F5
          clear HF HS
          have HF:=z00 FF5
          have HS:=z00 S5
          clear FF5 S5 F5
          go_wp2
          go_roundg f
          case measure=>omega
          case rel=>exact⟨k5,some s5,rfl,HS.out,HF.out,z00 (show zav _ _ (some s5) o from⟨a5,HKK.out,HX.out⟩)⟩
       ·have hx:=HX.out
        rw[if_neg ht] at hx
        obtain rfl:some (kn,s1)=o:=by injection hx
        have qN:=z2c (t:=some s1) (u:=(⟨#[46]⟩:ByteArray)) HS.out (by rw[z0q (hM (⟨#[46]⟩:ByteArray) (by decide))];exact decide_eq_false ht)
        clear HX hx ht
        refine qN.mono ?_
        rintro e w3 ⟨rfl,B3⟩
        have S3:=SR.below (t:=some s1) HS.out B3
        have F3:=Fr.ofB (B:=B) B3 (SR.base (t:=some s1) HS.out)
        clear qN B3
        have FF3:=HF.out.trans F3
        clear HF HS
        have HF:=z00 FF3
        have HS:=z00 S3
        clear FF3 S3 F3
        go_wp2
        go_ret
        exact⟨⟨k,rfl,fun a ha=>by injection ha with ha;rw[← ha];exact HK.out⟩,HS.out,HF.out⟩
end
def Dp {α:Type} (d:Nat) (r:Rs α):Prop:=∀ a s,r=yes a s→s.d=d
section
variable {α β:Type} {xs:List Sg} {d:Nat}
theorem Dp.no:Dp (α:=α) d (some none):=fun _ _ h=>by simp at h
theorem Dp.out:Dp (α:=α) d none:=fun _ _ h=>by simp at h
theorem Dp.ok {a:α} {s:Ps} (h:s.d=d):Dp d (yes a s):=fun b t e=>by simp only[Option.some.injEq,Prod.mk.injEq] at e;obtain⟨-,rfl⟩:=e;exact h
theorem Dp.bnd {x:Rs α} {f:α→Ps→Rs β} (h:Dp d x) (hf:∀ a s,s.d=d→Dp d (f a s)):Dp d (bnd x f):=by
 match x,h with
 | none,_=>exact Dp.out
 | some none,_=>exact Dp.no
 | some (some (a,s)),h=>exact hf a s (h a s rfl)
theorem z1s {t:ByteArray} {s:Ps} (h:s.d=d):Dp d (z0p xs t s):=by
 unfold z0p
 split
 ·exact Dp.ok h
 ·exact Dp.no
theorem z2a {kind:Int} {t:ByteArray} {ks:List Int} {s:Ps} (h:s.d=d):Dp d (z0z kind t ks s):=by
 unfold z0z
 split
 ·exact Dp.no
 ·exact Dp.ok h
theorem z6o {s:Ps} (h:s.d=d):Dp d (z4j xs s):=by
 unfold z4j
 split
 ·exact Dp.ok h
 ·exact Dp.no
theorem z8w {kind:Int} {s:Ps} (h:s.d=d):Dp d (z7y xs kind s):=z2a (s:=s.next) h
theorem zgn {s:Ps} (h:s.d=d):Dp d (z4n xs s):=(z6o h).bnd fun _ _ h1=>z2a h1
def z7l (one:Ps→Rs Nat):Prop:=∀ s:Ps,Dp s.d (one s)
theorem z5v {one:Ps→Rs Nat} {en:ByteArray} (hg:z7l one):∀ (f:Nat) (ks:List Int) (s:Ps),s.d=d→Dp d (z0v xs one en f ks s)
 | 0,_,_,_=>Dp.out
 | f+1,ks,s,h=>by
   unfold z0v
   split
   ·exact Dp.ok h
   ·refine Dp.bnd (h ▸ hg s) fun k s1 h1=>?_
    split
    ·exact z5v hg f _ s1.next h1
    ·exact(z1s h1).bnd fun _ s2 h2=>Dp.ok h2
theorem zek {s:Ps} (h:s.d=d):Dp d (z4p xs s):=(z1s h).bnd fun _ s1 h1=>z5v (fun _=>zgn rfl) _ _ s1 h1
section
variable {O:Bool→Ps→Rs Nat}
theorem zje {c:Nat} {s:Ps} (hO:z7l (O true)) (h:s.d=d):Dp d (z95 xs O c s):=(z1s h).bnd fun _ s1 h1=>(z5v hO _ _ s1 h1).bnd fun _ _ h2=>z2a h2
theorem zkm {s:Ps} (hO:z7l (O false)) (h:s.d=d):Dp d (zdn xs O s):=(zek h).bnd fun _ _ h1=>(z1s h1).bnd fun _ s2 h2=>Dp.bnd (h2 ▸ hO s2) fun _ _ h3=>z2a h3
theorem zp0 {s:Ps} (hO:∀ b,z7l (O b)) (h:s.d=d):Dp d (z3l xs O s):=by
 unfold z3l
 split
 ·exact z8w h
 split
 ·exact z8w h
 split
 ·exact z8w h
 split
 ·exact(z5v (hO true) _ _ s.next h).bnd fun _ _ h1=>z2a h1
 split
 ·exact zkm (hO false) h
 split
 ·exact Dp.bnd (show Dp d (O true s.next) from h ▸ hO true s.next) fun _ _ h1=>(z1s h1).bnd fun _ _ h2=>z2a h2
 ·exact Dp.no
theorem zah (hO:z7l (O true)):∀ (f v:Nat) (s:Ps),s.d=d→Dp d (z4w xs O f v s)
 | 0,_,_,_=>Dp.out
 | f+1,v,s,h=>by
   unfold z4w
   split
   ·exact(zje hO h).bnd fun k s1 h1=>zah hO f k s1 h1
   split
   ·exact(z6o (s:=s.next) h).bnd fun _ _ h1=>(z2a h1).bnd fun k s2 h2=>zah hO f k s2 h2
   ·exact Dp.ok h
theorem zp4 {s:Ps} (hO:∀ b,z7l (O b)) (h:s.d=d):Dp d (za6 xs O s):=(zp0 hO h).bnd fun k s1 h1=>zah (hO true) _ k s1 h1
theorem zil {nx:Ps→Rs Nat} {mark:ByteArray} (hn:z7l nx):∀ (f:Nat) (ks:List Int) (s:Ps),s.d=d→Dp d (z5z xs nx mark f ks s)
 | 0,_,_,_=>Dp.out
 | f+1,ks,s,h=>by
   unfold z5z
   split
   ·exact Dp.bnd (show Dp d (nx s.next) from h ▸ hn s.next) fun k s1 h1=>zil hn f _ s1 h1
   ·exact z2a h
theorem zmg {nx:Ps→Rs Nat} {lv:Nat} (hn:z7l nx):∀ (f v:Nat) (s:Ps),s.d=d→Dp d (chL xs nx lv f v s)
 | 0,_,_,_=>Dp.out
 | f+1,v,s,h=>by
   unfold chL
   split
   ·exact(zil hn _ _ s h).bnd fun k s1 h1=>zmg hn f k s1 h1
   ·exact Dp.ok h
theorem z7f (hO:∀ b,z7l (O b)):∀ (j d:Nat) (s:Ps),s.d=d→Dp d (z1o xs O j s)
 | 0,_,_,h=>zp4 hO h
 | j+1,d,s,h=>(z7f hO j d s h).bnd fun v s1 h1=>zmg (fun u=>z7f hO j u.d u rfl) _ v s1 h1
theorem zie {s:Ps} (hO:∀ b,z7l (O b)) (h:s.d=d):Dp d (z4u xs O s):=by
 unfold z4u
 split
 ·exact Dp.no
 have hc:∀ {γ:Type} {x:Rs Nat} {f:Nat→Ps→Rs γ},Dp (d+1) x→(∀ a s,s.d=d+1→Dp d (f a s))→Dp d (Go.Proofs.YtekebloinobjnaaGreatDoor.bnd x f):=by
  intro γ x f hx hf
  match x,hx with
  | none,_=>exact Dp.out
  | some none,_=>exact Dp.no
  | some (some (a,s)),hx=>exact hf a s (hx a s rfl)
 have hu:∀ {γ:Type} {x:Rs Unit} {f:Unit→Ps→Rs γ},Dp (d+1) x→(∀ a s,s.d=d+1→Dp d (f a s))→Dp d (Go.Proofs.YtekebloinobjnaaGreatDoor.bnd x f):=by
  intro γ x f hx hf
  match x,hx with
  | none,_=>exact Dp.out
  | some none,_=>exact Dp.no
  | some (some (a,s)),hx=>exact hf a s (hx a s rfl)
 refine hc (z7f hO 6 (d+1) ⟨s.p,s.d+1,s.ns⟩ (by show s.d+1=d+1;omega)) fun v s1 h1=>?_
 split
 ·refine hc (show Dp (d+1) (O false s1.next) from h1 ▸ hO false s1.next) fun y s2 h2=>?_
  refine hu (z1s h2) fun _ s3 h3=>?_
  refine hc (h3 ▸ hO false s3) fun n s4 h4=>?_
  refine hc (z2a h4) fun k s5 h5=>?_
  exact Dp.ok (by show s5.d-1=d;omega)
 ·exact Dp.ok (by show s1.d-1=d;omega)
theorem zjs (hO:z7l (O true)):∀ (f:Nat) (ks:List Int) (s:Ps),s.d=d→Dp d (z75 xs O f ks s)
 | 0,_,_,_=>Dp.out
 | f+1,ks,s,h=>by
   unfold z75
   split
   ·exact(zgn (s:=s.next) h).bnd fun _ _ h1=>(zje hO h1).bnd fun k s2 h2=>zjs hO f _ s2 h2
   ·exact Dp.ok h
theorem zkx {s:Ps} (hO:∀ b,z7l (O b)) (h:s.d=d):Dp d (z6j xs O s):=by
 refine(zie hO h).bnd fun v s1 h1=>(zjs (hO true) _ _ s1 h1).bnd fun ks s2 h2=>?_
 split
 ·exact Dp.ok h2
 ·exact z2a h2
end
theorem zkl:∀ (n:Nat) (b:Bool),z7l (vpF xs n b)
 | 0,_=>fun _=>Dp.out
 | n+1,true=>fun _=>zkx (fun b=>zkl n b) rfl
 | n+1,false=>fun _=>zie (fun b=>zkl n b) rfl
theorem zbs {s:Ps} (h:s.d=d):Dp d (zde xs s):=h ▸ zkl _ true s
theorem zcp {one:Ps→Rs Nat} {en:ByteArray} (hg:z7l one):∀ (f:Nat) (ks:List Int) (s:Ps),s.d=d→Dp d (z3v xs one en f ks s)
 | 0,_,_,_=>Dp.out
 | f+1,ks,s,h=>by
   unfold z3v
   split
   ·exact Dp.ok h
   ·exact Dp.bnd (h ▸ hg s) fun k s1 h1=>zcp hg f _ (z19 s1 k _) h1
theorem zhd {s:Ps} (h:s.d=d):Dp d (zdd xs s):=by
 refine(z6o h).bnd fun t s1 h1=>?_
 split
 ·exact(zbs (s:=s1.next) h1).bnd fun _ _ h2=>(z1s h2).bnd fun _ _ h3=>z2a h3
 ·exact(z1s h1).bnd fun _ _ h3=>z2a h3
theorem zgs {s:Ps} (h:s.d=d):Dp d (zcg xs s):=(z1s h).bnd fun _ _ h1=>(zbs h1).bnd fun _ _ h2=>(z1s h2).bnd fun _ _ h3=>Dp.ok h3
theorem z7i {st:Ps→Rs Nat} {s:Ps} (hg:z7l st) (h:s.d=d):Dp d (z3k xs st s):=by
 unfold z3k
 split
 ·exact Dp.no
 have hu:∀ {δ γ:Type} {x:Rs δ} {f:δ→Ps→Rs γ},Dp (d+1) x→(∀ a s,s.d=d+1→Dp d (f a s))→Dp d (Go.Proofs.YtekebloinobjnaaGreatDoor.bnd x f):=by
  intro δ γ x f hx hf
  match x,hx with
  | none,_=>exact Dp.out
  | some none,_=>exact Dp.no
  | some (some (a,s)),hx=>exact hf a s (hx a s rfl)
 refine hu (z1s (s:=⟨s.p,s.d+1,s.ns⟩) (by show s.d+1=d+1;omega)) fun _ s1 h1=>?_
 refine hu (zcp hg _ _ s1 h1) fun ks s2 h2=>?_
 refine hu (z1s h2) fun _ s3 h3=>?_
 exact z2a (s:=⟨s3.p,s3.d-1,s3.ns⟩) (by show s3.d-1=d;omega)
theorem zoh {s:Ps} (h:s.d=d):Dp d (zb3 xs s):=by
 unfold zb3
 split
 ·exact(z1s h).bnd fun _ _ h1=>z2a h1
 ·exact(zbs h).bnd fun _ _ h1=>(z1s h1).bnd fun _ _ h2=>z2a h2
theorem zp3 {st:Ps→Rs Nat} {s:Ps} (hg:z7l st) (h:s.d=d):Dp d (zjx xs st s):=by
 refine(zgs h).bnd fun v s1 h1=>(z7i hg h1).bnd fun b s2 h2=>?_
 split
 ·exact(z7i (s:=s2.next) hg h2).bnd fun _ _ h3=>z2a h3
 ·exact z2a h2
theorem zoe {st:Ps→Rs Nat} {s:Ps} (hg:z7l st) (h:s.d=d):Dp d (zij xs st s):=(zgs h).bnd fun _ _ h1=>(z7i hg h1).bnd fun _ _ h2=>z2a h2
theorem zqg {s:Ps} (h:s.d=d):Dp d (zii xs s):=(z6o h).bnd fun _ _ h1=>(z1s h1).bnd fun _ _ h2=>(zbs h2).bnd fun _ _ h3=>(z1s h3).bnd fun _ _ h4=>z2a h4
theorem znc {st:Ps→Rs Nat} {s:Ps} (hg:z7l st) (h:s.d=d):Dp d (z91 xs st s):=by
 unfold z91
 split
 ·exact z8w h
 split
 ·exact zhd (s:=s.next) h
 split
 ·exact zoh (s:=s.next) h
 split
 ·exact zp3 (s:=s.next) hg h
 split
 ·exact zoe (s:=s.next) hg h
 split
 ·exact zqg h
 ·exact(zbs h).bnd fun _ _ h1=>(z1s h1).bnd fun _ _ h2=>z2a h2
theorem zm2:∀ (n:Nat),z7l (stF xs n)
 | 0=>fun _=>Dp.out
 | n+1=>fun _=>znc (zm2 n) rfl
end
end Go.Proofs.YtekebloinobjnaaGreatDoor
