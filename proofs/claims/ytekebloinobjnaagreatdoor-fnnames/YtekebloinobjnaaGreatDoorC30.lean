/- Texts of one proof, laid together: SpI19. -/
import Derived.Test.YtekebloinobjnaaGreatDoorC29
set_option maxHeartbeats 16000000
set_option maxRecDepth 100000
namespace Go.Proofs.YtekebloinobjnaaGreatDoor
open Go.RowKit
def zcy (B g:Nat) (xs:List Sg) (K:Nat) (b:Bool) (O:Ps→Rs Nat):Prop:=∀ (A:Nat→Prop) (W:World) (t:Option Ps) (o:Option (Nat×Ps)),(∀ b,A b→b<W.heap.size)→SR B g xs A W t→z60 O t o→Calls Tryz.prog K #[.pointer (some ⟨g,0,none⟩),.bool b] W (z0j B g xs A W VNs o)
section
variable {B g:Nat} {xs:List Sg} {A:Nat→Prop} {w:World} {t:Option Ps}
theorem stR (hX:xs.length≤3000) (hM:z3w xs) (hWd:zd1 xs):∀ (n:Nat),z1n B g xs 164 (stF xs n)
 | 0=>fun A W t o hA h hr=>by
   match t,h,hr with
   | none,h,hr =>
     obtain rfl:o=none:=hr
     exact zmy h hX hM hA (z6x hX hM)
   | some s,h,hr=>exact absurd (show (none:Rs Nat)=some o from hr) (by simp)
 | n+1=>fun _ _ _ _ hA h hr=>ztl h hX hM hWd hA (z6x hX hM) (fun _ _ _ _ hA h hr=>zmp h hX hM hA (stR hX hM hWd n) (zm2 n) hr) hr
theorem zva (hX:xs.length≤3000) (hM:z3w xs) (hWd:zd1 xs):z1n B g xs 126 (zqn xs):=fun _ _ _ _ hA h hr=>zmp h hX hM hA (stR hX hM hWd (lim xs)) (zm2 (lim xs)) hr
theorem zth {o:Option (Nat×Ps)} (h:SR B g xs A w t) (hX:xs.length≤3000) (hM:z3w xs) (hWd:zd1 xs) (hA:∀ b,A b→b<w.heap.size) (hV:z1n B g xs 163 (zde xs)) (hBk:z1n B g xs 126 (zqn xs)) (hr:z60 (z2k xs) t o):Calls Tryz.prog 88 #[.pointer (some ⟨g,0,none⟩),.bool false] w (z0j B g xs A w VNs o):=by
 obtain⟨i0,hi,hz0,hz1,hz2⟩:=info_parts z29
 have hbase:=h.base
 have HF:=z00 (Fr.refl B w)
 match t,h,hr with
 | none,h,hr =>
   obtain rfl:o=none:=hr
   have HS:=z00 h
   clear h hr
   go_enter Tryz.func88,Tryz.ntmps88
   go_wp2_with fail
   refine(z3n (t:=none) HS.out 5 (.inr (.inr (.inr rfl)))).mono ?_
   rintro e w1 ⟨rfl,m1,hm1⟩
   have B1:Below w.heap.size w w1:=by rw[hm1];exact z0a _ _
   clear hm1
   have S1:=SR.below (t:=none) HS.out B1
   have FF1:=HF.out.trans (Fr.ofB (B:=B) B1 (SR.base (t:=none) HS.out))
   clear HF HS
   have HF:=z00 FF1
   have HS:=z00 S1
   clear FF1 S1 B1
   go_wp2_with fail
   refine(z2t (t:=none) HS.out rfl).mono ?_
   rintro e w2 ⟨rfl,B2⟩
   have S2:=SR.below (t:=none) HS.out B2
   have FF2:=HF.out.trans (Fr.ofB (B:=B) B2 (SR.base (t:=none) HS.out))
   clear HF HS
   have HF:=z00 FF2
   have HS:=z00 S2
   clear FF2 S2 B2
   go_wp2_with fail
   refine(z4f (o:=none) HS.out hX rfl).mono ?_
   rintro e w3 ⟨⟨nmx,rfl,-⟩,S3,F3⟩
   have FF3:=HF.out.trans F3
   clear HF HS
   have HF:=z00 FF3
   have HS:=z00 S3
   clear FF3 S3 F3
   go_wp2_with fail
   refine(z4t (o:=none) (t:=none) HS.out hX hM (fun b hb=>Nat.lt_of_lt_of_le (hA b hb) HF.out.size) rfl).mono ?_
   rintro e w4 ⟨a4,c4,ks4,rfl,o4,S4,F4,hl4,-⟩
   have o4:=z01 o4 HF.out.size
   have F4:=HF.out.trans F4
   clear HF HS
   have HF:=z00 F4
   have HS:=z00 S4
   have HP:=z00 o4
   clear F4 S4 o4
   go_wp2_with fail
   refine(hBk _ _ _ none (z0g.lt hA HF.out.size HP.out) HS.out rfl).mono ?_
   rintro e w5 ⟨⟨bx,rfl,-⟩,S5,F5⟩
   have o5:=F5.ints HP.out
   have FF5:=HF.out.trans F5
   clear HF HS HP
   have HF:=z00 FF5
   have HS:=z00 S5
   have HP:=z00 o5
   clear FF5 S5 F5 o5
   have hs6:=HF.out.size
   go_wp2_with (at_builtin;refine z04 rfl _ _ 29 rfl w.heap.size 3 i0 _ 1 8 Tryz.underlying29 hi hz0 hz1 hz2 rfl (by decide) (.slice a4 ks4.length c4) (ks4.length) (z02 ks4) rfl (HP.out.alloc _) ⟨w5.heap.size,0,none⟩ 1 1 [.int .i64 bx] rfl rfl (cell_one_new _ _ _) (by simp[Value.oneCell']) (by unfold maxLen;omega) (by omega) (by simp;omega) ?_;intro v' w6 hown' hgrow5 hpl5)
   have B6:Below w5.heap.size w5 (w5.alloc (.cells #[.int .i64 bx] tI)):=(Below.refl _ _).alloc (Nat.le_refl _) _
   have FF6:=(HF.out.trans (Fr.ofB (B:=B) B6 (SR.base (t:=none) HS.out))).growI hbase hgrow5 (fun b hb=>(HP.out.lt b hb).1)
   have R6:=(SR.below (t:=none) HS.out B6).growI (A':=z0g A v') (HP.out.alloc _) hgrow5 (fun b hb=>.inr hb) (fun b hb=>by
    rcases hb with hb|hb
    ·exact .inl (.inl hb)
    ·rcases hpl5 b hb with h6|h6
     ·exact .inl (.inr h6)
     ·exact .inr h6)
   have o6:=z0c (ks:=ks4) (k:=bx) hown' rfl
   clear hown' hgrow5 hpl5 HF HS HP hs6 B6
   obtain⟨ao6,cc6,rfl⟩:=z06 o6
   have HF:=z00 FF6
   have HS:=z00 R6
   have HP:=z00 o6
   clear FF6 R6 o6
   refine(z14 (o:=none) 20 nmx (ks4++[bx]) (ao6) cc6 (SR.avoid (t:=none) HS.out (fun k hk=>.inl (.inl hk))) (z01 HP.out hbase) (fun b hb hb2=>by have h7:=(HP.out.lt b hb).1;have h8:=hA b hb2;omega) rfl).mono ?_
   rintro e we ⟨⟨k9,rfl,hk9⟩,S9,F9⟩
   have HH:=z00 (show z0j B g xs A w VNs _ (.returned (.int .i64 k9)) we from⟨⟨k9,rfl,hk9⟩,S9,HF.out.trans F9⟩)
   clear S9 F9 HF HS
   go_wp2
   go_ret
   exact HH.out
 | some s,h,hr =>
   have hr2:z2k xs s=some o:=hr
   unfold z2k at hr2
   have HX:=z00 hr2
   have HS:=z00 h
   clear h hr hr2
   go_enter Tryz.func88,Tryz.ntmps88
   go_wp2_with fail
   by_cases hc:knd xs s.p=5
   ·have qK:=z3n (t:=some s) HS.out 5 (.inr (.inr (.inr rfl)))
    rw[show kdP xs (some s) 5=true from z3t hc] at qK
    have hx:=HX.out
    rw[if_pos hc] at hx
    clear HX
    have HX:=z00 hx
    clear hx
    refine qK.mono ?_
    clear qK
    rintro e w1 ⟨rfl,m1,hm1⟩
    have B1:Below w.heap.size w w1:=by rw[hm1];exact z0a _ _
    clear hm1
    have S1:=SR.below (t:=(some s)) HS.out B1
    have FF1:=HF.out.trans (Fr.ofB (B:=B) B1 (SR.base (t:=(some s)) HS.out))
    clear HF HS
    have HF:=z00 FF1
    have HS:=z00 S1
    clear FF1 S1 B1
    have HC:=z00 hc
    clear hc
    go_wp2_with fail
    have qT:=zcl (o:=some (txt xs s.p,s.next)) (t:=some s) 5 (.inr (.inr (.inr rfl))) HS.out hX (z59 (z3t HC.out))
    have hx:z0z 19 (txt xs s.p) [] s.next=some o:=HX.out
    clear HX
    have HX:=z00 hx
    clear hx
    refine qT.mono ?_
    clear qT
    rintro e w2 ⟨⟨tx,rfl,htx⟩,S2,F2⟩
    obtain rfl:tx=txt xs s.p:=htx _ rfl
    clear htx
    have FF2:=HF.out.trans F2
    clear HF HS
    have HF:=z00 FF2
    have HS:=z00 S2
    clear FF2 S2 F2
    obtain⟨ux,hux⟩:∃ ux,ux=(txt xs s.p):=⟨_,rfl⟩
    rw[← hux] at HX ⊢
    clear hux
    have B3:Below w2.heap.size w2 (w2.alloc (.cells #[] tI)):=(Below.refl _ _).alloc (Nat.le_refl _) _
    have R3:SR B g xs (z0g A (.slice (some ⟨w2.heap.size,0,none⟩) 0 0)) (w2.alloc (.cells #[] tI)) (some s.next):=(SR.avoid (A':=z0g A (.slice (some ⟨w2.heap.size,0,none⟩) 0 0)) (t:=(some s.next)) HS.out (fun k hk=>hk.imp_right (fun e=>by injection e with e;show w2.heap.size≤k;exact Nat.le_of_eq e))).below B3
    have o3:(w2.alloc (.cells #[] tI)).ownsRow w.heap.size tI 1 (.slice (some ⟨w2.heap.size,0,none⟩) 0 0) 0 (z02 ([]:List Int)):=World.ownsRow_lit w2 #[] 0 HF.out.size (by decide) rfl
    have FF3:=HF.out.trans (Fr.ofB (B:=B) B3 (SR.base (t:=(some s.next)) HS.out))
    clear HF HS
    have HF:=z00 FF3
    have HS:=z00 R3
    have HP:=z00 o3
    clear FF3 R3 o3 B3
    go_wp2_with fail
    refine(z14 (o:=o) 19 ux ([]:List Int) (some ⟨w2.heap.size,0,none⟩) 0 (SR.avoid (t:=some s.next) HS.out (fun k hk=>.inl (.inl hk))) (z01 HP.out hbase) (fun b hb hb2=>by have h7:=(HP.out.lt b hb).1;have h8:=hA b hb2;omega) HX.out).mono ?_
    rintro e we ⟨⟨k9,rfl,hk9⟩,S9,F9⟩
    have HH:=z00 (show z0j B g xs A w VNs _ (.returned (.int .i64 k9)) we from⟨⟨k9,rfl,hk9⟩,S9,HF.out.trans F9⟩)
    clear S9 F9 HF HS
    go_wp2
    go_ret
    exact HH.out
   ·have qK:=z3n (t:=some s) HS.out 5 (.inr (.inr (.inr rfl)))
    rw[show kdP xs (some s) 5=false from z9i hc] at qK
    have hx:=HX.out
    rw[if_neg hc] at hx
    clear HX
    have HX:=z00 hx
    clear hx
    refine qK.mono ?_
    clear qK
    rintro e w1 ⟨rfl,m1,hm1⟩
    have B1:Below w.heap.size w w1:=by rw[hm1];exact z0a _ _
    clear hm1
    have S1:=SR.below (t:=(some s)) HS.out B1
    have FF1:=HF.out.trans (Fr.ofB (B:=B) B1 (SR.base (t:=(some s)) HS.out))
    clear HF HS
    have HF:=z00 FF1
    have HS:=z00 S1
    clear FF1 S1 B1
    clear hc
    go_wp2_with fail
    by_cases ht:txt xs s.p=(⟨#[118,97,114]⟩:ByteArray)
    ·have hx:=HX.out
     rw[if_pos ht] at hx
     clear HX
     have HX:=z00 hx
     clear hx
     refine(z74 (s:=s) HS.out hX (by rw[z1j hWd (by decide)];exact decide_eq_true ht)).mono ?_
     clear ht
     rintro e w2 ⟨rfl,S2,F2⟩
     have FF2:=HF.out.trans F2
     clear HF HS
     have HF:=z00 FF2
     have HS:=z00 S2
     clear FF2 S2 F2
     go_wp2_with fail
     refine(zud (o:=o) HS.out hX hM (fun b hb=>Nat.lt_of_lt_of_le (hA b hb) HF.out.size) hV HX.out).mono ?_
     rintro e we ⟨⟨k9,rfl,hk9⟩,S9,F9⟩
     have HH:=z00 (show z0j B g xs A w VNs _ (.returned (.int .i64 k9)) we from⟨⟨k9,rfl,hk9⟩,S9,HF.out.trans F9⟩)
     clear S9 F9 HF HS
     go_wp2
     go_ret
     exact HH.out
    ·have hx:=HX.out
     rw[if_neg ht] at hx
     clear HX
     have HX:=z00 hx
     clear hx
     refine(z2t (t:=some s) HS.out (by rw[z1j hWd (by decide)];exact decide_eq_false ht)).mono ?_
     rintro e w2 ⟨rfl,B2⟩
     have S2:=SR.below (t:=(some s)) HS.out B2
     have FF2:=HF.out.trans (Fr.ofB (B:=B) B2 (SR.base (t:=(some s)) HS.out))
     clear HF HS
     have HF:=z00 FF2
     have HS:=z00 S2
     clear FF2 S2 B2
     clear ht
     go_wp2_with fail
     have hx:=HX.out
     unfold zfq at hx
     clear HX
     have HX:=z00 hx
     clear hx
     rcases z09 HX.out with⟨h3,rfl⟩|⟨nm,s3,h3,hr3⟩
     ·refine(z4f (o:=none) HS.out hX h3).mono ?_
      rintro e w3 ⟨⟨nmx,rfl,-⟩,S3,F3⟩
      clear HX h3
      have FF3:=HF.out.trans F3
      clear HF HS
      have HF:=z00 FF3
      have HS:=z00 S3
      clear FF3 S3 F3
      go_wp2_with fail
      refine(z4t (o:=none) (t:=none) HS.out hX hM (fun b hb=>Nat.lt_of_lt_of_le (hA b hb) HF.out.size) rfl).mono ?_
      rintro e w4 ⟨a4,c4,ks4,rfl,o4,S4,F4,hl4,-⟩
      have o4:=z01 o4 HF.out.size
      have F4:=HF.out.trans F4
      clear HF HS
      have HF:=z00 F4
      have HS:=z00 S4
      have HP:=z00 o4
      clear F4 S4 o4
      go_wp2_with fail
      refine(hBk _ _ _ none (z0g.lt hA HF.out.size HP.out) HS.out rfl).mono ?_
      rintro e w5 ⟨⟨bx,rfl,-⟩,S5,F5⟩
      have o5:=F5.ints HP.out
      have FF5:=HF.out.trans F5
      clear HF HS HP
      have HF:=z00 FF5
      have HS:=z00 S5
      have HP:=z00 o5
      clear FF5 S5 F5 o5
      have hs6:=HF.out.size
      go_wp2_with (at_builtin;refine z04 rfl _ _ 29 rfl w.heap.size 3 i0 _ 1 8 Tryz.underlying29 hi hz0 hz1 hz2 rfl (by decide) (.slice a4 ks4.length c4) (ks4.length) (z02 ks4) rfl (HP.out.alloc _) ⟨w5.heap.size,0,none⟩ 1 1 [.int .i64 bx] rfl rfl (cell_one_new _ _ _) (by simp[Value.oneCell']) (by unfold maxLen;omega) (by omega) (by simp;omega) ?_;intro v' w6 hown' hgrow5 hpl5)
      have B6:Below w5.heap.size w5 (w5.alloc (.cells #[.int .i64 bx] tI)):=(Below.refl _ _).alloc (Nat.le_refl _) _
      have FF6:=(HF.out.trans (Fr.ofB (B:=B) B6 (SR.base (t:=none) HS.out))).growI hbase hgrow5 (fun b hb=>(HP.out.lt b hb).1)
      have R6:=(SR.below (t:=none) HS.out B6).growI (A':=z0g A v') (HP.out.alloc _) hgrow5 (fun b hb=>.inr hb) (fun b hb=>by
       rcases hb with hb|hb
       ·exact .inl (.inl hb)
       ·rcases hpl5 b hb with h6|h6
        ·exact .inl (.inr h6)
        ·exact .inr h6)
      have o6:=z0c (ks:=ks4) (k:=bx) hown' rfl
      clear hown' hgrow5 hpl5 HF HS HP hs6 B6
      obtain⟨ao6,cc6,rfl⟩:=z06 o6
      have HF:=z00 FF6
      have HS:=z00 R6
      have HP:=z00 o6
      clear FF6 R6 o6
      refine(z14 (o:=none) 20 nmx (ks4++[bx]) (ao6) cc6 (SR.avoid (t:=none) HS.out (fun k hk=>.inl (.inl hk))) (z01 HP.out hbase) (fun b hb hb2=>by have h7:=(HP.out.lt b hb).1;have h8:=hA b hb2;omega) rfl).mono ?_
      rintro e we ⟨⟨k9,rfl,hk9⟩,S9,F9⟩
      have HH:=z00 (show z0j B g xs A w VNs _ (.returned (.int .i64 k9)) we from⟨⟨k9,rfl,hk9⟩,S9,HF.out.trans F9⟩)
      clear S9 F9 HF HS
      go_wp2
      go_ret
      exact HH.out
     ·refine(z4f (o:=(some (nm,s3))) HS.out hX h3).mono ?_
      rintro e w3 ⟨⟨nmx,rfl,hnmx⟩,S3,F3⟩
      obtain rfl:nmx=nm:=hnmx nm rfl
      clear HX
      have HX:=z00 hr3
      clear h3 hr3 hnmx
      have FF3:=HF.out.trans F3
      clear HF HS
      have HF:=z00 FF3
      have HS:=z00 S3
      clear FF3 S3 F3
      go_wp2_with fail
      rcases z09 HX.out with⟨h4,rfl⟩|⟨l4,s4,h4,hr4⟩
      ·refine(z4t (o:=none) (t:=some s3) HS.out hX hM (fun b hb=>Nat.lt_of_lt_of_le (hA b hb) HF.out.size) h4).mono ?_
       rintro e w4 ⟨a4,c4,ks4,rfl,o4,S4,F4,hl4,-⟩
       clear HX h4
       have o4:=z01 o4 HF.out.size
       have F4:=HF.out.trans F4
       clear HF HS
       have HF:=z00 F4
       have HS:=z00 S4
       have HP:=z00 o4
       clear F4 S4 o4
       go_wp2_with fail
       refine(hBk _ _ _ none (z0g.lt hA HF.out.size HP.out) HS.out rfl).mono ?_
       rintro e w5 ⟨⟨bx,rfl,-⟩,S5,F5⟩
       have o5:=F5.ints HP.out
       have FF5:=HF.out.trans F5
       clear HF HS HP
       have HF:=z00 FF5
       have HS:=z00 S5
       have HP:=z00 o5
       clear FF5 S5 F5 o5
       have hs6:=HF.out.size
       go_wp2_with (at_builtin;refine z04 rfl _ _ 29 rfl w.heap.size 3 i0 _ 1 8 Tryz.underlying29 hi hz0 hz1 hz2 rfl (by decide) (.slice a4 ks4.length c4) (ks4.length) (z02 ks4) rfl (HP.out.alloc _) ⟨w5.heap.size,0,none⟩ 1 1 [.int .i64 bx] rfl rfl (cell_one_new _ _ _) (by simp[Value.oneCell']) (by unfold maxLen;omega) (by omega) (by simp;omega) ?_;intro v' w6 hown' hgrow5 hpl5)
       have B6:Below w5.heap.size w5 (w5.alloc (.cells #[.int .i64 bx] tI)):=(Below.refl _ _).alloc (Nat.le_refl _) _
       have FF6:=(HF.out.trans (Fr.ofB (B:=B) B6 (SR.base (t:=none) HS.out))).growI hbase hgrow5 (fun b hb=>(HP.out.lt b hb).1)
       have R6:=(SR.below (t:=none) HS.out B6).growI (A':=z0g A v') (HP.out.alloc _) hgrow5 (fun b hb=>.inr hb) (fun b hb=>by
        rcases hb with hb|hb
        ·exact .inl (.inl hb)
        ·rcases hpl5 b hb with h6|h6
         ·exact .inl (.inr h6)
         ·exact .inr h6)
       have o6:=z0c (ks:=ks4) (k:=bx) hown' rfl
       clear hown' hgrow5 hpl5 HF HS HP hs6 B6
       obtain⟨ao6,cc6,rfl⟩:=z06 o6
       have HF:=z00 FF6
       have HS:=z00 R6
       have HP:=z00 o6
       clear FF6 R6 o6
       refine(z14 (o:=none) 20 nmx (ks4++[bx]) (ao6) cc6 (SR.avoid (t:=none) HS.out (fun k hk=>.inl (.inl hk))) (z01 HP.out hbase) (fun b hb hb2=>by have h7:=(HP.out.lt b hb).1;have h8:=hA b hb2;omega) rfl).mono ?_
       rintro e we ⟨⟨k9,rfl,hk9⟩,S9,F9⟩
       have HH:=z00 (show z0j B g xs A w VNs _ (.returned (.int .i64 k9)) we from⟨⟨k9,rfl,hk9⟩,S9,HF.out.trans F9⟩)
       clear S9 F9 HF HS
       go_wp2
       go_ret
       exact HH.out
      ·refine(z4t (o:=some (l4,s4)) (t:=some s3) HS.out hX hM (fun b hb=>Nat.lt_of_lt_of_le (hA b hb) HF.out.size) h4).mono ?_
       rintro e w4 ⟨a4,c4,ks4,rfl,o4,S4,F4,hl4,hk4⟩
       obtain rfl:ks4=l4:=hk4 l4 s4 rfl
       clear HX
       have HX:=z00 hr4
       clear h4 hr4 hk4
       have o4:=z01 o4 HF.out.size
       have F4:=HF.out.trans F4
       clear HF HS
       have HF:=z00 F4
       have HS:=z00 S4
       have HP:=z00 o4
       clear F4 S4 o4
       go_wp2_with fail
       rcases z09 HX.out with⟨h5,rfl⟩|⟨b,s5,h5,hr5⟩
       ·refine(hBk _ _ _ none (z0g.lt hA HF.out.size HP.out) HS.out h5).mono ?_
        rintro e w5 ⟨⟨bx,rfl,-⟩,S5,F5⟩
        clear HX h5
        have o5:=F5.ints HP.out
        have FF5:=HF.out.trans F5
        clear HF HS HP
        have HF:=z00 FF5
        have HS:=z00 S5
        have HP:=z00 o5
        clear FF5 S5 F5 o5
        have hs6:=HF.out.size
        go_wp2_with (at_builtin;refine z04 rfl _ _ 29 rfl w.heap.size 3 i0 _ 1 8 Tryz.underlying29 hi hz0 hz1 hz2 rfl (by decide) (.slice a4 ks4.length c4) (ks4.length) (z02 ks4) rfl (HP.out.alloc _) ⟨w5.heap.size,0,none⟩ 1 1 [.int .i64 bx] rfl rfl (cell_one_new _ _ _) (by simp[Value.oneCell']) (by unfold maxLen;omega) (by omega) (by simp;omega) ?_;intro v' w6 hown' hgrow5 hpl5)
        have B6:Below w5.heap.size w5 (w5.alloc (.cells #[.int .i64 bx] tI)):=(Below.refl _ _).alloc (Nat.le_refl _) _
        have FF6:=(HF.out.trans (Fr.ofB (B:=B) B6 (SR.base (t:=none) HS.out))).growI hbase hgrow5 (fun b hb=>(HP.out.lt b hb).1)
        have R6:=(SR.below (t:=none) HS.out B6).growI (A':=z0g A v') (HP.out.alloc _) hgrow5 (fun b hb=>.inr hb) (fun b hb=>by
         rcases hb with hb|hb
         ·exact .inl (.inl hb)
         ·rcases hpl5 b hb with h6|h6
          ·exact .inl (.inr h6)
          ·exact .inr h6)
        have o6:=z0c (ks:=ks4) (k:=bx) hown' rfl
        clear hown' hgrow5 hpl5 HF HS HP hs6 B6
        obtain⟨ao6,cc6,rfl⟩:=z06 o6
        have HF:=z00 FF6
        have HS:=z00 R6
        have HP:=z00 o6
        clear FF6 R6 o6
        refine(z14 (o:=none) 20 nmx (ks4++[bx]) (ao6) cc6 (SR.avoid (t:=none) HS.out (fun k hk=>.inl (.inl hk))) (z01 HP.out hbase) (fun b hb hb2=>by have h7:=(HP.out.lt b hb).1;have h8:=hA b hb2;omega) rfl).mono ?_
        rintro e we ⟨⟨k9,rfl,hk9⟩,S9,F9⟩
        have HH:=z00 (show z0j B g xs A w VNs _ (.returned (.int .i64 k9)) we from⟨⟨k9,rfl,hk9⟩,S9,HF.out.trans F9⟩)
        clear S9 F9 HF HS
        go_wp2
        go_ret
        exact HH.out
       ·refine(hBk _ _ _ (some (b,s5)) (z0g.lt hA HF.out.size HP.out) HS.out h5).mono ?_
        rintro e w5 ⟨⟨bx,rfl,hbx⟩,S5,F5⟩
        obtain rfl:bx=((b:Nat):Int):=hbx b rfl
        clear HX
        have HX:=z00 hr5
        clear h5 hr5 hbx
        have o5:=F5.ints HP.out
        have FF5:=HF.out.trans F5
        clear HF HS HP
        have HF:=z00 FF5
        have HS:=z00 S5
        have HP:=z00 o5
        clear FF5 S5 F5 o5
        have hs6:=HF.out.size
        go_wp2_with (at_builtin;refine z04 rfl _ _ 29 rfl w.heap.size 3 i0 _ 1 8 Tryz.underlying29 hi hz0 hz1 hz2 rfl (by decide) (.slice a4 ks4.length c4) (ks4.length) (z02 ks4) rfl (HP.out.alloc _) ⟨w5.heap.size,0,none⟩ 1 1 [.int .i64 ((b:Nat):Int)] rfl rfl (cell_one_new _ _ _) (by simp[Value.oneCell']) (by unfold maxLen;omega) (by omega) (by simp;omega) ?_;intro v' w6 hown' hgrow5 hpl5)
        have B6:Below w5.heap.size w5 (w5.alloc (.cells #[.int .i64 ((b:Nat):Int)] tI)):=(Below.refl _ _).alloc (Nat.le_refl _) _
        have FF6:=(HF.out.trans (Fr.ofB (B:=B) B6 (SR.base (t:=(some s5)) HS.out))).growI hbase hgrow5 (fun b hb=>(HP.out.lt b hb).1)
        have R6:=(SR.below (t:=(some s5)) HS.out B6).growI (A':=z0g A v') (HP.out.alloc _) hgrow5 (fun b hb=>.inr hb) (fun b hb=>by
         rcases hb with hb|hb
         ·exact .inl (.inl hb)
         ·rcases hpl5 b hb with h6|h6
          ·exact .inl (.inr h6)
          ·exact .inr h6)
        have o6:=z0c (ks:=ks4) (k:=((b:Nat):Int)) hown' rfl
        clear hown' hgrow5 hpl5 HF HS HP hs6 B6
        obtain⟨ao6,cc6,rfl⟩:=z06 o6
        have HF:=z00 FF6
        have HS:=z00 R6
        have HP:=z00 o6
        clear FF6 R6 o6
        refine(z14 (o:=o) 20 nmx (ks4++[((b:Nat):Int)]) (ao6) cc6 (SR.avoid (t:=some s5) HS.out (fun k hk=>.inl (.inl hk))) (z01 HP.out hbase) (fun b hb hb2=>by have h7:=(HP.out.lt b hb).1;have h8:=hA b hb2;omega) HX.out).mono ?_
        rintro e we ⟨⟨k9,rfl,hk9⟩,S9,F9⟩
        have HH:=z00 (show z0j B g xs A w VNs _ (.returned (.int .i64 k9)) we from⟨⟨k9,rfl,hk9⟩,S9,HF.out.trans F9⟩)
        clear S9 F9 HF HS
        go_wp2
        go_ret
        exact HH.out
theorem zto {o:Option (Nat×Ps)} (h:SR B g xs A w t) (hX:xs.length≤3000) (hM:z3w xs) (hWd:zd1 xs) (hA:∀ b,A b→b<w.heap.size) (hV:z1n B g xs 163 (zde xs)) (hBk:z1n B g xs 126 (zqn xs)) (hMb:zcy B g xs 88 false (z2k xs)) (hSm:z7l (z2k xs)) (hr:z60 (z2x xs) t o):Calls Tryz.prog 88 #[.pointer (some ⟨g,0,none⟩),.bool true] w (z0j B g xs A w VNs o):=by
 obtain⟨i0,hi,hz0,hz1,hz2⟩:=info_parts z29
 have hbase:=h.base
 have hL:lim xs≤3001:=by unfold lim;omega
 have HF:=z00 (Fr.refl B w)
 match t,h,hr with
 | none,h,hr =>
   obtain rfl:o=none:=hr
   have HS:=z00 h
   clear h hr
   go_enter Tryz.func88,Tryz.ntmps88
   go_wp2_with fail
   refine(z3n (t:=none) HS.out 5 (.inr (.inr (.inr rfl)))).mono ?_
   rintro e w1 ⟨rfl,m1,hm1⟩
   have B1:Below w.heap.size w w1:=by rw[hm1];exact z0a _ _
   clear hm1
   have S1:=SR.below (t:=none) HS.out B1
   have FF1:=HF.out.trans (Fr.ofB (B:=B) B1 (SR.base (t:=none) HS.out))
   clear HF HS
   have HF:=z00 FF1
   have HS:=z00 S1
   clear FF1 S1 B1
   go_wp2_with fail
   refine(z2t (t:=none) HS.out rfl).mono ?_
   rintro e w2 ⟨rfl,B2⟩
   have S2:=SR.below (t:=none) HS.out B2
   have FF2:=HF.out.trans (Fr.ofB (B:=B) B2 (SR.base (t:=none) HS.out))
   clear HF HS
   have HF:=z00 FF2
   have HS:=z00 S2
   clear FF2 S2 B2
   go_wp2_with fail
   refine(z2t (t:=none) HS.out rfl).mono ?_
   rintro e w3 ⟨rfl,B3⟩
   have S3:=SR.below (t:=none) HS.out B3
   have FF3:=HF.out.trans (Fr.ofB (B:=B) B3 (SR.base (t:=none) HS.out))
   clear HF HS
   have HF:=z00 FF3
   have HS:=z00 S3
   clear FF3 S3 B3
   go_wp2_with fail
   refine(z4f (o:=none) HS.out hX rfl).mono ?_
   rintro e w4 ⟨⟨nmx,rfl,-⟩,S4,F4⟩
   have FF4:=HF.out.trans F4
   clear HF HS
   have HF:=z00 FF4
   have HS:=z00 S4
   clear FF4 S4 F4
   go_wp2_with fail
   refine(z4t (o:=none) (t:=none) HS.out hX hM (fun b hb=>Nat.lt_of_lt_of_le (hA b hb) HF.out.size) rfl).mono ?_
   rintro e w5 ⟨a5,c5,ks5,rfl,o5,S5,F5,hl5,-⟩
   have o5:=z01 o5 HF.out.size
   have F5:=HF.out.trans F5
   clear HF HS
   have HF:=z00 F5
   have HS:=z00 S5
   have HP:=z00 o5
   clear F5 S5 o5
   go_wp2_with fail
   refine(hBk _ _ _ none (z0g.lt hA HF.out.size HP.out) HS.out rfl).mono ?_
   rintro e w6 ⟨⟨bx,rfl,-⟩,S6,F6⟩
   have o6:=F6.ints HP.out
   have FF6:=HF.out.trans F6
   clear HF HS HP
   have HF:=z00 FF6
   have HS:=z00 S6
   have HP:=z00 o6
   clear FF6 S6 F6 o6
   have hs7:=HF.out.size
   go_wp2_with (at_builtin;refine z04 rfl _ _ 29 rfl w.heap.size 3 i0 _ 1 8 Tryz.underlying29 hi hz0 hz1 hz2 rfl (by decide) (.slice a5 ks5.length c5) (ks5.length) (z02 ks5) rfl (HP.out.alloc _) ⟨w6.heap.size,0,none⟩ 1 1 [.int .i64 bx] rfl rfl (cell_one_new _ _ _) (by simp[Value.oneCell']) (by unfold maxLen;omega) (by omega) (by simp;omega) ?_;intro v' w7 hown' hgrow5 hpl5)
   have B7:Below w6.heap.size w6 (w6.alloc (.cells #[.int .i64 bx] tI)):=(Below.refl _ _).alloc (Nat.le_refl _) _
   have FF7:=(HF.out.trans (Fr.ofB (B:=B) B7 (SR.base (t:=none) HS.out))).growI hbase hgrow5 (fun b hb=>(HP.out.lt b hb).1)
   have R7:=(SR.below (t:=none) HS.out B7).growI (A':=z0g A v') (HP.out.alloc _) hgrow5 (fun b hb=>.inr hb) (fun b hb=>by
    rcases hb with hb|hb
    ·exact .inl (.inl hb)
    ·rcases hpl5 b hb with h6|h6
     ·exact .inl (.inr h6)
     ·exact .inr h6)
   have o7:=z0c (ks:=ks5) (k:=bx) hown' rfl
   clear hown' hgrow5 hpl5 HF HS HP hs7 B7
   obtain⟨ao7,cc7,rfl⟩:=z06 o7
   have HF:=z00 FF7
   have HS:=z00 R7
   have HP:=z00 o7
   clear FF7 R7 o7
   refine(z14 (o:=none) 20 nmx (ks5++[bx]) (ao7) cc7 (SR.avoid (t:=none) HS.out (fun k hk=>.inl (.inl hk))) (z01 HP.out hbase) (fun b hb hb2=>by have h7:=(HP.out.lt b hb).1;have h8:=hA b hb2;omega) rfl).mono ?_
   rintro e we ⟨⟨k9,rfl,hk9⟩,S9,F9⟩
   have HH:=z00 (show z0j B g xs A w VNs _ (.returned (.int .i64 k9)) we from⟨⟨k9,rfl,hk9⟩,S9,HF.out.trans F9⟩)
   clear S9 F9 HF HS
   go_wp2
   go_ret
   exact HH.out
 | some s,h,hr =>
   have hr2:z2x xs s=some o:=hr
   unfold z2x at hr2
   have HS:=z00 h
   clear h hr
   by_cases hc:txt xs s.p=(⟨#[99,108,97,115,115]⟩:ByteArray)
   ·rw[if_pos hc] at hr2
    have HX:=z00 hr2
    have HC:=z00 hc
    clear hr2 hc
    go_enter Tryz.func88,Tryz.ntmps88
    go_wp2_with fail
    have qK:=z3n (t:=some s) HS.out 5 (.inr (.inr (.inr rfl)))
    rw[show kdP xs (some s) 5=false from z9i (fun e=>by have h7:=hWd (⟨#[99,108,97,115,115]⟩:ByteArray) (by decide) s.p HC.out;omega)] at qK
    refine qK.mono ?_
    clear qK
    rintro e w1 ⟨rfl,m1,hm1⟩
    have B1:Below w.heap.size w w1:=by rw[hm1];exact z0a _ _
    clear hm1
    have S1:=SR.below (t:=(some s)) HS.out B1
    have FF1:=HF.out.trans (Fr.ofB (B:=B) B1 (SR.base (t:=(some s)) HS.out))
    clear HF HS
    have HF:=z00 FF1
    have HS:=z00 S1
    clear FF1 S1 B1
    go_wp2_with fail
    refine(z2t (t:=some s) HS.out (by rw[z1j hWd (by decide)];exact decide_eq_false (by rw[HC.out];decide))).mono ?_
    rintro e w2 ⟨rfl,B2⟩
    have S2:=SR.below (t:=(some s)) HS.out B2
    have FF2:=HF.out.trans (Fr.ofB (B:=B) B2 (SR.base (t:=(some s)) HS.out))
    clear HF HS
    have HF:=z00 FF2
    have HS:=z00 S2
    clear FF2 S2 B2
    go_wp2_with fail
    refine(z74 (s:=s) HS.out hX (by rw[z1j hWd (by decide)];exact decide_eq_true (HC.out))).mono ?_
    rintro e w3 ⟨rfl,S3,F3⟩
    have FF3:=HF.out.trans F3
    clear HF HS
    have HF:=z00 FF3
    have HS:=z00 S3
    clear FF3 S3 F3
    go_wp2_with fail
    have hx:=HX.out
    unfold zld at hx
    clear HX
    have HX:=z00 hx
    clear hx
    rcases z09 HX.out with⟨h4,rfl⟩|⟨nm,s4,h4,hr4⟩
    ·refine(z4f (o:=none) HS.out hX h4).mono ?_
     rintro e w4 ⟨⟨nmx,rfl,-⟩,S4,F4⟩
     clear HX h4
     have FF4:=HF.out.trans F4
     clear HF HS
     have HF:=z00 FF4
     have HS:=z00 S4
     clear FF4 S4 F4
     go_wp2_with fail
     refine(z0i (o:=none) HS.out hX (hM (⟨#[123]⟩:ByteArray) (by decide)) rfl).mono ?_
     rintro e w5 ⟨rfl,S5,F5⟩
     have FF5:=HF.out.trans F5
     clear HF HS
     have HF:=z00 FF5
     have HS:=z00 S5
     clear FF5 S5 F5
     have B6:Below w5.heap.size w5 (w5.alloc (.cells #[] tI)):=(Below.refl _ _).alloc (Nat.le_refl _) _
     have R6:SR B g xs (z0g A (.slice (some ⟨w5.heap.size,0,none⟩) 0 0)) (w5.alloc (.cells #[] tI)) none:=(SR.avoid (A':=z0g A (.slice (some ⟨w5.heap.size,0,none⟩) 0 0)) (t:=none) HS.out (fun k hk=>hk.imp_right (fun e=>by injection e with e;show w5.heap.size≤k;exact Nat.le_of_eq e))).below B6
     have o6:(w5.alloc (.cells #[] tI)).ownsRow w.heap.size tI 1 (.slice (some ⟨w5.heap.size,0,none⟩) 0 0) 0 (z02 ([]:List Int)):=World.ownsRow_lit w5 #[] 0 HF.out.size (by decide) rfl
     have FF6:=HF.out.trans (Fr.ofB (B:=B) B6 (SR.base (t:=none) HS.out))
     clear HF HS
     have HF:=z00 FF6
     have HS:=z00 R6
     have HP:=z00 o6
     clear FF6 R6 o6 B6
     go_wp2
     go_loopg [6] 0 (fun f kv wr=>kv=.slice (some ⟨w5.heap.size,0,none⟩) 0 0∧wr=(w5.alloc (.cells #[] tI)))
     case atStart=>exact⟨rfl,rfl⟩
     case round =>
      obtain⟨rfl,rfl⟩:=hrel
      obtain⟨s9,h9,hd9⟩:=HS.out
      obtain⟨sa,sc,na,nc,-,-,c2,-,-,-⟩:=h9.cells
      clear h9 hd9
      go_wp2_with fail
      refine(z14 (o:=none) 21 nmx ([]:List Int) (some ⟨w5.heap.size,0,none⟩) 0 (SR.avoid (t:=none) HS.out (fun k hk=>.inl (.inl hk))) (z01 HP.out hbase) (fun b hb hb2=>by have h7:=(HP.out.lt b hb).1;have h8:=hA b hb2;omega) rfl).mono ?_
      rintro e we ⟨⟨k9,rfl,hk9⟩,S9,F9⟩
      have HH:=z00 (show z0j B g xs A w VNs _ (.returned (.int .i64 k9)) we from⟨⟨k9,rfl,hk9⟩,S9,HF.out.trans F9⟩)
      clear S9 F9 HF HS
      go_wp2
      go_ret
      exact HH.out
    ·refine(z4f (o:=(some (nm,s4))) HS.out hX h4).mono ?_
     rintro e w4 ⟨⟨nmx,rfl,hnmx⟩,S4,F4⟩
     obtain rfl:nmx=nm:=hnmx nm rfl
     clear HX
     have HX:=z00 hr4
     clear h4 hr4 hnmx
     have FF4:=HF.out.trans F4
     clear HF HS
     have HF:=z00 FF4
     have HS:=z00 S4
     clear FF4 S4 F4
     go_wp2_with fail
     rcases z09 HX.out with⟨h5,rfl⟩|⟨u,s5,h5,hr5⟩
     ·refine(z0i (o:=none) HS.out hX (hM (⟨#[123]⟩:ByteArray) (by decide)) h5).mono ?_
      rintro e w5 ⟨rfl,S5,F5⟩
      clear HX h5
      have FF5:=HF.out.trans F5
      clear HF HS
      have HF:=z00 FF5
      have HS:=z00 S5
      clear FF5 S5 F5
      have B6:Below w5.heap.size w5 (w5.alloc (.cells #[] tI)):=(Below.refl _ _).alloc (Nat.le_refl _) _
      have R6:SR B g xs (z0g A (.slice (some ⟨w5.heap.size,0,none⟩) 0 0)) (w5.alloc (.cells #[] tI)) none:=(SR.avoid (A':=z0g A (.slice (some ⟨w5.heap.size,0,none⟩) 0 0)) (t:=none) HS.out (fun k hk=>hk.imp_right (fun e=>by injection e with e;show w5.heap.size≤k;exact Nat.le_of_eq e))).below B6
      have o6:(w5.alloc (.cells #[] tI)).ownsRow w.heap.size tI 1 (.slice (some ⟨w5.heap.size,0,none⟩) 0 0) 0 (z02 ([]:List Int)):=World.ownsRow_lit w5 #[] 0 HF.out.size (by decide) rfl
      have FF6:=HF.out.trans (Fr.ofB (B:=B) B6 (SR.base (t:=none) HS.out))
      clear HF HS
      have HF:=z00 FF6
      have HS:=z00 R6
      have HP:=z00 o6
      clear FF6 R6 o6 B6
      go_wp2
      go_loopg [6] 0 (fun f kv wr=>kv=.slice (some ⟨w5.heap.size,0,none⟩) 0 0∧wr=(w5.alloc (.cells #[] tI)))
      case atStart=>exact⟨rfl,rfl⟩
      case round =>
       obtain⟨rfl,rfl⟩:=hrel
       obtain⟨s9,h9,hd9⟩:=HS.out
       obtain⟨sa,sc,na,nc,-,-,c2,-,-,-⟩:=h9.cells
       clear h9 hd9
       go_wp2_with fail
       refine(z14 (o:=none) 21 nmx ([]:List Int) (some ⟨w5.heap.size,0,none⟩) 0 (SR.avoid (t:=none) HS.out (fun k hk=>.inl (.inl hk))) (z01 HP.out hbase) (fun b hb hb2=>by have h7:=(HP.out.lt b hb).1;have h8:=hA b hb2;omega) rfl).mono ?_
       rintro e we ⟨⟨k9,rfl,hk9⟩,S9,F9⟩
       have HH:=z00 (show z0j B g xs A w VNs _ (.returned (.int .i64 k9)) we from⟨⟨k9,rfl,hk9⟩,S9,HF.out.trans F9⟩)
       clear S9 F9 HF HS
       go_wp2
       go_ret
       exact HH.out
     ·refine(z0i (o:=(some (u,s5))) HS.out hX (hM (⟨#[123]⟩:ByteArray) (by decide)) h5).mono ?_
      rintro e w5 ⟨rfl,S5,F5⟩
      clear HX
      have HX:=z00 hr5
      clear h5 hr5
      have FF5:=HF.out.trans F5
      clear HF HS
      have HF:=z00 FF5
      have HS:=z00 S5
      clear FF5 S5 F5
      have B6:Below w5.heap.size w5 (w5.alloc (.cells #[] tI)):=(Below.refl _ _).alloc (Nat.le_refl _) _
      have R6:SR B g xs (z0g A (.slice (some ⟨w5.heap.size,0,none⟩) 0 0)) (w5.alloc (.cells #[] tI)) (some s5):=(SR.avoid (A':=z0g A (.slice (some ⟨w5.heap.size,0,none⟩) 0 0)) (t:=(some s5)) HS.out (fun k hk=>hk.imp_right (fun e=>by injection e with e;show w5.heap.size≤k;exact Nat.le_of_eq e))).below B6
      have o6:(w5.alloc (.cells #[] tI)).ownsRow w.heap.size tI 1 (.slice (some ⟨w5.heap.size,0,none⟩) 0 0) 0 (z02 ([]:List Int)):=World.ownsRow_lit w5 #[] 0 HF.out.size (by decide) rfl
      have FF6:=HF.out.trans (Fr.ofB (B:=B) B6 (SR.base (t:=(some s5)) HS.out))
      clear HF HS
      have HF:=z00 FF6
      have HS:=z00 R6
      have HP:=z00 o6
      clear FF6 R6 o6 B6
      obtain⟨d0,hd1⟩:∃ d0,s5.d=d0:=⟨_,rfl⟩
      have HTB:=z00 (show z1p xs (z2k xs) (⟨#[125]⟩:ByteArray) (fun ks s2=>bnd (z0p xs (⟨#[125]⟩:ByteArray) s2) fun _ s3=>z0z 21 nmx ks s3) d0 (lim xs) [] (some s5) o from⟨hd1,HX.out⟩)
      obtain⟨v0,hv0⟩:∃ v0,v0=Value.slice (some ⟨w5.heap.size,0,none⟩) 0 0:=⟨_,rfl⟩
      rw[← hv0] at HP HS
      clear HX
      go_wp2
      rw[← hv0]
      clear hv0
      go_loopg [6] (lim xs) (fun f kv wr=>∃ (ks:List Int) (q:Option Ps),f+ks.length=lim xs∧wr.ownsRow w.heap.size tI 1 kv ks.length (z02 ks)∧SR B g xs (z0g A kv) wr q∧Fr B w wr∧Hid (z1p xs (z2k xs) (⟨#[125]⟩:ByteArray) (fun ks s2=>bnd (z0p xs (⟨#[125]⟩:ByteArray) s2) fun _ s3=>z0z 21 nmx ks s3) d0 f ks q o))
      case atStart=>exact⟨[],some s5,by simp,HP.out,HS.out,HF.out,HTB⟩
      case round =>
       obtain⟨ks,q,hf,P,R,Fx,HX⟩:=hrel
       clear HP HS HF HTB
       obtain⟨ao,cc,rfl⟩:=z06 P
       have HP:=z00 P
       have HF:=z00 Fx
       have HS:=z00 R
       clear P R Fx
       have hkl:ks.length≤3001:=by omega
       match q,HS,HX with
       | none,HS,HX =>
         obtain rfl:o=none:=HX.out
         obtain⟨s9,h9,hd9⟩:=HS.out
         obtain⟨sa,sc,na,nc,-,-,c2,-,-,-⟩:=h9.cells
         clear h9 hd9 HX
         go_wp2_with fail
         refine(z14 (o:=none) 21 nmx ks (ao) cc (SR.avoid (t:=none) HS.out (fun k hk=>.inl (.inl hk))) (z01 HP.out hbase) (fun b hb hb2=>by have h7:=(HP.out.lt b hb).1;have h8:=hA b hb2;omega) rfl).mono ?_
         rintro e we ⟨⟨k9,rfl,hk9⟩,S9,F9⟩
         have HH:=z00 (show z0j B g xs A w VNs _ (.returned (.int .i64 k9)) we from⟨⟨k9,rfl,hk9⟩,S9,HF.out.trans F9⟩)
         clear S9 F9 HF HS
         go_wp2
         go_ret
         exact HH.out
       | some s1,HS,HX =>
         obtain⟨hd0,hx⟩:s1.d=d0∧bnd (z3v xs (z2k xs) (⟨#[125]⟩:ByteArray) gk ks s1) (fun ks s2=>bnd (z0p xs (⟨#[125]⟩:ByteArray) s2) fun _ s3=>z0z 21 nmx ks s3)=some o:=HX.out
         have HD0:=z00 hd0
         clear HX hd0
         cases gk with
         | zero=>exact absurd hx (by simp[z3v,bnd])
         | succ f =>
           rw[z3v] at hx
           obtain⟨sa,sc,na,nc,-,-,c2,-,-,-⟩:=HS.out.1.cells
           by_cases ht:txt xs s1.p=(⟨#[125]⟩:ByteArray)
           ·rw[if_pos ht,z1a] at hx
            have hw9:z0p xs (⟨#[125]⟩:ByteArray) s1=yes () s1.next:=by unfold z0p;rw[if_pos ht]
            have hx2:z0z 21 nmx ks (s1.next)=some o:=by
             have h9:bnd (z0p xs (⟨#[125]⟩:ByteArray) s1) _=some o:=hx
             rw[hw9,z1a] at h9
             exact h9
            have qY:=z3p (s:=s1) HS.out hX (by rw[z0q (hM (⟨#[125]⟩:ByteArray) (by decide))];exact decide_eq_true ht)
            have HX:=z00 hx2
            clear hx hx2 hw9 ht
            go_wp2_with fail
            refine qY.mono ?_
            rintro e w7 ⟨rfl,S7,F7⟩
            clear qY c2
            have o7:=F7.ints HP.out
            have FF7:=HF.out.trans F7
            clear HF HS HP
            have HF:=z00 FF7
            have HS:=z00 S7
            have HP:=z00 o7
            clear FF7 S7 F7 o7
            go_wp2_with fail
            refine(z14 (o:=o) 21 nmx ks (ao) cc (SR.avoid (t:=some s1.next) HS.out (fun k hk=>.inl (.inl hk))) (z01 HP.out hbase) (fun b hb hb2=>by have h7:=(HP.out.lt b hb).1;have h8:=hA b hb2;omega) HX.out).mono ?_
            rintro e we ⟨⟨k9,rfl,hk9⟩,S9,F9⟩
            have HH:=z00 (show z0j B g xs A w VNs _ (.returned (.int .i64 k9)) we from⟨⟨k9,rfl,hk9⟩,S9,HF.out.trans F9⟩)
            clear S9 F9 HF HS
            go_wp2
            go_ret
            exact HH.out
           ·rw[if_neg ht,z1y] at hx
            have qN:=z2c (t:=some s1) (u:=(⟨#[125]⟩:ByteArray)) HS.out (by rw[z0q (hM (⟨#[125]⟩:ByteArray) (by decide))];exact decide_eq_false ht)
            have HX:=z00 hx
            clear hx ht
            go_wp2_with fail
            refine qN.mono ?_
            rintro e w7 ⟨rfl,B7⟩
            clear qN c2
            have S7:=SR.below (t:=(some s1)) HS.out B7
            have FF7:=HF.out.trans (Fr.ofB (B:=B) B7 (SR.base (t:=(some s1)) HS.out))
            have o7:=z07 HP.out B7
            clear HF HS HP
            have HF:=z00 FF7
            have HS:=z00 S7
            have HP:=z00 o7
            clear FF7 S7 B7 o7
            go_wp2_with fail
            refine(zgl (t:=some s1) HS.out).mono ?_
            rintro e w8 ⟨⟨bb,rfl,hbb⟩,m8,hm8⟩
            have B8:Below w7.heap.size w7 w8:=by rw[hm8];exact z0a _ _
            clear hm8
            have S8:=SR.below (t:=(some s1)) HS.out B8
            have FF8:=HF.out.trans (Fr.ofB (B:=B) B8 (SR.base (t:=(some s1)) HS.out))
            have o8:=z07 HP.out B8
            clear HF HS HP
            have HF:=z00 FF8
            have HS:=z00 S8
            have HP:=z00 o8
            clear FF8 S8 B8 o8
            have hbk:bb=blk xs s1.p:=hbb s1 rfl
            clear hbb
            cases bb with
            | false =>
              have hbl:(blk xs s1.p&&decide (0<ks.length))=false:=by rw[← hbk];rfl
              clear hbk
              have hx:=HX.out
              simp only[hbl] at hx
              clear HX
              have HX:=z00 hx
              clear hx hbl
              go_wp2_with fail
              rcases z09 HX.out with⟨h9,rfl⟩|⟨k,s9,h9,hr9⟩
              ·refine(hMb _ _ _ none (z0g.lt hA HF.out.size HP.out) HS.out h9).mono ?_
               rintro e w9 ⟨⟨kx,rfl,-⟩,S9,F9⟩
               clear HX h9
               have o9:=F9.ints HP.out
               have FF9:=HF.out.trans F9
               clear HF HS HP
               have HF:=z00 FF9
               have HS:=z00 S9
               have HP:=z00 o9
               clear FF9 S9 F9 o9
               go_wp2_with fail
               refine(z2n kx false HS.out).mono ?_
               rintro e w10 ⟨rfl,S10,F10⟩
               have o10:=F10.ints HP.out
               have FF10:=HF.out.trans F10
               clear HF HS HP
               have HF:=z00 FF10
               have HS:=z00 S10
               have HP:=z00 o10
               clear FF10 S10 F10 o10
               have hs11:=HF.out.size
               go_wp2_with (at_builtin;refine z04 rfl _ _ 29 rfl w.heap.size 3 i0 _ 1 8 Tryz.underlying29 hi hz0 hz1 hz2 rfl (by decide) (.slice ao ks.length cc) (ks.length) (z02 ks) rfl (HP.out.alloc _) ⟨w10.heap.size,0,none⟩ 1 1 [.int .i64 kx] rfl rfl (cell_one_new _ _ _) (by simp[Value.oneCell']) (by unfold maxLen;omega) (by omega) (by simp;omega) ?_;intro v' w11 hown' hgrow5 hpl5)
               have B11:Below w10.heap.size w10 (w10.alloc (.cells #[.int .i64 kx] tI)):=(Below.refl _ _).alloc (Nat.le_refl _) _
               have FF11:=(HF.out.trans (Fr.ofB (B:=B) B11 (SR.base (t:=none) HS.out))).growI hbase hgrow5 (fun b hb=>(HP.out.lt b hb).1)
               have R11:=(SR.below (t:=none) HS.out B11).growI (A':=z0g A v') (HP.out.alloc _) hgrow5 (fun b hb=>.inr hb) (fun b hb=>by
                rcases hb with hb|hb
                ·exact .inl (.inl hb)
                ·rcases hpl5 b hb with h6|h6
                 ·exact .inl (.inr h6)
                 ·exact .inr h6)
               have o11:=z0c (ks:=ks) (k:=kx) hown' rfl
               clear hown' hgrow5 hpl5 HF HS HP hs11 B11
               obtain⟨ao11,cc11,rfl⟩:=z06 o11
               have HF:=z00 FF11
               have HS:=z00 R11
               have HP:=z00 o11
               clear FF11 R11 o11
               have hlen:(ks++[kx]).length=ks.length+1:=by simp
               have HZ:=z00 (show ∃ (ls:List Int) (q:Option Ps),f+ls.length=lim xs∧w11.ownsRow w.heap.size tI 1 (.slice ao11 (ks++[kx]).length cc11) ls.length (z02 ls)∧SR B g xs (z0g A (.slice ao11 (ks++[kx]).length cc11)) w11 q∧Fr B w w11∧Hid (z1p xs (z2k xs) (⟨#[125]⟩:ByteArray) (fun ks s2=>bnd (z0p xs (⟨#[125]⟩:ByteArray) s2) fun _ s3=>z0z 21 nmx ks s3) d0 f ls q none) from⟨(ks++[kx]),none,by rw[hlen];omega,HP.out,HS.out,HF.out,z00 (show z1p xs (z2k xs) (⟨#[125]⟩:ByteArray) (fun ks s2=>bnd (z0p xs (⟨#[125]⟩:ByteArray) s2) fun _ s3=>z0z 21 nmx ks s3) d0 f _ none none from rfl)⟩)
               have HLn:=z00 hlen
               clear HP HS HF hlen
               go_wp2
               go_roundg f
               case measure=>omega
               case rel=>first|exact HZ.out|(rw[HLn.out] at HZ;exact HZ.out)
              ·refine(hMb _ _ _ (some (k,s9)) (z0g.lt hA HF.out.size HP.out) HS.out h9).mono ?_
               rintro e w9 ⟨⟨kx,rfl,hkx⟩,S9,F9⟩
               obtain rfl:kx=((k:Nat):Int):=hkx k rfl
               have HD:=z00 (hSm _ _ _ h9)
               clear HX
               have HX:=z00 hr9
               clear h9 hr9 hkx
               have o9:=F9.ints HP.out
               have FF9:=HF.out.trans F9
               clear HF HS HP
               have HF:=z00 FF9
               have HS:=z00 S9
               have HP:=z00 o9
               clear FF9 S9 F9 o9
               go_wp2_with fail
               refine(z2o k false (s:=s9) HS.out).mono ?_
               rintro e w10 ⟨rfl,S10,F10⟩
               have o10:=F10.ints HP.out
               have FF10:=HF.out.trans F10
               clear HF HS HP
               have HF:=z00 FF10
               have HS:=z00 S10
               have HP:=z00 o10
               clear FF10 S10 F10 o10
               have hs11:=HF.out.size
               go_wp2_with (at_builtin;refine z04 rfl _ _ 29 rfl w.heap.size 3 i0 _ 1 8 Tryz.underlying29 hi hz0 hz1 hz2 rfl (by decide) (.slice ao ks.length cc) (ks.length) (z02 ks) rfl (HP.out.alloc _) ⟨w10.heap.size,0,none⟩ 1 1 [.int .i64 ((k:Nat):Int)] rfl rfl (cell_one_new _ _ _) (by simp[Value.oneCell']) (by unfold maxLen;omega) (by omega) (by simp;omega) ?_;intro v' w11 hown' hgrow5 hpl5)
               have B11:Below w10.heap.size w10 (w10.alloc (.cells #[.int .i64 ((k:Nat):Int)] tI)):=(Below.refl _ _).alloc (Nat.le_refl _) _
               have FF11:=(HF.out.trans (Fr.ofB (B:=B) B11 (SR.base (t:=(some (z19 s9 k false))) HS.out))).growI hbase hgrow5 (fun b hb=>(HP.out.lt b hb).1)
               have R11:=(SR.below (t:=(some (z19 s9 k false))) HS.out B11).growI (A':=z0g A v') (HP.out.alloc _) hgrow5 (fun b hb=>.inr hb) (fun b hb=>by
                rcases hb with hb|hb
                ·exact .inl (.inl hb)
                ·rcases hpl5 b hb with h6|h6
                 ·exact .inl (.inr h6)
                 ·exact .inr h6)
               have o11:=z0c (ks:=ks) (k:=((k:Nat):Int)) hown' rfl
               clear hown' hgrow5 hpl5 HF HS HP hs11 B11
               obtain⟨ao11,cc11,rfl⟩:=z06 o11
               have HF:=z00 FF11
               have HS:=z00 R11
               have HP:=z00 o11
               clear FF11 R11 o11
               have hlen:(ks++[((k:Nat):Int)]).length=ks.length+1:=by simp
               have HZ:=z00 (show ∃ (ls:List Int) (q:Option Ps),f+ls.length=lim xs∧w11.ownsRow w.heap.size tI 1 (.slice ao11 (ks++[((k:Nat):Int)]).length cc11) ls.length (z02 ls)∧SR B g xs (z0g A (.slice ao11 (ks++[((k:Nat):Int)]).length cc11)) w11 q∧Fr B w w11∧Hid (z1p xs (z2k xs) (⟨#[125]⟩:ByteArray) (fun ks s2=>bnd (z0p xs (⟨#[125]⟩:ByteArray) s2) fun _ s3=>z0z 21 nmx ks s3) d0 f ls q o) from⟨(ks++[((k:Nat):Int)]),some (z19 s9 k false),by rw[hlen];omega,HP.out,HS.out,HF.out,z00 (show z1p xs (z2k xs) (⟨#[125]⟩:ByteArray) (fun ks s2=>bnd (z0p xs (⟨#[125]⟩:ByteArray) s2) fun _ s3=>z0z 21 nmx ks s3) d0 f _ (some (z19 s9 k false)) o from⟨(show _=_ from HD.out).trans HD0.out,HX.out⟩)⟩)
               have HLn:=z00 hlen
               clear HP HS HF hlen
               go_wp2
               go_roundg f
               case measure=>omega
               case rel=>first|exact HZ.out|(rw[HLn.out] at HZ;exact HZ.out)
            | true =>
              by_cases h0k:ks.length=0
              ·have hbl:(blk xs s1.p&&decide (0<ks.length))=false:=by rw[h0k,Bool.and_eq_false_iff];right;decide
               have hgt:¬ (0:Int)<(ks.length:Int):=by omega
               have hgd:decide ((0:Int)<(ks.length:Int))=false:=decide_eq_false hgt
               have hgn:decide (0<ks.length)=false:=decide_eq_false (by omega)
               clear hbk h0k
               have hx:=HX.out
               simp only[hbl] at hx
               clear HX
               have HX:=z00 hx
               clear hx hbl
               go_wp2_with fail
               rcases z09 HX.out with⟨h9,rfl⟩|⟨k,s9,h9,hr9⟩
               ·refine(hMb _ _ _ none (z0g.lt hA HF.out.size HP.out) HS.out h9).mono ?_
                rintro e w9 ⟨⟨kx,rfl,-⟩,S9,F9⟩
                clear HX h9
                have o9:=F9.ints HP.out
                have FF9:=HF.out.trans F9
                clear HF HS HP
                have HF:=z00 FF9
                have HS:=z00 S9
                have HP:=z00 o9
                clear FF9 S9 F9 o9
                go_wp2_with fail
                refine(z2n kx false HS.out).mono ?_
                rintro e w10 ⟨rfl,S10,F10⟩
                have o10:=F10.ints HP.out
                have FF10:=HF.out.trans F10
                clear HF HS HP
                have HF:=z00 FF10
                have HS:=z00 S10
                have HP:=z00 o10
                clear FF10 S10 F10 o10
                have hs11:=HF.out.size
                go_wp2_with (at_builtin;refine z04 rfl _ _ 29 rfl w.heap.size 3 i0 _ 1 8 Tryz.underlying29 hi hz0 hz1 hz2 rfl (by decide) (.slice ao ks.length cc) (ks.length) (z02 ks) rfl (HP.out.alloc _) ⟨w10.heap.size,0,none⟩ 1 1 [.int .i64 kx] rfl rfl (cell_one_new _ _ _) (by simp[Value.oneCell']) (by unfold maxLen;omega) (by omega) (by simp;omega) ?_;intro v' w11 hown' hgrow5 hpl5)
                have B11:Below w10.heap.size w10 (w10.alloc (.cells #[.int .i64 kx] tI)):=(Below.refl _ _).alloc (Nat.le_refl _) _
                have FF11:=(HF.out.trans (Fr.ofB (B:=B) B11 (SR.base (t:=none) HS.out))).growI hbase hgrow5 (fun b hb=>(HP.out.lt b hb).1)
                have R11:=(SR.below (t:=none) HS.out B11).growI (A':=z0g A v') (HP.out.alloc _) hgrow5 (fun b hb=>.inr hb) (fun b hb=>by
                 rcases hb with hb|hb
                 ·exact .inl (.inl hb)
                 ·rcases hpl5 b hb with h6|h6
                  ·exact .inl (.inr h6)
                  ·exact .inr h6)
                have o11:=z0c (ks:=ks) (k:=kx) hown' rfl
                clear hown' hgrow5 hpl5 HF HS HP hs11 B11
                obtain⟨ao11,cc11,rfl⟩:=z06 o11
                have HF:=z00 FF11
                have HS:=z00 R11
                have HP:=z00 o11
                clear FF11 R11 o11
                have hlen:(ks++[kx]).length=ks.length+1:=by simp
                have HZ:=z00 (show ∃ (ls:List Int) (q:Option Ps),f+ls.length=lim xs∧w11.ownsRow w.heap.size tI 1 (.slice ao11 (ks++[kx]).length cc11) ls.length (z02 ls)∧SR B g xs (z0g A (.slice ao11 (ks++[kx]).length cc11)) w11 q∧Fr B w w11∧Hid (z1p xs (z2k xs) (⟨#[125]⟩:ByteArray) (fun ks s2=>bnd (z0p xs (⟨#[125]⟩:ByteArray) s2) fun _ s3=>z0z 21 nmx ks s3) d0 f ls q none) from⟨(ks++[kx]),none,by rw[hlen];omega,HP.out,HS.out,HF.out,z00 (show z1p xs (z2k xs) (⟨#[125]⟩:ByteArray) (fun ks s2=>bnd (z0p xs (⟨#[125]⟩:ByteArray) s2) fun _ s3=>z0z 21 nmx ks s3) d0 f _ none none from rfl)⟩)
                have HLn:=z00 hlen
                clear HP HS HF hlen
                go_wp2
                go_roundg f
                case measure=>omega
                case rel=>first|exact HZ.out|(rw[HLn.out] at HZ;exact HZ.out)
               ·refine(hMb _ _ _ (some (k,s9)) (z0g.lt hA HF.out.size HP.out) HS.out h9).mono ?_
                rintro e w9 ⟨⟨kx,rfl,hkx⟩,S9,F9⟩
                obtain rfl:kx=((k:Nat):Int):=hkx k rfl
                have HD:=z00 (hSm _ _ _ h9)
                clear HX
                have HX:=z00 hr9
                clear h9 hr9 hkx
                have o9:=F9.ints HP.out
                have FF9:=HF.out.trans F9
                clear HF HS HP
                have HF:=z00 FF9
                have HS:=z00 S9
                have HP:=z00 o9
                clear FF9 S9 F9 o9
                go_wp2_with fail
                refine(z2o k false (s:=s9) HS.out).mono ?_
                rintro e w10 ⟨rfl,S10,F10⟩
                have o10:=F10.ints HP.out
                have FF10:=HF.out.trans F10
                clear HF HS HP
                have HF:=z00 FF10
                have HS:=z00 S10
                have HP:=z00 o10
                clear FF10 S10 F10 o10
                have hs11:=HF.out.size
                go_wp2_with (at_builtin;refine z04 rfl _ _ 29 rfl w.heap.size 3 i0 _ 1 8 Tryz.underlying29 hi hz0 hz1 hz2 rfl (by decide) (.slice ao ks.length cc) (ks.length) (z02 ks) rfl (HP.out.alloc _) ⟨w10.heap.size,0,none⟩ 1 1 [.int .i64 ((k:Nat):Int)] rfl rfl (cell_one_new _ _ _) (by simp[Value.oneCell']) (by unfold maxLen;omega) (by omega) (by simp;omega) ?_;intro v' w11 hown' hgrow5 hpl5)
                have B11:Below w10.heap.size w10 (w10.alloc (.cells #[.int .i64 ((k:Nat):Int)] tI)):=(Below.refl _ _).alloc (Nat.le_refl _) _
                have FF11:=(HF.out.trans (Fr.ofB (B:=B) B11 (SR.base (t:=(some (z19 s9 k false))) HS.out))).growI hbase hgrow5 (fun b hb=>(HP.out.lt b hb).1)
                have R11:=(SR.below (t:=(some (z19 s9 k false))) HS.out B11).growI (A':=z0g A v') (HP.out.alloc _) hgrow5 (fun b hb=>.inr hb) (fun b hb=>by
                 rcases hb with hb|hb
                 ·exact .inl (.inl hb)
                 ·rcases hpl5 b hb with h6|h6
                  ·exact .inl (.inr h6)
                  ·exact .inr h6)
                have o11:=z0c (ks:=ks) (k:=((k:Nat):Int)) hown' rfl
                clear hown' hgrow5 hpl5 HF HS HP hs11 B11
                obtain⟨ao11,cc11,rfl⟩:=z06 o11
                have HF:=z00 FF11
                have HS:=z00 R11
                have HP:=z00 o11
                clear FF11 R11 o11
                have hlen:(ks++[((k:Nat):Int)]).length=ks.length+1:=by simp
                have HZ:=z00 (show ∃ (ls:List Int) (q:Option Ps),f+ls.length=lim xs∧w11.ownsRow w.heap.size tI 1 (.slice ao11 (ks++[((k:Nat):Int)]).length cc11) ls.length (z02 ls)∧SR B g xs (z0g A (.slice ao11 (ks++[((k:Nat):Int)]).length cc11)) w11 q∧Fr B w w11∧Hid (z1p xs (z2k xs) (⟨#[125]⟩:ByteArray) (fun ks s2=>bnd (z0p xs (⟨#[125]⟩:ByteArray) s2) fun _ s3=>z0z 21 nmx ks s3) d0 f ls q o) from⟨(ks++[((k:Nat):Int)]),some (z19 s9 k false),by rw[hlen];omega,HP.out,HS.out,HF.out,z00 (show z1p xs (z2k xs) (⟨#[125]⟩:ByteArray) (fun ks s2=>bnd (z0p xs (⟨#[125]⟩:ByteArray) s2) fun _ s3=>z0z 21 nmx ks s3) d0 f _ (some (z19 s9 k false)) o from⟨(show _=_ from HD.out).trans HD0.out,HX.out⟩)⟩)
                have HLn:=z00 hlen
                clear HP HS HF hlen
                go_wp2
                go_roundg f
                case measure=>omega
                case rel=>first|exact HZ.out|(rw[HLn.out] at HZ;exact HZ.out)
              ·have hbl:(blk xs s1.p&&decide (0<ks.length))=true:=by rw[← hbk,Bool.true_and];exact decide_eq_true (by omega)
               have hgt:(0:Int)<(ks.length:Int):=by omega
               have hgd:decide ((0:Int)<(ks.length:Int))=true:=decide_eq_true hgt
               have hgn:decide (0<ks.length)=true:=decide_eq_true (by omega)
               clear hbk h0k
               have hx:=HX.out
               simp only[hbl] at hx
               clear HX
               have HX:=z00 hx
               clear hx hbl
               go_wp2_with fail
               rcases z09 HX.out with⟨h9,rfl⟩|⟨k,s9,h9,hr9⟩
               ·refine(hMb _ _ _ none (z0g.lt hA HF.out.size HP.out) HS.out h9).mono ?_
                rintro e w9 ⟨⟨kx,rfl,-⟩,S9,F9⟩
                clear HX h9
                have o9:=F9.ints HP.out
                have FF9:=HF.out.trans F9
                clear HF HS HP
                have HF:=z00 FF9
                have HS:=z00 S9
                have HP:=z00 o9
                clear FF9 S9 F9 o9
                go_wp2_with fail
                refine(z2n kx true HS.out).mono ?_
                rintro e w10 ⟨rfl,S10,F10⟩
                have o10:=F10.ints HP.out
                have FF10:=HF.out.trans F10
                clear HF HS HP
                have HF:=z00 FF10
                have HS:=z00 S10
                have HP:=z00 o10
                clear FF10 S10 F10 o10
                have hs11:=HF.out.size
                go_wp2_with (at_builtin;refine z04 rfl _ _ 29 rfl w.heap.size 3 i0 _ 1 8 Tryz.underlying29 hi hz0 hz1 hz2 rfl (by decide) (.slice ao ks.length cc) (ks.length) (z02 ks) rfl (HP.out.alloc _) ⟨w10.heap.size,0,none⟩ 1 1 [.int .i64 kx] rfl rfl (cell_one_new _ _ _) (by simp[Value.oneCell']) (by unfold maxLen;omega) (by omega) (by simp;omega) ?_;intro v' w11 hown' hgrow5 hpl5)
                have B11:Below w10.heap.size w10 (w10.alloc (.cells #[.int .i64 kx] tI)):=(Below.refl _ _).alloc (Nat.le_refl _) _
                have FF11:=(HF.out.trans (Fr.ofB (B:=B) B11 (SR.base (t:=none) HS.out))).growI hbase hgrow5 (fun b hb=>(HP.out.lt b hb).1)
                have R11:=(SR.below (t:=none) HS.out B11).growI (A':=z0g A v') (HP.out.alloc _) hgrow5 (fun b hb=>.inr hb) (fun b hb=>by
                 rcases hb with hb|hb
                 ·exact .inl (.inl hb)
                 ·rcases hpl5 b hb with h6|h6
                  ·exact .inl (.inr h6)
                  ·exact .inr h6)
                have o11:=z0c (ks:=ks) (k:=kx) hown' rfl
                clear hown' hgrow5 hpl5 HF HS HP hs11 B11
                obtain⟨ao11,cc11,rfl⟩:=z06 o11
                have HF:=z00 FF11
                have HS:=z00 R11
                have HP:=z00 o11
                clear FF11 R11 o11
                have hlen:(ks++[kx]).length=ks.length+1:=by simp
                have HZ:=z00 (show ∃ (ls:List Int) (q:Option Ps),f+ls.length=lim xs∧w11.ownsRow w.heap.size tI 1 (.slice ao11 (ks++[kx]).length cc11) ls.length (z02 ls)∧SR B g xs (z0g A (.slice ao11 (ks++[kx]).length cc11)) w11 q∧Fr B w w11∧Hid (z1p xs (z2k xs) (⟨#[125]⟩:ByteArray) (fun ks s2=>bnd (z0p xs (⟨#[125]⟩:ByteArray) s2) fun _ s3=>z0z 21 nmx ks s3) d0 f ls q none) from⟨(ks++[kx]),none,by rw[hlen];omega,HP.out,HS.out,HF.out,z00 (show z1p xs (z2k xs) (⟨#[125]⟩:ByteArray) (fun ks s2=>bnd (z0p xs (⟨#[125]⟩:ByteArray) s2) fun _ s3=>z0z 21 nmx ks s3) d0 f _ none none from rfl)⟩)
                have HLn:=z00 hlen
                clear HP HS HF hlen
                go_wp2
                go_roundg f
                case measure=>omega
                case rel=>first|exact HZ.out|(rw[HLn.out] at HZ;exact HZ.out)
               ·refine(hMb _ _ _ (some (k,s9)) (z0g.lt hA HF.out.size HP.out) HS.out h9).mono ?_
                rintro e w9 ⟨⟨kx,rfl,hkx⟩,S9,F9⟩
                obtain rfl:kx=((k:Nat):Int):=hkx k rfl
                have HD:=z00 (hSm _ _ _ h9)
                clear HX
                have HX:=z00 hr9
                clear h9 hr9 hkx
                have o9:=F9.ints HP.out
                have FF9:=HF.out.trans F9
                clear HF HS HP
                have HF:=z00 FF9
                have HS:=z00 S9
                have HP:=z00 o9
                clear FF9 S9 F9 o9
                go_wp2_with fail
                refine(z2o k true (s:=s9) HS.out).mono ?_
                rintro e w10 ⟨rfl,S10,F10⟩
                have o10:=F10.ints HP.out
                have FF10:=HF.out.trans F10
                clear HF HS HP
                have HF:=z00 FF10
                have HS:=z00 S10
                have HP:=z00 o10
                clear FF10 S10 F10 o10
                have hs11:=HF.out.size
                go_wp2_with (at_builtin;refine z04 rfl _ _ 29 rfl w.heap.size 3 i0 _ 1 8 Tryz.underlying29 hi hz0 hz1 hz2 rfl (by decide) (.slice ao ks.length cc) (ks.length) (z02 ks) rfl (HP.out.alloc _) ⟨w10.heap.size,0,none⟩ 1 1 [.int .i64 ((k:Nat):Int)] rfl rfl (cell_one_new _ _ _) (by simp[Value.oneCell']) (by unfold maxLen;omega) (by omega) (by simp;omega) ?_;intro v' w11 hown' hgrow5 hpl5)
                have B11:Below w10.heap.size w10 (w10.alloc (.cells #[.int .i64 ((k:Nat):Int)] tI)):=(Below.refl _ _).alloc (Nat.le_refl _) _
                have FF11:=(HF.out.trans (Fr.ofB (B:=B) B11 (SR.base (t:=(some (z19 s9 k true))) HS.out))).growI hbase hgrow5 (fun b hb=>(HP.out.lt b hb).1)
                have R11:=(SR.below (t:=(some (z19 s9 k true))) HS.out B11).growI (A':=z0g A v') (HP.out.alloc _) hgrow5 (fun b hb=>.inr hb) (fun b hb=>by
                 rcases hb with hb|hb
                 ·exact .inl (.inl hb)
                 ·rcases hpl5 b hb with h6|h6
                  ·exact .inl (.inr h6)
                  ·exact .inr h6)
                have o11:=z0c (ks:=ks) (k:=((k:Nat):Int)) hown' rfl
                clear hown' hgrow5 hpl5 HF HS HP hs11 B11
                obtain⟨ao11,cc11,rfl⟩:=z06 o11
                have HF:=z00 FF11
                have HS:=z00 R11
                have HP:=z00 o11
                clear FF11 R11 o11
                have hlen:(ks++[((k:Nat):Int)]).length=ks.length+1:=by simp
                have HZ:=z00 (show ∃ (ls:List Int) (q:Option Ps),f+ls.length=lim xs∧w11.ownsRow w.heap.size tI 1 (.slice ao11 (ks++[((k:Nat):Int)]).length cc11) ls.length (z02 ls)∧SR B g xs (z0g A (.slice ao11 (ks++[((k:Nat):Int)]).length cc11)) w11 q∧Fr B w w11∧Hid (z1p xs (z2k xs) (⟨#[125]⟩:ByteArray) (fun ks s2=>bnd (z0p xs (⟨#[125]⟩:ByteArray) s2) fun _ s3=>z0z 21 nmx ks s3) d0 f ls q o) from⟨(ks++[((k:Nat):Int)]),some (z19 s9 k true),by rw[hlen];omega,HP.out,HS.out,HF.out,z00 (show z1p xs (z2k xs) (⟨#[125]⟩:ByteArray) (fun ks s2=>bnd (z0p xs (⟨#[125]⟩:ByteArray) s2) fun _ s3=>z0z 21 nmx ks s3) d0 f _ (some (z19 s9 k true)) o from⟨(show _=_ from HD.out).trans HD0.out,HX.out⟩)⟩)
                have HLn:=z00 hlen
                clear HP HS HF hlen
                go_wp2
                go_roundg f
                case measure=>omega
                case rel=>first|exact HZ.out|(rw[HLn.out] at HZ;exact HZ.out)
   ·rw[if_neg hc] at hr2
    unfold z2k at hr2
    have HX:=z00 hr2
    have HNC:=z00 hc
    clear hr2 hc
    go_enter Tryz.func88,Tryz.ntmps88
    go_wp2_with fail
    by_cases hc:knd xs s.p=5
    ·have qK:=z3n (t:=some s) HS.out 5 (.inr (.inr (.inr rfl)))
     rw[show kdP xs (some s) 5=true from z3t hc] at qK
     have hx:=HX.out
     rw[if_pos hc] at hx
     clear HX
     have HX:=z00 hx
     clear hx
     refine qK.mono ?_
     clear qK
     rintro e w1 ⟨rfl,m1,hm1⟩
     have B1:Below w.heap.size w w1:=by rw[hm1];exact z0a _ _
     clear hm1
     have S1:=SR.below (t:=(some s)) HS.out B1
     have FF1:=HF.out.trans (Fr.ofB (B:=B) B1 (SR.base (t:=(some s)) HS.out))
     clear HF HS
     have HF:=z00 FF1
     have HS:=z00 S1
     clear FF1 S1 B1
     have HC:=z00 hc
     clear hc
     go_wp2_with fail
     have qT:=zcl (o:=some (txt xs s.p,s.next)) (t:=some s) 5 (.inr (.inr (.inr rfl))) HS.out hX (z59 (z3t HC.out))
     have hx:z0z 19 (txt xs s.p) [] s.next=some o:=HX.out
     clear HX
     have HX:=z00 hx
     clear hx
     refine qT.mono ?_
     clear qT
     rintro e w2 ⟨⟨tx,rfl,htx⟩,S2,F2⟩
     obtain rfl:tx=txt xs s.p:=htx _ rfl
     clear htx
     have FF2:=HF.out.trans F2
     clear HF HS
     have HF:=z00 FF2
     have HS:=z00 S2
     clear FF2 S2 F2
     obtain⟨ux,hux⟩:∃ ux,ux=(txt xs s.p):=⟨_,rfl⟩
     rw[← hux] at HX ⊢
     clear hux
     have B3:Below w2.heap.size w2 (w2.alloc (.cells #[] tI)):=(Below.refl _ _).alloc (Nat.le_refl _) _
     have R3:SR B g xs (z0g A (.slice (some ⟨w2.heap.size,0,none⟩) 0 0)) (w2.alloc (.cells #[] tI)) (some s.next):=(SR.avoid (A':=z0g A (.slice (some ⟨w2.heap.size,0,none⟩) 0 0)) (t:=(some s.next)) HS.out (fun k hk=>hk.imp_right (fun e=>by injection e with e;show w2.heap.size≤k;exact Nat.le_of_eq e))).below B3
     have o3:(w2.alloc (.cells #[] tI)).ownsRow w.heap.size tI 1 (.slice (some ⟨w2.heap.size,0,none⟩) 0 0) 0 (z02 ([]:List Int)):=World.ownsRow_lit w2 #[] 0 HF.out.size (by decide) rfl
     have FF3:=HF.out.trans (Fr.ofB (B:=B) B3 (SR.base (t:=(some s.next)) HS.out))
     clear HF HS
     have HF:=z00 FF3
     have HS:=z00 R3
     have HP:=z00 o3
     clear FF3 R3 o3 B3
     go_wp2_with fail
     refine(z14 (o:=o) 19 ux ([]:List Int) (some ⟨w2.heap.size,0,none⟩) 0 (SR.avoid (t:=some s.next) HS.out (fun k hk=>.inl (.inl hk))) (z01 HP.out hbase) (fun b hb hb2=>by have h7:=(HP.out.lt b hb).1;have h8:=hA b hb2;omega) HX.out).mono ?_
     rintro e we ⟨⟨k9,rfl,hk9⟩,S9,F9⟩
     have HH:=z00 (show z0j B g xs A w VNs _ (.returned (.int .i64 k9)) we from⟨⟨k9,rfl,hk9⟩,S9,HF.out.trans F9⟩)
     clear S9 F9 HF HS
     go_wp2
     go_ret
     exact HH.out
    ·have qK:=z3n (t:=some s) HS.out 5 (.inr (.inr (.inr rfl)))
     rw[show kdP xs (some s) 5=false from z9i hc] at qK
     have hx:=HX.out
     rw[if_neg hc] at hx
     clear HX
     have HX:=z00 hx
     clear hx
     refine qK.mono ?_
     clear qK
     rintro e w1 ⟨rfl,m1,hm1⟩
     have B1:Below w.heap.size w w1:=by rw[hm1];exact z0a _ _
     clear hm1
     have S1:=SR.below (t:=(some s)) HS.out B1
     have FF1:=HF.out.trans (Fr.ofB (B:=B) B1 (SR.base (t:=(some s)) HS.out))
     clear HF HS
     have HF:=z00 FF1
     have HS:=z00 S1
     clear FF1 S1 B1
     clear hc
     go_wp2_with fail
     by_cases ht:txt xs s.p=(⟨#[118,97,114]⟩:ByteArray)
     ·have hx:=HX.out
      rw[if_pos ht] at hx
      clear HX
      have HX:=z00 hx
      clear hx
      refine(z74 (s:=s) HS.out hX (by rw[z1j hWd (by decide)];exact decide_eq_true ht)).mono ?_
      clear ht
      rintro e w2 ⟨rfl,S2,F2⟩
      have FF2:=HF.out.trans F2
      clear HF HS
      have HF:=z00 FF2
      have HS:=z00 S2
      clear FF2 S2 F2
      go_wp2_with fail
      refine(zud (o:=o) HS.out hX hM (fun b hb=>Nat.lt_of_lt_of_le (hA b hb) HF.out.size) hV HX.out).mono ?_
      rintro e we ⟨⟨k9,rfl,hk9⟩,S9,F9⟩
      have HH:=z00 (show z0j B g xs A w VNs _ (.returned (.int .i64 k9)) we from⟨⟨k9,rfl,hk9⟩,S9,HF.out.trans F9⟩)
      clear S9 F9 HF HS
      go_wp2
      go_ret
      exact HH.out
     ·have hx:=HX.out
      rw[if_neg ht] at hx
      clear HX
      have HX:=z00 hx
      clear hx
      refine(z2t (t:=some s) HS.out (by rw[z1j hWd (by decide)];exact decide_eq_false ht)).mono ?_
      rintro e w2 ⟨rfl,B2⟩
      have S2:=SR.below (t:=(some s)) HS.out B2
      have FF2:=HF.out.trans (Fr.ofB (B:=B) B2 (SR.base (t:=(some s)) HS.out))
      clear HF HS
      have HF:=z00 FF2
      have HS:=z00 S2
      clear FF2 S2 B2
      clear ht
      go_wp2_with fail
      refine(z2t (t:=some s) HS.out (by rw[z1j hWd (by decide)];exact decide_eq_false (HNC.out))).mono ?_
      rintro e w3 ⟨rfl,B3⟩
      have S3:=SR.below (t:=(some s)) HS.out B3
      have FF3:=HF.out.trans (Fr.ofB (B:=B) B3 (SR.base (t:=(some s)) HS.out))
      clear HF HS
      have HF:=z00 FF3
      have HS:=z00 S3
      clear FF3 S3 B3
      go_wp2_with fail
      have hx:=HX.out
      unfold zfq at hx
      clear HX
      have HX:=z00 hx
      clear hx
      rcases z09 HX.out with⟨h4,rfl⟩|⟨nm,s4,h4,hr4⟩
      ·refine(z4f (o:=none) HS.out hX h4).mono ?_
       rintro e w4 ⟨⟨nmx,rfl,-⟩,S4,F4⟩
       clear HX h4
       have FF4:=HF.out.trans F4
       clear HF HS
       have HF:=z00 FF4
       have HS:=z00 S4
       clear FF4 S4 F4
       go_wp2_with fail
       refine(z4t (o:=none) (t:=none) HS.out hX hM (fun b hb=>Nat.lt_of_lt_of_le (hA b hb) HF.out.size) rfl).mono ?_
       rintro e w5 ⟨a5,c5,ks5,rfl,o5,S5,F5,hl5,-⟩
       have o5:=z01 o5 HF.out.size
       have F5:=HF.out.trans F5
       clear HF HS
       have HF:=z00 F5
       have HS:=z00 S5
       have HP:=z00 o5
       clear F5 S5 o5
       go_wp2_with fail
       refine(hBk _ _ _ none (z0g.lt hA HF.out.size HP.out) HS.out rfl).mono ?_
       rintro e w6 ⟨⟨bx,rfl,-⟩,S6,F6⟩
       have o6:=F6.ints HP.out
       have FF6:=HF.out.trans F6
       clear HF HS HP
       have HF:=z00 FF6
       have HS:=z00 S6
       have HP:=z00 o6
       clear FF6 S6 F6 o6
       have hs7:=HF.out.size
       go_wp2_with (at_builtin;refine z04 rfl _ _ 29 rfl w.heap.size 3 i0 _ 1 8 Tryz.underlying29 hi hz0 hz1 hz2 rfl (by decide) (.slice a5 ks5.length c5) (ks5.length) (z02 ks5) rfl (HP.out.alloc _) ⟨w6.heap.size,0,none⟩ 1 1 [.int .i64 bx] rfl rfl (cell_one_new _ _ _) (by simp[Value.oneCell']) (by unfold maxLen;omega) (by omega) (by simp;omega) ?_;intro v' w7 hown' hgrow5 hpl5)
       have B7:Below w6.heap.size w6 (w6.alloc (.cells #[.int .i64 bx] tI)):=(Below.refl _ _).alloc (Nat.le_refl _) _
       have FF7:=(HF.out.trans (Fr.ofB (B:=B) B7 (SR.base (t:=none) HS.out))).growI hbase hgrow5 (fun b hb=>(HP.out.lt b hb).1)
       have R7:=(SR.below (t:=none) HS.out B7).growI (A':=z0g A v') (HP.out.alloc _) hgrow5 (fun b hb=>.inr hb) (fun b hb=>by
        rcases hb with hb|hb
        ·exact .inl (.inl hb)
        ·rcases hpl5 b hb with h6|h6
         ·exact .inl (.inr h6)
         ·exact .inr h6)
       have o7:=z0c (ks:=ks5) (k:=bx) hown' rfl
       clear hown' hgrow5 hpl5 HF HS HP hs7 B7
       obtain⟨ao7,cc7,rfl⟩:=z06 o7
       have HF:=z00 FF7
       have HS:=z00 R7
       have HP:=z00 o7
       clear FF7 R7 o7
       refine(z14 (o:=none) 20 nmx (ks5++[bx]) (ao7) cc7 (SR.avoid (t:=none) HS.out (fun k hk=>.inl (.inl hk))) (z01 HP.out hbase) (fun b hb hb2=>by have h7:=(HP.out.lt b hb).1;have h8:=hA b hb2;omega) rfl).mono ?_
       rintro e we ⟨⟨k9,rfl,hk9⟩,S9,F9⟩
       have HH:=z00 (show z0j B g xs A w VNs _ (.returned (.int .i64 k9)) we from⟨⟨k9,rfl,hk9⟩,S9,HF.out.trans F9⟩)
       clear S9 F9 HF HS
       go_wp2
       go_ret
       exact HH.out
      ·refine(z4f (o:=(some (nm,s4))) HS.out hX h4).mono ?_
       rintro e w4 ⟨⟨nmx,rfl,hnmx⟩,S4,F4⟩
       obtain rfl:nmx=nm:=hnmx nm rfl
       clear HX
       have HX:=z00 hr4
       clear h4 hr4 hnmx
       have FF4:=HF.out.trans F4
       clear HF HS
       have HF:=z00 FF4
       have HS:=z00 S4
       clear FF4 S4 F4
       go_wp2_with fail
       rcases z09 HX.out with⟨h5,rfl⟩|⟨l5,s5,h5,hr5⟩
       ·refine(z4t (o:=none) (t:=some s4) HS.out hX hM (fun b hb=>Nat.lt_of_lt_of_le (hA b hb) HF.out.size) h5).mono ?_
        rintro e w5 ⟨a5,c5,ks5,rfl,o5,S5,F5,hl5,-⟩
        clear HX h5
        have o5:=z01 o5 HF.out.size
        have F5:=HF.out.trans F5
        clear HF HS
        have HF:=z00 F5
        have HS:=z00 S5
        have HP:=z00 o5
        clear F5 S5 o5
        go_wp2_with fail
        refine(hBk _ _ _ none (z0g.lt hA HF.out.size HP.out) HS.out rfl).mono ?_
        rintro e w6 ⟨⟨bx,rfl,-⟩,S6,F6⟩
        have o6:=F6.ints HP.out
        have FF6:=HF.out.trans F6
        clear HF HS HP
        have HF:=z00 FF6
        have HS:=z00 S6
        have HP:=z00 o6
        clear FF6 S6 F6 o6
        have hs7:=HF.out.size
        go_wp2_with (at_builtin;refine z04 rfl _ _ 29 rfl w.heap.size 3 i0 _ 1 8 Tryz.underlying29 hi hz0 hz1 hz2 rfl (by decide) (.slice a5 ks5.length c5) (ks5.length) (z02 ks5) rfl (HP.out.alloc _) ⟨w6.heap.size,0,none⟩ 1 1 [.int .i64 bx] rfl rfl (cell_one_new _ _ _) (by simp[Value.oneCell']) (by unfold maxLen;omega) (by omega) (by simp;omega) ?_;intro v' w7 hown' hgrow5 hpl5)
        have B7:Below w6.heap.size w6 (w6.alloc (.cells #[.int .i64 bx] tI)):=(Below.refl _ _).alloc (Nat.le_refl _) _
        have FF7:=(HF.out.trans (Fr.ofB (B:=B) B7 (SR.base (t:=none) HS.out))).growI hbase hgrow5 (fun b hb=>(HP.out.lt b hb).1)
        have R7:=(SR.below (t:=none) HS.out B7).growI (A':=z0g A v') (HP.out.alloc _) hgrow5 (fun b hb=>.inr hb) (fun b hb=>by
         rcases hb with hb|hb
         ·exact .inl (.inl hb)
         ·rcases hpl5 b hb with h6|h6
          ·exact .inl (.inr h6)
          ·exact .inr h6)
        have o7:=z0c (ks:=ks5) (k:=bx) hown' rfl
        clear hown' hgrow5 hpl5 HF HS HP hs7 B7
        obtain⟨ao7,cc7,rfl⟩:=z06 o7
        have HF:=z00 FF7
        have HS:=z00 R7
        have HP:=z00 o7
        clear FF7 R7 o7
        refine(z14 (o:=none) 20 nmx (ks5++[bx]) (ao7) cc7 (SR.avoid (t:=none) HS.out (fun k hk=>.inl (.inl hk))) (z01 HP.out hbase) (fun b hb hb2=>by have h7:=(HP.out.lt b hb).1;have h8:=hA b hb2;omega) rfl).mono ?_
        rintro e we ⟨⟨k9,rfl,hk9⟩,S9,F9⟩
        have HH:=z00 (show z0j B g xs A w VNs _ (.returned (.int .i64 k9)) we from⟨⟨k9,rfl,hk9⟩,S9,HF.out.trans F9⟩)
        clear S9 F9 HF HS
        go_wp2
        go_ret
        exact HH.out
       ·refine(z4t (o:=some (l5,s5)) (t:=some s4) HS.out hX hM (fun b hb=>Nat.lt_of_lt_of_le (hA b hb) HF.out.size) h5).mono ?_
        rintro e w5 ⟨a5,c5,ks5,rfl,o5,S5,F5,hl5,hk5⟩
        obtain rfl:ks5=l5:=hk5 l5 s5 rfl
        clear HX
        have HX:=z00 hr5
        clear h5 hr5 hk5
        have o5:=z01 o5 HF.out.size
        have F5:=HF.out.trans F5
        clear HF HS
        have HF:=z00 F5
        have HS:=z00 S5
        have HP:=z00 o5
        clear F5 S5 o5
        go_wp2_with fail
        rcases z09 HX.out with⟨h6,rfl⟩|⟨b,s6,h6,hr6⟩
        ·refine(hBk _ _ _ none (z0g.lt hA HF.out.size HP.out) HS.out h6).mono ?_
         rintro e w6 ⟨⟨bx,rfl,-⟩,S6,F6⟩
         clear HX h6
         have o6:=F6.ints HP.out
         have FF6:=HF.out.trans F6
         clear HF HS HP
         have HF:=z00 FF6
         have HS:=z00 S6
         have HP:=z00 o6
         clear FF6 S6 F6 o6
         have hs7:=HF.out.size
         go_wp2_with (at_builtin;refine z04 rfl _ _ 29 rfl w.heap.size 3 i0 _ 1 8 Tryz.underlying29 hi hz0 hz1 hz2 rfl (by decide) (.slice a5 ks5.length c5) (ks5.length) (z02 ks5) rfl (HP.out.alloc _) ⟨w6.heap.size,0,none⟩ 1 1 [.int .i64 bx] rfl rfl (cell_one_new _ _ _) (by simp[Value.oneCell']) (by unfold maxLen;omega) (by omega) (by simp;omega) ?_;intro v' w7 hown' hgrow5 hpl5)
         have B7:Below w6.heap.size w6 (w6.alloc (.cells #[.int .i64 bx] tI)):=(Below.refl _ _).alloc (Nat.le_refl _) _
         have FF7:=(HF.out.trans (Fr.ofB (B:=B) B7 (SR.base (t:=none) HS.out))).growI hbase hgrow5 (fun b hb=>(HP.out.lt b hb).1)
         have R7:=(SR.below (t:=none) HS.out B7).growI (A':=z0g A v') (HP.out.alloc _) hgrow5 (fun b hb=>.inr hb) (fun b hb=>by
          rcases hb with hb|hb
          ·exact .inl (.inl hb)
          ·rcases hpl5 b hb with h6|h6
           ·exact .inl (.inr h6)
           ·exact .inr h6)
         have o7:=z0c (ks:=ks5) (k:=bx) hown' rfl
         clear hown' hgrow5 hpl5 HF HS HP hs7 B7
         obtain⟨ao7,cc7,rfl⟩:=z06 o7
         have HF:=z00 FF7
         have HS:=z00 R7
         have HP:=z00 o7
         clear FF7 R7 o7
         refine(z14 (o:=none) 20 nmx (ks5++[bx]) (ao7) cc7 (SR.avoid (t:=none) HS.out (fun k hk=>.inl (.inl hk))) (z01 HP.out hbase) (fun b hb hb2=>by have h7:=(HP.out.lt b hb).1;have h8:=hA b hb2;omega) rfl).mono ?_
         rintro e we ⟨⟨k9,rfl,hk9⟩,S9,F9⟩
         have HH:=z00 (show z0j B g xs A w VNs _ (.returned (.int .i64 k9)) we from⟨⟨k9,rfl,hk9⟩,S9,HF.out.trans F9⟩)
         clear S9 F9 HF HS
         go_wp2
         go_ret
         exact HH.out
        ·refine(hBk _ _ _ (some (b,s6)) (z0g.lt hA HF.out.size HP.out) HS.out h6).mono ?_
         rintro e w6 ⟨⟨bx,rfl,hbx⟩,S6,F6⟩
         obtain rfl:bx=((b:Nat):Int):=hbx b rfl
         clear HX
         have HX:=z00 hr6
         clear h6 hr6 hbx
         have o6:=F6.ints HP.out
         have FF6:=HF.out.trans F6
         clear HF HS HP
         have HF:=z00 FF6
         have HS:=z00 S6
         have HP:=z00 o6
         clear FF6 S6 F6 o6
         have hs7:=HF.out.size
         go_wp2_with (at_builtin;refine z04 rfl _ _ 29 rfl w.heap.size 3 i0 _ 1 8 Tryz.underlying29 hi hz0 hz1 hz2 rfl (by decide) (.slice a5 ks5.length c5) (ks5.length) (z02 ks5) rfl (HP.out.alloc _) ⟨w6.heap.size,0,none⟩ 1 1 [.int .i64 ((b:Nat):Int)] rfl rfl (cell_one_new _ _ _) (by simp[Value.oneCell']) (by unfold maxLen;omega) (by omega) (by simp;omega) ?_;intro v' w7 hown' hgrow5 hpl5)
         have B7:Below w6.heap.size w6 (w6.alloc (.cells #[.int .i64 ((b:Nat):Int)] tI)):=(Below.refl _ _).alloc (Nat.le_refl _) _
         have FF7:=(HF.out.trans (Fr.ofB (B:=B) B7 (SR.base (t:=(some s6)) HS.out))).growI hbase hgrow5 (fun b hb=>(HP.out.lt b hb).1)
         have R7:=(SR.below (t:=(some s6)) HS.out B7).growI (A':=z0g A v') (HP.out.alloc _) hgrow5 (fun b hb=>.inr hb) (fun b hb=>by
          rcases hb with hb|hb
          ·exact .inl (.inl hb)
          ·rcases hpl5 b hb with h6|h6
           ·exact .inl (.inr h6)
           ·exact .inr h6)
         have o7:=z0c (ks:=ks5) (k:=((b:Nat):Int)) hown' rfl
         clear hown' hgrow5 hpl5 HF HS HP hs7 B7
         obtain⟨ao7,cc7,rfl⟩:=z06 o7
         have HF:=z00 FF7
         have HS:=z00 R7
         have HP:=z00 o7
         clear FF7 R7 o7
         refine(z14 (o:=o) 20 nmx (ks5++[((b:Nat):Int)]) (ao7) cc7 (SR.avoid (t:=some s6) HS.out (fun k hk=>.inl (.inl hk))) (z01 HP.out hbase) (fun b hb hb2=>by have h7:=(HP.out.lt b hb).1;have h8:=hA b hb2;omega) HX.out).mono ?_
         rintro e we ⟨⟨k9,rfl,hk9⟩,S9,F9⟩
         have HH:=z00 (show z0j B g xs A w VNs _ (.returned (.int .i64 k9)) we from⟨⟨k9,rfl,hk9⟩,S9,HF.out.trans F9⟩)
         clear S9 F9 HF HS
         go_wp2
         go_ret
         exact HH.out
end
end Go.Proofs.YtekebloinobjnaaGreatDoor
