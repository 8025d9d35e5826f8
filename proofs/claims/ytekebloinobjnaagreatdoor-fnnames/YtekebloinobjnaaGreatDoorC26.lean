/- Texts of one proof, laid together: SpI15. -/
import Derived.Test.YtekebloinobjnaaGreatDoorC25
set_option maxHeartbeats 16000000
set_option maxRecDepth 100000
namespace Go.Proofs.YtekebloinobjnaaGreatDoor
open Go.RowKit
theorem zm4 {xs:List Sg} (O:Bool→Ps→Rs Nat) (c:Nat) (s:Ps):z95 xs O c s=bnd (z0p xs (⟨#[40]⟩:ByteArray) s) fun _ s1=>bnd (z0v xs (O true) (⟨#[41]⟩:ByteArray) (lim xs) [(c:Int)] s1) fun ks s2=>z0z 5 ByteArray.empty ks s2:=by
 unfold z95
 refine z2l _ fun _ s1=>?_
 rw[z5p,z1y]
 rfl
theorem zqu {xs:List Sg} (O:Bool→Ps→Rs Nat) (f:Nat) (ks:List Int) (s:Ps) (h:txt xs s.p=(⟨#[46,46]⟩:ByteArray)):z75 xs O (f+1) ks s=bnd (z4j xs s.next) fun t s1=>bnd (z0z 1 t [] s1) fun c s2=>bnd (z0p xs (⟨#[40]⟩:ByteArray) s2) fun _ s3=>bnd (z0v xs (O true) (⟨#[41]⟩:ByteArray) (lim xs) [(c:Int)] s3) fun l s4=>bnd (z0z 5 ByteArray.empty l s4) fun k s5=>z75 xs O f (ks++[(k:Int)]) s5:=by
 rw[z75,if_pos h]
 unfold z4n
 rw[z1y]
 refine z2l _ fun t s1=>?_
 refine z2l _ fun c s2=>?_
 rw[zm4,z1y]
 refine z2l _ fun _ s3=>?_
 rw[z1y]
theorem zd7 {xs:List Sg} (O:Bool→Ps→Rs Nat) (f:Nat) (ks:List Int) (s:Ps) (h:txt xs s.p=(⟨#[46,46]⟩:ByteArray)) (K:List Int→Ps→Rs Nat):bnd (z75 xs O (f+1) ks s) K=bnd (z4j xs s.next) fun t s1=>bnd (z0z 1 t [] s1) fun c s2=>bnd (z0p xs (⟨#[40]⟩:ByteArray) s2) fun _ s3=>bnd (z0v xs (O true) (⟨#[41]⟩:ByteArray) (lim xs) [(c:Int)] s3) fun l s4=>bnd (z0z 5 ByteArray.empty l s4) fun k s5=>bnd (z75 xs O f (ks++[(k:Int)]) s5) K:=by
 rw[zqu O f ks s h,z1y]
 refine z2l _ fun t s1=>?_
 rw[z1y]
 refine z2l _ fun c s2=>?_
 rw[z1y]
 refine z2l _ fun _ s3=>?_
 rw[z1y]
 refine z2l _ fun l s4=>?_
 rw[z1y]
theorem zid {xs:List Sg} {O:Bool→Ps→Rs Nat}:∀ (f:Nat) (ks:List Int) (s:Ps) (l:List Int) (s2:Ps),z75 xs O f ks s=yes l s2→ks.length≤l.length
 | 0,_,_,_,_,h=>by cases h
 | f+1,ks,s,l,s2,h=>by
   unfold z75 at h
   split at h
   ·match hx:z4n xs s.next,h with
    | none,h=>cases h
    | some none,h=>cases h
    | some (some (c,s1)),h =>
      rw[z1a] at h
      match hy:z95 xs O c s1,h with
      | none,h=>cases h
      | some none,h=>cases h
      | some (some (k,s3)),h =>
        rw[z1a] at h
        have:=zid f _ _ _ _ h
        simp at this
        omega
   ·injection h with h
    injection h with h
    injection h with h _
    rw[h]
    exact Nat.le_refl _
theorem znd {xs:List Sg} (O:Bool→Ps→Rs Nat) (f:Nat) (ks:List Int) (s:Ps) (v:Nat) (h:2≤ks.length):bnd (z75 xs O f ks s) (fun l s2=>z0z 10 ByteArray.empty l s2)=bnd (z75 xs O f ks s) (fun l s2=>if l.length=1 then yes v s2 else z0z 10 ByteArray.empty l s2):=by
 match hx:z75 xs O f ks s with
 | none=>rfl
 | some none=>rfl
 | some (some (l,s2)) =>
   have:=zid f ks s l s2 hx
   rw[z1a,z1a,if_neg (by omega)]
def z6b (xs:List Sg) (O:Bool→Ps→Rs Nat) (f:Nat) (ks:List Int) (q:Option Ps) (o:Option (Nat×Ps)):Prop:=
 match q with
 | none=>o=none
 | some s=>bnd (z75 xs O f ks s) (fun l s2=>z0z 10 ByteArray.empty l s2)=some o
section
variable {B g:Nat} {xs:List Sg} {A:Nat→Prop} {w:World} {t:Option Ps}
theorem zn4 (h:SR B g xs A w none):Calls Tryz.prog 188 #[.pointer (some ⟨g,0,none⟩)] w (z0j B g xs A w VNs none):=by
 obtain⟨s1,h1,hd1⟩:=h
 obtain⟨sa,sc,na,nc,-,-,c2,-,-,-⟩:=h1.cells
 have HS:=z00 (show SR B g xs A w none from⟨s1,h1,hd1⟩)
 clear h1 hd1
 go_enter Tryz.func188,Tryz.ntmps188
 go_wp2
 go_ret
 exact⟨⟨_,rfl,fun a ha=>by cases ha⟩,HS.out,Fr.refl _ _⟩
theorem zh6 (h:SR B g xs A w none):Calls Tryz.prog 163 #[.pointer (some ⟨g,0,none⟩)] w (z0j B g xs A w VNs none):=by
 have HF:=z00 (Fr.refl B w)
 have HS:=z00 h
 clear h
 go_enter Tryz.func163,Tryz.ntmps163
 go_wp2_with fail
 refine(zn4 HS.out).mono ?_
 rintro e w1 ⟨⟨vx,rfl,-⟩,S1,F1⟩
 have FF1:=HF.out.trans F1
 clear HF HS
 have HF:=z00 FF1
 have HS:=z00 S1
 clear FF1 S1 F1
 go_wp2_with fail
 refine(sIs (t:=none) HS.out 4 (⟨#[46,46]⟩:ByteArray) (by decide)).mono ?_
 rintro e w8 ⟨rfl,m8,hm8⟩
 have B8:Below w1.heap.size w1 w8:=by rw[hm8];exact z0a _ _
 clear hm8
 have S8:=SR.below (t:=none) HS.out B8
 have FF8:=HF.out.trans (Fr.ofB (B:=B) B8 (SR.base (t:=none) HS.out))
 clear HF HS
 have HF:=z00 FF8
 have HS:=z00 S8
 clear FF8 S8 B8
 go_wp2
 go_ret
 exact⟨⟨_,rfl,fun a ha=>by cases ha⟩,HS.out,HF.out⟩
theorem zrf {O:Bool→Ps→Rs Nat} {o:Option (Nat×Ps)} (h:SR B g xs A w t) (hX:xs.length≤3000) (hM:z3w xs) (hA:∀ b,A b→b<w.heap.size) (hV:z1n B g xs 163 (O true)) (hP:z1n B g xs 188 (z4u xs O)) (hr:z60 (z6j xs O) t o):Calls Tryz.prog 163 #[.pointer (some ⟨g,0,none⟩)] w (z0j B g xs A w VNs o):=by
 match t,h,hr with
 | none,h,hr =>
   obtain rfl:o=none:=hr
   exact zh6 h
 | some s,h,hr =>
   obtain⟨i0,hi,hz0,hz1,hz2⟩:=info_parts z29
   have hbase:=h.base
   have hL:lim xs≤3001:=by unfold lim;omega
   have HX:=z00 (show bnd (z4u xs O s) (fun v s1=>bnd (z75 xs O (lim xs) [(v:Int)] s1) fun ks s2=>if ks.length=1 then yes v s2 else z0z 10 ByteArray.empty ks s2)=some o from hr)
   have HF:=z00 (Fr.refl B w)
   have HS:=z00 h
   clear h hr
   go_enter Tryz.func163,Tryz.ntmps163
   go_wp2_with fail
   rcases z09 HX.out with⟨h1,rfl⟩|⟨v,s1,h1,hr1⟩
   ·refine(hP _ _ _ none (fun b hb=>Nat.lt_of_lt_of_le (hA b hb) HF.out.size) HS.out h1).mono ?_
    rintro e w1 ⟨⟨vx,rfl,-⟩,S1,F1⟩
    clear HX h1
    have FF1:=HF.out.trans F1
    clear HF HS
    have HF:=z00 FF1
    have HS:=z00 S1
    clear FF1 S1 F1
    go_wp2_with fail
    refine(sIs (t:=none) HS.out 4 (⟨#[46,46]⟩:ByteArray) (by decide)).mono ?_
    rintro e w8 ⟨rfl,m8,hm8⟩
    have B8:Below w1.heap.size w1 w8:=by rw[hm8];exact z0a _ _
    clear hm8
    have S8:=SR.below (t:=none) HS.out B8
    have FF8:=HF.out.trans (Fr.ofB (B:=B) B8 (SR.base (t:=none) HS.out))
    clear HF HS
    have HF:=z00 FF8
    have HS:=z00 S8
    clear FF8 S8 B8
    go_wp2
    go_ret
    exact⟨⟨_,rfl,fun a ha=>by cases ha⟩,HS.out,HF.out⟩
   ·refine(hP _ _ _ (some (v,s1)) (fun b hb=>Nat.lt_of_lt_of_le (hA b hb) HF.out.size) HS.out h1).mono ?_
    rintro e w1 ⟨⟨vx,rfl,hvx⟩,S1,F1⟩
    obtain rfl:vx=((v:Nat):Int):=hvx v rfl
    clear HX
    have HX:=z00 hr1
    clear h1 hr1 hvx
    have FF1:=HF.out.trans F1
    clear HF HS
    have HF:=z00 FF1
    have HS:=z00 S1
    clear FF1 S1 F1
    have qI:=sIs (t:=some s1) HS.out 4 (⟨#[46,46]⟩:ByteArray) (by decide)
    rw[z0q (hM (⟨#[46,46]⟩:ByteArray) (by decide))] at qI
    by_cases ht:txt xs s1.p=(⟨#[46,46]⟩:ByteArray)
    ·rw[decide_eq_true ht] at qI
     have HT:=z00 ht
     clear ht
     go_wp2_with fail
     refine qI.mono ?_
     rintro e w2 ⟨rfl,m2,hm2⟩
     have B2:Below w1.heap.size w1 w2:=by rw[hm2];exact z0a _ _
     clear hm2 qI
     have S2:=SR.below (t:=some s1) HS.out B2
     have FF2:=HF.out.trans (Fr.ofB (B:=B) B2 (SR.base (t:=some s1) HS.out))
     clear HF HS
     have HF:=z00 FF2
     have HS:=z00 S2
     clear FF2 S2 B2
     obtain⟨vi,hvi⟩:∃ vi:Int,vi=((v:Nat):Int):=⟨_,rfl⟩
     rw[← hvi] at HX ⊢
     have hTV:z6b xs O (lim xs) [vi] (some s1) o:=by
      show bnd (z75 xs O (lim xs) [vi] s1) (fun l s2=>z0z 10 ByteArray.empty l s2)=some o
      have h9:=HX.out
      rw[← h9]
      unfold lim
      rw[zd7 O _ _ _ HT.out,zd7 O _ _ _ HT.out]
      refine z2l _ fun t s1=>?_
      refine z2l _ fun c s2=>?_
      refine z2l _ fun _ s3=>?_
      refine z2l _ fun l s4=>?_
      refine z2l _ fun k s5=>?_
      exact znd O _ _ s5 v (by simp)
     have HTV:=z00 hTV
     clear hTV hvi HX HT
     have Bo:Below w2.heap.size w2 (w2.alloc (.cells #[.int .i64 vi] tI)):=(Below.refl _ _).alloc (Nat.le_refl _) _
     have Ro:SR B g xs (z0g A (.slice (some ⟨w2.heap.size,0,none⟩) 1 1)) (w2.alloc (.cells #[.int .i64 vi] tI)) (some s1):=(SR.avoid (A':=z0g A (.slice (some ⟨w2.heap.size,0,none⟩) 1 1)) (t:=some s1) HS.out (fun k hk=>hk.imp_right (fun e=>by injection e with e;show w2.heap.size≤k;exact Nat.le_of_eq e))).below Bo
     have oo:(w2.alloc (.cells #[.int .i64 vi] tI)).ownsRow w.heap.size tI 1 (.slice (some ⟨w2.heap.size,0,none⟩) 1 1) 1 (z02 [vi]):=World.ownsRow_lit w2 #[.int .i64 vi] 1 HF.out.size (by decide) rfl
     have Fo:=HF.out.trans (Fr.ofB (B:=B) Bo (SR.base (t:=some s1) HS.out))
     clear HF HS Bo
     have HF:=z00 Fo
     have HS:=z00 Ro
     have HP:=z00 oo
     clear Fo Ro oo
     go_wp2
     go_loopg [4] (lim xs) (fun f kv wr=>∃ (ks:List Int) (q:Option Ps),f+ks.length=lim xs+1∧wr.ownsRow w.heap.size tI 1 kv ks.length (z02 ks)∧SR B g xs (z0g A kv) wr q∧Fr B w wr∧Hid (z6b xs O f ks q o))
     case atStart=>exact⟨[vi],some s1,by simp,HP.out,HS.out,HF.out,HTV⟩
     case round =>
      obtain⟨ks,q,hf,P,R,Fx,HX⟩:=hrel
      clear HS HF HP HTV
      obtain⟨ao,cc,rfl⟩:=z06 P
      have HP:=z00 P
      have HF:=z00 Fx
      have HS:=z00 R
      clear P Fx R
      match q,HS,HX with
      | none,HS,HX =>
        obtain rfl:o=none:=HX.out
        clear HX
        go_wp2_with fail
        refine(z2c (t:=none) HS.out rfl).mono ?_
        rintro e w3 ⟨rfl,B3⟩
        have S3:=SR.below (t:=none) HS.out B3
        have o3:=z07 HP.out B3
        have F3:=HF.out.trans (Fr.ofB (B:=B) B3 (SR.base (t:=none) HS.out))
        clear HS HP HF B3
        have HP:=z00 o3
        have HF:=z00 F3
        have HS:=z00 S3
        clear o3 F3 S3
        go_wp2_with fail
        refine(z14 (o:=none) 10 ByteArray.empty ks ao cc (SR.avoid (t:=none) HS.out (fun k hk=>.inl (.inl hk))) (z01 HP.out hbase) (fun b hb hb2=>by have h7:=(HP.out.lt b hb).1;have h8:=hA b hb2;omega) rfl).mono ?_
        rintro e we ⟨⟨k9,rfl,hk9⟩,S9,F9⟩
        have HH:=z00 (show z0j B g xs A w VNs none (.returned (.int .i64 k9)) we from⟨⟨k9,rfl,hk9⟩,S9,HF.out.trans F9⟩)
        clear S9 F9 HF HS
        go_wp2
        go_ret
        exact HH.out
      | some s2,HS,HX =>
        have hx:bnd (z75 xs O gk ks s2) (fun l s2=>z0z 10 ByteArray.empty l s2)=some o:=HX.out
        clear HX
        cases gk with
        | zero=>exact absurd hx (by simp[z75,bnd])
        | succ f =>
          by_cases ht:txt xs s2.p=(⟨#[46,46]⟩:ByteArray)
          ·rw[zd7 O f ks s2 ht] at hx
           have qY:=z3p (s:=s2) HS.out hX (by rw[z0q (hM (⟨#[46,46]⟩:ByteArray) (by decide))];exact decide_eq_true ht)
           have HX:=z00 hx
           clear hx ht
           go_wp2_with fail
           refine qY.mono ?_
           rintro e w3 ⟨rfl,S3,F3⟩
           clear qY
           have o3:=F3.ints HP.out
           have FF3:=HF.out.trans F3
           clear HF HS HP F3
           have hwq:w.heap.size≤w3.heap.size:=FF3.size
           obtain⟨A1,hA1e⟩:∃ A1,A1=z0g A (.slice ao ks.length cc):=⟨_,rfl⟩
           have hA1:∀ b,A1 b→b<w3.heap.size:=by rw[hA1e];exact z0g.lt hA hwq o3
           rw[← hA1e] at S3
           have HA1:=z00 hA1e
           clear hA1e
           have HP0:=z00 o3
           have HF0:=z00 FF3
           have hbase3:B≤w3.heap.size:=Nat.le_trans hbase hwq
           have HS:=z00 S3
           have HF:=z00 (Fr.refl B w3)
           clear o3 FF3 S3
           have hkl:ks.length≤3002:=by omega
           go_wp2_with fail
           rcases z09 HX.out with⟨h31,rfl⟩|⟨nm,s31,h31,hr31⟩
           ·refine(z4f (o:=none) HS.out hX h31).mono ?_
            rintro e w31 ⟨⟨nmx,rfl,-⟩,S31,F31⟩
            clear HX h31
            have FF31:=HF.out.trans F31
            clear HF HS
            have HF:=z00 FF31
            have HS:=z00 S31
            clear FF31 S31 F31
            have B32:Below w31.heap.size w31 (w31.alloc (.cells #[] tI)):=(Below.refl _ _).alloc (Nat.le_refl _) _
            have R32:SR B g xs (z0g A1 (.slice (some ⟨w31.heap.size,0,none⟩) 0 0)) (w31.alloc (.cells #[] tI)) none:=(SR.avoid (A':=z0g A1 (.slice (some ⟨w31.heap.size,0,none⟩) 0 0)) (t:=none) HS.out (fun k hk=>hk.imp_right (fun e=>by injection e with e;show w31.heap.size≤k;exact Nat.le_of_eq e))).below B32
            have o32:(w31.alloc (.cells #[] tI)).ownsRow w3.heap.size tI 1 (.slice (some ⟨w31.heap.size,0,none⟩) 0 0) 0 (z02 ([]:List Int)):=World.ownsRow_lit w31 #[] 0 HF.out.size (by decide) rfl
            have FF32:=HF.out.trans (Fr.ofB (B:=B) B32 (SR.base (t:=none) HS.out))
            clear HF HS
            have HF:=z00 FF32
            have HS:=z00 R32
            have HP:=z00 o32
            clear FF32 R32 o32 B32
            go_wp2_with fail
            refine(z14 (o:=none) 1 nmx ([]:List Int) (some ⟨w31.heap.size,0,none⟩) 0 (SR.avoid (t:=none) HS.out (fun k hk=>.inl (.inl hk))) (z01 HP.out hbase3) (fun b hb hb2=>by have h7:=(HP.out.lt b hb).1;have h8:=hA1 b hb2;omega) rfl).mono ?_
            rintro e w33 ⟨⟨cx,rfl,-⟩,S33,F33⟩
            clear HP
            have FF33:=HF.out.trans F33
            clear HF HS
            have HF:=z00 FF33
            have HS:=z00 S33
            clear FF33 S33 F33
            go_wp2_with fail
            refine(z0i (o:=none) HS.out hX (hM (⟨#[40]⟩:ByteArray) (by decide)) rfl).mono ?_
            rintro e w34 ⟨rfl,S34,F34⟩
            have FF34:=HF.out.trans F34
            clear HF HS
            have HF:=z00 FF34
            have HS:=z00 S34
            clear FF34 S34 F34
            have B35:Below w34.heap.size w34 (w34.alloc (.cells #[.int .i64 cx] tI)):=(Below.refl _ _).alloc (Nat.le_refl _) _
            have R35:SR B g xs (z0g A1 (.slice (some ⟨w34.heap.size,0,none⟩) 1 1)) (w34.alloc (.cells #[.int .i64 cx] tI)) none:=(SR.avoid (A':=z0g A1 (.slice (some ⟨w34.heap.size,0,none⟩) 1 1)) (t:=none) HS.out (fun k hk=>hk.imp_right (fun e=>by injection e with e;show w34.heap.size≤k;exact Nat.le_of_eq e))).below B35
            have o35:(w34.alloc (.cells #[.int .i64 cx] tI)).ownsRow w3.heap.size tI 1 (.slice (some ⟨w34.heap.size,0,none⟩) 1 1) 1 (z02 [cx]):=World.ownsRow_lit w34 #[.int .i64 cx] 1 HF.out.size (by decide) rfl
            have FF35:=HF.out.trans (Fr.ofB (B:=B) B35 (SR.base (t:=none) HS.out))
            clear HF HS
            have HF:=z00 FF35
            have HS:=z00 R35
            have HP:=z00 o35
            clear FF35 R35 o35 B35
            go_wp2_with fail
            refine(z4h (w0:=w3) (ks0:=[cx]) (o:=none) (t:=none) hX (hM (⟨#[41]⟩:ByteArray) (by decide)) (hM (⟨#[44]⟩:ByteArray) (by decide)) HF.out hbase3 hA1 HP.out (by simp) HS.out hV rfl).mono ?_
            rintro e w36 ⟨a36,c36,ks36,rfl,o36,S36,F36,hl36,-⟩
            clear HF HS HP
            have HF:=z00 F36
            have HS:=z00 S36
            have HP:=z00 o36
            clear F36 S36 o36
            go_wp2_with fail
            refine(z14 (o:=none) 5 ByteArray.empty ks36 (a36) c36 (SR.avoid (t:=none) HS.out (fun k hk=>.inl (.inl hk))) (z01 HP.out hbase3) (fun b hb hb2=>by have h7:=(HP.out.lt b hb).1;have h8:=hA1 b hb2;omega) rfl).mono ?_
            rintro e w37 ⟨⟨kcx,rfl,-⟩,S37,F37⟩
            clear HP
            have FF37:=HF.out.trans F37
            clear HF HS
            have HF:=z00 FF37
            have HS:=z00 S37
            clear FF37 S37 F37
            have hS9:=HS.out
            rw[HA1.out] at hS9
            have o9:=HF.out.ints HP0.out
            have FF9:=HF0.out.trans HF.out
            clear HF HS HP0 HF0
            have HF:=z00 FF9
            have HS:=z00 hS9
            have HP:=z00 o9
            clear FF9 hS9 o9
            have hs39:=HF.out.size
            go_wp2_with (at_builtin;refine z04 rfl _ _ 29 rfl w.heap.size 3 i0 _ 1 8 Tryz.underlying29 hi hz0 hz1 hz2 rfl (by decide) (.slice ao ks.length cc) (ks.length) (z02 ks) rfl (HP.out.alloc _) ⟨w37.heap.size,0,none⟩ 1 1 [.int .i64 kcx] rfl rfl (cell_one_new _ _ _) (by simp[Value.oneCell']) (by unfold maxLen;omega) (by omega) (by simp;omega) ?_;intro v' w39 hown' hgrow5 hpl5)
            have B39:Below w37.heap.size w37 (w37.alloc (.cells #[.int .i64 kcx] tI)):=(Below.refl _ _).alloc (Nat.le_refl _) _
            have FF39:=(HF.out.trans (Fr.ofB (B:=B) B39 (SR.base (t:=none) HS.out))).growI hbase hgrow5 (fun b hb=>(HP.out.lt b hb).1)
            have R39:=(SR.below (t:=none) HS.out B39).growI (A':=z0g A v') (HP.out.alloc _) hgrow5 (fun b hb=>.inr hb) (fun b hb=>by
             rcases hb with hb|hb
             ·exact .inl (.inl hb)
             ·rcases hpl5 b hb with h6|h6
              ·exact .inl (.inr h6)
              ·exact .inr h6)
            have o39:=z0c (ks:=ks) (k:=kcx) hown' rfl
            clear hown' hgrow5 hpl5 HF HS HP hs39 B39
            obtain⟨ao39,cc39,rfl⟩:=z06 o39
            have HF:=z00 FF39
            have HS:=z00 R39
            have HP:=z00 o39
            clear FF39 R39 o39
            have hlen:(ks++[kcx]).length=ks.length+1:=by simp
            have HZ:=z00 (show ∃ (ls:List Int) (q:Option Ps),f+ls.length=lim xs+1∧w39.ownsRow w.heap.size tI 1 (.slice ao39 (ks++[kcx]).length cc39) ls.length (z02 ls)∧SR B g xs (z0g A (.slice ao39 (ks++[kcx]).length cc39)) w39 q∧Fr B w w39∧Hid (z6b xs O f ls q none) from⟨(ks++[kcx]),none,by rw[hlen];omega,HP.out,HS.out,HF.out,z00 (show z6b xs O f _ none none from rfl)⟩)
            have HLn:=z00 hlen
            clear HP HS HF hlen
            go_wp2
            go_roundg f
            case measure=>omega
            case rel=>first|exact HZ.out|(rw[HLn.out] at HZ;exact HZ.out)
           ·refine(z4f (o:=(some (nm,s31))) HS.out hX h31).mono ?_
            rintro e w31 ⟨⟨nmx,rfl,hnmx⟩,S31,F31⟩
            obtain rfl:nmx=nm:=hnmx nm rfl
            clear HX
            have HX:=z00 hr31
            clear h31 hr31 hnmx
            have FF31:=HF.out.trans F31
            clear HF HS
            have HF:=z00 FF31
            have HS:=z00 S31
            clear FF31 S31 F31
            have B32:Below w31.heap.size w31 (w31.alloc (.cells #[] tI)):=(Below.refl _ _).alloc (Nat.le_refl _) _
            have R32:SR B g xs (z0g A1 (.slice (some ⟨w31.heap.size,0,none⟩) 0 0)) (w31.alloc (.cells #[] tI)) (some s31):=(SR.avoid (A':=z0g A1 (.slice (some ⟨w31.heap.size,0,none⟩) 0 0)) (t:=(some s31)) HS.out (fun k hk=>hk.imp_right (fun e=>by injection e with e;show w31.heap.size≤k;exact Nat.le_of_eq e))).below B32
            have o32:(w31.alloc (.cells #[] tI)).ownsRow w3.heap.size tI 1 (.slice (some ⟨w31.heap.size,0,none⟩) 0 0) 0 (z02 ([]:List Int)):=World.ownsRow_lit w31 #[] 0 HF.out.size (by decide) rfl
            have FF32:=HF.out.trans (Fr.ofB (B:=B) B32 (SR.base (t:=(some s31)) HS.out))
            clear HF HS
            have HF:=z00 FF32
            have HS:=z00 R32
            have HP:=z00 o32
            clear FF32 R32 o32 B32
            go_wp2_with fail
            rcases z09 HX.out with⟨h33,rfl⟩|⟨c,s33,h33,hr33⟩
            ·refine(z14 (o:=none) 1 nmx ([]:List Int) (some ⟨w31.heap.size,0,none⟩) 0 (SR.avoid (t:=some s31) HS.out (fun k hk=>.inl (.inl hk))) (z01 HP.out hbase3) (fun b hb hb2=>by have h7:=(HP.out.lt b hb).1;have h8:=hA1 b hb2;omega) h33).mono ?_
             rintro e w33 ⟨⟨cx,rfl,-⟩,S33,F33⟩
             clear HX h33 HP
             have FF33:=HF.out.trans F33
             clear HF HS
             have HF:=z00 FF33
             have HS:=z00 S33
             clear FF33 S33 F33
             go_wp2_with fail
             refine(z0i (o:=none) HS.out hX (hM (⟨#[40]⟩:ByteArray) (by decide)) rfl).mono ?_
             rintro e w34 ⟨rfl,S34,F34⟩
             have FF34:=HF.out.trans F34
             clear HF HS
             have HF:=z00 FF34
             have HS:=z00 S34
             clear FF34 S34 F34
             have B35:Below w34.heap.size w34 (w34.alloc (.cells #[.int .i64 cx] tI)):=(Below.refl _ _).alloc (Nat.le_refl _) _
             have R35:SR B g xs (z0g A1 (.slice (some ⟨w34.heap.size,0,none⟩) 1 1)) (w34.alloc (.cells #[.int .i64 cx] tI)) none:=(SR.avoid (A':=z0g A1 (.slice (some ⟨w34.heap.size,0,none⟩) 1 1)) (t:=none) HS.out (fun k hk=>hk.imp_right (fun e=>by injection e with e;show w34.heap.size≤k;exact Nat.le_of_eq e))).below B35
             have o35:(w34.alloc (.cells #[.int .i64 cx] tI)).ownsRow w3.heap.size tI 1 (.slice (some ⟨w34.heap.size,0,none⟩) 1 1) 1 (z02 [cx]):=World.ownsRow_lit w34 #[.int .i64 cx] 1 HF.out.size (by decide) rfl
             have FF35:=HF.out.trans (Fr.ofB (B:=B) B35 (SR.base (t:=none) HS.out))
             clear HF HS
             have HF:=z00 FF35
             have HS:=z00 R35
             have HP:=z00 o35
             clear FF35 R35 o35 B35
             go_wp2_with fail
             refine(z4h (w0:=w3) (ks0:=[cx]) (o:=none) (t:=none) hX (hM (⟨#[41]⟩:ByteArray) (by decide)) (hM (⟨#[44]⟩:ByteArray) (by decide)) HF.out hbase3 hA1 HP.out (by simp) HS.out hV rfl).mono ?_
             rintro e w36 ⟨a36,c36,ks36,rfl,o36,S36,F36,hl36,-⟩
             clear HF HS HP
             have HF:=z00 F36
             have HS:=z00 S36
             have HP:=z00 o36
             clear F36 S36 o36
             go_wp2_with fail
             refine(z14 (o:=none) 5 ByteArray.empty ks36 (a36) c36 (SR.avoid (t:=none) HS.out (fun k hk=>.inl (.inl hk))) (z01 HP.out hbase3) (fun b hb hb2=>by have h7:=(HP.out.lt b hb).1;have h8:=hA1 b hb2;omega) rfl).mono ?_
             rintro e w37 ⟨⟨kcx,rfl,-⟩,S37,F37⟩
             clear HP
             have FF37:=HF.out.trans F37
             clear HF HS
             have HF:=z00 FF37
             have HS:=z00 S37
             clear FF37 S37 F37
             have hS9:=HS.out
             rw[HA1.out] at hS9
             have o9:=HF.out.ints HP0.out
             have FF9:=HF0.out.trans HF.out
             clear HF HS HP0 HF0
             have HF:=z00 FF9
             have HS:=z00 hS9
             have HP:=z00 o9
             clear FF9 hS9 o9
             have hs39:=HF.out.size
             go_wp2_with (at_builtin;refine z04 rfl _ _ 29 rfl w.heap.size 3 i0 _ 1 8 Tryz.underlying29 hi hz0 hz1 hz2 rfl (by decide) (.slice ao ks.length cc) (ks.length) (z02 ks) rfl (HP.out.alloc _) ⟨w37.heap.size,0,none⟩ 1 1 [.int .i64 kcx] rfl rfl (cell_one_new _ _ _) (by simp[Value.oneCell']) (by unfold maxLen;omega) (by omega) (by simp;omega) ?_;intro v' w39 hown' hgrow5 hpl5)
             have B39:Below w37.heap.size w37 (w37.alloc (.cells #[.int .i64 kcx] tI)):=(Below.refl _ _).alloc (Nat.le_refl _) _
             have FF39:=(HF.out.trans (Fr.ofB (B:=B) B39 (SR.base (t:=none) HS.out))).growI hbase hgrow5 (fun b hb=>(HP.out.lt b hb).1)
             have R39:=(SR.below (t:=none) HS.out B39).growI (A':=z0g A v') (HP.out.alloc _) hgrow5 (fun b hb=>.inr hb) (fun b hb=>by
              rcases hb with hb|hb
              ·exact .inl (.inl hb)
              ·rcases hpl5 b hb with h6|h6
               ·exact .inl (.inr h6)
               ·exact .inr h6)
             have o39:=z0c (ks:=ks) (k:=kcx) hown' rfl
             clear hown' hgrow5 hpl5 HF HS HP hs39 B39
             obtain⟨ao39,cc39,rfl⟩:=z06 o39
             have HF:=z00 FF39
             have HS:=z00 R39
             have HP:=z00 o39
             clear FF39 R39 o39
             have hlen:(ks++[kcx]).length=ks.length+1:=by simp
             have HZ:=z00 (show ∃ (ls:List Int) (q:Option Ps),f+ls.length=lim xs+1∧w39.ownsRow w.heap.size tI 1 (.slice ao39 (ks++[kcx]).length cc39) ls.length (z02 ls)∧SR B g xs (z0g A (.slice ao39 (ks++[kcx]).length cc39)) w39 q∧Fr B w w39∧Hid (z6b xs O f ls q none) from⟨(ks++[kcx]),none,by rw[hlen];omega,HP.out,HS.out,HF.out,z00 (show z6b xs O f _ none none from rfl)⟩)
             have HLn:=z00 hlen
             clear HP HS HF hlen
             go_wp2
             go_roundg f
             case measure=>omega
             case rel=>first|exact HZ.out|(rw[HLn.out] at HZ;exact HZ.out)
            ·refine(z14 (o:=(some (c,s33))) 1 nmx ([]:List Int) (some ⟨w31.heap.size,0,none⟩) 0 (SR.avoid (t:=some s31) HS.out (fun k hk=>.inl (.inl hk))) (z01 HP.out hbase3) (fun b hb hb2=>by have h7:=(HP.out.lt b hb).1;have h8:=hA1 b hb2;omega) h33).mono ?_
             rintro e w33 ⟨⟨cx,rfl,hcx⟩,S33,F33⟩
             obtain rfl:cx=((c:Nat):Int):=hcx c rfl
             clear HX
             have HX:=z00 hr33
             clear h33 hr33 hcx
             clear HP
             have FF33:=HF.out.trans F33
             clear HF HS
             have HF:=z00 FF33
             have HS:=z00 S33
             clear FF33 S33 F33
             go_wp2_with fail
             rcases z09 HX.out with⟨h34,rfl⟩|⟨u,s34,h34,hr34⟩
             ·refine(z0i (o:=none) HS.out hX (hM (⟨#[40]⟩:ByteArray) (by decide)) h34).mono ?_
              rintro e w34 ⟨rfl,S34,F34⟩
              clear HX h34
              have FF34:=HF.out.trans F34
              clear HF HS
              have HF:=z00 FF34
              have HS:=z00 S34
              clear FF34 S34 F34
              have B35:Below w34.heap.size w34 (w34.alloc (.cells #[.int .i64 ((c:Nat):Int)] tI)):=(Below.refl _ _).alloc (Nat.le_refl _) _
              have R35:SR B g xs (z0g A1 (.slice (some ⟨w34.heap.size,0,none⟩) 1 1)) (w34.alloc (.cells #[.int .i64 ((c:Nat):Int)] tI)) none:=(SR.avoid (A':=z0g A1 (.slice (some ⟨w34.heap.size,0,none⟩) 1 1)) (t:=none) HS.out (fun k hk=>hk.imp_right (fun e=>by injection e with e;show w34.heap.size≤k;exact Nat.le_of_eq e))).below B35
              have o35:(w34.alloc (.cells #[.int .i64 ((c:Nat):Int)] tI)).ownsRow w3.heap.size tI 1 (.slice (some ⟨w34.heap.size,0,none⟩) 1 1) 1 (z02 [((c:Nat):Int)]):=World.ownsRow_lit w34 #[.int .i64 ((c:Nat):Int)] 1 HF.out.size (by decide) rfl
              have FF35:=HF.out.trans (Fr.ofB (B:=B) B35 (SR.base (t:=none) HS.out))
              clear HF HS
              have HF:=z00 FF35
              have HS:=z00 R35
              have HP:=z00 o35
              clear FF35 R35 o35 B35
              go_wp2_with fail
              refine(z4h (w0:=w3) (ks0:=[((c:Nat):Int)]) (o:=none) (t:=none) hX (hM (⟨#[41]⟩:ByteArray) (by decide)) (hM (⟨#[44]⟩:ByteArray) (by decide)) HF.out hbase3 hA1 HP.out (by simp) HS.out hV rfl).mono ?_
              rintro e w36 ⟨a36,c36,ks36,rfl,o36,S36,F36,hl36,-⟩
              clear HF HS HP
              have HF:=z00 F36
              have HS:=z00 S36
              have HP:=z00 o36
              clear F36 S36 o36
              go_wp2_with fail
              refine(z14 (o:=none) 5 ByteArray.empty ks36 (a36) c36 (SR.avoid (t:=none) HS.out (fun k hk=>.inl (.inl hk))) (z01 HP.out hbase3) (fun b hb hb2=>by have h7:=(HP.out.lt b hb).1;have h8:=hA1 b hb2;omega) rfl).mono ?_
              rintro e w37 ⟨⟨kcx,rfl,-⟩,S37,F37⟩
              clear HP
              have FF37:=HF.out.trans F37
              clear HF HS
              have HF:=z00 FF37
              have HS:=z00 S37
              clear FF37 S37 F37
              have hS9:=HS.out
              rw[HA1.out] at hS9
              have o9:=HF.out.ints HP0.out
              have FF9:=HF0.out.trans HF.out
              clear HF HS HP0 HF0
              have HF:=z00 FF9
              have HS:=z00 hS9
              have HP:=z00 o9
              clear FF9 hS9 o9
              have hs39:=HF.out.size
              go_wp2_with (at_builtin;refine z04 rfl _ _ 29 rfl w.heap.size 3 i0 _ 1 8 Tryz.underlying29 hi hz0 hz1 hz2 rfl (by decide) (.slice ao ks.length cc) (ks.length) (z02 ks) rfl (HP.out.alloc _) ⟨w37.heap.size,0,none⟩ 1 1 [.int .i64 kcx] rfl rfl (cell_one_new _ _ _) (by simp[Value.oneCell']) (by unfold maxLen;omega) (by omega) (by simp;omega) ?_;intro v' w39 hown' hgrow5 hpl5)
              have B39:Below w37.heap.size w37 (w37.alloc (.cells #[.int .i64 kcx] tI)):=(Below.refl _ _).alloc (Nat.le_refl _) _
              have FF39:=(HF.out.trans (Fr.ofB (B:=B) B39 (SR.base (t:=none) HS.out))).growI hbase hgrow5 (fun b hb=>(HP.out.lt b hb).1)
              have R39:=(SR.below (t:=none) HS.out B39).growI (A':=z0g A v') (HP.out.alloc _) hgrow5 (fun b hb=>.inr hb) (fun b hb=>by
               rcases hb with hb|hb
               ·exact .inl (.inl hb)
               ·rcases hpl5 b hb with h6|h6
                ·exact .inl (.inr h6)
                ·exact .inr h6)
              have o39:=z0c (ks:=ks) (k:=kcx) hown' rfl
              clear hown' hgrow5 hpl5 HF HS HP hs39 B39
              obtain⟨ao39,cc39,rfl⟩:=z06 o39
              have HF:=z00 FF39
              have HS:=z00 R39
              have HP:=z00 o39
              clear FF39 R39 o39
              have hlen:(ks++[kcx]).length=ks.length+1:=by simp
              have HZ:=z00 (show ∃ (ls:List Int) (q:Option Ps),f+ls.length=lim xs+1∧w39.ownsRow w.heap.size tI 1 (.slice ao39 (ks++[kcx]).length cc39) ls.length (z02 ls)∧SR B g xs (z0g A (.slice ao39 (ks++[kcx]).length cc39)) w39 q∧Fr B w w39∧Hid (z6b xs O f ls q none) from⟨(ks++[kcx]),none,by rw[hlen];omega,HP.out,HS.out,HF.out,z00 (show z6b xs O f _ none none from rfl)⟩)
              have HLn:=z00 hlen
              clear HP HS HF hlen
              go_wp2
              go_roundg f
              case measure=>omega
              case rel=>first|exact HZ.out|(rw[HLn.out] at HZ;exact HZ.out)
             ·refine(z0i (o:=(some (u,s34))) HS.out hX (hM (⟨#[40]⟩:ByteArray) (by decide)) h34).mono ?_
              rintro e w34 ⟨rfl,S34,F34⟩
              clear HX
              have HX:=z00 hr34
              clear h34 hr34
              have FF34:=HF.out.trans F34
              clear HF HS
              have HF:=z00 FF34
              have HS:=z00 S34
              clear FF34 S34 F34
              have B35:Below w34.heap.size w34 (w34.alloc (.cells #[.int .i64 ((c:Nat):Int)] tI)):=(Below.refl _ _).alloc (Nat.le_refl _) _
              have R35:SR B g xs (z0g A1 (.slice (some ⟨w34.heap.size,0,none⟩) 1 1)) (w34.alloc (.cells #[.int .i64 ((c:Nat):Int)] tI)) (some s34):=(SR.avoid (A':=z0g A1 (.slice (some ⟨w34.heap.size,0,none⟩) 1 1)) (t:=(some s34)) HS.out (fun k hk=>hk.imp_right (fun e=>by injection e with e;show w34.heap.size≤k;exact Nat.le_of_eq e))).below B35
              have o35:(w34.alloc (.cells #[.int .i64 ((c:Nat):Int)] tI)).ownsRow w3.heap.size tI 1 (.slice (some ⟨w34.heap.size,0,none⟩) 1 1) 1 (z02 [((c:Nat):Int)]):=World.ownsRow_lit w34 #[.int .i64 ((c:Nat):Int)] 1 HF.out.size (by decide) rfl
              have FF35:=HF.out.trans (Fr.ofB (B:=B) B35 (SR.base (t:=(some s34)) HS.out))
              clear HF HS
              have HF:=z00 FF35
              have HS:=z00 R35
              have HP:=z00 o35
              clear FF35 R35 o35 B35
              go_wp2_with fail
              rcases z09 HX.out with⟨h36,rfl⟩|⟨l36,s36,h36,hr36⟩
              ·refine(z4h (w0:=w3) (ks0:=[((c:Nat):Int)]) (o:=none) (t:=some s34) hX (hM (⟨#[41]⟩:ByteArray) (by decide)) (hM (⟨#[44]⟩:ByteArray) (by decide)) HF.out hbase3 hA1 HP.out (by simp) HS.out hV h36).mono ?_
               rintro e w36 ⟨a36,c36,ks36,rfl,o36,S36,F36,hl36,-⟩
               clear HX h36
               clear HF HS HP
               have HF:=z00 F36
               have HS:=z00 S36
               have HP:=z00 o36
               clear F36 S36 o36
               go_wp2_with fail
               refine(z14 (o:=none) 5 ByteArray.empty ks36 (a36) c36 (SR.avoid (t:=none) HS.out (fun k hk=>.inl (.inl hk))) (z01 HP.out hbase3) (fun b hb hb2=>by have h7:=(HP.out.lt b hb).1;have h8:=hA1 b hb2;omega) rfl).mono ?_
               rintro e w37 ⟨⟨kcx,rfl,-⟩,S37,F37⟩
               clear HP
               have FF37:=HF.out.trans F37
               clear HF HS
               have HF:=z00 FF37
               have HS:=z00 S37
               clear FF37 S37 F37
               have hS9:=HS.out
               rw[HA1.out] at hS9
               have o9:=HF.out.ints HP0.out
               have FF9:=HF0.out.trans HF.out
               clear HF HS HP0 HF0
               have HF:=z00 FF9
               have HS:=z00 hS9
               have HP:=z00 o9
               clear FF9 hS9 o9
               have hs39:=HF.out.size
               go_wp2_with (at_builtin;refine z04 rfl _ _ 29 rfl w.heap.size 3 i0 _ 1 8 Tryz.underlying29 hi hz0 hz1 hz2 rfl (by decide) (.slice ao ks.length cc) (ks.length) (z02 ks) rfl (HP.out.alloc _) ⟨w37.heap.size,0,none⟩ 1 1 [.int .i64 kcx] rfl rfl (cell_one_new _ _ _) (by simp[Value.oneCell']) (by unfold maxLen;omega) (by omega) (by simp;omega) ?_;intro v' w39 hown' hgrow5 hpl5)
               have B39:Below w37.heap.size w37 (w37.alloc (.cells #[.int .i64 kcx] tI)):=(Below.refl _ _).alloc (Nat.le_refl _) _
               have FF39:=(HF.out.trans (Fr.ofB (B:=B) B39 (SR.base (t:=none) HS.out))).growI hbase hgrow5 (fun b hb=>(HP.out.lt b hb).1)
               have R39:=(SR.below (t:=none) HS.out B39).growI (A':=z0g A v') (HP.out.alloc _) hgrow5 (fun b hb=>.inr hb) (fun b hb=>by
                rcases hb with hb|hb
                ·exact .inl (.inl hb)
                ·rcases hpl5 b hb with h6|h6
                 ·exact .inl (.inr h6)
                 ·exact .inr h6)
               have o39:=z0c (ks:=ks) (k:=kcx) hown' rfl
               clear hown' hgrow5 hpl5 HF HS HP hs39 B39
               obtain⟨ao39,cc39,rfl⟩:=z06 o39
               have HF:=z00 FF39
               have HS:=z00 R39
               have HP:=z00 o39
               clear FF39 R39 o39
               have hlen:(ks++[kcx]).length=ks.length+1:=by simp
               have HZ:=z00 (show ∃ (ls:List Int) (q:Option Ps),f+ls.length=lim xs+1∧w39.ownsRow w.heap.size tI 1 (.slice ao39 (ks++[kcx]).length cc39) ls.length (z02 ls)∧SR B g xs (z0g A (.slice ao39 (ks++[kcx]).length cc39)) w39 q∧Fr B w w39∧Hid (z6b xs O f ls q none) from⟨(ks++[kcx]),none,by rw[hlen];omega,HP.out,HS.out,HF.out,z00 (show z6b xs O f _ none none from rfl)⟩)
               have HLn:=z00 hlen
               clear HP HS HF hlen
               go_wp2
               go_roundg f
               case measure=>omega
               case rel=>first|exact HZ.out|(rw[HLn.out] at HZ;exact HZ.out)
              ·refine(z4h (w0:=w3) (ks0:=[((c:Nat):Int)]) (o:=some (l36,s36)) (t:=some s34) hX (hM (⟨#[41]⟩:ByteArray) (by decide)) (hM (⟨#[44]⟩:ByteArray) (by decide)) HF.out hbase3 hA1 HP.out (by simp) HS.out hV h36).mono ?_
               rintro e w36 ⟨a36,c36,ks36,rfl,o36,S36,F36,hl36,hk36⟩
               obtain rfl:ks36=l36:=hk36 l36 s36 rfl
               clear HX
               have HX:=z00 hr36
               clear h36 hr36 hk36
               clear HF HS HP
               have HF:=z00 F36
               have HS:=z00 S36
               have HP:=z00 o36
               clear F36 S36 o36
               go_wp2_with fail
               rcases z09 HX.out with⟨h37,rfl⟩|⟨kc,s37,h37,hr37⟩
               ·refine(z14 (o:=none) 5 ByteArray.empty ks36 (a36) c36 (SR.avoid (t:=some s36) HS.out (fun k hk=>.inl (.inl hk))) (z01 HP.out hbase3) (fun b hb hb2=>by have h7:=(HP.out.lt b hb).1;have h8:=hA1 b hb2;omega) h37).mono ?_
                rintro e w37 ⟨⟨kcx,rfl,-⟩,S37,F37⟩
                clear HX h37 HP
                have FF37:=HF.out.trans F37
                clear HF HS
                have HF:=z00 FF37
                have HS:=z00 S37
                clear FF37 S37 F37
                have hS9:=HS.out
                rw[HA1.out] at hS9
                have o9:=HF.out.ints HP0.out
                have FF9:=HF0.out.trans HF.out
                clear HF HS HP0 HF0
                have HF:=z00 FF9
                have HS:=z00 hS9
                have HP:=z00 o9
                clear FF9 hS9 o9
                have hs39:=HF.out.size
                go_wp2_with (at_builtin;refine z04 rfl _ _ 29 rfl w.heap.size 3 i0 _ 1 8 Tryz.underlying29 hi hz0 hz1 hz2 rfl (by decide) (.slice ao ks.length cc) (ks.length) (z02 ks) rfl (HP.out.alloc _) ⟨w37.heap.size,0,none⟩ 1 1 [.int .i64 kcx] rfl rfl (cell_one_new _ _ _) (by simp[Value.oneCell']) (by unfold maxLen;omega) (by omega) (by simp;omega) ?_;intro v' w39 hown' hgrow5 hpl5)
                have B39:Below w37.heap.size w37 (w37.alloc (.cells #[.int .i64 kcx] tI)):=(Below.refl _ _).alloc (Nat.le_refl _) _
                have FF39:=(HF.out.trans (Fr.ofB (B:=B) B39 (SR.base (t:=none) HS.out))).growI hbase hgrow5 (fun b hb=>(HP.out.lt b hb).1)
                have R39:=(SR.below (t:=none) HS.out B39).growI (A':=z0g A v') (HP.out.alloc _) hgrow5 (fun b hb=>.inr hb) (fun b hb=>by
                 rcases hb with hb|hb
                 ·exact .inl (.inl hb)
                 ·rcases hpl5 b hb with h6|h6
                  ·exact .inl (.inr h6)
                  ·exact .inr h6)
                have o39:=z0c (ks:=ks) (k:=kcx) hown' rfl
                clear hown' hgrow5 hpl5 HF HS HP hs39 B39
                obtain⟨ao39,cc39,rfl⟩:=z06 o39
                have HF:=z00 FF39
                have HS:=z00 R39
                have HP:=z00 o39
                clear FF39 R39 o39
                have hlen:(ks++[kcx]).length=ks.length+1:=by simp
                have HZ:=z00 (show ∃ (ls:List Int) (q:Option Ps),f+ls.length=lim xs+1∧w39.ownsRow w.heap.size tI 1 (.slice ao39 (ks++[kcx]).length cc39) ls.length (z02 ls)∧SR B g xs (z0g A (.slice ao39 (ks++[kcx]).length cc39)) w39 q∧Fr B w w39∧Hid (z6b xs O f ls q none) from⟨(ks++[kcx]),none,by rw[hlen];omega,HP.out,HS.out,HF.out,z00 (show z6b xs O f _ none none from rfl)⟩)
                have HLn:=z00 hlen
                clear HP HS HF hlen
                go_wp2
                go_roundg f
                case measure=>omega
                case rel=>first|exact HZ.out|(rw[HLn.out] at HZ;exact HZ.out)
               ·refine(z14 (o:=(some (kc,s37))) 5 ByteArray.empty ks36 (a36) c36 (SR.avoid (t:=some s36) HS.out (fun k hk=>.inl (.inl hk))) (z01 HP.out hbase3) (fun b hb hb2=>by have h7:=(HP.out.lt b hb).1;have h8:=hA1 b hb2;omega) h37).mono ?_
                rintro e w37 ⟨⟨kcx,rfl,hkcx⟩,S37,F37⟩
                obtain rfl:kcx=((kc:Nat):Int):=hkcx kc rfl
                clear HX
                have HX:=z00 hr37
                clear h37 hr37 hkcx
                clear HP
                have FF37:=HF.out.trans F37
                clear HF HS
                have HF:=z00 FF37
                have HS:=z00 S37
                clear FF37 S37 F37
                have hS9:=HS.out
                rw[HA1.out] at hS9
                have o9:=HF.out.ints HP0.out
                have FF9:=HF0.out.trans HF.out
                clear HF HS HP0 HF0
                have HF:=z00 FF9
                have HS:=z00 hS9
                have HP:=z00 o9
                clear FF9 hS9 o9
                have hs39:=HF.out.size
                go_wp2_with (at_builtin;refine z04 rfl _ _ 29 rfl w.heap.size 3 i0 _ 1 8 Tryz.underlying29 hi hz0 hz1 hz2 rfl (by decide) (.slice ao ks.length cc) (ks.length) (z02 ks) rfl (HP.out.alloc _) ⟨w37.heap.size,0,none⟩ 1 1 [.int .i64 ((kc:Nat):Int)] rfl rfl (cell_one_new _ _ _) (by simp[Value.oneCell']) (by unfold maxLen;omega) (by omega) (by simp;omega) ?_;intro v' w39 hown' hgrow5 hpl5)
                have B39:Below w37.heap.size w37 (w37.alloc (.cells #[.int .i64 ((kc:Nat):Int)] tI)):=(Below.refl _ _).alloc (Nat.le_refl _) _
                have FF39:=(HF.out.trans (Fr.ofB (B:=B) B39 (SR.base (t:=(some s37)) HS.out))).growI hbase hgrow5 (fun b hb=>(HP.out.lt b hb).1)
                have R39:=(SR.below (t:=(some s37)) HS.out B39).growI (A':=z0g A v') (HP.out.alloc _) hgrow5 (fun b hb=>.inr hb) (fun b hb=>by
                 rcases hb with hb|hb
                 ·exact .inl (.inl hb)
                 ·rcases hpl5 b hb with h6|h6
                  ·exact .inl (.inr h6)
                  ·exact .inr h6)
                have o39:=z0c (ks:=ks) (k:=((kc:Nat):Int)) hown' rfl
                clear hown' hgrow5 hpl5 HF HS HP hs39 B39
                obtain⟨ao39,cc39,rfl⟩:=z06 o39
                have HF:=z00 FF39
                have HS:=z00 R39
                have HP:=z00 o39
                clear FF39 R39 o39
                have hlen:(ks++[((kc:Nat):Int)]).length=ks.length+1:=by simp
                have HZ:=z00 (show ∃ (ls:List Int) (q:Option Ps),f+ls.length=lim xs+1∧w39.ownsRow w.heap.size tI 1 (.slice ao39 (ks++[((kc:Nat):Int)]).length cc39) ls.length (z02 ls)∧SR B g xs (z0g A (.slice ao39 (ks++[((kc:Nat):Int)]).length cc39)) w39 q∧Fr B w w39∧Hid (z6b xs O f ls q o) from⟨(ks++[((kc:Nat):Int)]),some s37,by rw[hlen];omega,HP.out,HS.out,HF.out,z00 (show z6b xs O f _ (some s37) o from HX.out)⟩)
                have HLn:=z00 hlen
                clear HP HS HF hlen
                go_wp2
                go_roundg f
                case measure=>omega
                case rel=>first|exact HZ.out|(rw[HLn.out] at HZ;exact HZ.out)
          ·rw[z75,if_neg ht,z1a] at hx
           have qN:=z2c (t:=some s2) (u:=(⟨#[46,46]⟩:ByteArray)) HS.out (by rw[z0q (hM (⟨#[46,46]⟩:ByteArray) (by decide))];exact decide_eq_false ht)
           have HX:=z00 hx
           clear hx ht
           go_wp2_with fail
           refine qN.mono ?_
           rintro e w3 ⟨rfl,B3⟩
           have S3:=SR.below (t:=some s2) HS.out B3
           have o3:=z07 HP.out B3
           have F3:=HF.out.trans (Fr.ofB (B:=B) B3 (SR.base (t:=some s2) HS.out))
           clear qN HS HP HF B3
           have HP:=z00 o3
           have HF:=z00 F3
           have HS:=z00 S3
           clear o3 F3 S3
           go_wp2_with fail
           refine(z14 (o:=o) 10 ByteArray.empty ks ao cc (SR.avoid (t:=some s2) HS.out (fun k hk=>.inl (.inl hk))) (z01 HP.out hbase) (fun b hb hb2=>by have h7:=(HP.out.lt b hb).1;have h8:=hA b hb2;omega) HX.out).mono ?_
           rintro e we ⟨⟨k9,rfl,hk9⟩,S9,F9⟩
           have HH:=z00 (show z0j B g xs A w VNs _ (.returned (.int .i64 k9)) we from⟨⟨k9,rfl,hk9⟩,S9,HF.out.trans F9⟩)
           clear S9 F9 HF HS
           go_wp2
           go_ret
           exact HH.out
    ·rw[decide_eq_false ht] at qI
     have hx:=HX.out
     unfold lim at hx
     rw[z75,if_neg ht,z1a,if_pos (show [(v:Int)].length=1 from rfl)] at hx
     obtain rfl:some (v,s1)=o:=by injection hx
     clear ht hx HX
     go_wp2_with fail
     refine qI.mono ?_
     rintro e w2 ⟨rfl,m2,hm2⟩
     have B2:Below w1.heap.size w1 w2:=by rw[hm2];exact z0a _ _
     clear hm2 qI
     have S2:=SR.below (t:=some s1) HS.out B2
     have FF2:=HF.out.trans (Fr.ofB (B:=B) B2 (SR.base (t:=some s1) HS.out))
     clear HF HS
     have HF:=z00 FF2
     have HS:=z00 S2
     clear FF2 S2 B2
     go_wp2
     go_ret
     exact⟨⟨_,rfl,fun a ha=>by injection ha with ha;rw[← ha]⟩,HS.out,HF.out⟩
end
end Go.Proofs.YtekebloinobjnaaGreatDoor
