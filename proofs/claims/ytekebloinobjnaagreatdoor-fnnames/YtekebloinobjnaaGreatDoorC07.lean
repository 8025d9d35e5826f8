/- Texts of one proof, laid together: TrS3. -/
import Derived.Test.YtekebloinobjnaaGreatDoorC06
import Derived.BigQuiet
import Derived.Deep.QuietTactic
set_option maxHeartbeats 16000000
set_option maxRecDepth 100000
namespace Go.Proofs.YtekebloinobjnaaGreatDoor
open Go.RowKit
structure XAt (w:World) (g:Nat) (q:Np):Prop where
 lt:g<w.heap.size
 c0:w.cell? ⟨g,0,none⟩=some (.int .i64 q.nd.kind)
 c1:w.cell? ⟨g,1,none⟩=some (.string q.nd.text)
 c2:w.cell? ⟨g,2,none⟩=some (.slice q.a q.nd.kids.length q.c)
 c3:w.cell? ⟨g,3,none⟩=some (.bool q.nd.blank)
theorem XAt.below {w w':World} {g:Nat} {q:Np} (h:XAt w g q) (hb:Below w.heap.size w w'):XAt w' g q:=
 ⟨Nat.lt_of_lt_of_le h.lt hb.size,(hb.cell (p:=⟨g,0,none⟩) h.lt).trans h.c0,(hb.cell (p:=⟨g,1,none⟩) h.lt).trans h.c1,(hb.cell (p:=⟨g,2,none⟩) h.lt).trans h.c2,(hb.cell (p:=⟨g,3,none⟩) h.lt).trans h.c3⟩
theorem zpd (w:World) (q:Np):XAt (w.alloc (.cells #[.int .i64 q.nd.kind,.string q.nd.text,.slice q.a q.nd.kids.length q.c,.bool q.nd.blank] z32)) w.heap.size q:=by
 have h:=heap_alloc_new w (.cells #[.int .i64 q.nd.kind,.string q.nd.text,.slice q.a q.nd.kids.length q.c,.bool q.nd.blank] z32)
 exact⟨by simp,cell_of_row _ _ 0 _ _ _ h,cell_of_row _ _ 1 _ _ _ h,cell_of_row _ _ 2 _ _ _ h,cell_of_row _ _ 3 _ _ _ h⟩
theorem z08 (w:World) (x):Below w.heap.size w (w.alloc x):=(Below.refl _ _).alloc (Nat.le_refl _) _
def PlK (ks:List Int) (k j:Nat):Prop:=(∀ (i:Nat) (z:Int),i<j→ks[i]?=some z→0≤z∧z<(k:Int))∧(∀ (i i':Nat) (z:Int),i<i'→i'<j→ks[i]?=some z→ks[i']?=some z→False)
theorem z6l (ks:List Int) (k:Nat):PlK ks k 0:=⟨fun i z h=>by omega,fun i i' z _ h=>by omega⟩
theorem z6m {ks:List Int} {k j:Nat} {z:Int} (h:PlK ks k j) (hz:ks[j]?=some z) (h1:0≤z∧z<(k:Int)) (h2:∀ i,i<j→ks[i]?≠some z):PlK ks k (j+1):=by
 refine⟨fun i u hi hu=>?_,fun i i' u hi hi' hu hu'=>?_⟩
 ·by_cases e:i=j
  ·subst e
   rw[hz] at hu
   injection hu with hu
   rw[← hu]
   exact h1
  ·exact h.1 i u (by omega) hu
 ·by_cases e:i'=j
  ·subst e
   rw[hz] at hu'
   injection hu' with hu'
   rw[← hu'] at hu
   exact h2 i hi hu
  ·exact h.2 i i' u hi (by omega) hu hu'
def zqk (ns:List Nd) (kd:Int) (ks:List Int) (j:Nat):Prop:=∀ (i:Nat) (z:Int) (y:Nd),i<j→ks[i]?=some z→ns[z.toNat]?=some y→z3s ns y∧z11 ns y (z0f kd i ks.length)
theorem z31 {qs:List Np} {kd:Int} {ks:List Int} {j zn:Nat} {q2:Np} (h:zqk (qs.map Np.nd) kd ks j) (hz:ks[j]?=some (zn:Int)) (h2:qs[zn]?=some q2) (h3:z3s (qs.map Np.nd) q2.nd) (h4:z11 (qs.map Np.nd) q2.nd (z0f kd j ks.length)):zqk (qs.map Np.nd) kd ks (j+1):=by
 intro i z y hi hu hy
 by_cases e:i=j
 ·subst e
  rw[hz] at hu
  injection hu with hu
  rw[← hu,Int.toNat_natCast,List.getElem?_map,h2] at hy
  injection hy with hy
  rw[← show q2.nd=y from hy]
  exact⟨h3,h4⟩
 ·exact h i z y (by omega) hu hy
theorem z3e {qs:List Np} {k j zn:Nat} {x:Nd} {q2:Np} (h:NodeP (qs.map Np.nd) k x) (hz:x.kids[j]?=some (zn:Int)) (h2:qs[zn]?=some q2):z3s (qs.map Np.nd) q2.nd∧z11 (qs.map Np.nd) q2.nd (z0f x.kind j x.kids.length):=h.fits j zn q2.nd hz (by rw[Int.toNat_natCast,List.getElem?_map,h2];rfl)
theorem ztn {w:World} {B:Nat} {a:Option Addr} {c k:Nat} {qs:List Np} {q:Np} (h:Nds w B a c qs) (h1:qs[k]?=some q) (hS:SafeNd q.nd) (hn:qs.length≤300) :
 Calls Tryz.prog 142 #[.slice a qs.length c,.int .i64 (k:Int)] w (zag (NodeP (qs.map Np.nd) k q.nd) w):=by
 have hkl:k<qs.length:=(List.getElem?_eq_some_iff.1 h1).1
 obtain⟨b,rfl,hb,c0,c1,c2,c3⟩:=h.node h1
 have hI1:=fun W=>z1g (k:Int) 0 ((qs.length:Int)-1) W
 rw[z1i (by omega)] at hI1
 have hI2:=fun W=>z1g q.nd.kind 1 22 W
 have hA1:(0:Int)≤(k:Int):=by omega
 have hB1:(k:Int)<(qs.length:Int):=by omega
 by_cases hk:1≤q.nd.kind∧q.nd.kind≤22
 case neg =>
  rw[z2e hk] at hI2
  have HK:=z00 hk
  clear h h1 hS hk
  obtain⟨⟨kd,tx,ks,bl⟩,ka,kc⟩:=q
  simp only at c0 c1 c2 c3 hI2
  go_enter Tryz.func142,Tryz.ntmps142
  go_wp2_with fail
  refine(hI1 _).mono ?_
  rintro e w ⟨rfl,rfl⟩
  go_wp2_with fail
  refine(hI2 _).mono ?_
  rintro e w ⟨rfl,rfl⟩
  go_wp2
  go_ret
  exact z0o (fun h=>HK.out h.kind) (Below.refl _ _)
 rw[z1i hk] at hI2
 have XN:=zpd w q
 have BN:=z08 w (.cells #[.int .i64 q.nd.kind,.string q.nd.text,.slice q.a q.nd.kids.length q.c,.bool q.nd.blank] z32)
 have hC:=fun W=>zqc (k:=q.nd.kind) W hk
 have hT:=fun W=>zri (k:=q.nd.kind) (t:=q.nd.text) W hk hS.few hS.text
 have hSt:=fun W=>zmd q.nd.kind W
 obtain⟨P,hP⟩:∃ P,P=NodeP (qs.map Np.nd) k q.nd:=⟨_,rfl⟩
 rw[← hP]
 have HP:=z00 (show P↔NodeP (qs.map Np.nd) k q.nd by rw[hP])
 clear hP hS
 obtain⟨⟨kd,tx,ks,bl⟩,ka,kc⟩:=q
 simp only at c0 c1 c2 c3 hI2 XN BN hC hT hSt hk
 obtain⟨W1,hW1⟩:∃ W1,W1=w.alloc (.cells #[.int .i64 kd,.string tx,.slice ka ks.length kc,.bool bl] z32):=⟨_,rfl⟩
 rw[← hW1] at XN BN
 obtain⟨g,hg⟩:∃ g,g=w.heap.size:=⟨_,rfl⟩
 rw[← hg] at XN
 have HG:=z00 hg
 have HW:=z00 hW1
 have HH:=z00 (And.intro (h.below BN) h1)
 have HB:=z00 BN
 have HX:=z00 XN
 obtain⟨x1,x2,x3,x4,x5⟩:=XN
 clear h h1 BN hW1 hg
 go_enter Tryz.func142,Tryz.ntmps142
 go_wp2_with fail
 refine(hI1 _).mono ?_
 rintro e w ⟨rfl,rfl⟩
 go_wp2_with fail
 refine(hI2 _).mono ?_
 rintro e w ⟨rfl,rfl⟩
 go_wp2_with fail
 rw[← HW.out,← HG.out]
 refine(hC _).mono ?_
 rintro e w1 ⟨lo,hi,rfl,rfl,hcnt⟩
 have hI3:=fun W=>z1g (ks.length:Int) lo hi W
 have HC:=z00 (hcnt ks.length)
 clear hcnt hC hI1 hI2 c0 c1 c2 c3
 by_cases hlo:lo≤(ks.length:Int)∧(ks.length:Int)≤hi
 case neg =>
  rw[z2e hlo] at hI3
  have HN:=z00 (show ¬ P from fun e=>hlo (HC.out.2 (HP.out.1 e).cnt))
  clear hlo
  go_wp2_with fail
  refine(hI3 _).mono ?_
  rintro e w1 ⟨rfl,rfl⟩
  go_wp2
  go_ret
  exact z0o HN.out HB.out
 rw[z1i hlo] at hI3
 have HCk:=z00 (HC.out.1 hlo)
 have hm:ks.length≤12:=z34 (HC.out.1 hlo)
 clear hlo HC
 go_wp2_with fail
 refine(hI3 _).mono ?_
 rintro e w1 ⟨rfl,rfl⟩
 go_wp2_with fail
 refine(hT _).mono ?_
 rintro e w2 ⟨rfl,m2,rfl⟩
 clear hI3 hT x1 x2 x3 x4 x5
 obtain⟨W2,hW2⟩:∃ W2,W2=w1.drewN m2:=⟨_,rfl⟩
 have b12:Below w1.heap.size w1 W2:=by rw[hW2];exact z0e w1 m2
 rw[← hW2]
 clear hW2
 have HB2:=z00 (HB.out.trans (b12.mono HB.out.size))
 have HX2:=z00 (HX.out.below b12)
 have HH2:=z00 (And.intro (HH.out.1.below b12) HH.out.2)
 clear HB HX HH b12 HW
 obtain⟨x1,x2,x3,x4,x5⟩:=HX2.out
 simp only at x2 x3 x4 x5
 have key:(bl=true∧¬ z3z kd∧kd≠20∧kd≠21)∨(bl=true→z3z kd∨kd=20∨kd=21):=by
  by_cases e1:bl=true
  ·by_cases e2:z3z kd
   ·exact .inr fun _=>.inl e2
   ·by_cases e3:kd=20
    ·exact .inr fun _=>.inr (.inl e3)
    ·by_cases e4:kd=21
     ·exact .inr fun _=>.inr (.inr e4)
     ·exact .inl ⟨e1,e2,e3,e4⟩
  ·exact .inr fun e=>absurd e e1
 rcases key with⟨rfl,e2,e3,e4⟩|hbl
 ·have HN:=z00 (show ¬ P from fun e=>by
   rcases(HP.out.1 e).blank rfl with h|h|h
   ·exact e2 h
   ·exact e3 h
   ·exact e4 h)
  have n3:(kd != 20)=true:=by simpa using e3
  have n4:(kd != 21)=true:=by simpa using e4
  have HE:=z00 e2
  clear e2
  go_wp2_with fail
  refine(hSt _).mono ?_
  rintro e w3 h9
  obtain⟨rfl,rfl⟩:=h9.no HE.out
  go_wp2
  go_ret
  exact z0o HN.out HB2.out
 have HBl:=z00 hbl
 clear hbl
 cases bl with
 | false =>
   clear hSt
   go_wp2
   go_loopw [8] (fun i wr=>∃ j:Nat,j≤ks.length∧i=.int .i64 (j:Int)∧Below W2.heap.size W2 wr∧Hid (PlK ks k j)) (fun i _=>ks.length-(intOf i).toNat)
   case atStart=>exact⟨0,Nat.zero_le _,rfl,Below.refl _ _,z00 (z6l ks k)⟩
   case round =>
    clear x1 x2 x3 x4 x5
    obtain⟨j,hj,rfl,br,HPL⟩:=hrel
    obtain⟨x1,x2,x3,x4,x5⟩:=HX2.out.below br
    simp only at x2 x3 x4 x5
    by_cases hlt:j<ks.length
    ·obtain⟨z,ez⟩:∃ z,ks[j]?=some z:=⟨_,List.getElem?_eq_getElem hlt⟩
     obtain⟨kb,hkb,hkbl,ck⟩:=(HH2.out.1.below br).kid HH2.out.2 ez
     simp only at hkb
     subst hkb
     have EZ:=z00 ez
     clear ez
     have hA3:(0:Int)≤(j:Int):=by omega
     have hB3:(j:Int)<(ks.length:Int):=by omega
     have hI:=fun W=>z1g z 0 ((k:Int)-1) W
     by_cases hz:0≤z∧z<(k:Int)
     ·rw[z1i (by omega)] at hI
      have HZ:=z00 hz
      clear hz
      go_wp2_with fail
      refine(hI _).mono ?_
      rintro e wr2 ⟨rfl,rfl⟩
      clear hI
      go_wp2
      go_loopw [9] (fun u wr=>∃ i:Nat,i≤j∧u=.int .i64 (i:Int)∧Below W2.heap.size W2 wr∧Hid (∀ i',i'<i→ks[i']?≠some z)) (fun u _=>j-(intOf u).toNat)
      case atStart=>exact⟨0,Nat.zero_le _,rfl,br,z00 fun i h=>by omega⟩
      case round =>
       clear x1 x2 x3 x4 x5 ck hkbl
       obtain⟨i,hi,rfl,br2,HQ⟩:=hrel
       obtain⟨x1,x2,x3,x4,x5⟩:=HX2.out.below br2
       simp only at x2 x3 x4 x5
       by_cases hil:i<j
       ·obtain⟨u,eu⟩:∃ u,ks[i]?=some u:=⟨_,List.getElem?_eq_getElem (by omega)⟩
        obtain⟨kb1,hkb1,hkbl,ck⟩:=(HH2.out.1.below br2).kid HH2.out.2 EZ.out
        obtain⟨kb2,hkb2,-,ck2⟩:=(HH2.out.1.below br2).kid HH2.out.2 eu
        obtain rfl:kb=kb1:=by injection hkb1 with hkb1;injection hkb1
        obtain rfl:kb=kb2:=by injection hkb2 with hkb2;injection hkb2
        have EU:=z00 eu
        clear eu hkb1 hkb2
        have hA4:(0:Int)≤(i:Int):=by omega
        have hB4:(i:Int)<(ks.length:Int):=by omega
        have hC4:(i:Int)<(j:Int):=by omega
        cases hzu:(z==u) with
        | true =>
          have HN:=z00 (show ¬ P from fun e=>(HP.out.1 e).once i j z hil (by rw[show z=u by simpa using hzu];exact EU.out) EZ.out)
          go_wp2
          go_quiet (fail)
          go_wp2
          go_ret
          exact z0o HN.out (HB2.out.trans ((z1x br2 _).mono HB2.out.size))
        | false =>
          have HE:=z00 (show z≠u from by simpa using hzu)
          go_wp2
          go_quiet (fail)
          go_wp2
          go_roundw
          case rel=>exact⟨i+1,by omega,by go_num,z1x br2 _,z00 fun i' h9 e9=>by
           by_cases e:i'=i
           ·subst e;rw[EU.out] at e9;injection e9 with e9;exact HE.out e9.symm
           ·exact HQ.out i' (by omega) e9⟩
          case measure=>simp[intOf];omega
       ·have hC4:¬ (i:Int)<(j:Int):=by omega
        go_wp2
        go_roundw
        case rel=>exact⟨j+1,by omega,by go_num,br2,z00 (z6m HPL.out EZ.out HZ.out (fun i' h9=>HQ.out i' (by omega)))⟩
        case measure=>simp[intOf];omega
     ·rw[z2e (by omega)] at hI
      have HN:=z00 (show ¬ P from fun e=>hz ((HP.out.1 e).place j z EZ.out))
      clear hz
      go_wp2_with fail
      refine(hI _).mono ?_
      rintro e wr2 ⟨rfl,rfl⟩
      go_wp2
      go_ret
      exact z0o HN.out (HB2.out.trans (br.mono HB2.out.size))
    ·have hC3:¬ (j:Int)<(ks.length:Int):=by omega
     have HPA:=z00 (show PlK ks k ks.length by rw[show ks.length=j by omega];exact HPL.out)
     go_wp2
     go_loopw [10] (fun i wr=>∃ j:Nat,j≤ks.length∧i=.int .i64 (j:Int)∧Below W2.heap.size W2 wr∧Hid (zqk (qs.map Np.nd) kd ks j)) (fun i _=>ks.length-(intOf i).toNat)
     case atStart=>exact⟨0,Nat.zero_le _,rfl,br,z00 fun i z y h=>by omega⟩
     case round =>
      clear x1 x2 x3 x4 x5
      obtain⟨j3,hj3,rfl,br3,HF⟩:=hrel
      obtain⟨x1,x2,x3,x4,x5⟩:=HX2.out.below br3
      simp only at x2 x3 x4 x5
      by_cases hlt3:j3<ks.length
      ·obtain⟨z,ez⟩:∃ z,ks[j3]?=some z:=⟨_,List.getElem?_eq_getElem hlt3⟩
       have hzr:=HPA.out.1 j3 z hlt3 ez
       obtain⟨zn,rfl⟩:∃ zn:Nat,z=(zn:Int):=⟨z.toNat,by omega⟩
       obtain⟨q2,h2⟩:∃ q2,qs[zn]?=some q2:=⟨_,List.getElem?_eq_getElem (by omega)⟩
       obtain⟨kb,hkb,hkbl,ck⟩:=(HH2.out.1.below br3).kid HH2.out.2 ez
       simp only at hkb
       subst hkb
       obtain⟨b',hbb,hb3,d0,d1,d2,d3⟩:=(HH2.out.1.below br3).node h2
       obtain rfl:b=b':=by injection hbb with hbb;injection hbb
       have EZ:=z00 ez
       have hA3:(0:Int)≤(j3:Int):=by omega
       have hB3:(j3:Int)<(ks.length:Int):=by omega
       have hA5:(0:Int)≤(zn:Int):=by omega
       have hB5:(zn:Int)<(qs.length:Int):=by omega
       obtain⟨⟨kd2,tx2,ks2,bl2⟩,ka2,kc2⟩:=q2
       simp only at d0 d1 d2 d3
       have E2:=z00 h2
       clear ez h2 hbb
       by_cases h5:kd2=5
       ·subst h5
        by_cases hl0:ks2.length=0
        ·have hl1:((ks2.length:Int)==0)=true:=by simp;exact List.eq_nil_of_length_eq_zero hl0
         have HN:=z00 (show ¬ P from fun e=>by obtain⟨z0,e1,-⟩:=(z3e (HP.out.1 e) EZ.out E2.out).1 rfl;simp only at e1;have:=(List.getElem?_eq_some_iff.1 e1).1;omega)
         go_wp2
         go_ret
         exact z0o HN.out (HB2.out.trans ((br3.trans ((z08 _ _).mono br3.size)).mono HB2.out.size))
        ·have hl1:((ks2.length:Int)==0)=false:=by rw[beq_eq_false_iff_ne];omega
         obtain⟨z0,e0⟩:∃ z0,ks2[0]?=some z0:=⟨_,List.getElem?_eq_getElem (by omega)⟩
         obtain⟨kb2,hkb2,hkbl2,ck2⟩:=(HH2.out.1.below br3).kid E2.out e0
         simp only at hkb2
         subst hkb2
         have hB6:(0:Int)<(ks2.length:Int):=by omega
         have hI0:=fun W=>z1g z0 0 ((qs.length:Int)-1) W
         have E0:=z00 e0
         clear e0
         by_cases hz0:0≤z0∧z0<(qs.length:Int)
         ·rw[z1i (by omega)] at hI0
          have hca:z3s (qs.map Np.nd) ⟨5,tx2,ks2,bl2⟩:=fun _=>⟨z0,E0.out,hz0.1,by simpa using hz0.2⟩
          clear hz0
          have HCa:=z00 hca
          clear hca
          by_cases hro:z11 (qs.map Np.nd) ⟨5,tx2,ks2,bl2⟩ (z0f kd j3 ks.length)
          ·have qF:=fun W (hW:Below W2.heap.size W2 W)=>z5e (HH2.out.1.below hW) HH2.out.2 EZ.out E2.out hk HCa.out hm
           have HR:=z00 hro
           clear hro
           go_wp2_with fail
           refine(hI0 _).mono ?_
           rintro e w8 ⟨rfl,rfl⟩
           go_wp2_with fail
           refine(qF _ (br3.trans ((z08 _ _).mono br3.size))).mono ?_
           rintro e w9 h9
           obtain⟨rfl,b9⟩:=h9.yes HR.out
           have HB9:=z00 ((br3.trans ((z08 _ _).mono br3.size)).trans (b9.mono (br3.trans ((z08 _ _).mono br3.size)).size))
           clear h9 b9 qF
           go_wp2
           go_roundw
           case rel=>exact⟨j3+1,by omega,by go_num,HB9.out,z00 (z31 HF.out EZ.out E2.out HCa.out HR.out)⟩
           case measure=>simp[intOf];omega
          ·have qF:=fun W (hW:Below W2.heap.size W2 W)=>z5e (HH2.out.1.below hW) HH2.out.2 EZ.out E2.out hk HCa.out hm
           have HR:=z00 hro
           clear hro
           go_wp2_with fail
           refine(hI0 _).mono ?_
           rintro e w8 ⟨rfl,rfl⟩
           go_wp2_with fail
           refine(qF _ (br3.trans ((z08 _ _).mono br3.size))).mono ?_
           rintro e w9 h9
           obtain⟨rfl,b9⟩:=h9.no HR.out
           have HB9:=z00 ((br3.trans ((z08 _ _).mono br3.size)).trans (b9.mono (br3.trans ((z08 _ _).mono br3.size)).size))
           clear h9 b9 qF
           go_wp2
           go_ret
           exact z0o (fun e=>HR.out (z3e (HP.out.1 e) EZ.out E2.out).2) (HB2.out.trans (HB9.out.mono HB2.out.size))
         ·rw[z2e (by omega)] at hI0
          have HN:=z00 (show ¬ P from fun e=>by obtain⟨z1,e1,e2,e3⟩:=(z3e (HP.out.1 e) EZ.out E2.out).1 rfl;simp only at e1;rw[E0.out] at e1;injection e1 with e1;subst e1;exact hz0 ⟨e2,by simpa using e3⟩)
          clear hz0
          go_wp2_with fail
          refine(hI0 _).mono ?_
          rintro e w8 ⟨rfl,rfl⟩
          go_wp2
          go_ret
          exact z0o HN.out (HB2.out.trans ((br3.trans ((z08 _ _).mono br3.size)).mono HB2.out.size))
       ·have h5b:(kd2==5)=false:=by rw[beq_eq_false_iff_ne];exact h5
        have hca:z3s (qs.map Np.nd) ⟨kd2,tx2,ks2,bl2⟩:=fun e=>absurd e h5
        clear h5
        have HCa:=z00 hca
        clear hca
        by_cases hro:z11 (qs.map Np.nd) ⟨kd2,tx2,ks2,bl2⟩ (z0f kd j3 ks.length)
        ·have qF:=fun W (hW:Below W2.heap.size W2 W)=>z5e (HH2.out.1.below hW) HH2.out.2 EZ.out E2.out hk HCa.out hm
         have HR:=z00 hro
         clear hro
         go_wp2_with fail
         refine(qF _ (br3.trans ((z08 _ _).mono br3.size))).mono ?_
         rintro e w9 h9
         obtain⟨rfl,b9⟩:=h9.yes HR.out
         have HB9:=z00 ((br3.trans ((z08 _ _).mono br3.size)).trans (b9.mono (br3.trans ((z08 _ _).mono br3.size)).size))
         clear h9 b9 qF
         go_wp2
         go_roundw
         case rel=>exact⟨j3+1,by omega,by go_num,HB9.out,z00 (z31 HF.out EZ.out E2.out HCa.out HR.out)⟩
         case measure=>simp[intOf];omega
        ·have qF:=fun W (hW:Below W2.heap.size W2 W)=>z5e (HH2.out.1.below hW) HH2.out.2 EZ.out E2.out hk HCa.out hm
         have HR:=z00 hro
         clear hro
         go_wp2_with fail
         refine(qF _ (br3.trans ((z08 _ _).mono br3.size))).mono ?_
         rintro e w9 h9
         obtain⟨rfl,b9⟩:=h9.no HR.out
         have HB9:=z00 ((br3.trans ((z08 _ _).mono br3.size)).trans (b9.mono (br3.trans ((z08 _ _).mono br3.size)).size))
         clear h9 b9 qF
         go_wp2
         go_ret
         exact z0o (fun e=>HR.out (z3e (HP.out.1 e) EZ.out E2.out).2) (HB2.out.trans (HB9.out.mono HB2.out.size))
      ·have hC5:¬ (j3:Int)<(ks.length:Int):=by omega
       obtain rfl:j3=ks.length:=by omega
       go_wp2
       go_ret
       exact z12 (HP.out.2 ⟨hk,HCk.out,(fun e=>by cases e),fun i z h=>HPA.out.1 i z (List.getElem?_eq_some_iff.1 h).1 h,fun i i' z h1 h2 h3=>HPA.out.2 i i' z h1 (List.getElem?_eq_some_iff.1 h3).1 h2 h3,fun i z y h1 h2=>HF.out i z y (List.getElem?_eq_some_iff.1 h1).1 h1 h2⟩) (HB2.out.trans (br3.mono HB2.out.size))
 | true =>
   rcases HBl.out rfl with e2|rfl|rfl
   ·have HE:=z00 e2
    clear e2
    go_wp2_with fail
    refine(hSt _).mono ?_
    rintro e W2 h9
    obtain⟨rfl,rfl⟩:=h9.yes HE.out
    clear hSt h9
    go_wp2
    go_loopw [8] (fun i wr=>∃ j:Nat,j≤ks.length∧i=.int .i64 (j:Int)∧Below W2.heap.size W2 wr∧Hid (PlK ks k j)) (fun i _=>ks.length-(intOf i).toNat)
    case atStart=>exact⟨0,Nat.zero_le _,rfl,Below.refl _ _,z00 (z6l ks k)⟩
    case round =>
     clear x1 x2 x3 x4 x5
     obtain⟨j,hj,rfl,br,HPL⟩:=hrel
     obtain⟨x1,x2,x3,x4,x5⟩:=HX2.out.below br
     simp only at x2 x3 x4 x5
     by_cases hlt:j<ks.length
     ·obtain⟨z,ez⟩:∃ z,ks[j]?=some z:=⟨_,List.getElem?_eq_getElem hlt⟩
      obtain⟨kb,hkb,hkbl,ck⟩:=(HH2.out.1.below br).kid HH2.out.2 ez
      simp only at hkb
      subst hkb
      have EZ:=z00 ez
      clear ez
      have hA3:(0:Int)≤(j:Int):=by omega
      have hB3:(j:Int)<(ks.length:Int):=by omega
      have hI:=fun W=>z1g z 0 ((k:Int)-1) W
      by_cases hz:0≤z∧z<(k:Int)
      ·rw[z1i (by omega)] at hI
       have HZ:=z00 hz
       clear hz
       go_wp2_with fail
       refine(hI _).mono ?_
       rintro e wr2 ⟨rfl,rfl⟩
       clear hI
       go_wp2
       go_loopw [9] (fun u wr=>∃ i:Nat,i≤j∧u=.int .i64 (i:Int)∧Below W2.heap.size W2 wr∧Hid (∀ i',i'<i→ks[i']?≠some z)) (fun u _=>j-(intOf u).toNat)
       case atStart=>exact⟨0,Nat.zero_le _,rfl,br,z00 fun i h=>by omega⟩
       case round =>
        clear x1 x2 x3 x4 x5 ck hkbl
        obtain⟨i,hi,rfl,br2,HQ⟩:=hrel
        obtain⟨x1,x2,x3,x4,x5⟩:=HX2.out.below br2
        simp only at x2 x3 x4 x5
        by_cases hil:i<j
        ·obtain⟨u,eu⟩:∃ u,ks[i]?=some u:=⟨_,List.getElem?_eq_getElem (by omega)⟩
         obtain⟨kb1,hkb1,hkbl,ck⟩:=(HH2.out.1.below br2).kid HH2.out.2 EZ.out
         obtain⟨kb2,hkb2,-,ck2⟩:=(HH2.out.1.below br2).kid HH2.out.2 eu
         obtain rfl:kb=kb1:=by injection hkb1 with hkb1;injection hkb1
         obtain rfl:kb=kb2:=by injection hkb2 with hkb2;injection hkb2
         have EU:=z00 eu
         clear eu hkb1 hkb2
         have hA4:(0:Int)≤(i:Int):=by omega
         have hB4:(i:Int)<(ks.length:Int):=by omega
         have hC4:(i:Int)<(j:Int):=by omega
         cases hzu:(z==u) with
         | true =>
           have HN:=z00 (show ¬ P from fun e=>(HP.out.1 e).once i j z hil (by rw[show z=u by simpa using hzu];exact EU.out) EZ.out)
           go_wp2
           go_quiet (fail)
           go_wp2
           go_ret
           exact z0o HN.out (HB2.out.trans ((z1x br2 _).mono HB2.out.size))
         | false =>
           have HE:=z00 (show z≠u from by simpa using hzu)
           go_wp2
           go_quiet (fail)
           go_wp2
           go_roundw
           case rel=>exact⟨i+1,by omega,by go_num,z1x br2 _,z00 fun i' h9 e9=>by
            by_cases e:i'=i
            ·subst e;rw[EU.out] at e9;injection e9 with e9;exact HE.out e9.symm
            ·exact HQ.out i' (by omega) e9⟩
           case measure=>simp[intOf];omega
        ·have hC4:¬ (i:Int)<(j:Int):=by omega
         go_wp2
         go_roundw
         case rel=>exact⟨j+1,by omega,by go_num,br2,z00 (z6m HPL.out EZ.out HZ.out (fun i' h9=>HQ.out i' (by omega)))⟩
         case measure=>simp[intOf];omega
      ·rw[z2e (by omega)] at hI
       have HN:=z00 (show ¬ P from fun e=>hz ((HP.out.1 e).place j z EZ.out))
       clear hz
       go_wp2_with fail
       refine(hI _).mono ?_
       rintro e wr2 ⟨rfl,rfl⟩
       go_wp2
       go_ret
       exact z0o HN.out (HB2.out.trans (br.mono HB2.out.size))
     ·have hC3:¬ (j:Int)<(ks.length:Int):=by omega
      have HPA:=z00 (show PlK ks k ks.length by rw[show ks.length=j by omega];exact HPL.out)
      go_wp2
      go_loopw [10] (fun i wr=>∃ j:Nat,j≤ks.length∧i=.int .i64 (j:Int)∧Below W2.heap.size W2 wr∧Hid (zqk (qs.map Np.nd) kd ks j)) (fun i _=>ks.length-(intOf i).toNat)
      case atStart=>exact⟨0,Nat.zero_le _,rfl,br,z00 fun i z y h=>by omega⟩
      case round =>
       clear x1 x2 x3 x4 x5
       obtain⟨j3,hj3,rfl,br3,HF⟩:=hrel
       obtain⟨x1,x2,x3,x4,x5⟩:=HX2.out.below br3
       simp only at x2 x3 x4 x5
       by_cases hlt3:j3<ks.length
       ·obtain⟨z,ez⟩:∃ z,ks[j3]?=some z:=⟨_,List.getElem?_eq_getElem hlt3⟩
        have hzr:=HPA.out.1 j3 z hlt3 ez
        obtain⟨zn,rfl⟩:∃ zn:Nat,z=(zn:Int):=⟨z.toNat,by omega⟩
        obtain⟨q2,h2⟩:∃ q2,qs[zn]?=some q2:=⟨_,List.getElem?_eq_getElem (by omega)⟩
        obtain⟨kb,hkb,hkbl,ck⟩:=(HH2.out.1.below br3).kid HH2.out.2 ez
        simp only at hkb
        subst hkb
        obtain⟨b',hbb,hb3,d0,d1,d2,d3⟩:=(HH2.out.1.below br3).node h2
        obtain rfl:b=b':=by injection hbb with hbb;injection hbb
        have EZ:=z00 ez
        have hA3:(0:Int)≤(j3:Int):=by omega
        have hB3:(j3:Int)<(ks.length:Int):=by omega
        have hA5:(0:Int)≤(zn:Int):=by omega
        have hB5:(zn:Int)<(qs.length:Int):=by omega
        obtain⟨⟨kd2,tx2,ks2,bl2⟩,ka2,kc2⟩:=q2
        simp only at d0 d1 d2 d3
        have E2:=z00 h2
        clear ez h2 hbb
        by_cases h5:kd2=5
        ·subst h5
         by_cases hl0:ks2.length=0
         ·have hl1:((ks2.length:Int)==0)=true:=by simp;exact List.eq_nil_of_length_eq_zero hl0
          have HN:=z00 (show ¬ P from fun e=>by obtain⟨z0,e1,-⟩:=(z3e (HP.out.1 e) EZ.out E2.out).1 rfl;simp only at e1;have:=(List.getElem?_eq_some_iff.1 e1).1;omega)
          go_wp2
          go_ret
          exact z0o HN.out (HB2.out.trans ((br3.trans ((z08 _ _).mono br3.size)).mono HB2.out.size))
         ·have hl1:((ks2.length:Int)==0)=false:=by rw[beq_eq_false_iff_ne];omega
          obtain⟨z0,e0⟩:∃ z0,ks2[0]?=some z0:=⟨_,List.getElem?_eq_getElem (by omega)⟩
          obtain⟨kb2,hkb2,hkbl2,ck2⟩:=(HH2.out.1.below br3).kid E2.out e0
          simp only at hkb2
          subst hkb2
          have hB6:(0:Int)<(ks2.length:Int):=by omega
          have hI0:=fun W=>z1g z0 0 ((qs.length:Int)-1) W
          have E0:=z00 e0
          clear e0
          by_cases hz0:0≤z0∧z0<(qs.length:Int)
          ·rw[z1i (by omega)] at hI0
           have hca:z3s (qs.map Np.nd) ⟨5,tx2,ks2,bl2⟩:=fun _=>⟨z0,E0.out,hz0.1,by simpa using hz0.2⟩
           clear hz0
           have HCa:=z00 hca
           clear hca
           by_cases hro:z11 (qs.map Np.nd) ⟨5,tx2,ks2,bl2⟩ (z0f kd j3 ks.length)
           ·have qF:=fun W (hW:Below W2.heap.size W2 W)=>z5e (HH2.out.1.below hW) HH2.out.2 EZ.out E2.out hk HCa.out hm
            have HR:=z00 hro
            clear hro
            go_wp2_with fail
            refine(hI0 _).mono ?_
            rintro e w8 ⟨rfl,rfl⟩
            go_wp2_with fail
            refine(qF _ (br3.trans ((z08 _ _).mono br3.size))).mono ?_
            rintro e w9 h9
            obtain⟨rfl,b9⟩:=h9.yes HR.out
            have HB9:=z00 ((br3.trans ((z08 _ _).mono br3.size)).trans (b9.mono (br3.trans ((z08 _ _).mono br3.size)).size))
            clear h9 b9 qF
            go_wp2
            go_roundw
            case rel=>exact⟨j3+1,by omega,by go_num,HB9.out,z00 (z31 HF.out EZ.out E2.out HCa.out HR.out)⟩
            case measure=>simp[intOf];omega
           ·have qF:=fun W (hW:Below W2.heap.size W2 W)=>z5e (HH2.out.1.below hW) HH2.out.2 EZ.out E2.out hk HCa.out hm
            have HR:=z00 hro
            clear hro
            go_wp2_with fail
            refine(hI0 _).mono ?_
            rintro e w8 ⟨rfl,rfl⟩
            go_wp2_with fail
            refine(qF _ (br3.trans ((z08 _ _).mono br3.size))).mono ?_
            rintro e w9 h9
            obtain⟨rfl,b9⟩:=h9.no HR.out
            have HB9:=z00 ((br3.trans ((z08 _ _).mono br3.size)).trans (b9.mono (br3.trans ((z08 _ _).mono br3.size)).size))
            clear h9 b9 qF
            go_wp2
            go_ret
            exact z0o (fun e=>HR.out (z3e (HP.out.1 e) EZ.out E2.out).2) (HB2.out.trans (HB9.out.mono HB2.out.size))
          ·rw[z2e (by omega)] at hI0
           have HN:=z00 (show ¬ P from fun e=>by obtain⟨z1,e1,e2,e3⟩:=(z3e (HP.out.1 e) EZ.out E2.out).1 rfl;simp only at e1;rw[E0.out] at e1;injection e1 with e1;subst e1;exact hz0 ⟨e2,by simpa using e3⟩)
           clear hz0
           go_wp2_with fail
           refine(hI0 _).mono ?_
           rintro e w8 ⟨rfl,rfl⟩
           go_wp2
           go_ret
           exact z0o HN.out (HB2.out.trans ((br3.trans ((z08 _ _).mono br3.size)).mono HB2.out.size))
        ·have h5b:(kd2==5)=false:=by rw[beq_eq_false_iff_ne];exact h5
         have hca:z3s (qs.map Np.nd) ⟨kd2,tx2,ks2,bl2⟩:=fun e=>absurd e h5
         clear h5
         have HCa:=z00 hca
         clear hca
         by_cases hro:z11 (qs.map Np.nd) ⟨kd2,tx2,ks2,bl2⟩ (z0f kd j3 ks.length)
         ·have qF:=fun W (hW:Below W2.heap.size W2 W)=>z5e (HH2.out.1.below hW) HH2.out.2 EZ.out E2.out hk HCa.out hm
          have HR:=z00 hro
          clear hro
          go_wp2_with fail
          refine(qF _ (br3.trans ((z08 _ _).mono br3.size))).mono ?_
          rintro e w9 h9
          obtain⟨rfl,b9⟩:=h9.yes HR.out
          have HB9:=z00 ((br3.trans ((z08 _ _).mono br3.size)).trans (b9.mono (br3.trans ((z08 _ _).mono br3.size)).size))
          clear h9 b9 qF
          go_wp2
          go_roundw
          case rel=>exact⟨j3+1,by omega,by go_num,HB9.out,z00 (z31 HF.out EZ.out E2.out HCa.out HR.out)⟩
          case measure=>simp[intOf];omega
         ·have qF:=fun W (hW:Below W2.heap.size W2 W)=>z5e (HH2.out.1.below hW) HH2.out.2 EZ.out E2.out hk HCa.out hm
          have HR:=z00 hro
          clear hro
          go_wp2_with fail
          refine(qF _ (br3.trans ((z08 _ _).mono br3.size))).mono ?_
          rintro e w9 h9
          obtain⟨rfl,b9⟩:=h9.no HR.out
          have HB9:=z00 ((br3.trans ((z08 _ _).mono br3.size)).trans (b9.mono (br3.trans ((z08 _ _).mono br3.size)).size))
          clear h9 b9 qF
          go_wp2
          go_ret
          exact z0o (fun e=>HR.out (z3e (HP.out.1 e) EZ.out E2.out).2) (HB2.out.trans (HB9.out.mono HB2.out.size))
       ·have hC5:¬ (j3:Int)<(ks.length:Int):=by omega
        obtain rfl:j3=ks.length:=by omega
        go_wp2
        go_ret
        exact z12 (HP.out.2 ⟨hk,HCk.out,(fun _=>.inl HE.out),fun i z h=>HPA.out.1 i z (List.getElem?_eq_some_iff.1 h).1 h,fun i i' z h1 h2 h3=>HPA.out.2 i i' z h1 (List.getElem?_eq_some_iff.1 h3).1 h2 h3,fun i z y h1 h2=>HF.out i z y (List.getElem?_eq_some_iff.1 h1).1 h1 h2⟩) (HB2.out.trans (br3.mono HB2.out.size))
   ·have HE:=z00 (show ¬ z3z 20 by unfold z3z;omega)
    go_wp2_with fail
    refine(hSt _).mono ?_
    rintro e W2 h9
    obtain⟨rfl,rfl⟩:=h9.no HE.out
    clear hSt h9
    go_wp2
    go_loopw [8] (fun i wr=>∃ j:Nat,j≤ks.length∧i=.int .i64 (j:Int)∧Below W2.heap.size W2 wr∧Hid (PlK ks k j)) (fun i _=>ks.length-(intOf i).toNat)
    case atStart=>exact⟨0,Nat.zero_le _,rfl,Below.refl _ _,z00 (z6l ks k)⟩
    case round =>
     clear x1 x2 x3 x4 x5
     obtain⟨j,hj,rfl,br,HPL⟩:=hrel
     obtain⟨x1,x2,x3,x4,x5⟩:=HX2.out.below br
     simp only at x2 x3 x4 x5
     by_cases hlt:j<ks.length
     ·obtain⟨z,ez⟩:∃ z,ks[j]?=some z:=⟨_,List.getElem?_eq_getElem hlt⟩
      obtain⟨kb,hkb,hkbl,ck⟩:=(HH2.out.1.below br).kid HH2.out.2 ez
      simp only at hkb
      subst hkb
      have EZ:=z00 ez
      clear ez
      have hA3:(0:Int)≤(j:Int):=by omega
      have hB3:(j:Int)<(ks.length:Int):=by omega
      have hI:=fun W=>z1g z 0 ((k:Int)-1) W
      by_cases hz:0≤z∧z<(k:Int)
      ·rw[z1i (by omega)] at hI
       have HZ:=z00 hz
       clear hz
       go_wp2_with fail
       refine(hI _).mono ?_
       rintro e wr2 ⟨rfl,rfl⟩
       clear hI
       go_wp2
       go_loopw [9] (fun u wr=>∃ i:Nat,i≤j∧u=.int .i64 (i:Int)∧Below W2.heap.size W2 wr∧Hid (∀ i',i'<i→ks[i']?≠some z)) (fun u _=>j-(intOf u).toNat)
       case atStart=>exact⟨0,Nat.zero_le _,rfl,br,z00 fun i h=>by omega⟩
       case round =>
        clear x1 x2 x3 x4 x5 ck hkbl
        obtain⟨i,hi,rfl,br2,HQ⟩:=hrel
        obtain⟨x1,x2,x3,x4,x5⟩:=HX2.out.below br2
        simp only at x2 x3 x4 x5
        by_cases hil:i<j
        ·obtain⟨u,eu⟩:∃ u,ks[i]?=some u:=⟨_,List.getElem?_eq_getElem (by omega)⟩
         obtain⟨kb1,hkb1,hkbl,ck⟩:=(HH2.out.1.below br2).kid HH2.out.2 EZ.out
         obtain⟨kb2,hkb2,-,ck2⟩:=(HH2.out.1.below br2).kid HH2.out.2 eu
         obtain rfl:kb=kb1:=by injection hkb1 with hkb1;injection hkb1
         obtain rfl:kb=kb2:=by injection hkb2 with hkb2;injection hkb2
         have EU:=z00 eu
         clear eu hkb1 hkb2
         have hA4:(0:Int)≤(i:Int):=by omega
         have hB4:(i:Int)<(ks.length:Int):=by omega
         have hC4:(i:Int)<(j:Int):=by omega
         cases hzu:(z==u) with
         | true =>
           have HN:=z00 (show ¬ P from fun e=>(HP.out.1 e).once i j z hil (by rw[show z=u by simpa using hzu];exact EU.out) EZ.out)
           go_wp2
           go_quiet (fail)
           go_wp2
           go_ret
           exact z0o HN.out (HB2.out.trans ((z1x br2 _).mono HB2.out.size))
         | false =>
           have HE:=z00 (show z≠u from by simpa using hzu)
           go_wp2
           go_quiet (fail)
           go_wp2
           go_roundw
           case rel=>exact⟨i+1,by omega,by go_num,z1x br2 _,z00 fun i' h9 e9=>by
            by_cases e:i'=i
            ·subst e;rw[EU.out] at e9;injection e9 with e9;exact HE.out e9.symm
            ·exact HQ.out i' (by omega) e9⟩
           case measure=>simp[intOf];omega
        ·have hC4:¬ (i:Int)<(j:Int):=by omega
         go_wp2
         go_roundw
         case rel=>exact⟨j+1,by omega,by go_num,br2,z00 (z6m HPL.out EZ.out HZ.out (fun i' h9=>HQ.out i' (by omega)))⟩
         case measure=>simp[intOf];omega
      ·rw[z2e (by omega)] at hI
       have HN:=z00 (show ¬ P from fun e=>hz ((HP.out.1 e).place j z EZ.out))
       clear hz
       go_wp2_with fail
       refine(hI _).mono ?_
       rintro e wr2 ⟨rfl,rfl⟩
       go_wp2
       go_ret
       exact z0o HN.out (HB2.out.trans (br.mono HB2.out.size))
     ·have hC3:¬ (j:Int)<(ks.length:Int):=by omega
      have HPA:=z00 (show PlK ks k ks.length by rw[show ks.length=j by omega];exact HPL.out)
      go_wp2
      go_loopw [10] (fun i wr=>∃ j:Nat,j≤ks.length∧i=.int .i64 (j:Int)∧Below W2.heap.size W2 wr∧Hid (zqk (qs.map Np.nd) 20 ks j)) (fun i _=>ks.length-(intOf i).toNat)
      case atStart=>exact⟨0,Nat.zero_le _,rfl,br,z00 fun i z y h=>by omega⟩
      case round =>
       clear x1 x2 x3 x4 x5
       obtain⟨j3,hj3,rfl,br3,HF⟩:=hrel
       obtain⟨x1,x2,x3,x4,x5⟩:=HX2.out.below br3
       simp only at x2 x3 x4 x5
       by_cases hlt3:j3<ks.length
       ·obtain⟨z,ez⟩:∃ z,ks[j3]?=some z:=⟨_,List.getElem?_eq_getElem hlt3⟩
        have hzr:=HPA.out.1 j3 z hlt3 ez
        obtain⟨zn,rfl⟩:∃ zn:Nat,z=(zn:Int):=⟨z.toNat,by omega⟩
        obtain⟨q2,h2⟩:∃ q2,qs[zn]?=some q2:=⟨_,List.getElem?_eq_getElem (by omega)⟩
        obtain⟨kb,hkb,hkbl,ck⟩:=(HH2.out.1.below br3).kid HH2.out.2 ez
        simp only at hkb
        subst hkb
        obtain⟨b',hbb,hb3,d0,d1,d2,d3⟩:=(HH2.out.1.below br3).node h2
        obtain rfl:b=b':=by injection hbb with hbb;injection hbb
        have EZ:=z00 ez
        have hA3:(0:Int)≤(j3:Int):=by omega
        have hB3:(j3:Int)<(ks.length:Int):=by omega
        have hA5:(0:Int)≤(zn:Int):=by omega
        have hB5:(zn:Int)<(qs.length:Int):=by omega
        obtain⟨⟨kd2,tx2,ks2,bl2⟩,ka2,kc2⟩:=q2
        simp only at d0 d1 d2 d3
        have E2:=z00 h2
        clear ez h2 hbb
        by_cases h5:kd2=5
        ·subst h5
         by_cases hl0:ks2.length=0
         ·have hl1:((ks2.length:Int)==0)=true:=by simp;exact List.eq_nil_of_length_eq_zero hl0
          have HN:=z00 (show ¬ P from fun e=>by obtain⟨z0,e1,-⟩:=(z3e (HP.out.1 e) EZ.out E2.out).1 rfl;simp only at e1;have:=(List.getElem?_eq_some_iff.1 e1).1;omega)
          go_wp2
          go_ret
          exact z0o HN.out (HB2.out.trans ((br3.trans ((z08 _ _).mono br3.size)).mono HB2.out.size))
         ·have hl1:((ks2.length:Int)==0)=false:=by rw[beq_eq_false_iff_ne];omega
          obtain⟨z0,e0⟩:∃ z0,ks2[0]?=some z0:=⟨_,List.getElem?_eq_getElem (by omega)⟩
          obtain⟨kb2,hkb2,hkbl2,ck2⟩:=(HH2.out.1.below br3).kid E2.out e0
          simp only at hkb2
          subst hkb2
          have hB6:(0:Int)<(ks2.length:Int):=by omega
          have hI0:=fun W=>z1g z0 0 ((qs.length:Int)-1) W
          have E0:=z00 e0
          clear e0
          by_cases hz0:0≤z0∧z0<(qs.length:Int)
          ·rw[z1i (by omega)] at hI0
           have hca:z3s (qs.map Np.nd) ⟨5,tx2,ks2,bl2⟩:=fun _=>⟨z0,E0.out,hz0.1,by simpa using hz0.2⟩
           clear hz0
           have HCa:=z00 hca
           clear hca
           by_cases hro:z11 (qs.map Np.nd) ⟨5,tx2,ks2,bl2⟩ (z0f 20 j3 ks.length)
           ·have qF:=fun W (hW:Below W2.heap.size W2 W)=>z5e (HH2.out.1.below hW) HH2.out.2 EZ.out E2.out hk HCa.out hm
            have HR:=z00 hro
            clear hro
            go_wp2_with fail
            refine(hI0 _).mono ?_
            rintro e w8 ⟨rfl,rfl⟩
            go_wp2_with fail
            refine(qF _ (br3.trans ((z08 _ _).mono br3.size))).mono ?_
            rintro e w9 h9
            obtain⟨rfl,b9⟩:=h9.yes HR.out
            have HB9:=z00 ((br3.trans ((z08 _ _).mono br3.size)).trans (b9.mono (br3.trans ((z08 _ _).mono br3.size)).size))
            clear h9 b9 qF
            go_wp2
            go_roundw
            case rel=>exact⟨j3+1,by omega,by go_num,HB9.out,z00 (z31 HF.out EZ.out E2.out HCa.out HR.out)⟩
            case measure=>simp[intOf];omega
           ·have qF:=fun W (hW:Below W2.heap.size W2 W)=>z5e (HH2.out.1.below hW) HH2.out.2 EZ.out E2.out hk HCa.out hm
            have HR:=z00 hro
            clear hro
            go_wp2_with fail
            refine(hI0 _).mono ?_
            rintro e w8 ⟨rfl,rfl⟩
            go_wp2_with fail
            refine(qF _ (br3.trans ((z08 _ _).mono br3.size))).mono ?_
            rintro e w9 h9
            obtain⟨rfl,b9⟩:=h9.no HR.out
            have HB9:=z00 ((br3.trans ((z08 _ _).mono br3.size)).trans (b9.mono (br3.trans ((z08 _ _).mono br3.size)).size))
            clear h9 b9 qF
            go_wp2
            go_ret
            exact z0o (fun e=>HR.out (z3e (HP.out.1 e) EZ.out E2.out).2) (HB2.out.trans (HB9.out.mono HB2.out.size))
          ·rw[z2e (by omega)] at hI0
           have HN:=z00 (show ¬ P from fun e=>by obtain⟨z1,e1,e2,e3⟩:=(z3e (HP.out.1 e) EZ.out E2.out).1 rfl;simp only at e1;rw[E0.out] at e1;injection e1 with e1;subst e1;exact hz0 ⟨e2,by simpa using e3⟩)
           clear hz0
           go_wp2_with fail
           refine(hI0 _).mono ?_
           rintro e w8 ⟨rfl,rfl⟩
           go_wp2
           go_ret
           exact z0o HN.out (HB2.out.trans ((br3.trans ((z08 _ _).mono br3.size)).mono HB2.out.size))
        ·have h5b:(kd2==5)=false:=by rw[beq_eq_false_iff_ne];exact h5
         have hca:z3s (qs.map Np.nd) ⟨kd2,tx2,ks2,bl2⟩:=fun e=>absurd e h5
         clear h5
         have HCa:=z00 hca
         clear hca
         by_cases hro:z11 (qs.map Np.nd) ⟨kd2,tx2,ks2,bl2⟩ (z0f 20 j3 ks.length)
         ·have qF:=fun W (hW:Below W2.heap.size W2 W)=>z5e (HH2.out.1.below hW) HH2.out.2 EZ.out E2.out hk HCa.out hm
          have HR:=z00 hro
          clear hro
          go_wp2_with fail
          refine(qF _ (br3.trans ((z08 _ _).mono br3.size))).mono ?_
          rintro e w9 h9
          obtain⟨rfl,b9⟩:=h9.yes HR.out
          have HB9:=z00 ((br3.trans ((z08 _ _).mono br3.size)).trans (b9.mono (br3.trans ((z08 _ _).mono br3.size)).size))
          clear h9 b9 qF
          go_wp2
          go_roundw
          case rel=>exact⟨j3+1,by omega,by go_num,HB9.out,z00 (z31 HF.out EZ.out E2.out HCa.out HR.out)⟩
          case measure=>simp[intOf];omega
         ·have qF:=fun W (hW:Below W2.heap.size W2 W)=>z5e (HH2.out.1.below hW) HH2.out.2 EZ.out E2.out hk HCa.out hm
          have HR:=z00 hro
          clear hro
          go_wp2_with fail
          refine(qF _ (br3.trans ((z08 _ _).mono br3.size))).mono ?_
          rintro e w9 h9
          obtain⟨rfl,b9⟩:=h9.no HR.out
          have HB9:=z00 ((br3.trans ((z08 _ _).mono br3.size)).trans (b9.mono (br3.trans ((z08 _ _).mono br3.size)).size))
          clear h9 b9 qF
          go_wp2
          go_ret
          exact z0o (fun e=>HR.out (z3e (HP.out.1 e) EZ.out E2.out).2) (HB2.out.trans (HB9.out.mono HB2.out.size))
       ·have hC5:¬ (j3:Int)<(ks.length:Int):=by omega
        obtain rfl:j3=ks.length:=by omega
        go_wp2
        go_ret
        exact z12 (HP.out.2 ⟨hk,HCk.out,(fun _=>.inr (.inl rfl)),fun i z h=>HPA.out.1 i z (List.getElem?_eq_some_iff.1 h).1 h,fun i i' z h1 h2 h3=>HPA.out.2 i i' z h1 (List.getElem?_eq_some_iff.1 h3).1 h2 h3,fun i z y h1 h2=>HF.out i z y (List.getElem?_eq_some_iff.1 h1).1 h1 h2⟩) (HB2.out.trans (br3.mono HB2.out.size))
   ·have HE:=z00 (show ¬ z3z 21 by unfold z3z;omega)
    go_wp2_with fail
    refine(hSt _).mono ?_
    rintro e W2 h9
    obtain⟨rfl,rfl⟩:=h9.no HE.out
    clear hSt h9
    go_wp2
    go_loopw [8] (fun i wr=>∃ j:Nat,j≤ks.length∧i=.int .i64 (j:Int)∧Below W2.heap.size W2 wr∧Hid (PlK ks k j)) (fun i _=>ks.length-(intOf i).toNat)
    case atStart=>exact⟨0,Nat.zero_le _,rfl,Below.refl _ _,z00 (z6l ks k)⟩
    case round =>
     clear x1 x2 x3 x4 x5
     obtain⟨j,hj,rfl,br,HPL⟩:=hrel
     obtain⟨x1,x2,x3,x4,x5⟩:=HX2.out.below br
     simp only at x2 x3 x4 x5
     by_cases hlt:j<ks.length
     ·obtain⟨z,ez⟩:∃ z,ks[j]?=some z:=⟨_,List.getElem?_eq_getElem hlt⟩
      obtain⟨kb,hkb,hkbl,ck⟩:=(HH2.out.1.below br).kid HH2.out.2 ez
      simp only at hkb
      subst hkb
      have EZ:=z00 ez
      clear ez
      have hA3:(0:Int)≤(j:Int):=by omega
      have hB3:(j:Int)<(ks.length:Int):=by omega
      have hI:=fun W=>z1g z 0 ((k:Int)-1) W
      by_cases hz:0≤z∧z<(k:Int)
      ·rw[z1i (by omega)] at hI
       have HZ:=z00 hz
       clear hz
       go_wp2_with fail
       refine(hI _).mono ?_
       rintro e wr2 ⟨rfl,rfl⟩
       clear hI
       go_wp2
       go_loopw [9] (fun u wr=>∃ i:Nat,i≤j∧u=.int .i64 (i:Int)∧Below W2.heap.size W2 wr∧Hid (∀ i',i'<i→ks[i']?≠some z)) (fun u _=>j-(intOf u).toNat)
       case atStart=>exact⟨0,Nat.zero_le _,rfl,br,z00 fun i h=>by omega⟩
       case round =>
        clear x1 x2 x3 x4 x5 ck hkbl
        obtain⟨i,hi,rfl,br2,HQ⟩:=hrel
        obtain⟨x1,x2,x3,x4,x5⟩:=HX2.out.below br2
        simp only at x2 x3 x4 x5
        by_cases hil:i<j
        ·obtain⟨u,eu⟩:∃ u,ks[i]?=some u:=⟨_,List.getElem?_eq_getElem (by omega)⟩
         obtain⟨kb1,hkb1,hkbl,ck⟩:=(HH2.out.1.below br2).kid HH2.out.2 EZ.out
         obtain⟨kb2,hkb2,-,ck2⟩:=(HH2.out.1.below br2).kid HH2.out.2 eu
         obtain rfl:kb=kb1:=by injection hkb1 with hkb1;injection hkb1
         obtain rfl:kb=kb2:=by injection hkb2 with hkb2;injection hkb2
         have EU:=z00 eu
         clear eu hkb1 hkb2
         have hA4:(0:Int)≤(i:Int):=by omega
         have hB4:(i:Int)<(ks.length:Int):=by omega
         have hC4:(i:Int)<(j:Int):=by omega
         cases hzu:(z==u) with
         | true =>
           have HN:=z00 (show ¬ P from fun e=>(HP.out.1 e).once i j z hil (by rw[show z=u by simpa using hzu];exact EU.out) EZ.out)
           go_wp2
           go_quiet (fail)
           go_wp2
           go_ret
           exact z0o HN.out (HB2.out.trans ((z1x br2 _).mono HB2.out.size))
         | false =>
           have HE:=z00 (show z≠u from by simpa using hzu)
           go_wp2
           go_quiet (fail)
           go_wp2
           go_roundw
           case rel=>exact⟨i+1,by omega,by go_num,z1x br2 _,z00 fun i' h9 e9=>by
            by_cases e:i'=i
            ·subst e;rw[EU.out] at e9;injection e9 with e9;exact HE.out e9.symm
            ·exact HQ.out i' (by omega) e9⟩
           case measure=>simp[intOf];omega
        ·have hC4:¬ (i:Int)<(j:Int):=by omega
         go_wp2
         go_roundw
         case rel=>exact⟨j+1,by omega,by go_num,br2,z00 (z6m HPL.out EZ.out HZ.out (fun i' h9=>HQ.out i' (by omega)))⟩
         case measure=>simp[intOf];omega
      ·rw[z2e (by omega)] at hI
       have HN:=z00 (show ¬ P from fun e=>hz ((HP.out.1 e).place j z EZ.out))
       clear hz
       go_wp2_with fail
       refine(hI _).mono ?_
       rintro e wr2 ⟨rfl,rfl⟩
       go_wp2
       go_ret
       exact z0o HN.out (HB2.out.trans (br.mono HB2.out.size))
     ·have hC3:¬ (j:Int)<(ks.length:Int):=by omega
      have HPA:=z00 (show PlK ks k ks.length by rw[show ks.length=j by omega];exact HPL.out)
      go_wp2
      go_loopw [10] (fun i wr=>∃ j:Nat,j≤ks.length∧i=.int .i64 (j:Int)∧Below W2.heap.size W2 wr∧Hid (zqk (qs.map Np.nd) 21 ks j)) (fun i _=>ks.length-(intOf i).toNat)
      case atStart=>exact⟨0,Nat.zero_le _,rfl,br,z00 fun i z y h=>by omega⟩
      case round =>
       clear x1 x2 x3 x4 x5
       obtain⟨j3,hj3,rfl,br3,HF⟩:=hrel
       obtain⟨x1,x2,x3,x4,x5⟩:=HX2.out.below br3
       simp only at x2 x3 x4 x5
       by_cases hlt3:j3<ks.length
       ·obtain⟨z,ez⟩:∃ z,ks[j3]?=some z:=⟨_,List.getElem?_eq_getElem hlt3⟩
        have hzr:=HPA.out.1 j3 z hlt3 ez
        obtain⟨zn,rfl⟩:∃ zn:Nat,z=(zn:Int):=⟨z.toNat,by omega⟩
        obtain⟨q2,h2⟩:∃ q2,qs[zn]?=some q2:=⟨_,List.getElem?_eq_getElem (by omega)⟩
        obtain⟨kb,hkb,hkbl,ck⟩:=(HH2.out.1.below br3).kid HH2.out.2 ez
        simp only at hkb
        subst hkb
        obtain⟨b',hbb,hb3,d0,d1,d2,d3⟩:=(HH2.out.1.below br3).node h2
        obtain rfl:b=b':=by injection hbb with hbb;injection hbb
        have EZ:=z00 ez
        have hA3:(0:Int)≤(j3:Int):=by omega
        have hB3:(j3:Int)<(ks.length:Int):=by omega
        have hA5:(0:Int)≤(zn:Int):=by omega
        have hB5:(zn:Int)<(qs.length:Int):=by omega
        obtain⟨⟨kd2,tx2,ks2,bl2⟩,ka2,kc2⟩:=q2
        simp only at d0 d1 d2 d3
        have E2:=z00 h2
        clear ez h2 hbb
        by_cases h5:kd2=5
        ·subst h5
         by_cases hl0:ks2.length=0
         ·have hl1:((ks2.length:Int)==0)=true:=by simp;exact List.eq_nil_of_length_eq_zero hl0
          have HN:=z00 (show ¬ P from fun e=>by obtain⟨z0,e1,-⟩:=(z3e (HP.out.1 e) EZ.out E2.out).1 rfl;simp only at e1;have:=(List.getElem?_eq_some_iff.1 e1).1;omega)
          go_wp2
          go_ret
          exact z0o HN.out (HB2.out.trans ((br3.trans ((z08 _ _).mono br3.size)).mono HB2.out.size))
         ·have hl1:((ks2.length:Int)==0)=false:=by rw[beq_eq_false_iff_ne];omega
          obtain⟨z0,e0⟩:∃ z0,ks2[0]?=some z0:=⟨_,List.getElem?_eq_getElem (by omega)⟩
          obtain⟨kb2,hkb2,hkbl2,ck2⟩:=(HH2.out.1.below br3).kid E2.out e0
          simp only at hkb2
          subst hkb2
          have hB6:(0:Int)<(ks2.length:Int):=by omega
          have hI0:=fun W=>z1g z0 0 ((qs.length:Int)-1) W
          have E0:=z00 e0
          clear e0
          by_cases hz0:0≤z0∧z0<(qs.length:Int)
          ·rw[z1i (by omega)] at hI0
           have hca:z3s (qs.map Np.nd) ⟨5,tx2,ks2,bl2⟩:=fun _=>⟨z0,E0.out,hz0.1,by simpa using hz0.2⟩
           clear hz0
           have HCa:=z00 hca
           clear hca
           by_cases hro:z11 (qs.map Np.nd) ⟨5,tx2,ks2,bl2⟩ (z0f 21 j3 ks.length)
           ·have qF:=fun W (hW:Below W2.heap.size W2 W)=>z5e (HH2.out.1.below hW) HH2.out.2 EZ.out E2.out hk HCa.out hm
            have HR:=z00 hro
            clear hro
            go_wp2_with fail
            refine(hI0 _).mono ?_
            rintro e w8 ⟨rfl,rfl⟩
            go_wp2_with fail
            refine(qF _ (br3.trans ((z08 _ _).mono br3.size))).mono ?_
            rintro e w9 h9
            obtain⟨rfl,b9⟩:=h9.yes HR.out
            have HB9:=z00 ((br3.trans ((z08 _ _).mono br3.size)).trans (b9.mono (br3.trans ((z08 _ _).mono br3.size)).size))
            clear h9 b9 qF
            go_wp2
            go_roundw
            case rel=>exact⟨j3+1,by omega,by go_num,HB9.out,z00 (z31 HF.out EZ.out E2.out HCa.out HR.out)⟩
            case measure=>simp[intOf];omega
           ·have qF:=fun W (hW:Below W2.heap.size W2 W)=>z5e (HH2.out.1.below hW) HH2.out.2 EZ.out E2.out hk HCa.out hm
            have HR:=z00 hro
            clear hro
            go_wp2_with fail
            refine(hI0 _).mono ?_
            rintro e w8 ⟨rfl,rfl⟩
            go_wp2_with fail
            refine(qF _ (br3.trans ((z08 _ _).mono br3.size))).mono ?_
            rintro e w9 h9
            obtain⟨rfl,b9⟩:=h9.no HR.out
            have HB9:=z00 ((br3.trans ((z08 _ _).mono br3.size)).trans (b9.mono (br3.trans ((z08 _ _).mono br3.size)).size))
            clear h9 b9 qF
            go_wp2
            go_ret
            exact z0o (fun e=>HR.out (z3e (HP.out.1 e) EZ.out E2.out).2) (HB2.out.trans (HB9.out.mono HB2.out.size))
          ·rw[z2e (by omega)] at hI0
           have HN:=z00 (show ¬ P from fun e=>by obtain⟨z1,e1,e2,e3⟩:=(z3e (HP.out.1 e) EZ.out E2.out).1 rfl;simp only at e1;rw[E0.out] at e1;injection e1 with e1;subst e1;exact hz0 ⟨e2,by simpa using e3⟩)
           clear hz0
           go_wp2_with fail
           refine(hI0 _).mono ?_
           rintro e w8 ⟨rfl,rfl⟩
           go_wp2
           go_ret
           exact z0o HN.out (HB2.out.trans ((br3.trans ((z08 _ _).mono br3.size)).mono HB2.out.size))
        ·have h5b:(kd2==5)=false:=by rw[beq_eq_false_iff_ne];exact h5
         have hca:z3s (qs.map Np.nd) ⟨kd2,tx2,ks2,bl2⟩:=fun e=>absurd e h5
         clear h5
         have HCa:=z00 hca
         clear hca
         by_cases hro:z11 (qs.map Np.nd) ⟨kd2,tx2,ks2,bl2⟩ (z0f 21 j3 ks.length)
         ·have qF:=fun W (hW:Below W2.heap.size W2 W)=>z5e (HH2.out.1.below hW) HH2.out.2 EZ.out E2.out hk HCa.out hm
          have HR:=z00 hro
          clear hro
          go_wp2_with fail
          refine(qF _ (br3.trans ((z08 _ _).mono br3.size))).mono ?_
          rintro e w9 h9
          obtain⟨rfl,b9⟩:=h9.yes HR.out
          have HB9:=z00 ((br3.trans ((z08 _ _).mono br3.size)).trans (b9.mono (br3.trans ((z08 _ _).mono br3.size)).size))
          clear h9 b9 qF
          go_wp2
          go_roundw
          case rel=>exact⟨j3+1,by omega,by go_num,HB9.out,z00 (z31 HF.out EZ.out E2.out HCa.out HR.out)⟩
          case measure=>simp[intOf];omega
         ·have qF:=fun W (hW:Below W2.heap.size W2 W)=>z5e (HH2.out.1.below hW) HH2.out.2 EZ.out E2.out hk HCa.out hm
          have HR:=z00 hro
          clear hro
          go_wp2_with fail
          refine(qF _ (br3.trans ((z08 _ _).mono br3.size))).mono ?_
          rintro e w9 h9
          obtain⟨rfl,b9⟩:=h9.no HR.out
          have HB9:=z00 ((br3.trans ((z08 _ _).mono br3.size)).trans (b9.mono (br3.trans ((z08 _ _).mono br3.size)).size))
          clear h9 b9 qF
          go_wp2
          go_ret
          exact z0o (fun e=>HR.out (z3e (HP.out.1 e) EZ.out E2.out).2) (HB2.out.trans (HB9.out.mono HB2.out.size))
       ·have hC5:¬ (j3:Int)<(ks.length:Int):=by omega
        obtain rfl:j3=ks.length:=by omega
        go_wp2
        go_ret
        exact z12 (HP.out.2 ⟨hk,HCk.out,(fun _=>.inr (.inr rfl)),fun i z h=>HPA.out.1 i z (List.getElem?_eq_some_iff.1 h).1 h,fun i i' z h1 h2 h3=>HPA.out.2 i i' z h1 (List.getElem?_eq_some_iff.1 h3).1 h2 h3,fun i z y h1 h2=>HF.out i z y (List.getElem?_eq_some_iff.1 h1).1 h1 h2⟩) (HB2.out.trans (br3.mono HB2.out.size))
end Go.Proofs.YtekebloinobjnaaGreatDoor
