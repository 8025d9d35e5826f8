/- Texts of one proof, laid together: SpI12. -/
import Derived.Test.YtekebloinobjnaaGreatDoorC22
set_option maxHeartbeats 16000000
set_option maxRecDepth 100000
namespace Go.Proofs.YtekebloinobjnaaGreatDoor
open Go.RowKit
abbrev zup:Nat:=9
theorem zr2 (n:Nat) (hn:n≤5) (w:World):Calls Tryz.prog 232 #[.int .i64 n] w fun e w'=>zhk (lvM n) zup w e w':=by
 have hB:∀ ob:Obj,Below w.heap.size w (w.alloc ob):=fun ob=>(Below.refl _ _).alloc (Nat.le_refl _) _
 have hn':n=0∨n=1∨n=2∨n=3∨n=4∨n=5:=by omega
 rcases hn' with rfl|rfl|rfl|rfl|rfl|rfl
 ·show Calls _ _ #[.int .i64 0] _ _
  go_enter Tryz.func232,Tryz.ntmps232
  go_wp2
  go_ret
  exact⟨hB _,_,rfl,World.ownsRow_lit w #[.string (⟨#[124,124]⟩:ByteArray)] 1 (Nat.le_refl _) (by decide) rfl⟩
 ·show Calls _ _ #[.int .i64 1] _ _
  go_enter Tryz.func232,Tryz.ntmps232
  go_wp2
  go_ret
  exact⟨hB _,_,rfl,World.ownsRow_lit w #[.string (⟨#[38,38]⟩:ByteArray)] 1 (Nat.le_refl _) (by decide) rfl⟩
 ·show Calls _ _ #[.int .i64 2] _ _
  go_enter Tryz.func232,Tryz.ntmps232
  go_wp2
  go_ret
  exact⟨hB _,_,rfl,World.ownsRow_lit w #[.string (⟨#[61,61]⟩:ByteArray)] 1 (Nat.le_refl _) (by decide) rfl⟩
 ·show Calls _ _ #[.int .i64 3] _ _
  go_enter Tryz.func232,Tryz.ntmps232
  go_wp2
  go_ret
  exact⟨hB _,_,rfl,World.ownsRow_lit w #[.string (⟨#[60]⟩:ByteArray)] 1 (Nat.le_refl _) (by decide) rfl⟩
 ·show Calls _ _ #[.int .i64 4] _ _
  go_enter Tryz.func232,Tryz.ntmps232
  go_wp2
  go_ret
  exact⟨hB _,_,rfl,World.ownsRow_lit w #[.string (⟨#[43]⟩:ByteArray),.string (⟨#[45]⟩:ByteArray)] 2 (Nat.le_refl _) (by decide) rfl⟩
 ·show Calls _ _ #[.int .i64 5] _ _
  go_enter Tryz.func232,Tryz.ntmps232
  go_wp2
  go_ret
  exact⟨hB _,_,rfl,World.ownsRow_lit w #[.string (⟨#[42]⟩:ByteArray)] 1 (Nat.le_refl _) (by decide) rfl⟩
theorem zqh (n:Nat):(lvM n).length≤2:=by
 unfold lvM
 split<;>decide
theorem zj2 (n:Nat) (hn:n≤5) (u:ByteArray) (h:u∈lvM n):ztc.contains u=true:=by
 have hn':n=0∨n=1∨n=2∨n=3∨n=4∨n=5:=by omega
 rcases hn' with rfl|rfl|rfl|rfl|rfl|rfl
 all_goals simp only[lvM,List.mem_cons,List.not_mem_nil,or_false] at h
 all_goals first
  | (subst h;decide)
  | (rcases h with rfl|rfl<;>decide)
def zad (xs:List Sg) (nx:Ps→Rs Nat) (lv f:Nat) (ks:List Int) (t:ByteArray) (q:Option Ps) (o:Option (Nat×Ps)):Prop:=
 match q with
 | none=>o=none
 | some s=>0≤ks.getD 0 0∧spL xs nx lv f ks t s=some o
def ChI (B g:Nat) (xs:List Sg) (A:Nat→Prop) (w:World) (ms:List ByteArray) (mv:Value) (nx:Ps→Rs Nat) (lv:Nat) (o:Option (Nat×Ps)) (F f:Nat) (v tx:Value) (wr:World):Prop:=
 ∃ (ks:List Int) (tt:ByteArray) (q:Option Ps),tx=.string tt∧ks.length+f≤F+1∧1≤ks.length∧wr.ownsRow w.heap.size tI 1 v ks.length (z02 ks)∧SR B g xs (z0g A v) wr q∧Fr B w wr∧wr.ownsRow w.heap.size zup 1 mv ms.length (z0h ms)∧Hid (zad xs nx lv f ks tt q o)
def InI (B g:Nat) (xs:List Sg) (A:Nat→Prop) (ms:List ByteArray) (s1:Ps) (k:Nat) (m:Value) (wi:World):Prop:=
 (m=.string ByteArray.empty∧SR B g xs A wi (some s1)∧∀ (j:Nat) (u:ByteArray),j<k→ms[j]?=some u→txt xs s1.p≠u)∨(m=.string (txt xs s1.p)∧txt xs s1.p∈ms∧SR B g xs A wi (some s1.next))
theorem zbw {ks:List Int} (h:1≤ks.length) (z:Int):(ks++[z]).getD 0 0=ks.getD 0 0:=by
 cases ks with
 | nil=>simp at h
 | cons a b=>rfl
theorem zcb {ks:List Int} (h:ks.length=1):ks=[ks.getD 0 0]:=by
 match ks,h with
 | [a],_=>rfl
theorem zda {t:ByteArray} (h:t≠ByteArray.empty):t.toList.isEmpty=false:=by
 cases e:t.toList with
 | nil =>
   exfalso
   apply h
   apply ByteArray.ext
   apply Array.ext'
   rw[← ByteArray.toList_eq,e]
   rfl
 | cons a b=>rfl
section
variable {B g:Nat} {xs:List Sg} {A:Nat→Prop} {w:World} {t:Option Ps}
theorem zrg {O:Bool→Ps→Rs Nat} {o:Option (Nat×Ps)} (n:Nat) (hn:n≤5) (h:SR B g xs A w t) (hX:xs.length≤3000) (hMk:z3w xs) (hA:∀ b,A b→b<w.heap.size) (hN:zd4 B g xs 218 ((n:Int)+1) (z1o xs O (5-n))) (hr:z60 (z1o xs O (6-n)) t o):Calls Tryz.prog 218 #[.pointer (some ⟨g,0,none⟩),.int .i64 n] w (z0j B g xs A w VNs o):=by
 obtain⟨i0,hi,hz0,hz1,hz2⟩:=info_parts z29
 have hbase:=h.base
 have hL:lim xs≤3001:=by unfold lim;omega
 have hms:∀ u∈lvM n,zfw xs u:=fun u hu=>hMk u (zj2 n hn u hu)
 have hne:∀ u∈lvM n,u≠ByteArray.empty:=fun u hu=>z8o ((zjn n hn u).1 hu) (by omega)
 have e6:6-n=5-n+1:=by omega
 have e7:6-(5-n)=n+1:=by omega
 rw[e6] at hr
 obtain⟨o1,hr1,hx⟩:=z60.bnd (x:=z1o xs O (5-n)) (f:=fun v s1=>chL xs (z1o xs O (5-n)) (6-(5-n)) (lim xs) v s1) hr
 rw[e7] at hx
 have qC:=hN A w t o1 hA h hr1
 have HX0:=z00 hx
 have hn5:(n:Int)≤5:=by omega
 have hn5':¬ (5:Int)<(n:Int):=by omega
 have hw1:IntKind.i64.wrap ((n:Int)+1)=(n:Int)+1:=IntWalk.i64_in _ ⟨by omega,by omega⟩
 clear hr hr1 hx h e6 e7
 go_enter Tryz.func218,Tryz.ntmps218
 go_wp2_with fail
 refine qC.mono ?_
 rintro e w1 ⟨⟨k1,rfl,hk1⟩,S1,F1⟩
 have HS:=z00 S1
 have HF:=z00 F1
 obtain⟨q1,hq1⟩:∃ q1,q1=o1.map (·.2):=⟨_,rfl⟩
 rw[← hq1] at HS
 obtain⟨F,hFb,hFt⟩:∃ F,F≤10000000∧zad xs (z1o xs O (5-n)) (n+1) F [k1] ByteArray.empty q1 o:=by
  have h9:=HX0.out
  rw[hq1]
  match o1,h9,hk1 with
  | none,h9,_=>exact⟨0,by omega,h9⟩
  | some (a,s),h9,hk1 =>
    obtain⟨F,h1,h2⟩:=zn0 (by omega) _ _ _ h9
    have hk:k1=(a:Int):=hk1 a rfl
    subst hk
    refine⟨F,?_,show (0:Int)≤((a:Nat):Int) by omega,h2⟩
    have:(lim xs+3)*lim xs≤3004*3001:=Nat.mul_le_mul (by omega) hL
    omega
 have HR:=z00 hFt
 clear S1 F1 HX0 hq1 qC hk1 hFt
 have Bo:Below w1.heap.size w1 (w1.alloc (.cells #[.int .i64 k1] tI)):=(Below.refl _ _).alloc (Nat.le_refl _) _
 have Ro:SR B g xs (z0g A (.slice (some ⟨w1.heap.size,0,none⟩) 1 1)) (w1.alloc (.cells #[.int .i64 k1] tI)) q1:=(SR.avoid (A':=z0g A (.slice (some ⟨w1.heap.size,0,none⟩) 1 1)) (t:=q1) HS.out (fun k hk=>hk.imp_right (fun e=>by injection e with e;show w1.heap.size≤k;exact Nat.le_of_eq e))).below Bo
 have oo:(w1.alloc (.cells #[.int .i64 k1] tI)).ownsRow w.heap.size tI 1 (.slice (some ⟨w1.heap.size,0,none⟩) 1 1) 1 (z02 [k1]):=World.ownsRow_lit w1 #[.int .i64 k1] 1 HF.out.size (by decide) rfl
 have Fo:=HF.out.trans (Fr.ofB (B:=B) Bo (SR.base (t:=q1) HS.out))
 clear HF HS Bo
 go_wp2_with fail
 refine(zr2 n hn _).mono ?_
 rintro e w2 ⟨B2,mv,rfl,om⟩
 have om:=z01 om Fo.size
 have P2:=z07 oo B2
 have R2:=SR.below (t:=q1) Ro B2
 have F2:=Fo.trans (Fr.ofB (B:=B) B2 Ro.base)
 clear Ro oo Fo B2
 obtain⟨ms,hmse⟩:∃ ms,ms=lvM n:=⟨_,rfl⟩
 rw[← hmse] at om hms hne
 have hmi:∀ u,u∈ms↔lvl u=n+1:=fun u=>by rw[hmse];exact zjn n hn u
 have hm2:ms.length≤2:=by rw[hmse];exact zqh n
 clear hmse
 obtain⟨mo,mc,rfl⟩:=z06 om
 obtain⟨mv,hmv⟩:∃ mv,mv=Value.slice mo ms.length mc:=⟨_,rfl⟩
 have HMI:=z00 (And.intro hmi (And.intro hms hne))
 have HCH:=z00 (show ChI B g xs A w ms (.slice mo ms.length mc) (z1o xs O (5-n)) (n+1) o F F (.slice (some ⟨w1.heap.size,0,none⟩) 1 1) (.string ByteArray.empty) w2 from⟨[k1],ByteArray.empty,q1,rfl,by simp;omega,by simp,P2,R2,F2,om,HR⟩)
 clear P2 R2 F2 om HR hmi hms hne hmv mv
 obtain⟨mv,hmv⟩:∃ mv,mv=Value.slice mo ms.length mc:=⟨_,rfl⟩
 rw[← hmv] at HCH
 have HMV:=z00 hmv
 clear hmv
 go_wp2
 go_loopg [5,6] F (fun f v tx wr=>ChI B g xs A w ms mv (z1o xs O (5-n)) (n+1) o F f v tx wr)
 case atStart=>exact HCH.out
 case round =>
  obtain⟨ks,tt,q,rfl,hf,hk1,P,R,Fx,Mx,HX⟩:=hrel
  clear HCH
  obtain⟨ao,cc,rfl⟩:=z06 P
  have HP:=z00 P
  have HF:=z00 Fx
  have HS:=z00 R
  rw[HMV.out] at Mx
  have HM:=z00 Mx
  clear P Fx R Mx
  have hkl:ks.length≤10000001:=by omega
  match q,HS,HX with
  | none,HS,HX =>
    obtain rfl:o=none:=HX.out
    obtain⟨s1,h1,hd1⟩:=HS.out
    obtain⟨sa,sc,na,nc,-,-,c2,-,-,-⟩:=h1.cells
    clear h1 hd1 HX
    by_cases h1k:ks.length=1
    ·obtain⟨gk1,rfl⟩:=z0s HP.out (by omega)
     have hc:=HP.out.cellAt 0 (by omega)
     rw[show (z02 ks)[0]?=some (.int .i64 (ks.getD 0 0)) by rw[zcb h1k];rfl] at hc
     have h1i:((ks.length:Int)==1)=true:=by rw[h1k];rfl
     have h0l:(0:Int)<(ks.length:Int):=by omega
     have hgl:=(HP.out.lt gk1 rfl).2
     generalize ks.getD 0 0=z at hc
     clear h1k
     go_wp2
     go_ret
     exact⟨⟨z,rfl,fun a ha=>by cases ha⟩,SR.avoid (t:=none) HS.out (fun k hk=>.inl (.inl hk)),HF.out⟩
    ·have h1i:((ks.length:Int)==1)=false:=by rw[beq_eq_false_iff_ne];omega
     clear h1k
     go_wp2_with fail
     refine(z14 (o:=none) 7 tt ks ao cc (SR.avoid (t:=none) HS.out (fun k hk=>.inl (.inl hk))) (z01 HP.out hbase) (fun b hb hb2=>by have h7:=(HP.out.lt b hb).1;have h8:=hA b hb2;omega) rfl).mono ?_
     rintro e we ⟨⟨k9,rfl,hk9⟩,S9,F9⟩
     have HH:=z00 (show z0j B g xs A w VNs none (.returned (.int .i64 k9)) we from⟨⟨k9,rfl,hk9⟩,S9,HF.out.trans F9⟩)
     clear S9 F9 HF HS
     go_wp2
     go_ret
     exact HH.out
  | some s1,HS,HX =>
    obtain⟨h0,hx⟩:0≤ks.getD 0 0∧spL xs (z1o xs O (5-n)) (n+1) gk ks tt s1=some o:=HX.out
    have H0:=z00 h0
    clear HX h0
    cases gk with
    | zero=>exact absurd hx (by simp[spL])
    | succ f =>
      obtain⟨sa,sc,na,nc,-,-,c2,-,-,-⟩:=HS.out.1.cells
      have HX:=z00 hx
      clear hx
      have hEm:ByteArray.empty.toList.isEmpty=true:=by rw[ByteArray.toList_eq];rfl
      go_wp2
      go_loopw [8,9] (fun m i wi=>∃ k:Nat,k≤ms.length∧i=.int .i64 k∧InI B g xs (z0g A (.slice ao ks.length cc)) ms s1 k m wi∧Fr B w wi∧wi.ownsRow w.heap.size tI 1 (.slice ao ks.length cc) ks.length (z02 ks)∧wi.ownsRow w.heap.size zup 1 (.slice mo ms.length mc) ms.length (z0h ms)) (fun _ i _=>ms.length-(intOf i).toNat)
      case atStart=>exact⟨0,Nat.zero_le _,rfl,.inl ⟨rfl,HS.out,fun j u h=>by omega⟩,HF.out,HP.out,HM.out⟩
      case round =>
       obtain⟨k,hk,rfl,hI,Fi,Pi,Mi⟩:=hrel
       clear HS HF HP HM c2
       have HF:=z00 Fi
       have HP:=z00 Pi
       have HM:=z00 Mi
       clear Fi Pi Mi
       by_cases hlt:k<ms.length
       ·obtain⟨u,hu⟩:∃ u,ms[k]?=some u:=⟨_,List.getElem?_eq_getElem hlt⟩
        obtain⟨mg,rfl⟩:=z0s HM.out (by omega)
        have hc:=HM.out.cellAt k (by omega)
        rw[show (z0h ms)[k]?=some (.string u) by simp[z0h,hu]] at hc
        have hgl:=(HM.out.lt mg rfl).2
        have hAk:(0:Int)≤(k:Int):=by omega
        have hBk:(k:Int)<(ms.length:Int):=by omega
        have HU:=z00 hu
        have hum:=List.mem_of_getElem? hu
        clear hu
        rcases hI with⟨rfl,S,hno⟩|⟨rfl,hin,S⟩
        ·have HS:=z00 S
         have HNo:=z00 hno
         clear S hno
         by_cases ht:txt xs s1.p=u
         ·have qY:=z3p (s:=s1) HS.out hX (by rw[z0q (HMI.out.2.1 u hum)];exact decide_eq_true ht)
          have HT:=z00 ht
          clear ht
          go_wp2_with (go_at_call 124;refine qY.mono ?_;rintro e w3 ⟨rfl,S3,F3⟩;have hc3:=((F3.own HM.out (by decide) (by decide) (by decide)).cellAt k (by omega)).trans (show (z0h ms)[k]?=some (.string u) by simp[z0h,HU.out]);have hgl3:=((F3.own HM.out (by decide) (by decide) (by decide)).lt mg rfl).2)
          go_roundw
          case rel=>exact⟨k+1,by omega,by go_num,.inr ⟨by rw[HT.out],by rw[HT.out];exact hum,S3⟩,HF.out.trans F3,F3.ints HP.out,F3.own HM.out (by decide) (by decide) (by decide)⟩
          case measure=>simp[intOf];omega
         ·have qN:=z2c (t:=some s1) (u:=u) HS.out (by rw[z0q (HMI.out.2.1 u hum)];exact decide_eq_false ht)
          have HT:=z00 ht
          clear ht
          go_wp2_with (go_at_call 124;refine qN.mono ?_;rintro e w3 ⟨rfl,B3⟩)
          go_roundw
          case rel=>exact⟨k+1,by omega,by go_num,.inl ⟨rfl,SR.below (t:=some s1) HS.out B3,fun j x hj hx=>by
           by_cases e:j=k
           ·subst e
            have e1:=HU.out
            rw[hx] at e1
            injection e1 with e1
            rw[e1]
            exact HT.out
           ·exact HNo.out j x (by omega) hx⟩,HF.out.trans (Fr.ofB (B:=B) B3 (SR.base (t:=some s1) HS.out)),z07 HP.out B3,z07 HM.out B3⟩
          case measure=>simp[intOf];omega
        ·have hEt:(txt xs s1.p).toList.isEmpty=false:=zda (HMI.out.2.2 _ hin)
         have HS:=z00 S
         clear S
         go_wp2
         go_roundw
         case rel=>exact⟨k+1,by omega,by go_num,.inr ⟨rfl,hin,HS.out⟩,HF.out,HP.out,HM.out⟩
         case measure=>simp[intOf];omega
       ·have hke:k=ms.length:=by omega
        have hltd:¬ (k:Int)<(ms.length:Int):=by omega
        rcases hI with⟨rfl,S,hno⟩|⟨rfl,hin,S⟩
        ·have hl:lvl (txt xs s1.p)≠n+1:=fun e=>by
          obtain⟨j,hj⟩:=List.mem_iff_getElem?.1 ((HMI.out.1 _).2 e)
          exact hno j _ (by have:=(List.getElem?_eq_some_iff.1 hj).1;omega) hj rfl
         have HS:=z00 S
         have hx:=HX.out
         rw[z8g hl] at hx
         clear S hno hke hl HX
         by_cases h1k:ks.length=1
         ·rw[if_pos h1k] at hx
          obtain rfl:some ((ks.getD 0 0).toNat,s1)=o:=by injection hx
          obtain⟨gk1,rfl⟩:=z0s HP.out (by omega)
          have hc:=HP.out.cellAt 0 (by omega)
          rw[show (z02 ks)[0]?=some (.int .i64 (ks.getD 0 0)) by rw[zcb h1k];rfl] at hc
          have h1i:((ks.length:Int)==1)=true:=by rw[h1k];rfl
          have h0l:(0:Int)<(ks.length:Int):=by omega
          have hgl:=(HP.out.lt gk1 rfl).2
          clear hx h1k
          have h0:=H0.out
          obtain⟨z,hz⟩:∃ z,z=ks.getD 0 0:=⟨_,rfl⟩
          rw[← hz] at hc h0
          have HZ2:=z00 hz
          clear hz
          have HZ:=z00 h0
          clear h0 H0
          go_wp2
          go_ret
          exact⟨⟨z,rfl,fun a ha=>by have ha':(ks[0]?.getD 0).toNat=a:=Option.some.inj ha;have h1:=HZ.out;have h2:=HZ2.out;rw[List.getD_eq_getElem?_getD] at h2;rw[← h2] at ha';omega⟩,SR.avoid (t:=some s1) HS.out (fun k hk=>.inl (.inl hk)),HF.out⟩
         ·rw[if_neg h1k] at hx
          have HX:=z00 hx
          have h1i:((ks.length:Int)==1)=false:=by rw[beq_eq_false_iff_ne];omega
          clear h1k hx
          go_wp2_with fail
          refine(z14 (o:=o) 7 tt ks ao cc (SR.avoid (t:=some s1) HS.out (fun k hk=>.inl (.inl hk))) (z01 HP.out hbase) (fun b hb hb2=>by have h7:=(HP.out.lt b hb).1;have h8:=hA b hb2;omega) HX.out).mono ?_
          rintro e we ⟨⟨k9,rfl,hk9⟩,S9,F9⟩
          have HH:=z00 (show z0j B g xs A w VNs _ (.returned (.int .i64 k9)) we from⟨⟨k9,rfl,hk9⟩,S9,HF.out.trans F9⟩)
          clear S9 F9 HF HS
          go_wp2
          go_ret
          exact HH.out
        ·have hl:=(HMI.out.1 _).1 hin
         have hEt:(txt xs s1.p).toList.isEmpty=false:=zda (HMI.out.2.2 _ hin)
         have HS:=z00 S
         have hx:=HX.out
         clear S hke HX hin
         have HM0:=HM.out
         rw[← HMV.out] at HM0
         clear HM
         have HM:=z00 HM0
         clear HM0
         by_cases hte:tt=ByteArray.empty
         ·subst hte
          rw[z49 hl (fun e=>e.1 rfl)] at hx
          have HX:=z00 hx
          clear hx hl
          go_wp2_with fail
          rcases z09 HX.out with⟨h11,rfl⟩|⟨ka,s11,h11,hr11⟩
          ·refine(hN _ _ _ none (z0g.lt hA HF.out.size HP.out) HS.out h11).mono ?_
           rintro e w11 ⟨⟨kax,rfl,-⟩,S11,F11⟩
           clear HX h11
           have o11:=F11.ints HP.out
           have mm11:=F11.own HM.out (by decide) (by decide) (by decide)
           clear HM
           have HM:=z00 mm11
           clear mm11
           have FF11:=HF.out.trans F11
           clear HF HS HP
           have HF:=z00 FF11
           have HS:=z00 S11
           have HP:=z00 o11
           clear FF11 S11 F11 o11
           have hs12:=HF.out.size
           go_wp2_with (at_builtin;refine z04 rfl _ _ 29 rfl w.heap.size 3 i0 _ 1 8 Tryz.underlying29 hi hz0 hz1 hz2 rfl (by decide) (.slice ao ks.length cc) (ks.length) (z02 ks) rfl (HP.out.alloc _) ⟨w11.heap.size,0,none⟩ 1 1 [.int .i64 kax] rfl rfl (cell_one_new _ _ _) (by simp[Value.oneCell']) (by unfold maxLen;omega) (by omega) (by simp;omega) ?_;intro v' w12 hown' hgrow5 hpl5)
           have B12:Below w11.heap.size w11 (w11.alloc (.cells #[.int .i64 kax] tI)):=(Below.refl _ _).alloc (Nat.le_refl _) _
           have FF12:=(HF.out.trans (Fr.ofB (B:=B) B12 (SR.base (t:=none) HS.out))).growI hbase hgrow5 (fun b hb=>(HP.out.lt b hb).1)
           have R12:=(SR.below (t:=none) HS.out B12).growI (A':=z0g A v') (HP.out.alloc _) hgrow5 (fun b hb=>.inr hb) (fun b hb=>by
            rcases hb with hb|hb
            ·exact .inl (.inl hb)
            ·rcases hpl5 b hb with h6|h6
             ·exact .inl (.inr h6)
             ·exact .inr h6)
           have mm12:=(z07 HM.out B12).kept hgrow5 (z0k (z07 HM.out B12) (HP.out.alloc (.cells #[.int .i64 kax] tI)) (by decide))
           clear HM
           have HM:=z00 mm12
           clear mm12
           have o12:=z0c (ks:=ks) (k:=kax) hown' rfl
           clear hown' hgrow5 hpl5 HF HS HP hs12 B12
           obtain⟨ao12,cc12,rfl⟩:=z06 o12
           have HF:=z00 FF12
           have HS:=z00 R12
           have HP:=z00 o12
           clear FF12 R12 o12
           have hlen:(ks++[kax]).length=ks.length+1:=by simp
           have HZ:=z00 (show ChI B g xs A w ms mv (z1o xs O (5-n)) (n+1) none F f (.slice ao12 (ks++[kax]).length cc12) (.string (txt xs s1.p)) w12 from⟨(ks++[kax]),txt xs s1.p,none,rfl,by rw[hlen];omega,by rw[hlen];omega,HP.out,HS.out,HF.out,HM.out,z00 (show zad xs _ _ f _ _ (none) none from rfl)⟩)
           have HLn:=z00 hlen
           clear HP HS HF HM hlen
           go_wp2
           go_roundg f
           case measure=>omega
           case rel=>first|exact HZ.out|(rw[HLn.out] at HZ;exact HZ.out)
          ·refine(hN _ _ _ (some (ka,s11)) (z0g.lt hA HF.out.size HP.out) HS.out h11).mono ?_
           rintro e w11 ⟨⟨kax,rfl,hkax⟩,S11,F11⟩
           obtain rfl:kax=((ka:Nat):Int):=hkax ka rfl
           clear HX
           have HX:=z00 hr11
           clear h11 hr11 hkax
           have o11:=F11.ints HP.out
           have mm11:=F11.own HM.out (by decide) (by decide) (by decide)
           clear HM
           have HM:=z00 mm11
           clear mm11
           have FF11:=HF.out.trans F11
           clear HF HS HP
           have HF:=z00 FF11
           have HS:=z00 S11
           have HP:=z00 o11
           clear FF11 S11 F11 o11
           have hs12:=HF.out.size
           go_wp2_with (at_builtin;refine z04 rfl _ _ 29 rfl w.heap.size 3 i0 _ 1 8 Tryz.underlying29 hi hz0 hz1 hz2 rfl (by decide) (.slice ao ks.length cc) (ks.length) (z02 ks) rfl (HP.out.alloc _) ⟨w11.heap.size,0,none⟩ 1 1 [.int .i64 ((ka:Nat):Int)] rfl rfl (cell_one_new _ _ _) (by simp[Value.oneCell']) (by unfold maxLen;omega) (by omega) (by simp;omega) ?_;intro v' w12 hown' hgrow5 hpl5)
           have B12:Below w11.heap.size w11 (w11.alloc (.cells #[.int .i64 ((ka:Nat):Int)] tI)):=(Below.refl _ _).alloc (Nat.le_refl _) _
           have FF12:=(HF.out.trans (Fr.ofB (B:=B) B12 (SR.base (t:=(some s11)) HS.out))).growI hbase hgrow5 (fun b hb=>(HP.out.lt b hb).1)
           have R12:=(SR.below (t:=(some s11)) HS.out B12).growI (A':=z0g A v') (HP.out.alloc _) hgrow5 (fun b hb=>.inr hb) (fun b hb=>by
            rcases hb with hb|hb
            ·exact .inl (.inl hb)
            ·rcases hpl5 b hb with h6|h6
             ·exact .inl (.inr h6)
             ·exact .inr h6)
           have mm12:=(z07 HM.out B12).kept hgrow5 (z0k (z07 HM.out B12) (HP.out.alloc (.cells #[.int .i64 ((ka:Nat):Int)] tI)) (by decide))
           clear HM
           have HM:=z00 mm12
           clear mm12
           have o12:=z0c (ks:=ks) (k:=((ka:Nat):Int)) hown' rfl
           clear hown' hgrow5 hpl5 HF HS HP hs12 B12
           obtain⟨ao12,cc12,rfl⟩:=z06 o12
           have HF:=z00 FF12
           have HS:=z00 R12
           have HP:=z00 o12
           clear FF12 R12 o12
           have hlen:(ks++[((ka:Nat):Int)]).length=ks.length+1:=by simp
           have HZ:=z00 (show ChI B g xs A w ms mv (z1o xs O (5-n)) (n+1) o F f (.slice ao12 (ks++[((ka:Nat):Int)]).length cc12) (.string (txt xs s1.p)) w12 from⟨(ks++[((ka:Nat):Int)]),txt xs s1.p,some s11,rfl,by rw[hlen];omega,by rw[hlen];omega,HP.out,HS.out,HF.out,HM.out,z00 (show zad xs _ _ f _ _ (some s11) o from⟨by rw[zbw hk1];exact H0.out,HX.out⟩)⟩)
           have HLn:=z00 hlen
           clear HP HS HF HM hlen
           go_wp2
           go_roundg f
           case measure=>omega
           case rel=>first|exact HZ.out|(rw[HLn.out] at HZ;exact HZ.out)
         ·have hEtt:tt.toList.isEmpty=false:=zda hte
          by_cases htm:txt xs s1.p=tt
          ·rw[z49 hl (fun e=>e.2 htm)] at hx
           have HX:=z00 hx
           have hcmp:((txt xs s1.p).toList==tt.toList)=true:=by rw[zae];simpa using htm
           clear hx hl hte htm
           go_wp2_with fail
           rcases z09 HX.out with⟨h11,rfl⟩|⟨ka,s11,h11,hr11⟩
           ·refine(hN _ _ _ none (z0g.lt hA HF.out.size HP.out) HS.out h11).mono ?_
            rintro e w11 ⟨⟨kax,rfl,-⟩,S11,F11⟩
            clear HX h11
            have o11:=F11.ints HP.out
            have mm11:=F11.own HM.out (by decide) (by decide) (by decide)
            clear HM
            have HM:=z00 mm11
            clear mm11
            have FF11:=HF.out.trans F11
            clear HF HS HP
            have HF:=z00 FF11
            have HS:=z00 S11
            have HP:=z00 o11
            clear FF11 S11 F11 o11
            have hs12:=HF.out.size
            go_wp2_with (at_builtin;refine z04 rfl _ _ 29 rfl w.heap.size 3 i0 _ 1 8 Tryz.underlying29 hi hz0 hz1 hz2 rfl (by decide) (.slice ao ks.length cc) (ks.length) (z02 ks) rfl (HP.out.alloc _) ⟨w11.heap.size,0,none⟩ 1 1 [.int .i64 kax] rfl rfl (cell_one_new _ _ _) (by simp[Value.oneCell']) (by unfold maxLen;omega) (by omega) (by simp;omega) ?_;intro v' w12 hown' hgrow5 hpl5)
            have B12:Below w11.heap.size w11 (w11.alloc (.cells #[.int .i64 kax] tI)):=(Below.refl _ _).alloc (Nat.le_refl _) _
            have FF12:=(HF.out.trans (Fr.ofB (B:=B) B12 (SR.base (t:=none) HS.out))).growI hbase hgrow5 (fun b hb=>(HP.out.lt b hb).1)
            have R12:=(SR.below (t:=none) HS.out B12).growI (A':=z0g A v') (HP.out.alloc _) hgrow5 (fun b hb=>.inr hb) (fun b hb=>by
             rcases hb with hb|hb
             ·exact .inl (.inl hb)
             ·rcases hpl5 b hb with h6|h6
              ·exact .inl (.inr h6)
              ·exact .inr h6)
            have mm12:=(z07 HM.out B12).kept hgrow5 (z0k (z07 HM.out B12) (HP.out.alloc (.cells #[.int .i64 kax] tI)) (by decide))
            clear HM
            have HM:=z00 mm12
            clear mm12
            have o12:=z0c (ks:=ks) (k:=kax) hown' rfl
            clear hown' hgrow5 hpl5 HF HS HP hs12 B12
            obtain⟨ao12,cc12,rfl⟩:=z06 o12
            have HF:=z00 FF12
            have HS:=z00 R12
            have HP:=z00 o12
            clear FF12 R12 o12
            have hlen:(ks++[kax]).length=ks.length+1:=by simp
            have HZ:=z00 (show ChI B g xs A w ms mv (z1o xs O (5-n)) (n+1) none F f (.slice ao12 (ks++[kax]).length cc12) (.string (txt xs s1.p)) w12 from⟨(ks++[kax]),txt xs s1.p,none,rfl,by rw[hlen];omega,by rw[hlen];omega,HP.out,HS.out,HF.out,HM.out,z00 (show zad xs _ _ f _ _ (none) none from rfl)⟩)
            have HLn:=z00 hlen
            clear HP HS HF HM hlen
            go_wp2
            go_roundg f
            case measure=>omega
            case rel=>first|exact HZ.out|(rw[HLn.out] at HZ;exact HZ.out)
           ·refine(hN _ _ _ (some (ka,s11)) (z0g.lt hA HF.out.size HP.out) HS.out h11).mono ?_
            rintro e w11 ⟨⟨kax,rfl,hkax⟩,S11,F11⟩
            obtain rfl:kax=((ka:Nat):Int):=hkax ka rfl
            clear HX
            have HX:=z00 hr11
            clear h11 hr11 hkax
            have o11:=F11.ints HP.out
            have mm11:=F11.own HM.out (by decide) (by decide) (by decide)
            clear HM
            have HM:=z00 mm11
            clear mm11
            have FF11:=HF.out.trans F11
            clear HF HS HP
            have HF:=z00 FF11
            have HS:=z00 S11
            have HP:=z00 o11
            clear FF11 S11 F11 o11
            have hs12:=HF.out.size
            go_wp2_with (at_builtin;refine z04 rfl _ _ 29 rfl w.heap.size 3 i0 _ 1 8 Tryz.underlying29 hi hz0 hz1 hz2 rfl (by decide) (.slice ao ks.length cc) (ks.length) (z02 ks) rfl (HP.out.alloc _) ⟨w11.heap.size,0,none⟩ 1 1 [.int .i64 ((ka:Nat):Int)] rfl rfl (cell_one_new _ _ _) (by simp[Value.oneCell']) (by unfold maxLen;omega) (by omega) (by simp;omega) ?_;intro v' w12 hown' hgrow5 hpl5)
            have B12:Below w11.heap.size w11 (w11.alloc (.cells #[.int .i64 ((ka:Nat):Int)] tI)):=(Below.refl _ _).alloc (Nat.le_refl _) _
            have FF12:=(HF.out.trans (Fr.ofB (B:=B) B12 (SR.base (t:=(some s11)) HS.out))).growI hbase hgrow5 (fun b hb=>(HP.out.lt b hb).1)
            have R12:=(SR.below (t:=(some s11)) HS.out B12).growI (A':=z0g A v') (HP.out.alloc _) hgrow5 (fun b hb=>.inr hb) (fun b hb=>by
             rcases hb with hb|hb
             ·exact .inl (.inl hb)
             ·rcases hpl5 b hb with h6|h6
              ·exact .inl (.inr h6)
              ·exact .inr h6)
            have mm12:=(z07 HM.out B12).kept hgrow5 (z0k (z07 HM.out B12) (HP.out.alloc (.cells #[.int .i64 ((ka:Nat):Int)] tI)) (by decide))
            clear HM
            have HM:=z00 mm12
            clear mm12
            have o12:=z0c (ks:=ks) (k:=((ka:Nat):Int)) hown' rfl
            clear hown' hgrow5 hpl5 HF HS HP hs12 B12
            obtain⟨ao12,cc12,rfl⟩:=z06 o12
            have HF:=z00 FF12
            have HS:=z00 R12
            have HP:=z00 o12
            clear FF12 R12 o12
            have hlen:(ks++[((ka:Nat):Int)]).length=ks.length+1:=by simp
            have HZ:=z00 (show ChI B g xs A w ms mv (z1o xs O (5-n)) (n+1) o F f (.slice ao12 (ks++[((ka:Nat):Int)]).length cc12) (.string (txt xs s1.p)) w12 from⟨(ks++[((ka:Nat):Int)]),txt xs s1.p,some s11,rfl,by rw[hlen];omega,by rw[hlen];omega,HP.out,HS.out,HF.out,HM.out,z00 (show zad xs _ _ f _ _ (some s11) o from⟨by rw[zbw hk1];exact H0.out,HX.out⟩)⟩)
            have HLn:=z00 hlen
            clear HP HS HF HM hlen
            go_wp2
            go_roundg f
            case measure=>omega
            case rel=>first|exact HZ.out|(rw[HLn.out] at HZ;exact HZ.out)
          ·rw[z7w hl ⟨hte,htm⟩] at hx
           have HX:=z00 hx
           have hcmp:((txt xs s1.p).toList==tt.toList)=false:=by rw[zae];simpa using htm
           clear hx hl hte htm
           go_wp2_with fail
           rcases z09 HX.out with⟨h21,rfl⟩|⟨kz,s21,h21,hr21⟩
           ·refine(z14 (o:=none) 7 tt ks (ao) cc (SR.avoid (t:=some s1.next) HS.out (fun k hk=>.inl (.inl hk))) (z01 HP.out hbase) (fun b hb hb2=>by have h7:=(HP.out.lt b hb).1;have h8:=hA b hb2;omega) h21).mono ?_
            rintro e w21 ⟨⟨kzx,rfl,-⟩,S21,F21⟩
            clear HX h21 HP
            have mm21:=F21.own HM.out (by decide) (by decide) (by decide)
            clear HM
            have HM:=z00 mm21
            clear mm21
            have FF21:=HF.out.trans F21
            clear HF HS
            have HF:=z00 FF21
            have HS:=z00 S21
            clear FF21 S21 F21
            have B22:Below w21.heap.size w21 (w21.alloc (.cells #[.int .i64 kzx] tI)):=(Below.refl _ _).alloc (Nat.le_refl _) _
            have R22:SR B g xs (z0g A (.slice (some ⟨w21.heap.size,0,none⟩) 1 1)) (w21.alloc (.cells #[.int .i64 kzx] tI)) none:=(SR.avoid (A':=z0g A (.slice (some ⟨w21.heap.size,0,none⟩) 1 1)) (t:=none) HS.out (fun k hk=>hk.imp_right (fun e=>by injection e with e;show w21.heap.size≤k;exact Nat.le_of_eq e))).below B22
            have o22:(w21.alloc (.cells #[.int .i64 kzx] tI)).ownsRow w.heap.size tI 1 (.slice (some ⟨w21.heap.size,0,none⟩) 1 1) 1 (z02 [kzx]):=World.ownsRow_lit w21 #[.int .i64 kzx] 1 HF.out.size (by decide) rfl
            have FF22:=HF.out.trans (Fr.ofB (B:=B) B22 (SR.base (t:=none) HS.out))
            have mm22:=z07 HM.out B22
            clear HM
            have HM:=z00 mm22
            clear mm22
            clear HF HS
            have HF:=z00 FF22
            have HS:=z00 R22
            have HP:=z00 o22
            clear FF22 R22 o22 B22
            go_wp2_with fail
            refine(hN _ _ _ none (z0g.lt hA HF.out.size HP.out) HS.out rfl).mono ?_
            rintro e w23 ⟨⟨kax,rfl,-⟩,S23,F23⟩
            have o23:=F23.ints HP.out
            have mm23:=F23.own HM.out (by decide) (by decide) (by decide)
            clear HM
            have HM:=z00 mm23
            clear mm23
            have FF23:=HF.out.trans F23
            clear HF HS HP
            have HF:=z00 FF23
            have HS:=z00 S23
            have HP:=z00 o23
            clear FF23 S23 F23 o23
            have hs24:=HF.out.size
            go_wp2_with (at_builtin;refine z04 rfl _ _ 29 rfl w.heap.size 3 i0 _ 1 8 Tryz.underlying29 hi hz0 hz1 hz2 rfl (by decide) (.slice (some ⟨w21.heap.size,0,none⟩) 1 1) (1) (z02 [kzx]) rfl (HP.out.alloc _) ⟨w23.heap.size,0,none⟩ 1 1 [.int .i64 kax] rfl rfl (cell_one_new _ _ _) (by simp[Value.oneCell']) (by unfold maxLen;omega) (by omega) (by simp;omega) ?_;intro v' w24 hown' hgrow5 hpl5)
            have B24:Below w23.heap.size w23 (w23.alloc (.cells #[.int .i64 kax] tI)):=(Below.refl _ _).alloc (Nat.le_refl _) _
            have FF24:=(HF.out.trans (Fr.ofB (B:=B) B24 (SR.base (t:=none) HS.out))).growI hbase hgrow5 (fun b hb=>(HP.out.lt b hb).1)
            have R24:=(SR.below (t:=none) HS.out B24).growI (A':=z0g A v') (HP.out.alloc _) hgrow5 (fun b hb=>.inr hb) (fun b hb=>by
             rcases hb with hb|hb
             ·exact .inl (.inl hb)
             ·rcases hpl5 b hb with h6|h6
              ·exact .inl (.inr h6)
              ·exact .inr h6)
            have mm24:=(z07 HM.out B24).kept hgrow5 (z0k (z07 HM.out B24) (HP.out.alloc (.cells #[.int .i64 kax] tI)) (by decide))
            clear HM
            have HM:=z00 mm24
            clear mm24
            have o24:=z0c (ks:=[kzx]) (k:=kax) hown' rfl
            clear hown' hgrow5 hpl5 HF HS HP hs24 B24
            obtain⟨ao24,cc24,rfl⟩:=z06 o24
            have HF:=z00 FF24
            have HS:=z00 R24
            have HP:=z00 o24
            clear FF24 R24 o24
            have hlen:([kzx]++[kax]).length=2:=by simp
            have HZ:=z00 (show ChI B g xs A w ms mv (z1o xs O (5-n)) (n+1) none F f (.slice ao24 ([kzx]++[kax]).length cc24) (.string (txt xs s1.p)) w24 from⟨([kzx]++[kax]),txt xs s1.p,none,rfl,by rw[hlen];omega,by rw[hlen];omega,HP.out,HS.out,HF.out,HM.out,z00 (show zad xs _ _ f _ _ (none) none from rfl)⟩)
            have HLn:=z00 hlen
            clear HP HS HF HM hlen
            go_wp2
            go_roundg f
            case measure=>omega
            case rel=>first|exact HZ.out|(rw[HLn.out] at HZ;exact HZ.out)
           ·refine(z14 (o:=(some (kz,s21))) 7 tt ks (ao) cc (SR.avoid (t:=some s1.next) HS.out (fun k hk=>.inl (.inl hk))) (z01 HP.out hbase) (fun b hb hb2=>by have h7:=(HP.out.lt b hb).1;have h8:=hA b hb2;omega) h21).mono ?_
            rintro e w21 ⟨⟨kzx,rfl,hkzx⟩,S21,F21⟩
            obtain rfl:kzx=((kz:Nat):Int):=hkzx kz rfl
            clear HX
            have HX:=z00 hr21
            clear h21 hr21 hkzx
            clear HP
            have mm21:=F21.own HM.out (by decide) (by decide) (by decide)
            clear HM
            have HM:=z00 mm21
            clear mm21
            have FF21:=HF.out.trans F21
            clear HF HS
            have HF:=z00 FF21
            have HS:=z00 S21
            clear FF21 S21 F21
            have B22:Below w21.heap.size w21 (w21.alloc (.cells #[.int .i64 ((kz:Nat):Int)] tI)):=(Below.refl _ _).alloc (Nat.le_refl _) _
            have R22:SR B g xs (z0g A (.slice (some ⟨w21.heap.size,0,none⟩) 1 1)) (w21.alloc (.cells #[.int .i64 ((kz:Nat):Int)] tI)) (some s21):=(SR.avoid (A':=z0g A (.slice (some ⟨w21.heap.size,0,none⟩) 1 1)) (t:=(some s21)) HS.out (fun k hk=>hk.imp_right (fun e=>by injection e with e;show w21.heap.size≤k;exact Nat.le_of_eq e))).below B22
            have o22:(w21.alloc (.cells #[.int .i64 ((kz:Nat):Int)] tI)).ownsRow w.heap.size tI 1 (.slice (some ⟨w21.heap.size,0,none⟩) 1 1) 1 (z02 [((kz:Nat):Int)]):=World.ownsRow_lit w21 #[.int .i64 ((kz:Nat):Int)] 1 HF.out.size (by decide) rfl
            have FF22:=HF.out.trans (Fr.ofB (B:=B) B22 (SR.base (t:=(some s21)) HS.out))
            have mm22:=z07 HM.out B22
            clear HM
            have HM:=z00 mm22
            clear mm22
            clear HF HS
            have HF:=z00 FF22
            have HS:=z00 R22
            have HP:=z00 o22
            clear FF22 R22 o22 B22
            go_wp2_with fail
            rcases z09 HX.out with⟨h23,rfl⟩|⟨ka,s23,h23,hr23⟩
            ·refine(hN _ _ _ none (z0g.lt hA HF.out.size HP.out) HS.out h23).mono ?_
             rintro e w23 ⟨⟨kax,rfl,-⟩,S23,F23⟩
             clear HX h23
             have o23:=F23.ints HP.out
             have mm23:=F23.own HM.out (by decide) (by decide) (by decide)
             clear HM
             have HM:=z00 mm23
             clear mm23
             have FF23:=HF.out.trans F23
             clear HF HS HP
             have HF:=z00 FF23
             have HS:=z00 S23
             have HP:=z00 o23
             clear FF23 S23 F23 o23
             have hs24:=HF.out.size
             go_wp2_with (at_builtin;refine z04 rfl _ _ 29 rfl w.heap.size 3 i0 _ 1 8 Tryz.underlying29 hi hz0 hz1 hz2 rfl (by decide) (.slice (some ⟨w21.heap.size,0,none⟩) 1 1) (1) (z02 [((kz:Nat):Int)]) rfl (HP.out.alloc _) ⟨w23.heap.size,0,none⟩ 1 1 [.int .i64 kax] rfl rfl (cell_one_new _ _ _) (by simp[Value.oneCell']) (by unfold maxLen;omega) (by omega) (by simp;omega) ?_;intro v' w24 hown' hgrow5 hpl5)
             have B24:Below w23.heap.size w23 (w23.alloc (.cells #[.int .i64 kax] tI)):=(Below.refl _ _).alloc (Nat.le_refl _) _
             have FF24:=(HF.out.trans (Fr.ofB (B:=B) B24 (SR.base (t:=none) HS.out))).growI hbase hgrow5 (fun b hb=>(HP.out.lt b hb).1)
             have R24:=(SR.below (t:=none) HS.out B24).growI (A':=z0g A v') (HP.out.alloc _) hgrow5 (fun b hb=>.inr hb) (fun b hb=>by
              rcases hb with hb|hb
              ·exact .inl (.inl hb)
              ·rcases hpl5 b hb with h6|h6
               ·exact .inl (.inr h6)
               ·exact .inr h6)
             have mm24:=(z07 HM.out B24).kept hgrow5 (z0k (z07 HM.out B24) (HP.out.alloc (.cells #[.int .i64 kax] tI)) (by decide))
             clear HM
             have HM:=z00 mm24
             clear mm24
             have o24:=z0c (ks:=[((kz:Nat):Int)]) (k:=kax) hown' rfl
             clear hown' hgrow5 hpl5 HF HS HP hs24 B24
             obtain⟨ao24,cc24,rfl⟩:=z06 o24
             have HF:=z00 FF24
             have HS:=z00 R24
             have HP:=z00 o24
             clear FF24 R24 o24
             have hlen:([((kz:Nat):Int)]++[kax]).length=2:=by simp
             have HZ:=z00 (show ChI B g xs A w ms mv (z1o xs O (5-n)) (n+1) none F f (.slice ao24 ([((kz:Nat):Int)]++[kax]).length cc24) (.string (txt xs s1.p)) w24 from⟨([((kz:Nat):Int)]++[kax]),txt xs s1.p,none,rfl,by rw[hlen];omega,by rw[hlen];omega,HP.out,HS.out,HF.out,HM.out,z00 (show zad xs _ _ f _ _ (none) none from rfl)⟩)
             have HLn:=z00 hlen
             clear HP HS HF HM hlen
             go_wp2
             go_roundg f
             case measure=>omega
             case rel=>first|exact HZ.out|(rw[HLn.out] at HZ;exact HZ.out)
            ·refine(hN _ _ _ (some (ka,s23)) (z0g.lt hA HF.out.size HP.out) HS.out h23).mono ?_
             rintro e w23 ⟨⟨kax,rfl,hkax⟩,S23,F23⟩
             obtain rfl:kax=((ka:Nat):Int):=hkax ka rfl
             clear HX
             have HX:=z00 hr23
             clear h23 hr23 hkax
             have o23:=F23.ints HP.out
             have mm23:=F23.own HM.out (by decide) (by decide) (by decide)
             clear HM
             have HM:=z00 mm23
             clear mm23
             have FF23:=HF.out.trans F23
             clear HF HS HP
             have HF:=z00 FF23
             have HS:=z00 S23
             have HP:=z00 o23
             clear FF23 S23 F23 o23
             have hs24:=HF.out.size
             go_wp2_with (at_builtin;refine z04 rfl _ _ 29 rfl w.heap.size 3 i0 _ 1 8 Tryz.underlying29 hi hz0 hz1 hz2 rfl (by decide) (.slice (some ⟨w21.heap.size,0,none⟩) 1 1) (1) (z02 [((kz:Nat):Int)]) rfl (HP.out.alloc _) ⟨w23.heap.size,0,none⟩ 1 1 [.int .i64 ((ka:Nat):Int)] rfl rfl (cell_one_new _ _ _) (by simp[Value.oneCell']) (by unfold maxLen;omega) (by omega) (by simp;omega) ?_;intro v' w24 hown' hgrow5 hpl5)
             have B24:Below w23.heap.size w23 (w23.alloc (.cells #[.int .i64 ((ka:Nat):Int)] tI)):=(Below.refl _ _).alloc (Nat.le_refl _) _
             have FF24:=(HF.out.trans (Fr.ofB (B:=B) B24 (SR.base (t:=(some s23)) HS.out))).growI hbase hgrow5 (fun b hb=>(HP.out.lt b hb).1)
             have R24:=(SR.below (t:=(some s23)) HS.out B24).growI (A':=z0g A v') (HP.out.alloc _) hgrow5 (fun b hb=>.inr hb) (fun b hb=>by
              rcases hb with hb|hb
              ·exact .inl (.inl hb)
              ·rcases hpl5 b hb with h6|h6
               ·exact .inl (.inr h6)
               ·exact .inr h6)
             have mm24:=(z07 HM.out B24).kept hgrow5 (z0k (z07 HM.out B24) (HP.out.alloc (.cells #[.int .i64 ((ka:Nat):Int)] tI)) (by decide))
             clear HM
             have HM:=z00 mm24
             clear mm24
             have o24:=z0c (ks:=[((kz:Nat):Int)]) (k:=((ka:Nat):Int)) hown' rfl
             clear hown' hgrow5 hpl5 HF HS HP hs24 B24
             obtain⟨ao24,cc24,rfl⟩:=z06 o24
             have HF:=z00 FF24
             have HS:=z00 R24
             have HP:=z00 o24
             clear FF24 R24 o24
             have hlen:([((kz:Nat):Int)]++[((ka:Nat):Int)]).length=2:=by simp
             have HZ:=z00 (show ChI B g xs A w ms mv (z1o xs O (5-n)) (n+1) o F f (.slice ao24 ([((kz:Nat):Int)]++[((ka:Nat):Int)]).length cc24) (.string (txt xs s1.p)) w24 from⟨([((kz:Nat):Int)]++[((ka:Nat):Int)]),txt xs s1.p,some s23,rfl,by rw[hlen];omega,by rw[hlen];omega,HP.out,HS.out,HF.out,HM.out,z00 (show zad xs _ _ f _ _ (some s23) o from⟨by show (0:Int)≤((kz:Nat):Int);omega,HX.out⟩)⟩)
             have HLn:=z00 hlen
             clear HP HS HF HM hlen
             go_wp2
             go_roundg f
             case measure=>omega
             case rel=>first|exact HZ.out|(rw[HLn.out] at HZ;exact HZ.out)
end
end Go.Proofs.YtekebloinobjnaaGreatDoor
