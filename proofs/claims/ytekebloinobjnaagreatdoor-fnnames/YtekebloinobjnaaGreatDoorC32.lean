/- Texts of one proof, laid together: SpI20. -/
import Derived.Test.YtekebloinobjnaaGreatDoorC30
import Derived.Test.YtekebloinobjnaaGreatDoorC31
import Derived.Test.YtekebloinobjnaaGreatDoorC06
set_option maxHeartbeats 16000000
set_option maxRecDepth 100000
namespace Go.Proofs.YtekebloinobjnaaGreatDoor
open Go.RowKit
theorem zkc {w w':World} {b e z n B:Nat} {v:Value} {l:List Value} (h:w.ownsRow b e z v n l) (hb:Below B w w') (hv:∀ k,v.ownBlock=some k→k<B):w'.ownsRow b e z v n l:=by
 refine⟨h.1,?_⟩
 rcases h.2 with hn|⟨g,cap,cur,e1,e2,e3,rest⟩
 ·exact .inl hn
 ·exact .inr ⟨g,cap,cur,e1,e2,(hb.block g (hv g (by rw[e1];rfl))).trans e3,rest⟩
theorem zck {w w':World} {b k B:Nat} (h:Nds w b (some ⟨k,0,none⟩) 0 []) (hb:Below B w w') (hk:k<B):Nds w' b (some ⟨k,0,none⟩) 0 []:=⟨zkc h.row hb (fun j hj=>by injection hj with hj;have:k=j:=hj;omega),fun q hq=>by cases hq⟩
theorem z5d {b B:Nat} {w:World} {na:Option Addr} {nc:Nat} {qs:List Np} (h:Nds w B na nc qs) (hb:b≤B):Nds w b na nc qs:=⟨z01 h.row hb,fun q hq=>z01 (h.each q hq) hb⟩
theorem zds {b:Nat} {w:World} {na:Option Addr} {nc:Nat} {qs:List Np} (h:Nds w b na nc qs) (q:Nat):Nds (w.drewN q) b na nc qs:=h.below (z0e w q)
def zbz (K:Nat):Prop:=∀ (B:Nat) (W:World) (a:Option Addr) (c:Nat) (qs:List Np),Nds W B a c qs→(∀ q∈qs,SafeNd q.nd)→qs.length≤300→Calls Tryz.prog K #[.slice a qs.length c] W fun e w'=>zag (TreeP (qs.map Np.nd)) W e w'
theorem zd2 (t:ByteArray) (w0:World) (hs:t.size≤4194304) (hTree:zbz 24):Calls Tryz.prog 47 #[.string t] w0 (zi0 t w0):=by
 obtain⟨i0,hi,hz0,hz1,hz2⟩:=info_parts z29
 obtain⟨xs,hxs⟩:∃ xs,xs=(sgn t).1:=⟨_,rfl⟩
 have hok:=zme t
 rw[← hxs] at hok
 have hX:xs.length≤3000:=hok.2
 have hM:=zlg hok.1
 have hWd:=zlv hok.1
 have hNe:∀ p,p<xs.length→txt xs p≠ByteArray.empty:=fun p hp e=>by
  have h1:=(hok.1 xs[p] (List.getElem_mem _)).some
  unfold txt at e
  rw[List.getElem?_eq_getElem hp] at e
  have e':xs[p].text=ByteArray.empty:=e
  rw[e'] at h1
  simp at h1
 have hL:lim xs≤3001:=by unfold lim;omega
 obtain⟨pl,hpl⟩:∃ pl:Nat,pl=(sgn t).2.1:=⟨_,rfl⟩
 obtain⟨ok,hoke⟩:∃ ok:Bool,ok=(sgn t).2.2:=⟨_,rfl⟩
 have hSp:=fun W hW=>zf8 t W hW
 unfold zgy at hSp
 rw[← hxs,← hpl,← hoke] at hSp
 have HK:=z00 (And.intro hpl (And.intro hoke hxs))
 clear hpl hoke hok hxs
 obtain⟨W0,hW0⟩:∃ W0,W0=w0.alloc (.cells #[] 56):=⟨_,rfl⟩
 have N0:=zlj w0 w0.heap.size (Nat.le_refl _)
 have B0:Below w0.heap.size w0 W0:=by rw[hW0];exact(Below.refl _ _).alloc (Nat.le_refl _) _
 have z0:W0.heap.size=w0.heap.size+1:=by rw[hW0];simp
 rw[← hW0] at N0
 go_enter Tryz.func47,Tryz.ntmps47
 go_wp2_with fail
 rw[← hW0]
 clear hW0
 refine(hSp _ hs).mono ?_
 rintro e w1 ⟨hb1,v,rfl,hv⟩
 clear hSp
 have N1:=N0.below hb1
 have B1:=B0.trans (hb1.mono B0.size)
 clear N0 B0
 obtain⟨va,vc,rfl⟩:=z06 hv
 cases ok with
 | false =>
   have HNo:=z00 (show ¬ z8t t from fun e=>by have h1:=e.1;rw[← HK.out.2.1] at h1;cases h1)
   have HN:=z00 N1
   have HB:=z00 B1
   clear N1 B1 hv
   go_wp2
   go_ret3
   exact z9q HN.out HB.out HNo.out
 | true =>
   obtain⟨B,hBe⟩:∃ B,B=W0.heap.size:=⟨_,rfl⟩
   rw[← hBe] at hv hb1
   have hk0:w0.heap.size<B:=by omega
   have hBw:w0.heap.size≤B:=by omega
   have hB1:B≤w1.heap.size:=hb1.size |> fun h=>by rw[hBe];exact h
   obtain⟨g,hge⟩:∃ g,g=w1.heap.size:=⟨_,rfl⟩
   obtain⟨w,hwe⟩:∃ w,w=w1.alloc (.cells #[.slice va xs.length vc,.int .i64 0,.bool false,.int .i64 0,.slice none 0 0] tSp):=⟨_,rfl⟩
   have bw:Below w1.heap.size w1 w:=by rw[hwe];exact(Below.refl _ _).alloc (Nat.le_refl _) _
   have hvw:=z07 hv bw
   have hrow:w.heap[g]?=some (.cells #[.slice va xs.length vc,.int .i64 0,.bool false,.int .i64 0,.slice none 0 0] tSp (0,0)):=by rw[hwe,hge];exact heap_alloc_new w1 _
   obtain⟨A,hAe⟩:∃ A:Nat→Prop,A=fun _=>False:=⟨_,rfl⟩
   have hA:∀ b,A b→b<w.heap.size:=fun b hb=>by rw[hAe] at hb;exact hb.elim
   have S0:SR B g xs A w (some ⟨0,0,[]⟩):=⟨⟨by omega,Nat.zero_le _,Nat.zero_le _,va,vc,none,0,[],0,hrow,hvw,⟨World.ownsRow_nil _ _ _ _,(fun q hq=>by cases hq)⟩,rfl,(fun q hq=>by cases hq),fun _=>rfl⟩,Nat.zero_le _⟩
   have hbase:B≤w.heap.size:=Nat.le_trans hB1 bw.size
   have HB0:=z00 (B1.trans (bw.mono (by omega)))
   have HN0:=z00 (N1.below bw)
   have HV:=z00 hvw
   have HK0:=z00 (show (sgn t).2.2=true from HK.out.2.1.symm)
   have hfo:∃ o,zai xs=some o:=by
    cases hq:zai xs with
    | none=>exact absurd hq (zls (xs:=xs)).told
    | some o=>exact⟨o,rfl⟩
   obtain⟨o,hro⟩:=hfo
   have hro2:=hro
   rw[HK.out.2.2] at hro2
   have HR0:=z00 hro2
   have HX:=z00 (show bnd (z3v xs (z2x xs) ByteArray.empty (lim xs) [] ⟨0,0,[]⟩) (fun ks s2=>z0z 22 ByteArray.empty ks s2)=some o from hro)
   have hV:=z6x (B:=B) (g:=g) hX hM
   have hBk:=zva (B:=B) (g:=g) hX hM hWd
   have hMb:zcy B g xs 88 false (z2k xs):=fun _ _ _ _ hA h hr=>zth h hX hM hWd hA hV hBk hr
   have hFm:zcy B g xs 88 true (z2x xs):=fun _ _ _ _ hA h hr=>zto h hX hM hWd hA hV hBk hMb zdb hr
   have hSm:=zps (xs:=xs)
   have HF:=z00 (Fr.refl B w)
   have HS:=z00 S0
   have HSz:=z00 (show w.heap.size=g+1 by rw[hwe,hge];simp)
   have HWe:=z00 hwe
   have HGe:=z00 hge
   obtain⟨d0,hd1⟩:∃ d0,0=d0:=⟨_,rfl⟩
   have HD1:=z00 hd1
   clear hv hvw hrow S0 N1 B1 hb1 bw hro hro2 hwe hge hBe hAe hV hBk hMb z0 hd1
   have B1:Below w.heap.size w (w.alloc (.cells #[] tI)):=(Below.refl _ _).alloc (Nat.le_refl _) _
   have R1:SR B g xs (z0g A (.slice (some ⟨w.heap.size,0,none⟩) 0 0)) (w.alloc (.cells #[] tI)) (some ⟨0,0,[]⟩):=(SR.avoid (A':=z0g A (.slice (some ⟨w.heap.size,0,none⟩) 0 0)) (t:=(some ⟨0,0,[]⟩)) HS.out (fun k hk=>hk.imp_right (fun e=>by injection e with e;show w.heap.size≤k;exact Nat.le_of_eq e))).below B1
   have o1:(w.alloc (.cells #[] tI)).ownsRow w.heap.size tI 1 (.slice (some ⟨w.heap.size,0,none⟩) 0 0) 0 (z02 ([]:List Int)):=World.ownsRow_lit w #[] 0 HF.out.size (by decide) rfl
   have FF1:=HF.out.trans (Fr.ofB (B:=B) B1 (SR.base (t:=(some ⟨0,0,[]⟩)) HS.out))
   clear HF HS
   have HF:=z00 FF1
   have HS:=z00 R1
   have HP:=z00 o1
   clear FF1 R1 o1 B1
   have HTB:=z00 (show z1p xs (z2x xs) ByteArray.empty (fun ks s2=>z0z 22 ByteArray.empty ks s2) d0 (lim xs) [] (some ⟨0,0,[]⟩) o from⟨HD1.out,HX.out⟩)
   obtain⟨v0,hv0⟩:∃ v0,v0=Value.slice (some ⟨w.heap.size,0,none⟩) 0 0:=⟨_,rfl⟩
   rw[← hv0] at HP HS
   rw[HSz.out] at hv0
   clear HX
   go_wp2
   rw[← HWe.out,← HGe.out]
   rw[← hv0]
   clear hv0
   go_loopg [10] (lim xs) (fun f kv wr=>∃ (ks:List Int) (q:Option Ps),f+ks.length=lim xs∧wr.ownsRow w.heap.size tI 1 kv ks.length (z02 ks)∧SR B g xs (z0g A kv) wr q∧Fr B w wr∧Hid (z1p xs (z2x xs) ByteArray.empty (fun ks s2=>z0z 22 ByteArray.empty ks s2) d0 f ks q o))
   case atStart=>exact⟨[],some ⟨0,0,[]⟩,by simp,HP.out,HS.out,HF.out,HTB⟩
   case round =>
    obtain⟨ks,q,hf,P,R,Fx,HX⟩:=hrel
    clear HP HS HF HTB
    obtain⟨ao,cc,rfl⟩:=z06 P
    have HP:=z00 P
    have HF:=z00 Fx
    have HS:=z00 R
    clear P R Fx
    have hkl:ks.length≤3001:=by omega
    match q,HS,HX with
    | none,HS,HX =>
      obtain rfl:o=none:=HX.out
      obtain⟨s9,h9,hd9⟩:=HS.out
      obtain⟨sa,sc,na,nc,-,-,c2,-,-,-⟩:=h9.cells
      clear h9 hd9 HX
      go_wp2_with fail
      refine(z14 (o:=none) 22 ByteArray.empty ks (ao) cc (SR.avoid (t:=none) HS.out (fun k hk=>.inl (.inl hk))) (z01 HP.out hbase) (fun b hb hb2=>by have h7:=(HP.out.lt b hb).1;have h8:=hA b hb2;omega) rfl).mono ?_
      rintro e we ⟨⟨k9,rfl,-⟩,S9,F9⟩
      have HNo:=z00 (zaw (t:=t) HR0.out)
      have FF9:=HF.out.trans F9
      clear HF HS HP F9
      obtain⟨s8,h8,hd8⟩:=S9
      obtain⟨sa8,sc8,na8,nc8,-,c18,c28,-,-,-⟩:=h8.cells
      have hp8:=h8.pos
      have hg8:=h8.lt
      have hv8:=FF9.own HV.out (by decide) (by decide) (by decide)
      have HB8:=z00 (HB0.out.trans (FF9.bel.mono hBw))
      have HN8:=z00 (zck HN0.out FF9.bel hk0)
      have hp8i:(s8.p:Int)≤3000:=by omega
      clear h8 hd8 FF9
      by_cases hat:s8.p<xs.length
      ·obtain⟨vb,rfl⟩:=z0s hv8 (by omega)
       have hvl:=(hv8.lt vb rfl).2
       obtain⟨x8,hx8⟩:∃ x,xs[s8.p]?=some x:=⟨_,List.getElem?_eq_getElem hat⟩
       have hc8:=(hv8.cellAt (s8.p*4+2) (by omega)).trans (z62 xs s8.p x8 hx8 2 (by omega))
       have hat1:(s8.p:Int)<(xs.length:Int):=by omega
       have hat0:(0:Int)≤(s8.p:Int):=by omega
       have hc9:we.cell? ⟨vb,s8.p*4+2,none⟩=some (.int .i64 x8.place):=hc8
       clear hv8 hx8 hc8
       go_wp2
       go_quiet (fail)
       go_wp2
       go_ret3
       exact z9q (zds HN8.out _) (z1x HB8.out _) HNo.out
      ·have hat1:¬ (s8.p:Int)<(xs.length:Int):=by omega
       clear hv8
       go_wp2
       go_ret3
       exact z9q HN8.out HB8.out HNo.out
    | some s1,HS,HX =>
      obtain⟨hd0,hx⟩:s1.d=d0∧bnd (z3v xs (z2x xs) ByteArray.empty gk ks s1) (fun ks s2=>z0z 22 ByteArray.empty ks s2)=some o:=HX.out
      have HD0:=z00 hd0
      clear HX hd0
      cases gk with
      | zero=>exact absurd hx (by simp[z3v,bnd])
      | succ f =>
        rw[z3v] at hx
        obtain⟨sa,sc,na,nc,-,c1,c2,-,-,-⟩:=HS.out.1.cells
        have hps:=HS.out.1.pos
        by_cases ht:txt xs s1.p=ByteArray.empty
        ·rw[if_pos ht,z1a] at hx
         have hlt:¬ (s1.p:Int)<(xs.length:Int):=fun e=>hNe s1.p (by omega) ht
         have HX:=z00 hx
         clear hx ht
         go_wp2_with fail
         refine(z14 (o:=o) (t:=some s1) 22 ByteArray.empty ks (ao) cc (SR.avoid (t:=some s1) HS.out (fun k hk=>.inl (.inl hk))) (z01 HP.out hbase) (fun b hb hb2=>by have h7:=(HP.out.lt b hb).1;have h8:=hA b hb2;omega) HX.out).mono ?_
         rintro e we ⟨⟨k9,rfl,-⟩,S9,F9⟩
         have FF9:=HF.out.trans F9
         clear HF HS HP F9 HX hlt hps c1 c2 HD0
         match o,S9,HR0 with
         | none,S9,HR0 =>
           have HNo:=z00 (zaw (t:=t) HR0.out)
           obtain⟨s8,h8,hd8⟩:=S9
           obtain⟨sa8,sc8,na8,nc8,-,c18,c28,-,-,-⟩:=h8.cells
           have hp8:=h8.pos
           have hg8:=h8.lt
           have hv8:=FF9.own HV.out (by decide) (by decide) (by decide)
           have HB8:=z00 (HB0.out.trans (FF9.bel.mono hBw))
           have HN8:=z00 (zck HN0.out FF9.bel hk0)
           have hp8i:(s8.p:Int)≤3000:=by omega
           clear h8 hd8 FF9
           by_cases hat:s8.p<xs.length
           ·obtain⟨vb,rfl⟩:=z0s hv8 (by omega)
            have hvl:=(hv8.lt vb rfl).2
            obtain⟨x8,hx8⟩:∃ x,xs[s8.p]?=some x:=⟨_,List.getElem?_eq_getElem hat⟩
            have hc8:=(hv8.cellAt (s8.p*4+2) (by omega)).trans (z62 xs s8.p x8 hx8 2 (by omega))
            have hat1:(s8.p:Int)<(xs.length:Int):=by omega
            have hat0:(0:Int)≤(s8.p:Int):=by omega
            have hc9:we.cell? ⟨vb,s8.p*4+2,none⟩=some (.int .i64 x8.place):=hc8
            clear hv8 hx8 hc8
            go_wp2
            go_quiet (fail)
            go_wp2
            go_ret3
            exact z9q (zds HN8.out _) (z1x HB8.out _) HNo.out
           ·have hat1:¬ (s8.p:Int)<(xs.length:Int):=by omega
            clear hv8
            go_wp2
            go_ret3
            exact z9q HN8.out HB8.out HNo.out
         | some (k5,s5),S9,HR0 =>
           obtain⟨h8,hd8⟩:=(show SR B g xs A we (some s5) from S9)
           have hfew:=h8.few
           obtain⟨sa8,sc8,na8,nc8,qs8,dv8,hrow8,-,hnd8,hmap8,-,-⟩:=h8.mem
           have hql:s5.ns.length=qs8.length:=by rw[← hmap8];simp
           rw[hql] at hrow8
           have c28:=cell_of_row we g 2 _ _ _ hrow8
           have c48:=cell_of_row we g 4 _ _ _ hrow8
           have hg8:=h8.lt
           have hsafe:∀ q∈qs8,SafeNd q.nd:=fun q hq=>zi2 (zn3 t) k5 s5 HR0.out q.nd (by rw[← hmap8];exact List.mem_map.2 ⟨q,hq,rfl⟩)
           have qT:=hTree B we na8 nc8 qs8 hnd8 hsafe (by omega)
           rw[hmap8] at qT
           have HQ:=z00 (And.intro hnd8 hmap8)
           have HB8:=z00 (HB0.out.trans (FF9.bel.mono hBw))
           have HN8:=z00 (zck HN0.out FF9.bel hk0)
           have HRo:=z00 (zf0 HK0.out HR0.out)
           have HNo:=z00 (z8p HR0.out)
           clear h8 hd8 hrow8 hnd8 hmap8 hsafe FF9 S9 hql
           by_cases hTP:TreeP s5.ns
           ·have HTP:=z00 (HRo.out.2 hTP)
            go_wp2_with fail
            refine qT.mono ?_
            rintro e wf hf9
            obtain⟨rfl,hbf⟩:=hf9.yes hTP
            have c48f:=(hbf.cell (p:=⟨g,4,none⟩) hg8).trans c48
            have hg9:g<wf.heap.size:=Nat.lt_of_lt_of_le hg8 hbf.size
            clear qT hTP
            go_wp2
            go_ret3
            exact⟨na8,nc8,qs8,0,true,rfl,z5d (HQ.out.1.below hbf) hBw,HB8.out.trans (hbf.mono HB8.out.size),⟨fun _=>HTP.out,fun _=>rfl⟩,fun _=>HQ.out.2.trans HNo.out.symm,fun e=>by cases e⟩
           ·have HTP:=z00 (show ¬ z8t t from fun e=>hTP (HRo.out.1 e))
            go_wp2_with fail
            refine qT.mono ?_
            rintro e wf hf9
            obtain⟨rfl,hbf⟩:=hf9.no hTP
            clear qT hTP
            go_wp2
            go_ret3
            exact z9q (HN8.out.below hbf) (HB8.out.trans (hbf.mono HB8.out.size)) HTP.out
        ·rw[if_neg ht,z1y] at hx
         have hlt:(s1.p:Int)<(xs.length:Int):=by
          have:s1.p<xs.length:=by
           rcases Nat.lt_or_ge s1.p xs.length with h7|h7
           ·exact h7
           ·exact absurd (za2 h7) ht
          omega
         have HX:=z00 hx
         clear hx ht
         go_wp2_with fail
         clear hlt c1 hps c2
         refine(zgl (t:=some s1) HS.out).mono ?_
         rintro e w3 ⟨⟨bb,rfl,hbb⟩,m3,hm3⟩
         have B3:Below wr.heap.size wr w3:=by rw[hm3];exact z0a _ _
         clear hm3
         have S3:=SR.below (t:=(some s1)) HS.out B3
         have FF3:=HF.out.trans (Fr.ofB (B:=B) B3 (SR.base (t:=(some s1)) HS.out))
         have o3:=z07 HP.out B3
         clear HF HS HP
         have HF:=z00 FF3
         have HS:=z00 S3
         have HP:=z00 o3
         clear FF3 S3 B3 o3
         have hbk:bb=blk xs s1.p:=hbb s1 rfl
         clear hbb
         cases bb with
         | false =>
           have hbl:(blk xs s1.p&&decide (0<ks.length))=false:=by rw[← hbk];rfl
           clear hbk
           have hx:=HX.out
           simp only[hbl] at hx
           clear HX
           have HX:=z00 hx
           clear hx hbl
           go_wp2_with fail
           rcases z09 HX.out with⟨h4,rfl⟩|⟨k,s4,h4,hr4⟩
           ·refine(hFm _ _ _ none (z0g.lt hA HF.out.size HP.out) HS.out h4).mono ?_
            rintro e w4 ⟨⟨kx,rfl,-⟩,S4,F4⟩
            clear HX h4
            have o4:=F4.ints HP.out
            have FF4:=HF.out.trans F4
            clear HF HS HP
            have HF:=z00 FF4
            have HS:=z00 S4
            have HP:=z00 o4
            clear FF4 S4 F4 o4
            go_wp2_with fail
            refine(z2n kx false HS.out).mono ?_
            rintro e w5 ⟨rfl,S5,F5⟩
            have o5:=F5.ints HP.out
            have FF5:=HF.out.trans F5
            clear HF HS HP
            have HF:=z00 FF5
            have HS:=z00 S5
            have HP:=z00 o5
            clear FF5 S5 F5 o5
            have hs6:=HF.out.size
            go_wp2_with (at_builtin;refine z04 rfl _ _ 29 rfl w.heap.size 3 i0 _ 1 8 Tryz.underlying29 hi hz0 hz1 hz2 rfl (by decide) (.slice ao ks.length cc) (ks.length) (z02 ks) rfl (HP.out.alloc _) ⟨w5.heap.size,0,none⟩ 1 1 [.int .i64 kx] rfl rfl (cell_one_new _ _ _) (by simp[Value.oneCell']) (by unfold maxLen;omega) (by omega) (by simp;omega) ?_;intro v' w6 hown' hgrow5 hpl5)
            have B6:Below w5.heap.size w5 (w5.alloc (.cells #[.int .i64 kx] tI)):=(Below.refl _ _).alloc (Nat.le_refl _) _
            have FF6:=(HF.out.trans (Fr.ofB (B:=B) B6 (SR.base (t:=none) HS.out))).growI hbase hgrow5 (fun b hb=>(HP.out.lt b hb).1)
            have R6:=(SR.below (t:=none) HS.out B6).growI (A':=z0g A v') (HP.out.alloc _) hgrow5 (fun b hb=>.inr hb) (fun b hb=>by
             rcases hb with hb|hb
             ·exact .inl (.inl hb)
             ·rcases hpl5 b hb with h6|h6
              ·exact .inl (.inr h6)
              ·exact .inr h6)
            have o6:=z0c (ks:=ks) (k:=kx) hown' rfl
            clear hown' hgrow5 hpl5 HF HS HP hs6 B6
            obtain⟨ao6,cc6,rfl⟩:=z06 o6
            have HF:=z00 FF6
            have HS:=z00 R6
            have HP:=z00 o6
            clear FF6 R6 o6
            have hlen:(ks++[kx]).length=ks.length+1:=by simp
            have HZ:=z00 (show ∃ (ls:List Int) (q:Option Ps),f+ls.length=lim xs∧w6.ownsRow w.heap.size tI 1 (.slice ao6 (ks++[kx]).length cc6) ls.length (z02 ls)∧SR B g xs (z0g A (.slice ao6 (ks++[kx]).length cc6)) w6 q∧Fr B w w6∧Hid (z1p xs (z2x xs) ByteArray.empty (fun ks s2=>z0z 22 ByteArray.empty ks s2) d0 f ls q none) from⟨(ks++[kx]),none,by rw[hlen];omega,HP.out,HS.out,HF.out,z00 (show z1p xs (z2x xs) ByteArray.empty (fun ks s2=>z0z 22 ByteArray.empty ks s2) d0 f _ none none from rfl)⟩)
            have HLn:=z00 hlen
            clear HP HS HF hlen
            go_wp2
            go_roundg f
            case measure=>omega
            case rel=>first|exact HZ.out|(rw[HLn.out] at HZ;exact HZ.out)
           ·refine(hFm _ _ _ (some (k,s4)) (z0g.lt hA HF.out.size HP.out) HS.out h4).mono ?_
            rintro e w4 ⟨⟨kx,rfl,hkx⟩,S4,F4⟩
            obtain rfl:kx=((k:Nat):Int):=hkx k rfl
            have HD:=z00 (hSm _ _ _ h4)
            clear HX
            have HX:=z00 hr4
            clear h4 hr4 hkx
            have o4:=F4.ints HP.out
            have FF4:=HF.out.trans F4
            clear HF HS HP
            have HF:=z00 FF4
            have HS:=z00 S4
            have HP:=z00 o4
            clear FF4 S4 F4 o4
            go_wp2_with fail
            refine(z2o k false (s:=s4) HS.out).mono ?_
            rintro e w5 ⟨rfl,S5,F5⟩
            have o5:=F5.ints HP.out
            have FF5:=HF.out.trans F5
            clear HF HS HP
            have HF:=z00 FF5
            have HS:=z00 S5
            have HP:=z00 o5
            clear FF5 S5 F5 o5
            have hs6:=HF.out.size
            go_wp2_with (at_builtin;refine z04 rfl _ _ 29 rfl w.heap.size 3 i0 _ 1 8 Tryz.underlying29 hi hz0 hz1 hz2 rfl (by decide) (.slice ao ks.length cc) (ks.length) (z02 ks) rfl (HP.out.alloc _) ⟨w5.heap.size,0,none⟩ 1 1 [.int .i64 ((k:Nat):Int)] rfl rfl (cell_one_new _ _ _) (by simp[Value.oneCell']) (by unfold maxLen;omega) (by omega) (by simp;omega) ?_;intro v' w6 hown' hgrow5 hpl5)
            have B6:Below w5.heap.size w5 (w5.alloc (.cells #[.int .i64 ((k:Nat):Int)] tI)):=(Below.refl _ _).alloc (Nat.le_refl _) _
            have FF6:=(HF.out.trans (Fr.ofB (B:=B) B6 (SR.base (t:=(some (z19 s4 k false))) HS.out))).growI hbase hgrow5 (fun b hb=>(HP.out.lt b hb).1)
            have R6:=(SR.below (t:=(some (z19 s4 k false))) HS.out B6).growI (A':=z0g A v') (HP.out.alloc _) hgrow5 (fun b hb=>.inr hb) (fun b hb=>by
             rcases hb with hb|hb
             ·exact .inl (.inl hb)
             ·rcases hpl5 b hb with h6|h6
              ·exact .inl (.inr h6)
              ·exact .inr h6)
            have o6:=z0c (ks:=ks) (k:=((k:Nat):Int)) hown' rfl
            clear hown' hgrow5 hpl5 HF HS HP hs6 B6
            obtain⟨ao6,cc6,rfl⟩:=z06 o6
            have HF:=z00 FF6
            have HS:=z00 R6
            have HP:=z00 o6
            clear FF6 R6 o6
            have hlen:(ks++[((k:Nat):Int)]).length=ks.length+1:=by simp
            have HZ:=z00 (show ∃ (ls:List Int) (q:Option Ps),f+ls.length=lim xs∧w6.ownsRow w.heap.size tI 1 (.slice ao6 (ks++[((k:Nat):Int)]).length cc6) ls.length (z02 ls)∧SR B g xs (z0g A (.slice ao6 (ks++[((k:Nat):Int)]).length cc6)) w6 q∧Fr B w w6∧Hid (z1p xs (z2x xs) ByteArray.empty (fun ks s2=>z0z 22 ByteArray.empty ks s2) d0 f ls q o) from⟨(ks++[((k:Nat):Int)]),some (z19 s4 k false),by rw[hlen];omega,HP.out,HS.out,HF.out,z00 (show z1p xs (z2x xs) ByteArray.empty (fun ks s2=>z0z 22 ByteArray.empty ks s2) d0 f _ (some (z19 s4 k false)) o from⟨(show _=_ from HD.out).trans HD0.out,HX.out⟩)⟩)
            have HLn:=z00 hlen
            clear HP HS HF hlen
            go_wp2
            go_roundg f
            case measure=>omega
            case rel=>first|exact HZ.out|(rw[HLn.out] at HZ;exact HZ.out)
         | true =>
           by_cases h0k:ks.length=0
           ·have hbl:(blk xs s1.p&&decide (0<ks.length))=false:=by rw[h0k,Bool.and_eq_false_iff];right;decide
            have hgt:¬ (0:Int)<(ks.length:Int):=by omega
            have hgd:decide ((0:Int)<(ks.length:Int))=false:=decide_eq_false hgt
            have hgn:decide (0<ks.length)=false:=decide_eq_false (by omega)
            clear hbk h0k
            have hx:=HX.out
            simp only[hbl] at hx
            clear HX
            have HX:=z00 hx
            clear hx hbl
            go_wp2_with fail
            rcases z09 HX.out with⟨h4,rfl⟩|⟨k,s4,h4,hr4⟩
            ·refine(hFm _ _ _ none (z0g.lt hA HF.out.size HP.out) HS.out h4).mono ?_
             rintro e w4 ⟨⟨kx,rfl,-⟩,S4,F4⟩
             clear HX h4
             have o4:=F4.ints HP.out
             have FF4:=HF.out.trans F4
             clear HF HS HP
             have HF:=z00 FF4
             have HS:=z00 S4
             have HP:=z00 o4
             clear FF4 S4 F4 o4
             go_wp2_with fail
             refine(z2n kx false HS.out).mono ?_
             rintro e w5 ⟨rfl,S5,F5⟩
             have o5:=F5.ints HP.out
             have FF5:=HF.out.trans F5
             clear HF HS HP
             have HF:=z00 FF5
             have HS:=z00 S5
             have HP:=z00 o5
             clear FF5 S5 F5 o5
             have hs6:=HF.out.size
             go_wp2_with (at_builtin;refine z04 rfl _ _ 29 rfl w.heap.size 3 i0 _ 1 8 Tryz.underlying29 hi hz0 hz1 hz2 rfl (by decide) (.slice ao ks.length cc) (ks.length) (z02 ks) rfl (HP.out.alloc _) ⟨w5.heap.size,0,none⟩ 1 1 [.int .i64 kx] rfl rfl (cell_one_new _ _ _) (by simp[Value.oneCell']) (by unfold maxLen;omega) (by omega) (by simp;omega) ?_;intro v' w6 hown' hgrow5 hpl5)
             have B6:Below w5.heap.size w5 (w5.alloc (.cells #[.int .i64 kx] tI)):=(Below.refl _ _).alloc (Nat.le_refl _) _
             have FF6:=(HF.out.trans (Fr.ofB (B:=B) B6 (SR.base (t:=none) HS.out))).growI hbase hgrow5 (fun b hb=>(HP.out.lt b hb).1)
             have R6:=(SR.below (t:=none) HS.out B6).growI (A':=z0g A v') (HP.out.alloc _) hgrow5 (fun b hb=>.inr hb) (fun b hb=>by
              rcases hb with hb|hb
              ·exact .inl (.inl hb)
              ·rcases hpl5 b hb with h6|h6
               ·exact .inl (.inr h6)
               ·exact .inr h6)
             have o6:=z0c (ks:=ks) (k:=kx) hown' rfl
             clear hown' hgrow5 hpl5 HF HS HP hs6 B6
             obtain⟨ao6,cc6,rfl⟩:=z06 o6
             have HF:=z00 FF6
             have HS:=z00 R6
             have HP:=z00 o6
             clear FF6 R6 o6
             have hlen:(ks++[kx]).length=ks.length+1:=by simp
             have HZ:=z00 (show ∃ (ls:List Int) (q:Option Ps),f+ls.length=lim xs∧w6.ownsRow w.heap.size tI 1 (.slice ao6 (ks++[kx]).length cc6) ls.length (z02 ls)∧SR B g xs (z0g A (.slice ao6 (ks++[kx]).length cc6)) w6 q∧Fr B w w6∧Hid (z1p xs (z2x xs) ByteArray.empty (fun ks s2=>z0z 22 ByteArray.empty ks s2) d0 f ls q none) from⟨(ks++[kx]),none,by rw[hlen];omega,HP.out,HS.out,HF.out,z00 (show z1p xs (z2x xs) ByteArray.empty (fun ks s2=>z0z 22 ByteArray.empty ks s2) d0 f _ none none from rfl)⟩)
             have HLn:=z00 hlen
             clear HP HS HF hlen
             go_wp2
             go_roundg f
             case measure=>omega
             case rel=>first|exact HZ.out|(rw[HLn.out] at HZ;exact HZ.out)
            ·refine(hFm _ _ _ (some (k,s4)) (z0g.lt hA HF.out.size HP.out) HS.out h4).mono ?_
             rintro e w4 ⟨⟨kx,rfl,hkx⟩,S4,F4⟩
             obtain rfl:kx=((k:Nat):Int):=hkx k rfl
             have HD:=z00 (hSm _ _ _ h4)
             clear HX
             have HX:=z00 hr4
             clear h4 hr4 hkx
             have o4:=F4.ints HP.out
             have FF4:=HF.out.trans F4
             clear HF HS HP
             have HF:=z00 FF4
             have HS:=z00 S4
             have HP:=z00 o4
             clear FF4 S4 F4 o4
             go_wp2_with fail
             refine(z2o k false (s:=s4) HS.out).mono ?_
             rintro e w5 ⟨rfl,S5,F5⟩
             have o5:=F5.ints HP.out
             have FF5:=HF.out.trans F5
             clear HF HS HP
             have HF:=z00 FF5
             have HS:=z00 S5
             have HP:=z00 o5
             clear FF5 S5 F5 o5
             have hs6:=HF.out.size
             go_wp2_with (at_builtin;refine z04 rfl _ _ 29 rfl w.heap.size 3 i0 _ 1 8 Tryz.underlying29 hi hz0 hz1 hz2 rfl (by decide) (.slice ao ks.length cc) (ks.length) (z02 ks) rfl (HP.out.alloc _) ⟨w5.heap.size,0,none⟩ 1 1 [.int .i64 ((k:Nat):Int)] rfl rfl (cell_one_new _ _ _) (by simp[Value.oneCell']) (by unfold maxLen;omega) (by omega) (by simp;omega) ?_;intro v' w6 hown' hgrow5 hpl5)
             have B6:Below w5.heap.size w5 (w5.alloc (.cells #[.int .i64 ((k:Nat):Int)] tI)):=(Below.refl _ _).alloc (Nat.le_refl _) _
             have FF6:=(HF.out.trans (Fr.ofB (B:=B) B6 (SR.base (t:=(some (z19 s4 k false))) HS.out))).growI hbase hgrow5 (fun b hb=>(HP.out.lt b hb).1)
             have R6:=(SR.below (t:=(some (z19 s4 k false))) HS.out B6).growI (A':=z0g A v') (HP.out.alloc _) hgrow5 (fun b hb=>.inr hb) (fun b hb=>by
              rcases hb with hb|hb
              ·exact .inl (.inl hb)
              ·rcases hpl5 b hb with h6|h6
               ·exact .inl (.inr h6)
               ·exact .inr h6)
             have o6:=z0c (ks:=ks) (k:=((k:Nat):Int)) hown' rfl
             clear hown' hgrow5 hpl5 HF HS HP hs6 B6
             obtain⟨ao6,cc6,rfl⟩:=z06 o6
             have HF:=z00 FF6
             have HS:=z00 R6
             have HP:=z00 o6
             clear FF6 R6 o6
             have hlen:(ks++[((k:Nat):Int)]).length=ks.length+1:=by simp
             have HZ:=z00 (show ∃ (ls:List Int) (q:Option Ps),f+ls.length=lim xs∧w6.ownsRow w.heap.size tI 1 (.slice ao6 (ks++[((k:Nat):Int)]).length cc6) ls.length (z02 ls)∧SR B g xs (z0g A (.slice ao6 (ks++[((k:Nat):Int)]).length cc6)) w6 q∧Fr B w w6∧Hid (z1p xs (z2x xs) ByteArray.empty (fun ks s2=>z0z 22 ByteArray.empty ks s2) d0 f ls q o) from⟨(ks++[((k:Nat):Int)]),some (z19 s4 k false),by rw[hlen];omega,HP.out,HS.out,HF.out,z00 (show z1p xs (z2x xs) ByteArray.empty (fun ks s2=>z0z 22 ByteArray.empty ks s2) d0 f _ (some (z19 s4 k false)) o from⟨(show _=_ from HD.out).trans HD0.out,HX.out⟩)⟩)
             have HLn:=z00 hlen
             clear HP HS HF hlen
             go_wp2
             go_roundg f
             case measure=>omega
             case rel=>first|exact HZ.out|(rw[HLn.out] at HZ;exact HZ.out)
           ·have hbl:(blk xs s1.p&&decide (0<ks.length))=true:=by rw[← hbk,Bool.true_and];exact decide_eq_true (by omega)
            have hgt:(0:Int)<(ks.length:Int):=by omega
            have hgd:decide ((0:Int)<(ks.length:Int))=true:=decide_eq_true hgt
            have hgn:decide (0<ks.length)=true:=decide_eq_true (by omega)
            clear hbk h0k
            have hx:=HX.out
            simp only[hbl] at hx
            clear HX
            have HX:=z00 hx
            clear hx hbl
            go_wp2_with fail
            rcases z09 HX.out with⟨h4,rfl⟩|⟨k,s4,h4,hr4⟩
            ·refine(hFm _ _ _ none (z0g.lt hA HF.out.size HP.out) HS.out h4).mono ?_
             rintro e w4 ⟨⟨kx,rfl,-⟩,S4,F4⟩
             clear HX h4
             have o4:=F4.ints HP.out
             have FF4:=HF.out.trans F4
             clear HF HS HP
             have HF:=z00 FF4
             have HS:=z00 S4
             have HP:=z00 o4
             clear FF4 S4 F4 o4
             go_wp2_with fail
             refine(z2n kx true HS.out).mono ?_
             rintro e w5 ⟨rfl,S5,F5⟩
             have o5:=F5.ints HP.out
             have FF5:=HF.out.trans F5
             clear HF HS HP
             have HF:=z00 FF5
             have HS:=z00 S5
             have HP:=z00 o5
             clear FF5 S5 F5 o5
             have hs6:=HF.out.size
             go_wp2_with (at_builtin;refine z04 rfl _ _ 29 rfl w.heap.size 3 i0 _ 1 8 Tryz.underlying29 hi hz0 hz1 hz2 rfl (by decide) (.slice ao ks.length cc) (ks.length) (z02 ks) rfl (HP.out.alloc _) ⟨w5.heap.size,0,none⟩ 1 1 [.int .i64 kx] rfl rfl (cell_one_new _ _ _) (by simp[Value.oneCell']) (by unfold maxLen;omega) (by omega) (by simp;omega) ?_;intro v' w6 hown' hgrow5 hpl5)
             have B6:Below w5.heap.size w5 (w5.alloc (.cells #[.int .i64 kx] tI)):=(Below.refl _ _).alloc (Nat.le_refl _) _
             have FF6:=(HF.out.trans (Fr.ofB (B:=B) B6 (SR.base (t:=none) HS.out))).growI hbase hgrow5 (fun b hb=>(HP.out.lt b hb).1)
             have R6:=(SR.below (t:=none) HS.out B6).growI (A':=z0g A v') (HP.out.alloc _) hgrow5 (fun b hb=>.inr hb) (fun b hb=>by
              rcases hb with hb|hb
              ·exact .inl (.inl hb)
              ·rcases hpl5 b hb with h6|h6
               ·exact .inl (.inr h6)
               ·exact .inr h6)
             have o6:=z0c (ks:=ks) (k:=kx) hown' rfl
             clear hown' hgrow5 hpl5 HF HS HP hs6 B6
             obtain⟨ao6,cc6,rfl⟩:=z06 o6
             have HF:=z00 FF6
             have HS:=z00 R6
             have HP:=z00 o6
             clear FF6 R6 o6
             have hlen:(ks++[kx]).length=ks.length+1:=by simp
             have HZ:=z00 (show ∃ (ls:List Int) (q:Option Ps),f+ls.length=lim xs∧w6.ownsRow w.heap.size tI 1 (.slice ao6 (ks++[kx]).length cc6) ls.length (z02 ls)∧SR B g xs (z0g A (.slice ao6 (ks++[kx]).length cc6)) w6 q∧Fr B w w6∧Hid (z1p xs (z2x xs) ByteArray.empty (fun ks s2=>z0z 22 ByteArray.empty ks s2) d0 f ls q none) from⟨(ks++[kx]),none,by rw[hlen];omega,HP.out,HS.out,HF.out,z00 (show z1p xs (z2x xs) ByteArray.empty (fun ks s2=>z0z 22 ByteArray.empty ks s2) d0 f _ none none from rfl)⟩)
             have HLn:=z00 hlen
             clear HP HS HF hlen
             go_wp2
             go_roundg f
             case measure=>omega
             case rel=>first|exact HZ.out|(rw[HLn.out] at HZ;exact HZ.out)
            ·refine(hFm _ _ _ (some (k,s4)) (z0g.lt hA HF.out.size HP.out) HS.out h4).mono ?_
             rintro e w4 ⟨⟨kx,rfl,hkx⟩,S4,F4⟩
             obtain rfl:kx=((k:Nat):Int):=hkx k rfl
             have HD:=z00 (hSm _ _ _ h4)
             clear HX
             have HX:=z00 hr4
             clear h4 hr4 hkx
             have o4:=F4.ints HP.out
             have FF4:=HF.out.trans F4
             clear HF HS HP
             have HF:=z00 FF4
             have HS:=z00 S4
             have HP:=z00 o4
             clear FF4 S4 F4 o4
             go_wp2_with fail
             refine(z2o k true (s:=s4) HS.out).mono ?_
             rintro e w5 ⟨rfl,S5,F5⟩
             have o5:=F5.ints HP.out
             have FF5:=HF.out.trans F5
             clear HF HS HP
             have HF:=z00 FF5
             have HS:=z00 S5
             have HP:=z00 o5
             clear FF5 S5 F5 o5
             have hs6:=HF.out.size
             go_wp2_with (at_builtin;refine z04 rfl _ _ 29 rfl w.heap.size 3 i0 _ 1 8 Tryz.underlying29 hi hz0 hz1 hz2 rfl (by decide) (.slice ao ks.length cc) (ks.length) (z02 ks) rfl (HP.out.alloc _) ⟨w5.heap.size,0,none⟩ 1 1 [.int .i64 ((k:Nat):Int)] rfl rfl (cell_one_new _ _ _) (by simp[Value.oneCell']) (by unfold maxLen;omega) (by omega) (by simp;omega) ?_;intro v' w6 hown' hgrow5 hpl5)
             have B6:Below w5.heap.size w5 (w5.alloc (.cells #[.int .i64 ((k:Nat):Int)] tI)):=(Below.refl _ _).alloc (Nat.le_refl _) _
             have FF6:=(HF.out.trans (Fr.ofB (B:=B) B6 (SR.base (t:=(some (z19 s4 k true))) HS.out))).growI hbase hgrow5 (fun b hb=>(HP.out.lt b hb).1)
             have R6:=(SR.below (t:=(some (z19 s4 k true))) HS.out B6).growI (A':=z0g A v') (HP.out.alloc _) hgrow5 (fun b hb=>.inr hb) (fun b hb=>by
              rcases hb with hb|hb
              ·exact .inl (.inl hb)
              ·rcases hpl5 b hb with h6|h6
               ·exact .inl (.inr h6)
               ·exact .inr h6)
             have o6:=z0c (ks:=ks) (k:=((k:Nat):Int)) hown' rfl
             clear hown' hgrow5 hpl5 HF HS HP hs6 B6
             obtain⟨ao6,cc6,rfl⟩:=z06 o6
             have HF:=z00 FF6
             have HS:=z00 R6
             have HP:=z00 o6
             clear FF6 R6 o6
             have hlen:(ks++[((k:Nat):Int)]).length=ks.length+1:=by simp
             have HZ:=z00 (show ∃ (ls:List Int) (q:Option Ps),f+ls.length=lim xs∧w6.ownsRow w.heap.size tI 1 (.slice ao6 (ks++[((k:Nat):Int)]).length cc6) ls.length (z02 ls)∧SR B g xs (z0g A (.slice ao6 (ks++[((k:Nat):Int)]).length cc6)) w6 q∧Fr B w w6∧Hid (z1p xs (z2x xs) ByteArray.empty (fun ks s2=>z0z 22 ByteArray.empty ks s2) d0 f ls q o) from⟨(ks++[((k:Nat):Int)]),some (z19 s4 k true),by rw[hlen];omega,HP.out,HS.out,HF.out,z00 (show z1p xs (z2x xs) ByteArray.empty (fun ks s2=>z0z 22 ByteArray.empty ks s2) d0 f _ (some (z19 s4 k true)) o from⟨(show _=_ from HD.out).trans HD0.out,HX.out⟩)⟩)
             have HLn:=z00 hlen
             clear HP HS HF hlen
             go_wp2
             go_roundg f
             case measure=>omega
             case rel=>first|exact HZ.out|(rw[HLn.out] at HZ;exact HZ.out)
end Go.Proofs.YtekebloinobjnaaGreatDoor
