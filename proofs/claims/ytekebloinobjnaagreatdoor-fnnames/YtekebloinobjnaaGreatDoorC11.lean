/- Texts of one proof, laid together: AhX, TrI4, TrI5. -/
import Derived.Test.YtekebloinobjnaaGreatDoorC09
import Derived.Test.YtekebloinobjnaaGreatDoorC10
import Derived.Test.YtekebloinobjnaaGreatDoorC06
import Derived.Test.YtekebloinobjnaaGreatDoorC07
set_option maxHeartbeats 16000000
set_option maxRecDepth 100000
namespace Go.Proofs.YtekebloinobjnaaGreatDoor
open Go.RowKit
theorem zcq (r:ByteArray) (c:UInt8) (hc:c≠0):Lib.hasPrefix r.data.toList [c]=(by8 r 0==(c.toNat:Int)):=by
 unfold Lib.hasPrefix by8
 have hz:c.toNat≠0:=fun h=>hc (UInt8.toNat_inj.1 (by rw[h];rfl))
 cases r.data.toList with
 | nil =>
   have e:((0:Int)==(c.toNat:Int))=false:=by rw[beq_eq_false_iff_ne];omega
   simpa using e
 | cons u l =>
   rw[Bool.eq_iff_iff]
   simp only[List.isPrefixOf,Bool.and_true,beq_iff_eq,List.getD_cons_zero]
   constructor
   ·rintro rfl;rfl
   ·intro h
    exact UInt8.toNat_inj.1 (by omega)
theorem zou (r:ByteArray):Lib.hasPrefix r.data.toList [47,47]=((by8 r 0==47)&&(by8 r 1==47)):=by
 unfold Lib.hasPrefix by8
 have key:∀ u:UInt8,((47:UInt8)==u)=((u.toNat:Int)==47):=fun u=>by
  rw[Bool.eq_iff_iff]
  simp only[beq_iff_eq]
  constructor
  ·rintro rfl;rfl
  ·intro h
   exact UInt8.toNat_inj.1 (by rw[show u.toNat=47 by omega];rfl)
 match r.data.toList with
 | []=>rfl
 | [u]=>simp[List.isPrefixOf]
 | u::v::l =>
   simp only[List.isPrefixOf,Bool.and_true,List.getD_cons_zero,List.getD_cons_succ,key]
theorem za7 (s p:ByteArray) (w:World):Calls Tryz.prog 136 #[.string s,.string p] w fun e w'=>e=.returned (.bool (Lib.hasPrefix s.data.toList p.data.toList))∧w'=w:=Tryz.strings_HasPrefix s p w
theorem z6h (s:ByteArray) (w:World) (h:s.size≤4194304) :
 Calls Tryz.prog 62 #[.string s] w fun e w'=>e=.returned (.string s)∧Below w.heap.size w w':=by
 go_enter Tryz.func62,Tryz.ntmps62
 go_wp2_with fail
 refine(Tryz.stringslite_Clone s _ (by omega)).mono ?_
 rintro e w1 ⟨rfl,hb⟩
 go_wp2
 go_ret
 exact⟨rfl,hb⟩
theorem zjv (s:ByteArray) (w:World) (hs:s.size≤4194304) :
 Calls Tryz.prog 199 #[.string s,.string ⟨#[32]⟩] w fun e w'=>e=.returned (.string (z2u s))∧w'=w:=
 Tryz.strings_TrimRight_one s 32 (by decide) w (by omega)
theorem zhn (s:ByteArray) (w:World) (hs:s.size≤4194304) :
 Calls Tryz.prog 170 #[.string s] w fun e w'=>e=.returned (.string (z2u s))∧Below w.heap.size w w':=by
 have ht:=z6u s
 go_enter Tryz.func170,Tryz.ntmps170
 go_wp2_with fail
 refine(zjv s _ hs).mono ?_
 rintro e w ⟨rfl,rfl⟩
 go_wp2_with fail
 refine(z6h (z2u s) _ (by omega)).mono ?_
 rintro e w1 ⟨rfl,hb⟩
 go_wp2
 go_ret
 exact⟨rfl,hb⟩
theorem ze3 (m n:Nat) (w:World) :
 Calls Tryz.prog 134 #[.int .i64 m,.int .i64 n] w fun e w'=>e=.returned (.int .i64 (z5h m n))∧w'=w:=by
 by_cases h:m<n
 ·have hc:z5h m n=0:=by unfold z5h;rw[if_pos h]
  rw[hc]
  go_enter Tryz.func134,Tryz.ntmps134
  go_wp2
  go_ret
  exact⟨rfl,rfl⟩
 ·have hc:z5h m n=n:=by unfold z5h;rw[if_neg h]
  rw[hc]
  go_enter Tryz.func134,Tryz.ntmps134
  go_wp2
  go_ret
  exact⟨rfl,rfl⟩
theorem zf1 (r:ByteArray) (w:World) (hs:r.size≤4194304) (h0:0<r.size) :
 Calls Tryz.prog 137 #[.string r] w fun e w'=>e=.returned (.int .i64 (zfz r))∧Below w.heap.size w w':=by
 have hS:=zkd (r.extract 1 r.size) w (by simp;omega)
 rw[zal,Nat.add_zero] at hS
 have hle:=z3d (p:=z6z) (s:=r) (k:=1) (by omega)
 obtain⟨n,hn⟩:∃ n,n=spn z6z r 1:=⟨_,rfl⟩
 have hq:zfz r=if (by8 r (1+n)==39)=true then 1+n+1 else 0:=by
  unfold zfz
  rw[← hn]
  by_cases e:by8 r (1+n)=39
  ·have hl:1+n<r.size:=by
    rcases Nat.lt_or_ge (1+n) r.size with h|h
    ·exact h
    ·rw[z67 h] at e
     omega
   rw[if_pos ⟨hl,e⟩,if_pos (by simpa using e)]
  ·rw[if_neg (fun h=>e h.2),if_neg (by simpa using e)]
 rw[← hn] at hS hle
 have h1:=z9s (P:=Tryz.prog) 9 r 1 (1:Int) Tryz.underlying9 rfl (by omega)
 have h2:=z9s (P:=Tryz.prog) 9 r (1+n) (1+(n:Int)) Tryz.underlying9 (by omega) (by omega)
 have hP:=fun W=>za7 (r.extract (1+n) r.size) ⟨#[39]⟩ W
 rw[show (⟨#[39]⟩:ByteArray).data.toList=[39] from rfl,zcq _ _ (by decide),z3g,Nat.add_zero,show ((UInt8.toNat 39:Nat):Int)=39 from rfl] at hP
 have HQ:=z00 hq
 clear hq hn
 go_enter Tryz.func137,Tryz.ntmps137
 go_wp2_with fail
 refine hS.mono ?_
 rintro e w1 ⟨rfl,hb⟩
 go_wp2_with fail
 refine(hP _).mono ?_
 cases hE:(by8 r (1+n)==39)
 ·rintro e w1 ⟨rfl,rfl⟩
  go_wp2
  go_ret
  exact⟨z2z (by rw[HQ.out,hE];rfl),hb⟩
 ·rintro e w1 ⟨rfl,rfl⟩
  go_wp2
  go_ret
  exact⟨z2z (by rw[HQ.out,hE,if_pos rfl];omega),hb⟩
theorem zfo (r:ByteArray) (w:World) (hs:r.size≤4194304) :
 Calls Tryz.prog 138 #[.string r] w fun e w'=>e=.returned (.int .i64 (zar r))∧Below w.heap.size w w':=by
 have hS:=zlq r w hs
 have hle:=z3d (p:=z2v) (s:=r) (k:=0) (by omega)
 obtain⟨n,hn⟩:∃ n,n=spn z2v r 0:=⟨_,rfl⟩
 have hq:zar r=if n<r.size∧by8 r n≠10 then 0 else (z2u (r.extract 0 n)).size:=by
  unfold zar
  rw[← hn]
 rw[← hn] at hS hle
 have h1:=zgc (P:=Tryz.prog) 9 r n (n:Int) Tryz.underlying9 rfl (by omega)
 have h2:=z9s (P:=Tryz.prog) 9 r n (n:Int) Tryz.underlying9 rfl (by omega)
 have hP:=fun W=>za7 (r.extract n r.size) ⟨#[10]⟩ W
 rw[show (⟨#[10]⟩:ByteArray).data.toList=[10] from rfl,zcq _ _ (by decide),z3g,Nat.add_zero,show ((UInt8.toNat 10:Nat):Int)=10 from rfl] at hP
 have hT:=fun W=>zhn (r.extract 0 n) W (by simp;omega)
 have hts:=z6u (r.extract 0 n)
 obtain⟨u,hu⟩:∃ u,u=z2u (r.extract 0 n):=⟨_,rfl⟩
 rw[← hu] at hT hq hts
 have HQ:=z00 hq
 have hus:u.size≤4194304:=by simp at hts;omega
 clear hq hn hu hts
 by_cases hlt:n<r.size
 ·go_enter Tryz.func138,Tryz.ntmps138
  go_wp2_with fail
  refine hS.mono ?_
  rintro e w1 ⟨rfl,hb⟩
  go_wp2_with fail
  refine(hP _).mono ?_
  cases hE:(by8 r n==10)
  ·rintro e w1 ⟨rfl,rfl⟩
   go_wp2
   go_ret
   exact⟨z2z (by rw[HQ.out,if_pos ⟨hlt,by simpa using hE⟩];rfl),hb⟩
  ·rintro e w1 ⟨rfl,rfl⟩
   go_wp2_with fail
   refine(hT _).mono ?_
   rintro e w2 ⟨rfl,hb2⟩
   go_wp2
   go_ret
   exact⟨z2z (by rw[HQ.out,if_neg (fun h=>h.2 (by simpa using hE))]),hb.trans (hb2.mono hb.size)⟩
 ·go_enter Tryz.func138,Tryz.ntmps138
  go_wp2_with fail
  refine hS.mono ?_
  rintro e w1 ⟨rfl,hb⟩
  go_wp2_with fail
  refine(hT _).mono ?_
  rintro e w2 ⟨rfl,hb2⟩
  go_wp2
  go_ret
  exact⟨z2z (by rw[HQ.out,if_neg (fun h=>hlt h.1)]),hb.trans (hb2.mono hb.size)⟩
theorem zh9 (r:ByteArray) (w:World) (hs:r.size≤4194304) (h0:0<r.size) (h4:(hd r).1≠4) :
 Calls Tryz.prog 100 #[.string r,.map none] w fun e w'=>e=.returned (.tuple #[.int .i64 (hd r).1,.int .i64 (hd r).2])∧Below w.heap.size w w':=by
 have hF:=zkg r w hs
 have hpf:=z8l (p:=z2f) (s:=r) (k:=0) h0
 have hlf:=z3d (p:=z2f) (s:=r) (k:=0) (by omega)
 have hpn:=z8l (p:=z3r) (s:=r) (k:=0) h0
 have hln:=z3d (p:=z3r) (s:=r) (k:=0) (by omega)
 cases hf:z2f (by8 r 0)
 ·rw[hf] at hpf
  have hz:spn z2f r 0=0:=by simpa using hpf
  rw[hz] at hF
  have hnf:z3r (by8 r 0)=z3u (by8 r 0):=by unfold z3r;rw[hf,Bool.or_false]
  rw[hnf] at hpn
  cases hn:z3u (by8 r 0)
  ·rw[hn] at hpn
   have hzn:spn z3r r 0=0:=by simpa using hpn
   have hN:=fun W=>ze8 r W hs
   rw[hzn] at hN
   have hP1:=fun W=>za7 r ⟨#[39]⟩ W
   rw[show (⟨#[39]⟩:ByteArray).data.toList=[39] from rfl,zcq _ _ (by decide),show ((UInt8.toNat 39:Nat):Int)=39 from rfl] at hP1
   have hP2:=fun W=>za7 r ⟨#[47,47]⟩ W
   rw[show (⟨#[47,47]⟩:ByteArray).data.toList=[47,47] from rfl,zou] at hP2
   cases hq:(by8 r 0==39)
   ·have hq':by8 r 0≠39:=by simpa using hq
    rw[hq] at hP1
    cases hnt:((by8 r 0==47)&&(by8 r 1==47))
    ·have hnt':¬ (by8 r 0=47∧by8 r 1=47):=by
      intro h
      simp[h.1,h.2] at hnt
     rw[hnt] at hP2
     exact absurd (by rw[zc4 hf hn hq' hnt']) h4
    ·have hnt':by8 r 0=47∧by8 r 1=47:=by simpa using hnt
     rw[hnt] at hP2
     rw[z7s hnt']
     clear hf hn hq hq' hnt hnt' hz hzn hpf hpn hlf hln hnf
     go_enter Tryz.func100,Tryz.ntmps100
     go_wp2_with fail
     refine hF.mono ?_
     rintro e w1 ⟨rfl,hb1⟩
     go_wp2_with fail
     refine(hN _).mono ?_
     rintro e w2 ⟨rfl,hb2⟩
     have B2:=hb1.trans (hb2.mono hb1.size)
     go_wp2_with fail
     refine(hP1 _).mono ?_
     rintro e w2 ⟨rfl,rfl⟩
     go_wp2_with fail
     refine(hP2 _).mono ?_
     rintro e w2 ⟨rfl,rfl⟩
     go_wp2_with fail
     refine(zfo r _ hs).mono ?_
     rintro e w3 ⟨rfl,hb3⟩
     go_wp2
     go_ret2
     exact⟨rfl,B2.trans (hb3.mono B2.size)⟩
   ·have hq':by8 r 0=39:=by simpa using hq
    rw[hq] at hP1
    rw[zak hf hn hq']
    clear hf hn hq hq' hz hzn hpf hpn hlf hln hnf hP2
    go_enter Tryz.func100,Tryz.ntmps100
    go_wp2_with fail
    refine hF.mono ?_
    rintro e w1 ⟨rfl,hb1⟩
    go_wp2_with fail
    refine(hN _).mono ?_
    rintro e w2 ⟨rfl,hb2⟩
    have B2:=hb1.trans (hb2.mono hb1.size)
    go_wp2_with fail
    refine(hP1 _).mono ?_
    rintro e w2 ⟨rfl,rfl⟩
    go_wp2_with fail
    refine(zf1 r _ hs h0).mono ?_
    rintro e w3 ⟨rfl,hb3⟩
    go_wp2
    go_ret2
    exact⟨rfl,B2.trans (hb3.mono B2.size)⟩
  ·rw[hn] at hpn
   have hzn:0<spn z3r r 0:=by simpa using hpn
   have hN:=fun W=>ze8 r W hs
   rw[z5f hf hn]
   obtain⟨n,en⟩:∃ n,n=spn z3r r 0:=⟨_,rfl⟩
   rw[← en] at hN hzn hln ⊢
   have hU:=fun W=>ze3 30 n W
   obtain⟨c,ec⟩:∃ c,c=z5h 30 n:=⟨_,rfl⟩
   rw[← ec] at hU ⊢
   clear hf hn hz hpf hpn hlf hnf en ec
   go_enter Tryz.func100,Tryz.ntmps100
   go_wp2_with fail
   refine hF.mono ?_
   rintro e w1 ⟨rfl,hb1⟩
   go_wp2_with fail
   refine(hN _).mono ?_
   rintro e w2 ⟨rfl,hb2⟩
   have B2:=hb1.trans (hb2.mono hb1.size)
   go_wp2_with fail
   refine(hU _).mono ?_
   rintro e w2 ⟨rfl,rfl⟩
   go_wp2
   go_ret2
   exact⟨rfl,B2⟩
 ·rw[hf] at hpf
  have hz:0<spn z2f r 0:=by simpa using hpf
  rw[z5y hf]
  obtain⟨n,en⟩:∃ n,n=spn z2f r 0:=⟨_,rfl⟩
  rw[← en] at hF hz hlf ⊢
  have hU:=fun W=>ze3 12 n W
  obtain⟨c,ec⟩:∃ c,c=z5h 12 n:=⟨_,rfl⟩
  rw[← ec] at hU ⊢
  clear hf hpf hpn hln en ec
  go_enter Tryz.func100,Tryz.ntmps100
  go_wp2_with fail
  refine hF.mono ?_
  rintro e w1 ⟨rfl,hb1⟩
  go_wp2_with fail
  refine(hU _).mono ?_
  rintro e w2 ⟨rfl,rfl⟩
  go_wp2
  go_ret2
  exact⟨rfl,hb1⟩
def ztg (w:World) (e:Ending) (w':World):Prop:=e=.returned (.bool true)∧Below w.heap.size w w'
theorem z9o {k:Int} {t:ByteArray} (w:World) (h:z3b k t) (h4:k≠4) (h0:0<t.size) (hs:t.size≤3000):Calls Tryz.prog 61 #[.string t,.int .i64 k] w (ztg w):=by
 have hA:=fun W=>zh9 t W (by omega) h0 (by rw[show hd t=(k,t.size) from h];exact h4)
 rw[show hd t=(k,t.size) from h] at hA
 have hne:(t.toList==[])=false:=by
  rw[beq_eq_false_iff_ne]
  intro e
  rw[ByteArray.toList_eq] at e
  have:t.data.toList.length=0:=by rw[e];rfl
  have h9:t.size=t.data.toList.length:=by simp
  omega
 have hgt:¬ (3000:Int)<(t.size:Int):=by omega
 clear h h4
 go_enter Tryz.func61,Tryz.ntmps61
 go_wp2_with fail
 refine(hA _).mono ?_
 rintro e w1 ⟨rfl,b1⟩
 go_wp2
 go_ret
 exact⟨by simp,b1⟩
theorem zpt {t:ByteArray} (w:World) (h:lvl t≠0):Calls Tryz.prog 213 #[.string t] w (ztg w):=by
 rcases zc8 h with rfl|rfl|rfl|rfl|rfl|rfl|rfl
 all_goals clear h
 all_goals go_enter Tryz.func213,Tryz.ntmps213
 all_goals go_wp2
 all_goals go_ret
 all_goals exact⟨rfl,Below.refl _ _⟩
theorem zmk (k:Int) (w:World):Calls Tryz.prog 214 #[.int .i64 k] w (zfs (z3z k) w):=by
 have key:(12≤k∧k≤17)∨(12≤k∧¬ k≤17)∨¬ 12≤k:=by omega
 rcases key with⟨h1,h2⟩|⟨h1,h2⟩|h1
 ·go_enter Tryz.func214,Tryz.ntmps214
  go_wp2
  go_ret
  exact z4e (.inl ⟨h1,h2⟩)
 all_goals go_enter Tryz.func214,Tryz.ntmps214
 all_goals go_wp2
 all_goals go_ret
 all_goals refine⟨_,rfl,?_,rfl⟩
 all_goals unfold z3z
 all_goals simp
 all_goals omega
theorem zn9 (k:Int) (w:World):Calls Tryz.prog 215 #[.int .i64 k] w (zfs (z3y k) w):=by
 by_cases h1:k=12
 ·subst h1
  go_enter Tryz.func215,Tryz.ntmps215
  go_wp2
  go_ret
  exact z4e (.inl rfl)
 have n1:(k==12)=false:=by rw[beq_eq_false_iff_ne];exact h1
 by_cases h2:k=20
 ·subst h2
  go_enter Tryz.func215,Tryz.ntmps215
  go_wp2
  go_ret
  exact z4e (.inr (.inl rfl))
 have n2:(k==20)=false:=by rw[beq_eq_false_iff_ne];exact h2
 go_enter Tryz.func215,Tryz.ntmps215
 go_wp2
 go_ret
 refine⟨_,rfl,?_,rfl⟩
 unfold z3y
 simp[h1,h2]
def agN (q:Np):Value:=.agg #[.int .i64 q.nd.kind,.string q.nd.text,.slice q.a q.nd.kids.length q.c,.bool q.nd.blank]
theorem zsa {q:Np} (w:World) (hk:1≤q.nd.kind∧q.nd.kind≤22) (hS:SafeNd q.nd):Calls Tryz.prog 178 #[agN q] w (ztg w):=by
 have hs:=hS.few
 have h:=hS.text
 unfold agN
 clear hS
 obtain⟨⟨k,t,ks,bl⟩,ka,kc⟩:=q
 simp only at hk hs h ⊢
 unfold zk0 at h
 rcases z2j hk with rfl|rfl|rfl|rfl|rfl|rfl|rfl|rfl|rfl|rfl|rfl|rfl|rfl|rfl|rfl|rfl|rfl|rfl|rfl|rfl|rfl|rfl
 all_goals simp at h
 all_goals clear hk
 all_goals first
  | (subst h
     go_enter Tryz.func178,Tryz.ntmps178
     go_wp2
     go_ret
     exact⟨rfl,z08 _ _⟩)
  | (first
      | (have q:=fun W=>z9o W h.1 (by decide) (by have:=(z85 h.1).1;omega) hs)
      | (have q:=fun W=>z9o W h (by decide) (by have:=(zax h).1;omega) hs)
      | (have q:=fun W=>z9o W h (by decide) (by have:=(zb8 h).1;omega) hs)
      | (have q:=fun W=>z9o W h (by decide) (by have:=(zdo h).1;omega) hs)
      | (have q:=fun W=>zpt W h)
     clear h
     go_enter Tryz.func178,Tryz.ntmps178
     go_wp2_with fail
     refine(q _).mono ?_
     rintro e w1 ⟨rfl,b1⟩
     go_wp2
     go_ret
     exact⟨rfl,(z08 _ _).trans (b1.mono (z08 _ _).size)⟩)
theorem zqd (q:Np) (w:World):Calls Tryz.prog 179 #[agN q] w (zag (q.nd.blank=true→z3z q.nd.kind∨q.nd.kind=20∨q.nd.kind=21) w):=by
 unfold agN
 have q1:=fun W=>zmk q.nd.kind W
 have q2:=fun W=>zn9 q.nd.kind W
 obtain⟨⟨k,t,ks,bl⟩,ka,kc⟩:=q
 simp only at q1 q2 ⊢
 cases bl with
 | false =>
   go_enter Tryz.func179,Tryz.ntmps179
   go_wp2
   go_ret
   exact z12 (fun e=>by cases e) (z08 _ _)
 | true =>
   by_cases h1:z3z k
   ·have H1:=z00 h1
    clear h1
    go_enter Tryz.func179,Tryz.ntmps179
    go_wp2_with fail
    refine(q1 _).mono ?_
    rintro e w3 h9
    obtain⟨rfl,rfl⟩:=h9.yes H1.out
    clear h9
    go_wp2
    go_ret
    exact z12 (fun _=>.inl H1.out) (z08 _ _)
   by_cases h2:z3y k
   ·have H1:=z00 h1
    have H2:=z00 h2
    have H3:=z00 (show z3z k∨k=20∨k=21 by unfold z3y at h2;unfold z3z;omega)
    clear h1 h2
    go_enter Tryz.func179,Tryz.ntmps179
    go_wp2_with fail
    refine(q1 _).mono ?_
    rintro e w3 h9
    obtain⟨rfl,rfl⟩:=h9.no H1.out
    clear h9
    go_wp2_with fail
    refine(q2 _).mono ?_
    rintro e w3 h9
    obtain⟨rfl,rfl⟩:=h9.yes H2.out
    clear h9
    go_wp2
    go_ret
    exact z12 (fun _=>H3.out) (z08 _ _)
   ·have H1:=z00 h1
    have H2:=z00 h2
    have H3:=z00 (show k≠20 from fun e=>h2 (.inr (.inl e)))
    clear h1 h2
    obtain⟨bb,hbb⟩:∃ bb,bb=(k==21):=⟨_,rfl⟩
    have HB:=z00 (show bb=true↔k=21 by rw[hbb];simp)
    go_enter Tryz.func179,Tryz.ntmps179
    go_wp2_with fail
    refine(q1 _).mono ?_
    rintro e w3 h9
    obtain⟨rfl,rfl⟩:=h9.no H1.out
    clear h9
    go_wp2_with fail
    refine(q2 _).mono ?_
    rintro e w3 h9
    obtain⟨rfl,rfl⟩:=h9.no H2.out
    clear h9
    go_wp2
    rw[← hbb]
    go_ret
    exact⟨bb,rfl,HB.out.trans ⟨fun e _=>.inr (.inr e),fun e=>by
     rcases e trivial with h|h|h
     ·exact absurd h H1.out
     ·exact absurd h H3.out
     ·exact h⟩,z08 _ _⟩
end Go.Proofs.YtekebloinobjnaaGreatDoor
