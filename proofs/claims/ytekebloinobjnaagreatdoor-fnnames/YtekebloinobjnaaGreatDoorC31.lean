/- Texts of one proof, laid together: RdSrc, SgnS5, SgnS6. -/
import Derived.Test.YtekebloinobjnaaGreatDoorC04
import Derived.Test.YtekebloinobjnaaGreatDoorC21
import Derived.Test.YtekebloinobjnaaGreatDoorC27
import Derived.Test.YtekebloinobjnaaGreatDoorC05
set_option maxHeartbeats 16000000
set_option maxRecDepth 100000
namespace Go.Proofs.YtekebloinobjnaaGreatDoor
open Go.RowKit
def z84 (t:ByteArray):List Nd:=match zai (sgn t).1 with|some (some (_,s))=>s.ns|_=>[]
def z8t (t:ByteArray):Prop:=(sgn t).2.2=true∧∃ k s,zai (sgn t).1=yes k s∧TreeP s.ns
def zi0 (t:ByteArray) (w:World) (e:Ending) (w':World):Prop:=
 ∃ (na:Option Addr) (nc:Nat) (qs:List Np) (pl:Int) (b:Bool),e=.returned (.tuple #[.slice na qs.length nc,.int .i64 pl,.bool b])∧Nds w' w.heap.size na nc qs∧Below w.heap.size w w'∧(b=true↔z8t t)∧(b=true→qs.map Np.nd=z84 t)∧(b=false→qs=[])
theorem zlj (w:World) (B:Nat) (hB:B≤w.heap.size):Nds (w.alloc (.cells #[] 56)) B (some ⟨w.heap.size,0,none⟩) 0 []:=
 ⟨World.ownsRow_made w #[] 0 hB (by decide) rfl,fun q hq=>by cases hq⟩
theorem z9q {t:ByteArray} {w w':World} {na:Option Addr} {nc:Nat} {pl:Int} (hn:Nds w' w.heap.size na nc []) (hb:Below w.heap.size w w') (h:¬ z8t t):zi0 t w (.returned (.tuple #[.slice na 0 nc,.int .i64 pl,.bool false])) w':=
 ⟨na,nc,[],pl,false,rfl,hn,hb,⟨(fun e=>by cases e),fun e=>absurd e h⟩,(fun e=>by cases e),fun _=>rfl⟩
theorem z8p {t:ByteArray} {k:Nat} {s:Ps} (h:zai (sgn t).1=yes k s):z84 t=s.ns:=by unfold z84;rw[h]
theorem zf0 {t:ByteArray} {k:Nat} {s:Ps} (h0:(sgn t).2.2=true) (h:zai (sgn t).1=yes k s):z8t t↔TreeP s.ns:=by
 constructor
 ·rintro⟨-,k',s',h1,h2⟩
  rw[h] at h1
  injection h1 with h1
  injection h1 with h1
  injection h1 with _ h1
  rw[h1]
  exact h2
 ·exact fun h2=>⟨h0,k,s,h,h2⟩
theorem zaw {t:ByteArray} (h:zai (sgn t).1=some none):¬ z8t t:=by
 rintro⟨-,k',s',h1,-⟩
 rw[h] at h1
 cases h1
section
variable {xs:List Sg} {d:Nat}
theorem zp5 {s:Ps} (h:s.d=d):Dp d (zfq xs s):=(z6o h).bnd fun _ _ h1=>(zek h1).bnd fun _ _ h2=>(z7i (zm2 _) h2).bnd fun _ _ h3=>z2a h3
theorem zdb:z7l (z2k xs):=fun s=>by
 unfold z2k
 split
 ·exact z8w rfl
 split
 ·exact zhd rfl
 ·exact zp5 rfl
theorem zps:z7l (z2x xs):=fun s=>by
 unfold z2x
 split
 ·refine Dp.bnd (d:=s.d) (z6o rfl) fun _ s1 h1=>(z1s h1).bnd fun _ s2 h2=>(zcp zdb _ _ s2 h2).bnd fun _ _ h3=>(z1s h3).bnd fun _ _ h4=>z2a h4
 ·exact zdb s
end
theorem zfp (t:ByteArray) (k:Nat) (w:World) (hs:t.size≤4194304) (hk:k<t.size) (hn:z2b t k=0) (hf:z2f (by8 t k)=false) (hF:z3u (by8 t k)=false) (hq:by8 t k=39) :
 Calls Tryz.prog 118 #[.string t,.int .i64 k] w fun e w'=>z6p t k w e w':=by
 have hhd:hd (t.extract k t.size)=(3,z6r t k):=by rw[zak (by rw[z1r];exact hf) (by rw[z1r];exact hF) (by rw[z1r];exact hq),zir hk]
 have hN:=fun W=>z48 t k W hs hk
 rw[hn] at hN
 have hC:=fun W=>z4i (by8 t k) W
 rw[hF] at hC
 have hD:=fun W=>z4b (by8 t k) W
 rw[hf] at hD
 have hQ:=fun W=>z86 t k W hs hk
 have hle:=zb0 (t.extract k t.size)
 rw[hhd,z2h] at hle
 simp only at hle
 have hok:=z42 hhd (by omega)
 obtain⟨n,en⟩:∃ n,n=z6r t k:=⟨_,rfl⟩
 rw[← en] at hQ hle hok
 have hsl:=z30 (P:=Tryz.prog) 9 t k (k+n) (k:Int) ((k:Int)+n) Tryz.underlying9 rfl (by omega) (by omega) (by omega)
 obtain⟨u,hu⟩:∃ u,u=t.extract k (k+n):=⟨_,rfl⟩
 rw[← hu] at hok hsl
 clear hu en hhd
 have HO:=z00 hok
 have hby:=z3x t
 have hbr:=z1f t k
 have hq':(by8 t k==39)=true:=by simp[hq]
 clear hok hn hf hF hq
 go_enter Tryz.func118,Tryz.ntmps118
 go_wp2_with fail
 refine(hN _).mono ?_
 rintro e w1 ⟨rfl,rfl⟩
 go_wp2_with fail
 refine(hC _).mono ?_
 rintro e w1 ⟨rfl,rfl⟩
 go_wp2_with fail
 refine(hD _).mono ?_
 rintro e w1 ⟨rfl,rfl⟩
 go_wp2_with fail
 refine(hQ _).mono ?_
 rintro e w1 ⟨rfl,rfl⟩
 go_wp2
 refine bodyPost_ret (z16 rfl _ _ w.heap.size (.int .i64 3) (.string u) (.int .i64 k) (.bool false) _ rfl (by simp) (by simp) (by simp) (by simp) Tryz.underlying105 rfl z3i) rfl ?_
 exact⟨(Below.refl _ _).alloc (Nat.le_refl _) _,_,_,_,n,rfl,fun _=>rfl,HO.out⟩
theorem zes (t:ByteArray) (k:Nat) (w:World) (hs:t.size≤4194304) (hk:k<t.size) (hn:z2b t k=0) (hf:z2f (by8 t k)=false) (hF:z3u (by8 t k)=false) (hq:by8 t k≠39) :
 Calls Tryz.prog 118 #[.string t,.int .i64 k] w fun e w'=>z6p t k w e w':=by
 have hok:=zgv hk hn hf hF hq
 have hN:=fun W=>z48 t k W hs hk
 rw[hn] at hN
 have hC:=fun W=>z4i (by8 t k) W
 rw[hF] at hC
 have hD:=fun W=>z4b (by8 t k) W
 rw[hf] at hD
 have hQ:=fun W=>zcf t k W hs hk
 obtain⟨u,hu⟩:∃ u,u=t.extract k (k+zat (t.extract k t.size)):=⟨_,rfl⟩
 have hus:u.size≤4194304:=by rw[hu];simp;omega
 rw[← hu] at hok hQ
 clear hu
 have HO:=z00 hok
 have hby:=z3x t
 have hbr:=z1f t k
 have hq':(by8 t k==39)=false:=by simpa using hq
 clear hok hn hf hF hq
 go_enter Tryz.func118,Tryz.ntmps118
 go_wp2_with fail
 refine(hN _).mono ?_
 rintro e w1 ⟨rfl,rfl⟩
 go_wp2_with fail
 refine(hC _).mono ?_
 rintro e w1 ⟨rfl,rfl⟩
 go_wp2_with fail
 refine(hD _).mono ?_
 rintro e w1 ⟨rfl,rfl⟩
 go_wp2_with fail
 refine(hQ _).mono ?_
 rintro e w1 ⟨rfl,hb1⟩
 have c0:w1.cell? ⟨w.heap.size,0,none⟩=some (.int .i64 0):=(hb1.cell (p:=⟨w.heap.size,0,none⟩) (by simp)).trans (by simp)
 have c1:w1.cell? ⟨w.heap.size,1,none⟩=some (.string ⟨#[]⟩):=(hb1.cell (p:=⟨w.heap.size,1,none⟩) (by simp)).trans (by simp)
 have c2:w1.cell? ⟨w.heap.size,2,none⟩=some (.int .i64 0):=(hb1.cell (p:=⟨w.heap.size,2,none⟩) (by simp)).trans (by simp)
 have c3:w1.cell? ⟨w.heap.size,3,none⟩=some (.bool false):=(hb1.cell (p:=⟨w.heap.size,3,none⟩) (by simp)).trans (by simp)
 have hfz:∀ i,w1.frozen? ⟨w.heap.size,i,none⟩=false:=fun i=>(hb1.frozen (p:=⟨w.heap.size,i,none⟩) (by simp)).trans (by simp)
 have f0:=hfz 0
 have f1:=hfz 1
 have f2:=hfz 2
 have f3:=hfz 3
 have hB:Below w.heap.size w w1:=((Below.refl _ _).alloc (Nat.le_refl _) _).trans (hb1.mono (by simp))
 clear hfz hb1
 go_wp2
 refine bodyPost_ret (z16 rfl _ _ w.heap.size (.int .i64 4) (.string u) (.int .i64 k) (.bool false) _ rfl (by go_simp) (by go_simp) (by go_simp) (by go_simp) Tryz.underlying105 rfl z3i) rfl ?_
 exact⟨(((hB.setCell (p:=⟨w.heap.size,0,none⟩) (Nat.le_refl _) _).setCell (p:=⟨w.heap.size,1,none⟩) (Nat.le_refl _) _).setCell (p:=⟨w.heap.size,2,none⟩) (Nat.le_refl _) _).setCell (p:=⟨w.heap.size,3,none⟩) (Nat.le_refl _) _,_,_,_,u.size,rfl,fun _=>rfl,HO.out⟩
theorem zhs (t:ByteArray) (k:Nat) (w:World) (hs:t.size≤4194304) (hk:k<t.size) :
 Calls Tryz.prog 118 #[.string t,.int .i64 k] w fun e w'=>z6p t k w e w':=by
 rcases Nat.eq_zero_or_pos (z2b t k) with hn|hn
 ·cases hF:z3u (by8 t k)
  ·cases hf:z2f (by8 t k)
   ·by_cases hq:by8 t k=39
    ·exact zfp t k w hs hk hn hf hF hq
    ·exact zes t k w hs hk hn hf hF hq
   ·exact zhb t k w hs hk hn hf hF
  ·have hf:z2f (by8 t k)=false:=by
    rw[Bool.eq_false_iff]
    intro hf
    simp[z3u] at hF
    simp[z2f] at hf
    omega
   exact zff t k w hs hk hn hf hF
 ·exact zf7 t k w hs hk hn
theorem znp:(Tryz.prog.info? 105).map (fun i=>(i.zero,i.size,i.bytes))=some (some (.agg #[.int .i64 0,.string ByteArray.empty,.int .i64 0,.bool false]),4,40):=by kernel_rfl
theorem zf8 (t:ByteArray) (w:World) (hs:t.size≤4194304) :
 Calls Tryz.prog 86 #[.string t] w fun e w'=>zgy t 105 w e w':=by
 obtain⟨i0,hi,hz0,hz1,hz2⟩:=info_parts znp
 by_cases hbig:3000<t.size
 ·go_enter Tryz.func86,Tryz.ntmps86
  go_wp2
  go_ret3
  exact zgy.mk (zlo hbig) rfl ((Below.refl _ _).alloc (Nat.le_refl _) _) (World.ownsRow_made w #[] 0 (Nat.le_refl _) (by decide) rfl)
 ·go_enter Tryz.func86,Tryz.ntmps86
  go_wp2
  obtain⟨v0,hv0⟩:∃ v0,v0=Value.slice (some ⟨w.heap.size,0,none⟩) 0 0:=⟨_,rfl⟩
  have hown0:(w.alloc (.cells #[] 105)).ownsRow w.heap.size 105 4 v0 0 []:=by rw[hv0];exact World.ownsRow_made w #[] 0 (by omega) (by decide) rfl
  rw[← hv0]
  clear hv0
  have hb0:Below w.heap.size w (w.alloc (.cells #[] 105)):=(Below.refl _ _).alloc (Nat.le_refl _) _
  have HS:=z00 (zh1 hbig)
  have hby:=z3x t
  go_loopw [5,6,7] (fun v i en wr=>∃ (k ends:Nat) (pre:List Sg),k≤t.size∧i=.int .i64 k∧en=.int .i64 ends∧pre.length≤k∧ends≤k∧wr.ownsRow w.heap.size 105 4 v pre.length (z3j pre)∧Below w.heap.size w wr∧Hid (zc6 t k ends pre=sgn t)) (fun _ i _ _=>t.size-(intOf i).toNat)
  case atStart=>exact⟨0,0,[],Nat.zero_le _,rfl,rfl,Nat.le_refl _,Nat.le_refl _,hown0,hb0,z00 HS.out.symm⟩
  case round =>
   obtain⟨k,ends,pre,hk,rfl,rfl,hpl,hel,ho,hb,HX⟩:=hrel
   obtain⟨ao,cc,rfl⟩:=z06 ho
   by_cases hlt:k<t.size
   ·have hA:(0:Int)≤(k:Int):=by omega
    have hB:(k:Int)<(t.size:Int):=by omega
    have hbr:=z1f t k
    by_cases h32:by8 t k=32
    ·have h32':(by8 t k==32)=true:=by simp[h32]
     have HN:=z00 (z9h (t:=t) (k:=k) (ends:=ends) (pre:=pre) hlt h32)
     clear h32
     go_wp2
     go_roundw
     case rel=>exact⟨k+1,ends,pre,by omega,by go_num,rfl,by omega,by omega,ho,hb,z00 (by rw[← HN.out];exact HX.out)⟩
     case measure=>simp[intOf];omega
    ·have h32':(by8 t k==32)=false:=by simpa using h32
     by_cases h10:by8 t k=10
     ·have h10':(by8 t k==10)=true:=by simp[h10]
      have HN:=z00 (zhu (t:=t) (k:=k) (ends:=ends) (pre:=pre) hlt h10)
      clear h32 h10
      go_wp2
      go_roundw
      case rel=>exact⟨k+1,ends+1,pre,by omega,by go_num,by go_num,by omega,by omega,ho,hb,z00 (by rw[← HN.out];exact HX.out)⟩
      case measure=>simp[intOf];omega
     ·have h10':(by8 t k==10)=false:=by simpa using h10
      have HNo:=z00 (zi1 (t:=t) (k:=k) (ends:=ends) (pre:=pre) hlt h32 h10)
      have HSi:=z00 (zhh (t:=t) (k:=k) (ends:=ends) (pre:=pre) hlt h32 h10)
      clear h32 h10
      go_wp2_with fail
      refine(zhs t k _ hs hlt).mono ?_
      rintro e w2 ⟨hb2,kd,x,p,n,rfl,hp,hok⟩
      have B2:=hb.trans (hb2.mono hb.size)
      have ho2:=z07 ho hb2
      have hsz2:w.heap.size≤w2.heap.size:=B2.size
      clear ho
      rcases hok with⟨h0,hn0⟩|⟨hne,hkd,hx,hle,hkn,hbl⟩
      ·subst hn0
       have hr:sgn t=([],k,false):=by rw[← HX.out];exact HNo.out h0
       have HR:=z00 hr
       clear hr h0 hp HNo HSi HX
       go_wp2
       go_ret3
       have hszA:w.heap.size≤(w2.alloc (.cells #[.int .i64 kd,.string x,.int .i64 p,.bool false] 105)).heap.size:=by simp;omega
       have hO:=World.ownsRow_made (base:=w.heap.size) (e:=105) (size:=4) (w2.alloc (.cells #[.int .i64 kd,.string x,.int .i64 p,.bool false] 105)) #[] 0 hszA (by decide) rfl
       rw[World.size_alloc] at hO
       exact zgy.mk HR.out rfl ((B2.alloc hsz2 _).alloc hszA _) hO
      ·have hn:n≠0:=by omega
       obtain rfl:=hp hn
       have hnb:((n:Int)==0)=false:=by rw[beq_eq_false_iff_ne];omega
       obtain⟨bl,hbq⟩:∃ bl,bl=decide (1<(ends:Int)):=⟨_,rfl⟩
       have hbd:decide (1<ends)=bl:=by rw[hbq];congr 1;simp;omega
       have hlex:zc6 t (k+n) 0 (pre++[⟨kd,x,k,bl⟩])=sgn t:=by
        rw[← HX.out,HSi.out hne,hkd,hx,hbd]
        have:=z8x (t:=t) (ends:=0) (pre:=pre++[⟨(hd (t.extract k t.size)).1,t.extract k (k+(hd (t.extract k t.size)).2),k,bl⟩]) (n-(hd (t.extract k t.size)).2) (k+(hd (t.extract k t.size)).2) (by omega) (fun j hj=>by rw[Nat.add_assoc];exact hbl _ (by omega) (by omega))
        rw[this,show k+(hd (t.extract k t.size)).2+(n-(hd (t.extract k t.size)).2)=k+n by omega]
       have HL:=z00 hlex
       have hsx:x.size≤4194304:=by rw[hx];simp;omega
       clear hlex hbd hbl hx hkd hne hle hp HNo HSi HX
       go_wp2_with (at_builtin;refine wpList_append_own _ rfl _ _ 94 rfl w.heap.size 105 i0 _ 4 40 Tryz.underlying94 hi hz0 hz1 hz2 rfl (by decide) (.slice ao pre.length cc) pre.length (z3j pre) rfl ((ho2.alloc _).alloc _) ⟨w2.heap.size+1,0,none⟩ 1 1 (z4q ⟨kd,x,k,decide (1<(ends:Int))⟩) rfl rfl (z9d _ _ _ _) (zcj _) (by unfold maxLen;omega) (by omega) (by simp;omega) ?_;intro v' w5 hown' hgrow5 hnil5)
       clear hnil5
       rw[← hbq] at hown'
       refine⟨⟨k+n,0,pre++[⟨kd,x,k,bl⟩],by omega,by go_num,rfl,by simp;omega,by omega,?_,?_,HL⟩,?_⟩
       ·rw[List.length_append,zfb]
        exact hown'
       ·exact((B2.alloc hsz2 _).alloc (by simp;omega) _).grown hgrow5 (by simp;omega) (fun j hj=>(ho2.lt j hj).1)
       ·simp only[intOf]
        omega
   ·have hr:sgn t=(pre,0,true):=by rw[← HX.out];exact zli hlt
    have HR:=z00 hr
    clear hr HX
    go_wp2
    go_ret3
    exact zgy.mk HR.out rfl hb ho
end Go.Proofs.YtekebloinobjnaaGreatDoor
