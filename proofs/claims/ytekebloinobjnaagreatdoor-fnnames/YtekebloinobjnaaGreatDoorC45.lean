/- Texts of one proof, laid together: DrSb, RegL. -/
import Derived.Test.YtekebloinobjnaaGreatDoorC44
import Derived.Test.YtekebloinobjnaaGreatDoorC12
set_option maxHeartbeats 16000000
set_option maxRecDepth 100000
namespace Go.Proofs.YtekebloinobjnaaGreatDoor
open Go.RowKit
theorem z0m (l:Array UInt8):(⟨l⟩:ByteArray).size=l.size:=rfl
theorem zju:zqo 0:=by
 intro base w mb blk a len cap t h
 have hb:vB 0=30:=rfl
 rw[hb]
 have c0:=h.c0
 have HM:=z00 (And.intro h (World.grownBy.refl w (some blk)))
 clear h hb
 go_enter Tryz.func185,Tryz.ntmps185
 go_wp2_with fail
 refine(z1v base _ blk a len cap 16 HM.out.1.cur (by omega) (by omega)).mono ?_
 rintro e w1 ⟨n,hn,rfl,hc1,hg1⟩
 have H1:=z00 (And.intro (HM.out.1.gone hc1 hg1) (z0d HM.out.2 hg1))
 clear hc1 hg1 HM c0
 have hm:(n:Int).tmod 5=((n % 5:Nat):Int):=by rw[Int.tmod_eq_emod_of_nonneg (by omega)];omega
 have hm2:(n:Int) % 5=((n % 5:Nat):Int):=by omega
 obtain⟨m,hmm⟩:∃ m,m=n % 5:=⟨_,rfl⟩
 rw[← hmm] at hm hm2
 have hm5:m<5:=by omega
 clear hmm
 rcases(show m=0∨m=1∨m=2∨m=3∨m=4 by omega) with rfl|rfl|rfl|rfl|rfl
 ·go_wp2_with fail
  refine(z47 base _ mb blk a len cap t H1.out.1).mono ?_
  rintro e w2 ⟨u2,hu2,rfl,hc2,hg2⟩
  have H2:=z00 (And.intro (H1.out.1.gone hc2 hg2) (z0d H1.out.2 hg2))
  clear hc2 hg2 H1
  go_wp2
  go_ret
  exact z2q (by(try simp[z0m]);omega) H2.out.1.cur H2.out.2
 ·go_wp2_with fail
  refine(z47 base _ mb blk a len cap t H1.out.1).mono ?_
  rintro e w2 ⟨u2,hu2,rfl,hc2,hg2⟩
  have H2:=z00 (And.intro (H1.out.1.gone hc2 hg2) (z0d H1.out.2 hg2))
  clear hc2 hg2 H1
  go_wp2
  go_ret
  exact z2q (by(try simp[z0m]);omega) H2.out.1.cur H2.out.2
 ·go_wp2_with fail
  refine(z47 base _ mb blk a len cap t H1.out.1).mono ?_
  rintro e w2 ⟨u2,hu2,rfl,hc2,hg2⟩
  have H2:=z00 (And.intro (H1.out.1.gone hc2 hg2) (z0d H1.out.2 hg2))
  clear hc2 hg2 H1
  go_wp2
  go_ret
  exact z2q (by(try simp[z0m]);omega) H2.out.1.cur H2.out.2
 ·have cc2:=H1.out.1.c0
  go_wp2_with fail
  refine(z3o base _ blk a len cap _ _ 3 3 7 zs4 H1.out.1.cur rfl rfl (by omega) (by omega) (by decide)).mono ?_
  rintro e w2 ⟨u2,hu2,rfl,hc2,hg2⟩
  have H2:=z00 (And.intro (H1.out.1.gone hc2 hg2) (z0d H1.out.2 hg2))
  clear hc2 hg2 H1 cc2
  go_wp2
  go_ret
  exact z2q (by(try simp[z0m]);omega) H2.out.1.cur H2.out.2
 ·have cc2:=H1.out.1.c0
  go_wp2_with fail
  refine(z3o base _ blk a len cap _ _ 3 3 20 zr3 H1.out.1.cur rfl rfl (by omega) (by omega) (by decide)).mono ?_
  rintro e w2 ⟨u2,hu2,rfl,hc2,hg2⟩
  have H2:=z00 (And.intro (H1.out.1.gone hc2 hg2) (z0d H1.out.2 hg2))
  clear hc2 hg2 H1 cc2
  go_wp2
  go_ret
  exact z2q (by(try simp[z0m]);omega) H2.out.1.cur H2.out.2
theorem zhz {d:Nat} (hd:d≤2) (hV:zqo d) (hL:zs3 d):zqo (d+1):=by
 intro base w mb blk a len cap t h
 have hb:vB d≤4000:=by
  rcases(show d=0∨d=1∨d=2 by omega) with rfl|rfl|rfl<;>decide
 obtain⟨V,hVv⟩:∃ V,V=vB d:=⟨_,rfl⟩
 have qV:=fun W (h:MkAt base W mb blk a len cap t)=>hV base W mb blk a len cap t h
 have qL:=fun W (h:MkAt base W mb blk a len cap t)=>hL base W mb blk a len cap t h
 rw[show vB (d+1)=3*vB d+80 from rfl]
 rw[← hVv] at qV qL hb ⊢
 have hcast:((d+1:Nat):Int)=(d:Int)+1:=by omega
 rw[hcast]
 have hdp:¬ (d:Int)+1≤0:=by omega
 have c0:=h.c0
 have HM:=z00 (And.intro h (World.grownBy.refl w (some blk)))
 clear h hV hL hVv hcast
 go_enter Tryz.func185,Tryz.ntmps185
 go_wp2_with fail
 refine(z1v base _ blk a len cap 16 HM.out.1.cur (by omega) (by omega)).mono ?_
 rintro e w1 ⟨n,hn,rfl,hc1,hg1⟩
 have H1:=z00 (And.intro (HM.out.1.gone hc1 hg1) (z0d HM.out.2 hg1))
 clear hc1 hg1 HM c0
 have hn16:n<16:=by omega
 rcases(show n=0∨n=1∨n=2∨n=3∨n=4∨n=5∨n=6∨n=7∨n=8∨n=9∨n=10∨n=11∨n=12∨n=13∨n=14∨n=15 by omega) with rfl|rfl|rfl|rfl|rfl|rfl|rfl|rfl|rfl|rfl|rfl|rfl|rfl|rfl|rfl|rfl
 ·go_wp2_with fail
  refine(z47 base _ mb blk a len cap t H1.out.1).mono ?_
  rintro e w2 ⟨u2,hu2,rfl,hc2,hg2⟩
  have H2:=z00 (And.intro (H1.out.1.gone hc2 hg2) (z0d H1.out.2 hg2))
  clear hc2 hg2 H1
  go_wp2
  go_ret
  exact z2q (by(try simp[z0m]);omega) H2.out.1.cur H2.out.2
 ·go_wp2_with fail
  refine(z47 base _ mb blk a len cap t H1.out.1).mono ?_
  rintro e w2 ⟨u2,hu2,rfl,hc2,hg2⟩
  have H2:=z00 (And.intro (H1.out.1.gone hc2 hg2) (z0d H1.out.2 hg2))
  clear hc2 hg2 H1
  go_wp2
  go_ret
  exact z2q (by(try simp[z0m]);omega) H2.out.1.cur H2.out.2
 ·go_wp2_with fail
  refine(z47 base _ mb blk a len cap t H1.out.1).mono ?_
  rintro e w2 ⟨u2,hu2,rfl,hc2,hg2⟩
  have H2:=z00 (And.intro (H1.out.1.gone hc2 hg2) (z0d H1.out.2 hg2))
  clear hc2 hg2 H1
  go_wp2
  go_ret
  exact z2q (by(try simp[z0m]);omega) H2.out.1.cur H2.out.2
 ·have cc2:=H1.out.1.c0
  go_wp2_with fail
  refine(z3o base _ blk a len cap _ _ 3 3 7 zs4 H1.out.1.cur rfl rfl (by omega) (by omega) (by decide)).mono ?_
  rintro e w2 ⟨u2,hu2,rfl,hc2,hg2⟩
  have H2:=z00 (And.intro (H1.out.1.gone hc2 hg2) (z0d H1.out.2 hg2))
  clear hc2 hg2 H1 cc2
  go_wp2
  go_ret
  exact z2q (by(try simp[z0m]);omega) H2.out.1.cur H2.out.2
 ·have cc2:=H1.out.1.c0
  go_wp2_with fail
  refine(z3o base _ blk a len cap _ _ 3 3 20 zr3 H1.out.1.cur rfl rfl (by omega) (by omega) (by decide)).mono ?_
  rintro e w2 ⟨u2,hu2,rfl,hc2,hg2⟩
  have H2:=z00 (And.intro (H1.out.1.gone hc2 hg2) (z0d H1.out.2 hg2))
  clear hc2 hg2 H1 cc2
  go_wp2
  go_ret
  exact z2q (by(try simp[z0m]);omega) H2.out.1.cur H2.out.2
 ·go_wp2_with fail
  refine(z47 base _ mb blk a len cap t H1.out.1).mono ?_
  rintro e w2 ⟨u2,hu2,rfl,hc2,hg2⟩
  have H2:=z00 (And.intro (H1.out.1.gone hc2 hg2) (z0d H1.out.2 hg2))
  clear hc2 hg2 H1
  go_wp2_with fail
  refine(qL _ H2.out.1).mono ?_
  rintro e w3 ⟨u3,hu3,rfl,hc3,hg3⟩
  have H3:=z00 (And.intro (H2.out.1.gone hc3 hg3) (z0d H2.out.2 hg3))
  clear hc3 hg3 H2
  go_wp2
  go_ret
  exact z2q (by(try simp[z0m]);omega) H3.out.1.cur H3.out.2
 ·go_wp2_with fail
  refine(z47 base _ mb blk a len cap t H1.out.1).mono ?_
  rintro e w2 ⟨u2,hu2,rfl,hc2,hg2⟩
  have H2:=z00 (And.intro (H1.out.1.gone hc2 hg2) (z0d H1.out.2 hg2))
  clear hc2 hg2 H1
  go_wp2_with fail
  refine(qL _ H2.out.1).mono ?_
  rintro e w3 ⟨u3,hu3,rfl,hc3,hg3⟩
  have H3:=z00 (And.intro (H2.out.1.gone hc3 hg3) (z0d H2.out.2 hg3))
  clear hc3 hg3 H2
  go_wp2
  go_ret
  exact z2q (by(try simp[z0m]);omega) H3.out.1.cur H3.out.2
 ·go_wp2_with fail
  refine(z47 base _ mb blk a len cap t H1.out.1).mono ?_
  rintro e w2 ⟨u2,hu2,rfl,hc2,hg2⟩
  have H2:=z00 (And.intro (H1.out.1.gone hc2 hg2) (z0d H1.out.2 hg2))
  clear hc2 hg2 H1
  go_wp2_with fail
  refine(qL _ H2.out.1).mono ?_
  rintro e w3 ⟨u3,hu3,rfl,hc3,hg3⟩
  have H3:=z00 (And.intro (H2.out.1.gone hc3 hg3) (z0d H2.out.2 hg3))
  clear hc3 hg3 H2
  go_wp2
  go_ret
  exact z2q (by(try simp[z0m]);omega) H3.out.1.cur H3.out.2
 ·go_wp2_with fail
  refine(qL _ H1.out.1).mono ?_
  rintro e w2 ⟨u2,hu2,rfl,hc2,hg2⟩
  have H2:=z00 (And.intro (H1.out.1.gone hc2 hg2) (z0d H1.out.2 hg2))
  clear hc2 hg2 H1
  go_wp2
  go_ret
  exact z2q (by(try simp[z0m]);omega) H2.out.1.cur H2.out.2
 ·go_wp2_with fail
  refine(z47 base _ mb blk a len cap t H1.out.1).mono ?_
  rintro e w2 ⟨u2,hu2,rfl,hc2,hg2⟩
  have H2:=z00 (And.intro (H1.out.1.gone hc2 hg2) (z0d H1.out.2 hg2))
  clear hc2 hg2 H1
  go_wp2_with fail
  refine(z47 base _ mb blk a len cap t H2.out.1).mono ?_
  rintro e w3 ⟨u3,hu3,rfl,hc3,hg3⟩
  have H3:=z00 (And.intro (H2.out.1.gone hc3 hg3) (z0d H2.out.2 hg3))
  clear hc3 hg3 H2
  go_wp2_with fail
  refine(qL _ H3.out.1).mono ?_
  rintro e w4 ⟨u4,hu4,rfl,hc4,hg4⟩
  have H4:=z00 (And.intro (H3.out.1.gone hc4 hg4) (z0d H3.out.2 hg4))
  clear hc4 hg4 H3
  go_wp2
  go_ret
  exact z2q (by(try simp[z0m]);omega) H4.out.1.cur H4.out.2
 ·have cc2:=H1.out.1.c0
  go_wp2_with fail
  refine(z3o base _ blk a len cap _ _ 7 7 2 zuu H1.out.1.cur rfl rfl (by omega) (by omega) (by decide)).mono ?_
  rintro e w2 ⟨u2,hu2,rfl,hc2,hg2⟩
  have H2:=z00 (And.intro (H1.out.1.gone hc2 hg2) (z0d H1.out.2 hg2))
  clear hc2 hg2 H1 cc2
  go_wp2_with fail
  refine(qV _ H2.out.1).mono ?_
  rintro e w3 ⟨u3,hu3,rfl,hc3,hg3⟩
  have H3:=z00 (And.intro (H2.out.1.gone hc3 hg3) (z0d H2.out.2 hg3))
  clear hc3 hg3 H2
  go_wp2_with fail
  refine(qV _ H3.out.1).mono ?_
  rintro e w4 ⟨u4,hu4,rfl,hc4,hg4⟩
  have H4:=z00 (And.intro (H3.out.1.gone hc4 hg4) (z0d H3.out.2 hg4))
  clear hc4 hg4 H3
  go_wp2_with fail
  refine(z47 base _ mb blk a len cap t H4.out.1).mono ?_
  rintro e w5 ⟨u5,hu5,rfl,hc5,hg5⟩
  have H5:=z00 (And.intro (H4.out.1.gone hc5 hg5) (z0d H4.out.2 hg5))
  clear hc5 hg5 H4
  go_wp2
  go_ret
  exact z2q (by(try simp[z0m]);omega) H5.out.1.cur H5.out.2
 ·have cc2:=H1.out.1.c0
  go_wp2_with fail
  refine(z3o base _ blk a len cap _ _ 7 7 2 zuu H1.out.1.cur rfl rfl (by omega) (by omega) (by decide)).mono ?_
  rintro e w2 ⟨u2,hu2,rfl,hc2,hg2⟩
  have H2:=z00 (And.intro (H1.out.1.gone hc2 hg2) (z0d H1.out.2 hg2))
  clear hc2 hg2 H1 cc2
  go_wp2_with fail
  refine(qV _ H2.out.1).mono ?_
  rintro e w3 ⟨u3,hu3,rfl,hc3,hg3⟩
  have H3:=z00 (And.intro (H2.out.1.gone hc3 hg3) (z0d H2.out.2 hg3))
  clear hc3 hg3 H2
  go_wp2_with fail
  refine(qV _ H3.out.1).mono ?_
  rintro e w4 ⟨u4,hu4,rfl,hc4,hg4⟩
  have H4:=z00 (And.intro (H3.out.1.gone hc4 hg4) (z0d H3.out.2 hg4))
  clear hc4 hg4 H3
  go_wp2_with fail
  refine(z47 base _ mb blk a len cap t H4.out.1).mono ?_
  rintro e w5 ⟨u5,hu5,rfl,hc5,hg5⟩
  have H5:=z00 (And.intro (H4.out.1.gone hc5 hg5) (z0d H4.out.2 hg5))
  clear hc5 hg5 H4
  go_wp2
  go_ret
  exact z2q (by(try simp[z0m]);omega) H5.out.1.cur H5.out.2
 ·go_wp2_with fail
  refine(qV _ H1.out.1).mono ?_
  rintro e w2 ⟨u2,hu2,rfl,hc2,hg2⟩
  have H2:=z00 (And.intro (H1.out.1.gone hc2 hg2) (z0d H1.out.2 hg2))
  clear hc2 hg2 H1
  go_wp2
  go_ret
  exact z2q (by(try simp[z0m]);omega) H2.out.1.cur H2.out.2
 ·go_wp2_with fail
  refine(z47 base _ mb blk a len cap t H1.out.1).mono ?_
  rintro e w2 ⟨u2,hu2,rfl,hc2,hg2⟩
  have H2:=z00 (And.intro (H1.out.1.gone hc2 hg2) (z0d H1.out.2 hg2))
  clear hc2 hg2 H1
  go_wp2_with fail
  refine(z47 base _ mb blk a len cap t H2.out.1).mono ?_
  rintro e w3 ⟨u3,hu3,rfl,hc3,hg3⟩
  have H3:=z00 (And.intro (H2.out.1.gone hc3 hg3) (z0d H2.out.2 hg3))
  clear hc3 hg3 H2
  go_wp2_with fail
  refine(qV _ H3.out.1).mono ?_
  rintro e w4 ⟨u4,hu4,rfl,hc4,hg4⟩
  have H4:=z00 (And.intro (H3.out.1.gone hc4 hg4) (z0d H3.out.2 hg4))
  clear hc4 hg4 H3
  go_wp2_with fail
  refine(qV _ H4.out.1).mono ?_
  rintro e w5 ⟨u5,hu5,rfl,hc5,hg5⟩
  have H5:=z00 (And.intro (H4.out.1.gone hc5 hg5) (z0d H4.out.2 hg5))
  clear hc5 hg5 H4
  go_wp2
  go_ret
  exact z2q (by(try simp[z0m]);omega) H5.out.1.cur H5.out.2
 ·have cc2:=H1.out.1.c0
  go_wp2_with fail
  refine(z3o base _ blk a len cap _ _ 3 3 4 zu2 H1.out.1.cur rfl rfl (by omega) (by omega) (by decide)).mono ?_
  rintro e w2 ⟨u2,hu2,rfl,hc2,hg2⟩
  have H2:=z00 (And.intro (H1.out.1.gone hc2 hg2) (z0d H1.out.2 hg2))
  clear hc2 hg2 H1 cc2
  go_wp2_with fail
  refine(qV _ H2.out.1).mono ?_
  rintro e w3 ⟨u3,hu3,rfl,hc3,hg3⟩
  have H3:=z00 (And.intro (H2.out.1.gone hc3 hg3) (z0d H2.out.2 hg3))
  clear hc3 hg3 H2
  go_wp2
  go_ret
  exact z2q (by(try simp[z0m]);omega) H3.out.1.cur H3.out.2
 ·go_wp2_with fail
  refine(z47 base _ mb blk a len cap t H1.out.1).mono ?_
  rintro e w2 ⟨u2,hu2,rfl,hc2,hg2⟩
  have H2:=z00 (And.intro (H1.out.1.gone hc2 hg2) (z0d H1.out.2 hg2))
  clear hc2 hg2 H1
  go_wp2_with fail
  refine(qL _ H2.out.1).mono ?_
  rintro e w3 ⟨u3,hu3,rfl,hc3,hg3⟩
  have H3:=z00 (And.intro (H2.out.1.gone hc3 hg3) (z0d H2.out.2 hg3))
  clear hc3 hg3 H2
  go_wp2
  go_ret
  exact z2q (by(try simp[z0m]);omega) H3.out.1.cur H3.out.2
theorem zrb:∀ {d:Nat},d≤3→zqo d
 | 0,_=>zju
 | d+1,h=>zhz (by omega) (zrb (by omega)) (ztw (by omega) (zrb (by omega)))
def zlz (ops:Array Oper) (s:Nat):Bool:=(List.range ops.size).all fun k=>k==s||(List.range ops.size).any fun j=>match ops[j]? with
 | none=>false
 | some o=>o.after.any fun e=>Region.binds .any e&&e.on==k
section
variable {P:Program} {ops:Array Oper} {Q:Exit→Act→World→Prop}
theorem zk7 {s size:Nat} (h:zlz ops s=true) (ht:za4 ops size=true) {k:Nat} (hk:k<ops.size) (hne:k≠s):∃ (j:Nat) (o:Oper),k<j∧ops[j]?=some o∧∃ e∈o.after,Region.binds .any e=true∧e.on=k:=by
 have h1:=List.all_eq_true.1 h k (List.mem_range.2 hk)
 rw[Bool.or_eq_true] at h1
 rcases h1 with h1|h1
 ·exact absurd (by simpa using h1) hne
 ·obtain⟨j,hj,h2⟩:=List.any_eq_true.1 h1
  cases ho:ops[j]? with
  | none=>simp[ho] at h2
  | some o =>
    rw[ho] at h2
    obtain⟨e,he,hb⟩:=Array.any_eq_true'.1 h2
    rw[Bool.and_eq_true,beq_iff_eq] at hb
    refine⟨j,o,?_,ho,e,he,hb.1,hb.2⟩
    have:=(z7d ht ho).1 e he hb.1
    omega
def zqa (ops:Array Oper) (L:Array Bool):Prop:=∀ (k:Nat) (o:Oper),ops[k]?=some o→L.getD k true=true→∀ e∈o.after,Region.binds .any e=true→L.getD e.on true=true
theorem z6q {s size:Nat} {L:Array Bool} (hs:zlz ops s=true) (ht:za4 ops size=true) (hL:L.size=ops.size) (hsh:zqa ops L) (h:∀ o,ops[s]?=some o→∀ e∈o.after,Region.binds .any e=true→L.getD e.on true=true) :
 ∀ m k,ops.size-k≤m→k≠s→L.getD k true=true
 | 0,k,hm,_=>by
   have:L.size≤k:=by omega
   simp[Array.getElem?_eq_none this]
 | m+1,k,hm,hne=>by
   rcases Nat.lt_or_ge k ops.size with hk|hk
   ·obtain⟨j,o,hlt,ho,e,he,hb,hon⟩:=zk7 hs ht hk hne
    rw[← hon]
    by_cases hjs:j=s
    ·subst hjs
     exact h o ho e he hb
    ·exact hsh j o ho (z6q hs ht hL hsh h m j (by omega) hjs) e he hb
   ·have:L.size≤k:=by omega
    simp[Array.getElem?_eq_none this]
structure RegL (ops:Array Oper) (s:Nat) (a0:Act) (Inv:World→Prop) (Post:Nat→Value→World→Prop) (Q:Exit→Act→World→Prop) (L:Array Bool) (a:Act) (w:World):Prop where
 size:L.size=ops.size
 shut:zqa ops L
 opened:L.getD s true=false→RegAt ops a0 Inv Post L a w
 done:L.getD s true=true→Q .normal a w
theorem zfh {s:Nat} {a0:Act} (Inv:World→Prop) (Step:World→World→Prop) (Post:Nat→Value→World→Prop) (ht:za4 ops a0.tmps.size=true) (hs:zlz ops s=true)
 (hstab:∀ k v w w',Post k v w→Inv w→Step w w'→Post k v w')
 (hstep:∀ (k:Nat) (o:Oper),k≠s→ops[k]?=some o→∀ a w,Inv w→a.tmps.size=a0.tmps.size→(∀ s,(∀ (j:Nat) (o':Oper),ops[j]?=some o'→o'.dst≠some s)→a.tmps.getD s undef=a0.tmps.getD s undef) →
   (∀ e∈o.after,Region.binds .any e=true→∀ (o':Oper),ops[e.on]?=some o'→Post e.on (z3f a o') w) →
   (Region.wanted o (yielded ops a.tmps)=true∧∀ K:Act→World→Prop,(∀ v w',(o.dst=none→v=undef)→Inv w'→Step w w'→Post k v w'→K (a.put o.dst v) w')→Oper.wp P o a w K Q)∨(Region.wanted o (yielded ops a.tmps)=false∧Post k undef w))
 (hlast:∀ (o:Oper),ops[s]?=some o→∀ a w,Inv w→a.defers=a0.defers→a.tmps.size=a0.tmps.size→(∀ s,(∀ (j:Nat) (o':Oper),ops[j]?=some o'→o'.dst≠some s)→a.tmps.getD s undef=a0.tmps.getD s undef) →
   (∀ (k:Nat) (o':Oper),k≠s→ops[k]?=some o'→Post k (z3f a o') w) →
   Region.wanted o (yielded ops a.tmps)=true∧∀ K:Act→World→Prop,(∀ v w',Q .normal (a.put o.dst v) w'→K (a.put o.dst v) w')→Oper.wp P o a w K Q) :
 ∀ (fuel:Nat) (L:Array Bool) (a:Act) (w:World),RegL ops s a0 Inv Post Q L a w→L.count false≤fuel→wpAny P .any ops Q fuel L a w:=by
 have fin:∀ (L:Array Bool) (a:Act) (w:World),RegL ops s a0 Inv Post Q L a w→Region.ready .any ops L=[]→Q .normal a w:=fun L a w h hr =>
  h.done (z9m h.size (fun k o hk=>(z7d ht hk).1) hr s)
 intro fuel
 induction fuel with
 | zero =>
   intro L a w h hc
   have hr:Region.ready .any ops L=[]:=by
    cases hr:Region.ready .any ops L with
    | nil=>rfl
    | cons x xs =>
      have hx:x∈Region.ready .any ops L:=by rw[hr];exact List.mem_cons_self
      have:=count_set (mem_ready.1 hx).1
      omega
   exact⟨hr,fin L a w h hr⟩
 | succ fuel ih =>
   intro L a w h hc
   refine⟨fin L a w h,fun i hi=>?_⟩
   obtain⟨hun,o,ho,hall⟩:=mem_ready.1 hi
   have hcs:=count_set hun
   have hdp:∀ e∈o.after,Region.binds .any e=true→L.getD e.on true=true:=fun e he hbn=>by
    have h1:=hall e he hbn
    have hel:e.on<L.size:=by
     rcases Nat.lt_or_ge e.on L.size with h'|h'
     ·exact h'
     ·simp[Array.getElem?_eq_none h'] at h1
    simp[hel] at h1 ⊢
    exact h1
   have hset:∀ k,L.getD k true=true→(L.setIfInBounds i true).getD k true=true:=fun k hk=>by
    by_cases e:i=k
    ·subst e
     rw[hun] at hk
     cases hk
    ·rw[getD_set_ne true e]
     exact hk
   have hsh:zqa ops (L.setIfInBounds i true):=fun k o' hk hL e he hbn=>by
    by_cases hik:i=k
    ·subst hik
     rw[ho] at hk
     cases hk
     exact hset _ (hdp e he hbn)
    ·rw[getD_set_ne true hik] at hL
     exact hset _ (h.shut k o' hk hL e he hbn)
   have hso:L.getD s true=false:=by
    cases hb:L.getD s true with
    | false=>rfl
    | true =>
      by_cases his:i=s
      ·subst his
       rw[hun] at hb
       cases hb
      ·have:=z6q hs ht h.size h.shut (fun o' ho' e he hbn=>h.shut s o' ho' hb e he hbn) _ i (Nat.le_refl _) his
       rw[hun] at this
       cases this
   have hR:=h.opened hso
   unfold wpOp
   simp only[ho]
   by_cases his:i=s
   ·subst his
    have hil:i<(L.setIfInBounds i true).size:=by
     rcases Nat.lt_or_ge i L.size with h'|h'
     ·simpa using h'
     ·simp[Array.getElem?_eq_none h'] at hun
    obtain⟨hwt,hrun⟩:=hlast o ho a w hR.inv hR.defers hR.tsize hR.fix (fun k o' hk hko=>hR.post k o' hko (z6q hs ht h.size h.shut (fun o'' ho'' e he hbn=>by
     rw[ho] at ho''
     cases ho''
     exact hdp e he hbn) _ k (Nat.le_refl _) hk))
    rw[if_pos hwt]
    refine .inl (hrun _ fun v w' hQ=>ih _ _ _ ⟨by simpa using h.size,hsh,fun hf=>?_,fun _=>hQ⟩ (by omega))
    have hil':i<L.size:=by simpa using hil
    simp[hil'] at hf
   ·rcases hstep i o his ho a w hR.inv hR.tsize hR.fix (fun e he hbn o' ho'=>hR.post e.on o' ho' (hdp e he hbn)) with⟨hwt,hrun⟩|⟨hwt,hpost⟩
    ·rw[if_pos hwt]
     refine .inl (hrun _ fun v w' hv hinv hst hpost=>ih _ _ _ ⟨by simpa using h.size,hsh,fun _=>hR.put ht ho hv hinv (fun k u hu=>hstab k u w w' hu hR.inv hst) hpost,fun hf=>?_⟩ (by omega))
     rw[getD_set_ne true his,hso] at hf
     cases hf
    ·rw[if_neg (by rw[hwt];exact Bool.false_ne_true)]
     refine ih _ _ _ ⟨by simpa using h.size,hsh,fun _=>hR.put ht ho (fun _=>rfl) hR.inv (fun k u hu=>hu) hpost,fun hf=>?_⟩ (by omega)
     rw[getD_set_ne true his,hso] at hf
     cases hf
theorem z1c {id:Nat} {a0:Act} {w0:World} (hmx:P.follows .mixedOrders=true) (s:Nat) (Inv:World→Prop) (Step:World→World→Prop) (Post:Nat→Value→World→Prop) (h0:Inv { w0 with drawn:=w0.drawn+1 }) (ht:za4 ops a0.tmps.size=true) (hs:zlz ops s=true) (hsz:s<ops.size)
 (hstab:∀ k v w w',Post k v w→Inv w→Step w w'→Post k v w')
 (hstep:∀ (k:Nat) (o:Oper),k≠s→ops[k]?=some o→∀ a w,Inv w→a.tmps.size=a0.tmps.size→(∀ s,ops.all (fun o=>o.dst != some s)=true→a.tmps.getD s undef=a0.tmps.getD s undef) →
   (∀ (j:Nat) (o':Oper),ops[j]?=some o'→o.after.any (fun e=>Region.binds .any e&&e.on==j)=true→Post j (z3f a o') w) →
   (Region.wanted o (yielded ops a.tmps)=true∧∀ K:Act→World→Prop,(∀ v w',(o.dst=none→v=undef)→Inv w'→Step w w'→Post k v w'→K (a.put o.dst v) w')→Oper.wp P o a w K Q)∨(Region.wanted o (yielded ops a.tmps)=false∧Post k undef w))
 (hlast:∀ (o:Oper),ops[s]?=some o→∀ a w,Inv w→a.defers=a0.defers→a.tmps.size=a0.tmps.size→(∀ s,ops.all (fun o=>o.dst != some s)=true→a.tmps.getD s undef=a0.tmps.getD s undef) →
   (∀ (k:Nat) (o':Oper),k≠s→ops[k]?=some o'→Post k (z3f a o') w) →
   Region.wanted o (yielded ops a.tmps)=true∧∀ K:Act→World→Prop,(∀ v w',Q .normal (a.put o.dst v) w'→K (a.put o.dst v) w')→Oper.wp P o a w K Q):(Code.region id ops true).wp P Q a0 w0:=by
 have hfx:∀ s,ops.all (fun o=>o.dst != some s)=true→∀ (j:Nat) (o':Oper),ops[j]?=some o'→o'.dst≠some s:=fun s hs j o' hj e=>by
  have:=Array.all_eq_true_iff_forall_mem.1 hs o' (Array.mem_of_getElem? hj)
  simp[e] at this
 have hun:∀ k,k<ops.size→(Array.replicate ops.size false).getD k true=false:=fun k hk=>by simp[hk]
 refine wp_region_any hmx (zfh (s:=s) Inv Step Post ht hs hstab (fun k o hks hk a w hI hsz hfix hdep=>hstep k o hks hk a w hI hsz (fun s hs=>hfix s (hfx s hs)) (fun j o' hj ha=>?_)) (fun o hk a w hI hd hsz hfix hpost=>hlast o hk a w hI hd hsz (fun s hs=>hfix s (hfx s hs)) hpost) _ _ _ _ ⟨by simp,fun k o hk hL=>?_,fun _=>⟨by simp,h0,rfl,rfl,fun _ _=>rfl,fun k o hk hL=>?_⟩,fun hL=>?_⟩ ?_)
 ·obtain⟨e,he,hb⟩:=Array.any_eq_true'.1 ha
  rw[Bool.and_eq_true,beq_iff_eq] at hb
  obtain⟨hb,rfl⟩:=hb
  exact hdep e he hb o' hj
 ·have hlt:k<ops.size:=(Array.getElem?_eq_some_iff.1 hk).1
  simp[hlt] at hL
 ·have hlt:k<ops.size:=(Array.getElem?_eq_some_iff.1 hk).1
  simp[hlt] at hL
 ·simp[hsz] at hL
 ·exact Nat.le_trans Array.count_le_size (by simp)
end
end Go.Proofs.YtekebloinobjnaaGreatDoor
