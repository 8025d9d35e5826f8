/- Texts of one proof, laid together: TrTx, Tel, TrS1, TyAp, RdMem, TrS2. -/
import Derived.Test.YtekebloinobjnaaGreatDoorC04
import Derived.Test.YtekebloinobjnaaGreatDoorC05
import Derived.Test.YtekebloinobjnaaGreatDoorC00
import Derived.Test.YtekebloinobjnaaGreatDoorC01
import Derived.Laws.Rows
set_option maxHeartbeats 16000000
set_option maxRecDepth 100000
namespace Go.Proofs.YtekebloinobjnaaGreatDoor
open Go.RowKit
theorem z9c {t:ByteArray} (h:t.size=0):by8 t 0=0:=z67 (by omega)
theorem z85 {t:ByteArray} (h:z3b 1 t):1≤t.size∧t.size≤30∧z3u (by8 t 0)=true∧∀ j,j<t.size→z3r (by8 t j)=true:=by
 unfold z3b at h
 by_cases h1:z2f (by8 t 0)=true
 ·rw[z5y h1] at h;injection h with h;exact absurd h (by decide)
 have h1':z2f (by8 t 0)=false:=by simpa using h1
 by_cases h2:z3u (by8 t 0)=true
 ·rw[z5f h1' h2] at h
  injection h with _ h
  have hle:=z3d (p:=z3r) (s:=t) (k:=0) (Nat.zero_le _)
  have ha:=z6y (p:=z3r) (s:=t) (k:=0) (Nat.zero_le _)
  unfold z5h at h
  split at h
  ·rw[z9c h.symm] at h2;exact absurd h2 (by decide)
  ·have h0:t.size≠0:=fun e=>by rw[z9c e] at h2;exact absurd h2 (by decide)
   refine⟨by omega,by omega,h2,fun j hj=>?_⟩
   have:=ha j (by omega)
   rwa [Nat.zero_add] at this
 have h2':z3u (by8 t 0)=false:=by simpa using h2
 by_cases h3:by8 t 0=39
 ·rw[zak h1' h2' h3] at h;injection h with h;exact absurd h (by decide)
 by_cases h5:by8 t 0=47∧by8 t 1=47
 ·rw[z7s h5] at h;injection h with h;exact absurd h (by decide)
 ·rw[zc4 h1' h2' h3 h5] at h;injection h with h;exact absurd h (by decide)
theorem zax {t:ByteArray} (h:z3b 2 t):1≤t.size∧t.size≤12∧∀ j,j<t.size→z2f (by8 t j)=true:=by
 unfold z3b at h
 by_cases h1:z2f (by8 t 0)=true
 ·rw[z5y h1] at h
  injection h with _ h
  have hle:=z3d (p:=z2f) (s:=t) (k:=0) (Nat.zero_le _)
  have ha:=z6y (p:=z2f) (s:=t) (k:=0) (Nat.zero_le _)
  unfold z5h at h
  split at h
  ·rw[z9c h.symm] at h1;exact absurd h1 (by decide)
  ·have h0:t.size≠0:=fun e=>by rw[z9c e] at h1;exact absurd h1 (by decide)
   refine⟨by omega,by omega,fun j hj=>?_⟩
   have:=ha j (by omega)
   rwa [Nat.zero_add] at this
 have h1':z2f (by8 t 0)=false:=by simpa using h1
 by_cases h2:z3u (by8 t 0)=true
 ·rw[z5f h1' h2] at h;injection h with h;exact absurd h (by decide)
 have h2':z3u (by8 t 0)=false:=by simpa using h2
 by_cases h3:by8 t 0=39
 ·rw[zak h1' h2' h3] at h;injection h with h;exact absurd h (by decide)
 by_cases h5:by8 t 0=47∧by8 t 1=47
 ·rw[z7s h5] at h;injection h with h;exact absurd h (by decide)
 ·rw[zc4 h1' h2' h3 h5] at h;injection h with h;exact absurd h (by decide)
theorem zb8 {t:ByteArray} (h:z3b 3 t):2≤t.size∧by8 t 0=39∧z6r t 0=t.size:=by
 unfold z3b at h
 by_cases h1:z2f (by8 t 0)=true
 ·rw[z5y h1] at h;injection h with h;exact absurd h (by decide)
 have h1':z2f (by8 t 0)=false:=by simpa using h1
 by_cases h2:z3u (by8 t 0)=true
 ·rw[z5f h1' h2] at h;injection h with h;exact absurd h (by decide)
 have h2':z3u (by8 t 0)=false:=by simpa using h2
 by_cases h3:by8 t 0=39
 ·rw[zak h1' h2' h3] at h
  injection h with _ h
  unfold zfz at h
  split at h
  ·rename_i hc
   refine⟨by omega,h3,?_⟩
   unfold z6r
   rw[Nat.zero_add,if_pos hc]
   omega
  ·rw[z9c h.symm] at h3;exact absurd h3 (by decide)
 by_cases h5:by8 t 0=47∧by8 t 1=47
 ·rw[z7s h5] at h;injection h with h;exact absurd h (by decide)
 ·rw[zc4 h1' h2' h3 h5] at h;injection h with h;exact absurd h (by decide)
theorem zdo {t:ByteArray} (h:z3b 5 t):2≤t.size∧z2b t 0=t.size∧z2u t=t:=by
 unfold z3b at h
 by_cases h5:by8 t 0=47∧by8 t 1=47
 ·rw[z7s h5] at h
  injection h with _ h
  have h0:t.size≠0:=fun e=>by rw[z9c e] at h5;exact absurd h5.1 (by decide)
  have h2:=zix h5 (by omega)
  rw[h] at h2
  have hle:=z3d (p:=z2v) (s:=t) (k:=0) (Nat.zero_le _)
  unfold zar at h
  split at h
  ·omega
  ·obtain⟨m,hm1,hm2,hm3,-⟩:=z99 (t.extract 0 (spn z2v t 0))
   rw[z6a (by omega)] at hm1
   have hsp:spn z2v t 0=t.size:=by omega
   rw[hsp,zjr] at hm2 hm3 h
   have hmt:m=t.size:=by omega
   refine⟨by omega,?_,?_⟩
   ·unfold z2b
    rw[if_pos h5,Nat.zero_add,hsp,if_neg (fun e=>by omega)]
   ·rw[hm2,hmt,zjr]
 by_cases h1:z2f (by8 t 0)=true
 ·rw[z5y h1] at h;injection h with h;exact absurd h (by decide)
 have h1':z2f (by8 t 0)=false:=by simpa using h1
 by_cases h2:z3u (by8 t 0)=true
 ·rw[z5f h1' h2] at h;injection h with h;exact absurd h (by decide)
 have h2':z3u (by8 t 0)=false:=by simpa using h2
 by_cases h3:by8 t 0=39
 ·rw[zak h1' h2' h3] at h;injection h with h;exact absurd h (by decide)
 ·rw[zc4 h1' h2' h3 h5] at h;injection h with h;exact absurd h (by decide)
def zqr (x a b:Int):Bool:=decide (a≤x)&&decide (x≤b)
theorem z1i {x a b:Int} (h:a≤x∧x≤b):zqr x a b=true:=by unfold zqr;rw[decide_eq_true h.1,decide_eq_true h.2];rfl
theorem z2e {x a b:Int} (h:¬ (a≤x∧x≤b)):zqr x a b=false:=by
 unfold zqr
 rw[Bool.and_eq_false_iff,decide_eq_false_iff_not,decide_eq_false_iff_not]
 omega
theorem z1g (x a b:Int) (w:World):Calls Tryz.prog 68 #[.int .i64 x,.int .i64 a,.int .i64 b] w fun e w'=>e=.returned (.bool (zqr x a b))∧w'=w:=by
 by_cases h1:a≤x
 ·by_cases h2:x≤b
  ·rw[z1i ⟨h1,h2⟩]
   go_enter Tryz.func68,Tryz.ntmps68
   go_wp2
   go_ret
   exact⟨rfl,rfl⟩
  ·rw[z2e (fun h=>h2 h.2)]
   go_enter Tryz.func68,Tryz.ntmps68
   go_wp2
   go_ret
   exact⟨rfl,rfl⟩
 ·rw[z2e (fun h=>h1 h.1)]
  go_enter Tryz.func68,Tryz.ntmps68
  go_wp2
  go_ret
  exact⟨rfl,rfl⟩
def zql (w:World) (e:Ending) (w':World):Prop:=e=.returned (.bool true)∧∃ m,w'=w.drewN m
theorem ztj {t:ByteArray} (w:World) (h:z3b 2 t):Calls Tryz.prog 204 #[.string t] w (zql w):=by
 obtain⟨h1,h2,h3⟩:=zax h
 have hby:=z3x t
 have HA:=z00 h3
 clear h h3
 go_enter Tryz.func204,Tryz.ntmps204
 go_wp2
 go_loop [3] (fun i=>∃ j:Nat,j≤t.size∧i=.int .i64 (j:Int)) (fun i=>t.size-(intOf i).toNat)
 case atStart=>exact⟨0,Nat.zero_le _,rfl⟩
 case round =>
  obtain⟨j,hj,rfl⟩:=hrel
  by_cases hlt:j<t.size
  ·have hA:(0:Int)≤(j:Int):=by omega
   have hB:(j:Int)<(t.size:Int):=by omega
   have hbr:=z1f t j
   have hP:=fun W=>z4b (by8 t j) W
   rw[HA.out j hlt] at hP
   go_wp2_with fail
   refine(hP _).mono ?_
   rintro e w ⟨rfl,rfl⟩
   go_wp2
   go_round
   case rel=>exact⟨j+1,by omega,by go_num⟩
   case measure=>simp[intOf];omega
  ·have hB:¬ (j:Int)<(t.size:Int):=by omega
   have hI:=fun W=>z1g (t.size:Int) 1 12 W
   rw[z1i (by omega)] at hI
   go_wp2_with fail
   refine(hI _).mono ?_
   rintro e w ⟨rfl,rfl⟩
   go_wp2
   go_ret
   exact⟨rfl,0,rfl⟩
theorem zsg {t:ByteArray} (w:World) (h:zj9 t):Calls Tryz.prog 84 #[.string t] w (zql w):=by
 obtain⟨h1,h2,h4,h3⟩:=z85 h.1
 have hby:=z3x t
 have HA:=z00 h3
 have hI:=fun W=>z1g (t.size:Int) 1 30 W
 rw[z1i (by omega)] at hI
 have hF:=fun W=>z4i (by8 t 0) W
 rw[h4] at hF
 have hK:=fun W=>z6i t W
 rw[h.2] at hK
 have hbr0:=z1f t 0
 clear h h3 h4
 go_enter Tryz.func84,Tryz.ntmps84
 go_wp2_with fail
 refine(hI _).mono ?_
 rintro e w ⟨rfl,rfl⟩
 go_wp2_with fail
 refine(hF _).mono ?_
 rintro e w ⟨rfl,rfl⟩
 go_wp2_with fail
 refine(hK _).mono ?_
 rintro e w ⟨rfl,rfl⟩
 go_wp2
 go_loop [3] (fun i=>∃ j:Nat,j≤t.size∧i=.int .i64 (j:Int)) (fun i=>t.size-(intOf i).toNat)
 case atStart=>exact⟨0,Nat.zero_le _,rfl⟩
 case round =>
  obtain⟨j,hj,rfl⟩:=hrel
  by_cases hlt:j<t.size
  ·have hA:(0:Int)≤(j:Int):=by omega
   have hB:(j:Int)<(t.size:Int):=by omega
   have hbr:=z1f t j
   have hn:=HA.out j hlt
   unfold z3r at hn
   have hP:=fun W=>z4i (by8 t j) W
   cases hf:z3u (by8 t j) with
   | true =>
     rw[hf] at hP
     clear hn hf
     go_wp2_with fail
     refine(hP _).mono ?_
     rintro e w ⟨rfl,rfl⟩
     go_wp2
     go_round
     case rel=>exact⟨j+1,by omega,by go_num⟩
     case measure=>simp[intOf];omega
   | false =>
     rw[hf,Bool.false_or] at hn
     have hG:=fun W=>z4b (by8 t j) W
     rw[hn] at hG
     rw[hf] at hP
     clear hn hf
     go_wp2_with fail
     refine(hP _).mono ?_
     rintro e w ⟨rfl,rfl⟩
     go_wp2_with fail
     refine(hG _).mono ?_
     rintro e w ⟨rfl,rfl⟩
     go_wp2
     go_round
     case rel=>exact⟨j+1,by omega,by go_num⟩
     case measure=>simp[intOf];omega
  ·have hB:¬ (j:Int)<(t.size:Int):=by omega
   go_wp2
   go_ret
   exact⟨rfl,0,rfl⟩
theorem zkf {t:ByteArray} (w:World) (hs:t.size≤4194304) (h:z3b 3 t):Calls Tryz.prog 205 #[.string t] w (zql w):=by
 obtain⟨h1,h2,h3⟩:=zb8 h
 have hby:=z3x t
 have hQ:=fun W=>z86 t 0 W hs (by omega)
 rw[h3] at hQ
 have h39:(by8 t 0==39)=true:=by simp[h2]
 have hgt:(1:Int)<(t.size:Int):=by omega
 have hbr0:=z1f t 0
 clear h h2 h3
 go_enter Tryz.func205,Tryz.ntmps205
 go_wp2_with fail
 refine(hQ _).mono ?_
 rintro e w ⟨rfl,rfl⟩
 go_wp2
 go_ret
 exact⟨rfl,0,rfl⟩
theorem zr7 {t:ByteArray} (w:World) (hs:t.size≤4194304) (h:z3b 5 t):Calls Tryz.prog 206 #[.string t] w (zql w):=by
 obtain⟨h1,h2,h3⟩:=zdo h
 have hQ:=fun W=>z48 t 0 W hs (by omega)
 rw[h2] at hQ
 have hT:=fun W=>zbd t W hs
 rw[h3] at hT
 have hgt:(1:Int)<(t.size:Int):=by omega
 clear h h2 h3
 go_enter Tryz.func206,Tryz.ntmps206
 go_wp2_with fail
 refine(hQ _).mono ?_
 rintro e w ⟨rfl,rfl⟩
 go_wp2_with fail
 refine(hT _).mono ?_
 rintro e w ⟨rfl,rfl⟩
 go_wp2
 go_ret
 exact⟨by simp,0,rfl⟩
def zfs (P:Prop) (w:World) (e:Ending) (w':World):Prop:=∃ b:Bool,e=.returned (.bool b)∧(b=true↔P)∧w'=w
theorem z4e {P:Prop} {w:World} (h:P):zfs P w (.returned (.bool true)) w:=⟨true,rfl,by simp[h],rfl⟩
theorem z5j {P:Prop} {w:World} (h:¬ P):zfs P w (.returned (.bool false)) w:=⟨false,rfl,by simp[h],rfl⟩
theorem zfs.yes {P:Prop} {w w':World} {e:Ending} (h:zfs P w e w') (hp:P):e=.returned (.bool true)∧w'=w:=by
 obtain⟨b,rfl,h1,rfl⟩:=h
 exact⟨by rw[h1.2 hp],rfl⟩
theorem zfs.no {P:Prop} {w w':World} {e:Ending} (h:zfs P w e w') (hp:¬ P):e=.returned (.bool false)∧w'=w:=by
 obtain⟨b,rfl,h1,rfl⟩:=h
 cases b
 ·exact⟨rfl,rfl⟩
 ·exact absurd (h1.1 rfl) hp
def zag (P:Prop) (w:World) (e:Ending) (w':World):Prop:=∃ b:Bool,e=.returned (.bool b)∧(b=true↔P)∧Below w.heap.size w w'
theorem z12 {P:Prop} {w w':World} (h:P) (hb:Below w.heap.size w w'):zag P w (.returned (.bool true)) w':=⟨true,rfl,by simp[h],hb⟩
theorem z0o {P:Prop} {w w':World} (h:¬ P) (hb:Below w.heap.size w w'):zag P w (.returned (.bool false)) w':=⟨false,rfl,by simp[h],hb⟩
theorem zag.yes {P:Prop} {w w':World} {e:Ending} (h:zag P w e w') (hp:P):e=.returned (.bool true)∧Below w.heap.size w w':=by
 obtain⟨b,rfl,h1,h2⟩:=h
 exact⟨by rw[h1.2 hp],h2⟩
theorem zag.no {P:Prop} {w w':World} {e:Ending} (h:zag P w e w') (hp:¬ P):e=.returned (.bool false)∧Below w.heap.size w w':=by
 obtain⟨b,rfl,h1,h2⟩:=h
 cases b
 ·exact⟨rfl,h2⟩
 ·exact absurd (h1.1 rfl) hp
theorem zdw {b c:Bool} {P:Prop} (h1:b=true↔P) (h2:c=true↔P):b=c:=by
 cases b<;>cases c<;>simp_all
theorem z4g (P:Prop):∃ b:Bool,(b=true↔P):=by
 by_cases h:P
 ·exact⟨true,by simp[h]⟩
 ·exact⟨false,by simp[h]⟩
theorem zag.is {P:Prop} {w w':World} {e:Ending} {b:Bool} (h:zag P w e w') (hb:b=true↔P):e=.returned (.bool b)∧Below w.heap.size w w':=by
 obtain⟨c,rfl,h1,h2⟩:=h
 exact⟨by rw[zdw h1 hb],h2⟩
theorem zfs.is {P:Prop} {w w':World} {e:Ending} {b:Bool} (h:zfs P w e w') (hb:b=true↔P):e=.returned (.bool b)∧w'=w:=by
 obtain⟨c,rfl,h1,h2⟩:=h
 exact⟨by rw[zdw h1 hb],h2⟩
theorem zc8 {t:ByteArray} (h:lvl t≠0):t=(⟨#[124,124]⟩:ByteArray)∨t=(⟨#[38,38]⟩:ByteArray)∨t=(⟨#[61,61]⟩:ByteArray)∨t=(⟨#[60]⟩:ByteArray)∨t=(⟨#[43]⟩:ByteArray)∨t=(⟨#[45]⟩:ByteArray)∨t=(⟨#[42]⟩:ByteArray):=by
 unfold lvl at h
 repeat (split at h;· rename_i e;simp[e])
 exact absurd rfl h
theorem z2j {k:Int} (h:1≤k∧k≤22):k=1∨k=2∨k=3∨k=4∨k=5∨k=6∨k=7∨k=8∨k=9∨k=10∨k=11∨k=12∨k=13∨k=14∨k=15∨k=16∨k=17∨k=18∨k=19∨k=20∨k=21∨k=22:=by omega
theorem zoz {t:ByteArray} (w:World) (h:lvl t≠0):Calls Tryz.prog 207 #[.string t] w (zql w):=by
 rcases zc8 h with rfl|rfl|rfl|rfl|rfl|rfl|rfl
 all_goals clear h
 all_goals go_enter Tryz.func207,Tryz.ntmps207
 all_goals go_wp2
 all_goals go_ret
 all_goals exact⟨rfl,0,rfl⟩
theorem zri {k:Int} {t:ByteArray} (w:World) (hk:1≤k∧k≤22) (hs:t.size≤3000) (h:zk0 k t):Calls Tryz.prog 173 #[.int .i64 k,.string t] w (zql w):=by
 have hs2:t.size≤4194304:=by omega
 unfold zk0 at h
 rcases z2j hk with rfl|rfl|rfl|rfl|rfl|rfl|rfl|rfl|rfl|rfl|rfl|rfl|rfl|rfl|rfl|rfl|rfl|rfl|rfl|rfl|rfl|rfl
 all_goals simp at h
 all_goals clear hk
 all_goals first
  | (subst h
     go_enter Tryz.func173,Tryz.ntmps173
     go_wp2
     go_ret
     exact⟨rfl,0,rfl⟩)
  | (first
      | (have q:=fun W=>zsg W h)
      | (have q:=fun W=>ztj W h)
      | (have q:=fun W=>zkf W hs2 h)
      | (have q:=fun W=>zr7 W hs2 h)
      | (have q:=fun W=>zoz W h)
     clear h
     go_enter Tryz.func173,Tryz.ntmps173
     go_wp2_with fail
     refine(q _).mono ?_
     rintro e w1 ⟨rfl,m,rfl⟩
     go_wp2
     go_ret
     exact⟨rfl,m,rfl⟩)
def zsf (k:Int) (w:World) (e:Ending) (w':World):Prop:=∃ lo hi:Int,e=.returned (.tuple #[.int .i64 lo,.int .i64 hi])∧w'=w∧∀ n:Nat,(lo≤(n:Int)∧(n:Int)≤hi)↔zjy k n
theorem zqc {k:Int} (w:World) (hk:1≤k∧k≤22):Calls Tryz.prog 172 #[.int .i64 k] w (zsf k w):=by
 rcases z2j hk with rfl|rfl|rfl|rfl|rfl|rfl|rfl|rfl|rfl|rfl|rfl|rfl|rfl|rfl|rfl|rfl|rfl|rfl|rfl|rfl|rfl|rfl
 all_goals clear hk
 all_goals go_enter Tryz.func172,Tryz.ntmps172
 all_goals go_wp2
 all_goals go_ret2
 all_goals exact⟨_,_,rfl,rfl,fun n=>by unfold zjy;simp;try omega⟩
theorem zmd (k:Int) (w:World):Calls Tryz.prog 174 #[.int .i64 k] w (zfs (z3z k) w):=by
 have hI:=fun W=>z1g k 12 17 W
 by_cases h:12≤k∧k≤17
 ·rw[z1i h] at hI
  go_enter Tryz.func174,Tryz.ntmps174
  go_wp2_with fail
  refine(hI _).mono ?_
  rintro e w ⟨rfl,rfl⟩
  go_wp2
  go_ret
  exact z4e (.inl h)
 ·rw[z2e h] at hI
  obtain⟨b,hb⟩:∃ b,(k==19)=b:=⟨_,rfl⟩
  go_enter Tryz.func174,Tryz.ntmps174
  go_wp2_with fail
  refine(hI _).mono ?_
  rintro e w ⟨rfl,rfl⟩
  go_wp2
  go_ret
  refine⟨_,rfl,?_,rfl⟩
  rw[← hb]
  unfold z3z
  simp
  omega
theorem z4m (k:Int) (w:World):Calls Tryz.prog 208 #[.int .i64 k] w (zfs (zmj k) w):=by
 have hI:=fun W=>z1g k 1 11 W
 by_cases h:1≤k∧k≤11
 ·rw[z1i h] at hI
  go_enter Tryz.func208,Tryz.ntmps208
  go_wp2_with fail
  refine(hI _).mono ?_
  rintro e w ⟨rfl,rfl⟩
  go_wp2
  go_ret
  exact z4e h
 ·rw[z2e h] at hI
  go_enter Tryz.func208,Tryz.ntmps208
  go_wp2_with fail
  refine(hI _).mono ?_
  rintro e w ⟨rfl,rfl⟩
  go_wp2
  go_ret
  exact z5j h
theorem z0k {w:World} {B1 B2 e1 e2 s1 s2 n1 n2:Nat} {v1 v2:Value} {xs ys:List Value} (h1:w.ownsRow B1 e1 s1 v1 n1 xs) (h2:w.ownsRow B2 e2 s2 v2 n2 ys) (hne:e1≠e2):v1.ownBlock=none∨v1.ownBlock≠v2.ownBlock:=by
 rcases h1.2 with⟨rfl,_⟩|⟨g,cap,cur,rfl,_,hg,_⟩
 ·exact .inl rfl
 ·right
  rcases h2.2 with⟨rfl,_⟩|⟨g',cap',cur',rfl,_,hg',_⟩
  ·intro e
   cases e
  ·intro e
   have e':g=g':=by injection e
   subst e'
   rw[hg] at hg'
   cases hg'
   exact hne rfl
abbrev z32:Nat:=56
abbrev tRd:Nat:=900001
abbrev tSp:Nat:=99
abbrev tSg:Nat:=105
abbrev tI:Nat:=3
structure Fr (B:Nat) (w w':World):Prop where
 bel:Below B w w'
 keep:∀ (k:Nat) (cs:Array Value) (T:TypeId) (z:Nat×Nat),w.heap[k]?=some (.cells cs T z)→T≠z32→T≠tRd→T≠tSp→w'.heap[k]?=some (.cells cs T z)
section
variable {B:Nat} {w w' w1 w2:World}
theorem Fr.refl (B:Nat) (w:World):Fr B w w:=⟨Below.refl _ _,fun _ _ _ _ h _ _ _=>h⟩
theorem Fr.trans (h1:Fr B w w1) (h2:Fr B w1 w2):Fr B w w2:=⟨h1.bel.trans h2.bel,fun k cs T z h a b c=>h2.keep k cs T z (h1.keep k cs T z h a b c) a b c⟩
theorem Fr.ofB (h:Below w.heap.size w w') (hB:B≤w.heap.size):Fr B w w':=⟨h.mono hB,fun k _ _ _ e _ _ _=>(h.block k (Array.getElem?_eq_some_iff.1 e).1).trans e⟩
theorem Fr.size (h:Fr B w w'):w.heap.size≤w'.heap.size:=h.bel.size
theorem Fr.own (h:Fr B w w') {b e s n:Nat} {v:Value} {l:List Value} (ho:w.ownsRow b e s v n l) (h1:e≠z32) (h2:e≠tRd) (h3:e≠tSp):w'.ownsRow b e s v n l:=by
 refine⟨ho.1,?_⟩
 rcases ho.2 with hn|⟨g,cap,cur,e1,e2,e3,rest⟩
 ·exact .inl hn
 ·exact .inr ⟨g,cap,cur,e1,e2,h.keep g cur e (0,0) e3 h1 h2 h3,rest⟩
theorem Fr.ints (h:Fr B w w') {b n:Nat} {v:Value} {l:List Value} (ho:w.ownsRow b tI 1 v n l):w'.ownsRow b tI 1 v n l:=h.own ho (by decide) (by decide) (by decide)
theorem Fr.set {g:Nat} {cs:Array Value} {T:Nat} (hg:w.heap[g]?=some (.cells cs T (0,0))) (hT:T=z32∨T=tRd∨T=tSp) (hB:B≤g) (o:Nat) (v:Value):Fr B w (w.setCell ⟨g,o,none⟩ v):=by
 refine⟨(Below.refl B w).setCell hB _,fun k cs' T' z h a b c=>?_⟩
 rw[heap_setCell_other w ⟨g,o,none⟩ k v ?_]
 ·exact h
 ·intro e
  rw[show k=g from e,hg] at h
  injection h with h
  injection h with _ h _
  subst h
  rcases hT with h|h|h
  ·exact a h
  ·exact b h
  ·exact c h
theorem Fr.grow {b s n:Nat} {v:Value} {l:List Value} (ho:w.ownsRow b z32 s v n l) (hg:w.grownBy w' v.ownBlock) (hB:B≤w.heap.size) (hb:B≤b):Fr B w w':=by
 refine⟨⟨hg.os,hg.tape,hg.output,hg.size,fun k hk=>hg.block k (by omega) (fun e=>?_)⟩,fun k cs T z h a _ _=>?_⟩
 ·have:=(ho.lt k e.symm).1
  omega
 ·rw[hg.block k (Array.getElem?_eq_some_iff.1 h).1 (fun e=>?_)]
  ·exact h
  ·rcases ho.2 with⟨rfl,_⟩|⟨g,cap,cur,rfl,_,e3,_⟩
   ·cases e
   ·have:k=g:=by injection e
    subst this
    rw[e3] at h
    injection h with h
    injection h with _ h _
    exact a h.symm
end
section
variable {B g:Nat} {xs:List Sg} {A:Nat→Prop} {w w':World} {s:Ps}
end
theorem Fr.growI {B:Nat} {w w1 w2:World} {v:Value} (h:Fr B w w1) (hB:B≤w.heap.size) (hg:w1.grownBy w2 v.ownBlock) (hv:∀ b,v.ownBlock=some b→w.heap.size≤b):Fr B w w2:=by
 have hs:=h.size
 refine⟨h.bel.trans ⟨hg.os,hg.tape,hg.output,hg.size,fun k hk=>hg.block k (by omega) (fun e=>?_)⟩,fun k cs T z hk a b c=>?_⟩
 ·have:=hv k e.symm
  omega
 ·have h1:=h.keep k cs T z hk a b c
  rw[hg.block k (Array.getElem?_eq_some_iff.1 h1).1 (fun e=>?_)]
  ·exact h1
  ·have:=hv k e.symm
   have:=(Array.getElem?_eq_some_iff.1 hk).1
   omega
theorem z9j:∀ (qs:List Np) (k:Nat) (q:Np) (b:Bool),qs[k]?=some q→(z0r z0u qs).set (k*4+3) (.bool b)=z0r z0u (qs.set k ⟨⟨q.nd.kind,q.nd.text,q.nd.kids,b⟩,q.a,q.c⟩)
 | [],k,q,b,h=>by simp at h
 | p::qs,0,q,b,h=>by
   have e:p=q:=by simpa using h
   subst e
   rfl
 | p::qs,k+1,q,b,h=>by
   have ih:=z9j qs k q b (by simpa using h)
   show (z0u p++z0r z0u qs).set ((k+1)*4+3) _=z0u p++z0r z0u (qs.set k _)
   rw[← ih,show (k+1)*4+3=k*4+3+4 by omega]
   rfl
def z0g (A:Nat→Prop) (v:Value):Nat→Prop:=fun b=>A b∨v.ownBlock=some b
theorem z0g.lt {A:Nat→Prop} {w W:World} {v:Value} {b e s n:Nat} {l:List Value} (hA:∀ k,A k→k<w.heap.size) (hs:w.heap.size≤W.heap.size) (ho:W.ownsRow b e s v n l):∀ k,z0g A v k→k<W.heap.size:=fun k hk=>by
 rcases hk with h|h
 ·have:=hA k h
  omega
 ·exact(ho.lt k h).2
theorem z09 {α β:Type} {x:Rs α} {f:α→Ps→Rs β} {o:Option (β×Ps)} (h:bnd x f=some o):(x=some none∧o=none)∨∃ a s,x=some (some (a,s))∧f a s=some o:=by
 match x,h with
 | none,h=>cases h
 | some none,h=>left;exact⟨rfl,by injection h with h;exact h.symm⟩
 | some (some (a,s)),h=>exact .inr ⟨a,s,rfl,h⟩
theorem Nds.node {w:World} {B:Nat} {a:Option Addr} {c k:Nat} {qs:List Np} {q:Np} (h:Nds w B a c qs) (hk:qs[k]?=some q):∃ b,a=some ⟨b,0,none⟩∧b<w.heap.size∧w.cell? ⟨b,k*4,none⟩=some (.int .i64 q.nd.kind)∧w.cell? ⟨b,k*4+1,none⟩=some (.string q.nd.text)∧w.cell? ⟨b,k*4+2,none⟩=some (.slice q.a q.nd.kids.length q.c)∧w.cell? ⟨b,k*4+3,none⟩=some (.bool q.nd.blank):=by
 have hl:k<qs.length:=(List.getElem?_eq_some_iff.1 hk).1
 obtain⟨b,rfl⟩:=z0s h.row (by omega)
 exact⟨b,rfl,(h.row.lt b rfl).2,np4 fun j hj=>(h.row.cellAt (k*4+j) (by omega)).trans (z58 z8e qs k q hk j hj)⟩
theorem Nds.kid {w:World} {B:Nat} {a:Option Addr} {c k i:Nat} {qs:List Np} {q:Np} {z:Int} (h:Nds w B a c qs) (hk:qs[k]?=some q) (hz:q.nd.kids[i]?=some z):∃ b,q.a=some ⟨b,0,none⟩∧b<w.heap.size∧w.cell? ⟨b,i,none⟩=some (.int .i64 z):=by
 have hl:i<q.nd.kids.length:=(List.getElem?_eq_some_iff.1 hz).1
 have hr:=h.each q (List.mem_of_getElem? hk)
 obtain⟨b,hb⟩:=z0s hr (by omega)
 rw[hb] at hr
 refine⟨b,hb,(hr.lt b rfl).2,(hr.cellAt i (by omega)).trans ?_⟩
 unfold z02
 rw[List.getElem?_map,hz]
 rfl
theorem zc0 {qs:List Np} {y:Nd} {zm:Nat} {q3:Np} (h1:y.kind=5) (h2:y.kids[0]?=some (zm:Int)) (h3:qs[zm]?=some q3):z7j (qs.map Np.nd) y↔q3.nd.kind=1:=by
 constructor
 ·rintro⟨-,z,u,e1,e2,e3⟩
  rw[h2] at e1
  injection e1 with e1
  subst e1
  rw[Int.toNat_natCast,List.getElem?_map,h3] at e2
  injection e2 with e2
  rw[show q3.nd=u from e2]
  exact e3
 ·exact fun e=>⟨h1,zm,q3.nd,h2,by rw[Int.toNat_natCast,List.getElem?_map,h3];rfl,e⟩
theorem z15 (w:World) (x y):Below w.heap.size w ((w.alloc x).alloc y):=((Below.refl _ _).alloc (Nat.le_refl _) _).alloc (by simp) _
theorem z5e {w:World} {B:Nat} {a:Option Addr} {c k i zn:Nat} {qs:List Np} {q1 q2:Np} (h:Nds w B a c qs) (h1:qs[k]?=some q1) (hz:q1.nd.kids[i]?=some (zn:Int)) (h2:qs[zn]?=some q2) (hk:1≤q1.nd.kind∧q1.nd.kind≤22) (hc:z3s (qs.map Np.nd) q2.nd) (hm:q1.nd.kids.length≤12) :
 Calls Tryz.prog 175 #[.slice a qs.length c,.int .i64 (k:Int),.int .i64 (i:Int)] w (zag (z11 (qs.map Np.nd) q2.nd (z0f q1.nd.kind i q1.nd.kids.length)) w):=by
 have hkl:k<qs.length:=(List.getElem?_eq_some_iff.1 h1).1
 have hzl:zn<qs.length:=(List.getElem?_eq_some_iff.1 h2).1
 have hil:i<q1.nd.kids.length:=(List.getElem?_eq_some_iff.1 hz).1
 obtain⟨b,rfl,hb,c0,c1,c2,c3⟩:=h.node h1
 obtain⟨b',hbb,-,d0,d1,d2,d3⟩:=h.node h2
 obtain rfl:b=b':=by injection hbb with hbb;injection hbb
 obtain⟨kb,hkb,hkbl,ck⟩:=h.kid h1 hz
 rw[hkb] at c2
 have hA1:(0:Int)≤(k:Int):=by omega
 have hA2:(0:Int)≤(zn:Int):=by omega
 have hA3:(0:Int)≤(i:Int):=by omega
 have hB1:(k:Int)<(qs.length:Int):=by omega
 have hB2:(zn:Int)<(qs.length:Int):=by omega
 have hB3:(i:Int)<(q1.nd.kids.length:Int):=by omega
 obtain⟨⟨kd,tx,ks,bl⟩,ka,kc⟩:=q1
 obtain⟨⟨kd2,tx2,ks2,bl2⟩,ka2,kc2⟩:=q2
 simp only at hkb hil hB3 hm hk c0 c1 c2 c3 d0 d1 d2 d3 hz hc
 subst hkb
 have HH:=z00 (And.intro h (And.intro h1 (And.intro hz (And.intro h2 hc))))
 show Calls _ _ _ _ (zag (z11 (qs.map Np.nd) ⟨kd2,tx2,ks2,bl2⟩ (z0f kd i ks.length)) w)
 clear h h1 hz h2 hc hbb
 rcases z2j hk with rfl|rfl|rfl|rfl|rfl|rfl|rfl|rfl|rfl|rfl|rfl|rfl|rfl|rfl|rfl|rfl|rfl|rfl|rfl|rfl|rfl|rfl
 all_goals clear hk
 ·go_enter Tryz.func175,Tryz.ntmps175
  go_wp2_with fail
  refine(z4m kd2 _).mono ?_
  rintro e w1 ⟨bb,rfl,hbb,rfl⟩
  have HQ:=z00 hbb
  clear hbb
  go_wp2
  go_ret
  exact⟨bb,rfl,HQ.out.trans (by simp[z11,z0f]),z15 _ _ _⟩
 ·go_enter Tryz.func175,Tryz.ntmps175
  go_wp2_with fail
  refine(z4m kd2 _).mono ?_
  rintro e w1 ⟨bb,rfl,hbb,rfl⟩
  have HQ:=z00 hbb
  clear hbb
  go_wp2
  go_ret
  exact⟨bb,rfl,HQ.out.trans (by simp[z11,z0f]),z15 _ _ _⟩
 ·go_enter Tryz.func175,Tryz.ntmps175
  go_wp2_with fail
  refine(z4m kd2 _).mono ?_
  rintro e w1 ⟨bb,rfl,hbb,rfl⟩
  have HQ:=z00 hbb
  clear hbb
  go_wp2
  go_ret
  exact⟨bb,rfl,HQ.out.trans (by simp[z11,z0f]),z15 _ _ _⟩
 ·go_enter Tryz.func175,Tryz.ntmps175
  go_wp2_with fail
  refine(z4m kd2 _).mono ?_
  rintro e w1 ⟨bb,rfl,hbb,rfl⟩
  have HQ:=z00 hbb
  clear hbb
  go_wp2
  go_ret
  exact⟨bb,rfl,HQ.out.trans (by simp[z11,z0f]),z15 _ _ _⟩
 ·go_enter Tryz.func175,Tryz.ntmps175
  go_wp2_with fail
  refine(z4m kd2 _).mono ?_
  rintro e w1 ⟨bb,rfl,hbb,rfl⟩
  have HQ:=z00 hbb
  clear hbb
  go_wp2
  go_ret
  exact⟨bb,rfl,HQ.out.trans (by simp[z11,z0f]),z15 _ _ _⟩
 ·go_enter Tryz.func175,Tryz.ntmps175
  go_wp2_with fail
  refine(z4m kd2 _).mono ?_
  rintro e w1 ⟨bb,rfl,hbb,rfl⟩
  have HQ:=z00 hbb
  clear hbb
  go_wp2
  go_ret
  exact⟨bb,rfl,HQ.out.trans (by simp[z11,z0f]),z15 _ _ _⟩
 ·go_enter Tryz.func175,Tryz.ntmps175
  go_wp2_with fail
  refine(z4m kd2 _).mono ?_
  rintro e w1 ⟨bb,rfl,hbb,rfl⟩
  have HQ:=z00 hbb
  clear hbb
  go_wp2
  go_ret
  exact⟨bb,rfl,HQ.out.trans (by simp[z11,z0f]),z15 _ _ _⟩
 ·go_enter Tryz.func175,Tryz.ntmps175
  go_wp2_with fail
  refine(z4m kd2 _).mono ?_
  rintro e w1 ⟨bb,rfl,hbb,rfl⟩
  have HQ:=z00 hbb
  clear hbb
  go_wp2
  go_ret
  exact⟨bb,rfl,HQ.out.trans (by simp[z11,z0f]),z15 _ _ _⟩
 ·by_cases hi:i+1<ks.length
  ·have hi1:((i:Int)+1)<(ks.length:Int):=by omega
   obtain⟨bb,hbb⟩:∃ bb,bb=(kd2==1):=⟨_,rfl⟩
   have HQ:=z00 (show bb=true↔kd2=1 by rw[hbb];simp)
   go_enter Tryz.func175,Tryz.ntmps175
   go_wp2
   rw[← hbb]
   go_ret
   exact⟨bb,rfl,HQ.out.trans (by simp[z11,z0f,hi]),z15 _ _ _⟩
  ·have hi1:¬ ((i:Int)+1)<(ks.length:Int):=by omega
   go_enter Tryz.func175,Tryz.ntmps175
   go_wp2_with fail
   refine(z4m kd2 _).mono ?_
   rintro e w1 ⟨bb,rfl,hbb,rfl⟩
   have HQ:=z00 hbb
   clear hbb
   go_wp2
   go_ret
   exact⟨bb,rfl,HQ.out.trans (by simp[z11,z0f,hi]),z15 _ _ _⟩
 ·by_cases hi:0<i
  ·have hi1:(0:Int)<(i:Int):=by omega
   by_cases h5:kd2=5
   ·subst h5
    obtain⟨z0,e1,e2,e3⟩:=HH.out.2.2.2.2 rfl
    simp only at e1
    obtain⟨zm,rfl⟩:∃ zm:Nat,z0=(zm:Int):=⟨z0.toNat,by omega⟩
    have hzm:zm<qs.length:=by simp at e3;omega
    obtain⟨q3,h3⟩:∃ q3,qs[zm]?=some q3:=⟨_,List.getElem?_eq_getElem hzm⟩
    obtain⟨b3,hb3,-,g0,-,-,-⟩:=HH.out.1.node h3
    obtain rfl:b=b3:=by injection hb3 with hb3;injection hb3
    obtain⟨kb2,hkb2,hkbl2,ck2⟩:=HH.out.1.kid HH.out.2.2.2.1 e1
    simp only at hkb2
    subst hkb2
    have hl2:0<ks2.length:=(List.getElem?_eq_some_iff.1 e1).1
    have hA4:(0:Int)≤(zm:Int):=by omega
    have hB4:(zm:Int)<(qs.length:Int):=by omega
    have hB5:(0:Int)<(ks2.length:Int):=by omega
    obtain⟨bb,hbb⟩:∃ bb,bb=(q3.nd.kind==1):=⟨_,rfl⟩
    have HQ:=z00 (show bb=true↔q3.nd.kind=1 by rw[hbb];simp)
    obtain⟨kd3,hkd3⟩:∃ kd3,kd3=q3.nd.kind:=⟨_,rfl⟩
    rw[← hkd3] at g0 hbb
    have HE:=z00 (And.intro e1 (And.intro h3 hkd3))
    clear e1 e2 e3 h3 hkd3 hb3 hzm
    go_enter Tryz.func175,Tryz.ntmps175
    go_wp2
    rw[← hbb]
    go_ret
    refine⟨bb,rfl,HQ.out.trans ?_,z15 _ _ _⟩
    rw[show z0f 10 i ks.length=3 by simp[z0f,hi]]
    exact(zc0 rfl HE.out.1 HE.out.2.1).symm
   ·have h5b:(kd2==5)=false:=by rw[beq_eq_false_iff_ne];exact h5
    go_enter Tryz.func175,Tryz.ntmps175
    go_wp2
    go_ret
    exact z0o (by simp[z11,z0f,hi,z7j,h5]) (z15 _ _ _)
  ·have hi1:¬ (0:Int)<(i:Int):=by omega
   go_enter Tryz.func175,Tryz.ntmps175
   go_wp2_with fail
   refine(z4m kd2 _).mono ?_
   rintro e w1 ⟨bb,rfl,hbb,rfl⟩
   have HQ:=z00 hbb
   clear hbb
   go_wp2
   go_ret
   exact⟨bb,rfl,HQ.out.trans (by simp[z11,z0f,hi]),z15 _ _ _⟩
 ·go_enter Tryz.func175,Tryz.ntmps175
  go_wp2_with fail
  refine(z4m kd2 _).mono ?_
  rintro e w1 ⟨bb,rfl,hbb,rfl⟩
  have HQ:=z00 hbb
  clear hbb
  go_wp2
  go_ret
  exact⟨bb,rfl,HQ.out.trans (by simp[z11,z0f]),z15 _ _ _⟩
 ·go_enter Tryz.func175,Tryz.ntmps175
  go_wp2_with fail
  refine(z4m kd2 _).mono ?_
  rintro e w1 ⟨bb,rfl,hbb,rfl⟩
  have HQ:=z00 hbb
  clear hbb
  go_wp2
  go_ret
  exact⟨bb,rfl,HQ.out.trans (by simp[z11,z0f]),z15 _ _ _⟩
 ·go_enter Tryz.func175,Tryz.ntmps175
  go_wp2_with fail
  refine(z4m kd2 _).mono ?_
  rintro e w1 ⟨bb,rfl,hbb,rfl⟩
  have HQ:=z00 hbb
  clear hbb
  go_wp2
  go_ret
  exact⟨bb,rfl,HQ.out.trans (by simp[z11,z0f]),z15 _ _ _⟩
 ·go_enter Tryz.func175,Tryz.ntmps175
  go_wp2_with fail
  refine(z4m kd2 _).mono ?_
  rintro e w1 ⟨bb,rfl,hbb,rfl⟩
  have HQ:=z00 hbb
  clear hbb
  go_wp2
  go_ret
  exact⟨bb,rfl,HQ.out.trans (by simp[z11,z0f]),z15 _ _ _⟩
 ·go_enter Tryz.func175,Tryz.ntmps175
  go_wp2_with fail
  refine(z4m kd2 _).mono ?_
  rintro e w1 ⟨bb,rfl,hbb,rfl⟩
  have HQ:=z00 hbb
  clear hbb
  go_wp2
  go_ret
  exact⟨bb,rfl,HQ.out.trans (by simp[z11,z0f]),z15 _ _ _⟩
 ·by_cases hi:0<i
  ·have hi1:(0:Int)<(i:Int):=by omega
   obtain⟨bb,hbb⟩:∃ bb,bb=(kd2==18):=⟨_,rfl⟩
   have HQ:=z00 (show bb=true↔kd2=18 by rw[hbb];simp)
   go_enter Tryz.func175,Tryz.ntmps175
   go_wp2
   rw[← hbb]
   go_ret
   exact⟨bb,rfl,HQ.out.trans (by simp[z11,z0f,hi]),z15 _ _ _⟩
  ·have hi1:¬ (0:Int)<(i:Int):=by omega
   go_enter Tryz.func175,Tryz.ntmps175
   go_wp2_with fail
   refine(z4m kd2 _).mono ?_
   rintro e w1 ⟨bb,rfl,hbb,rfl⟩
   have HQ:=z00 hbb
   clear hbb
   go_wp2
   go_ret
   exact⟨bb,rfl,HQ.out.trans (by simp[z11,z0f,hi]),z15 _ _ _⟩
 ·by_cases hi:0<i
  ·have hi1:(0:Int)<(i:Int):=by omega
   obtain⟨bb,hbb⟩:∃ bb,bb=(kd2==18):=⟨_,rfl⟩
   have HQ:=z00 (show bb=true↔kd2=18 by rw[hbb];simp)
   go_enter Tryz.func175,Tryz.ntmps175
   go_wp2
   rw[← hbb]
   go_ret
   exact⟨bb,rfl,HQ.out.trans (by simp[z11,z0f,hi]),z15 _ _ _⟩
  ·have hi1:¬ (0:Int)<(i:Int):=by omega
   go_enter Tryz.func175,Tryz.ntmps175
   go_wp2_with fail
   refine(z4m kd2 _).mono ?_
   rintro e w1 ⟨bb,rfl,hbb,rfl⟩
   have HQ:=z00 hbb
   clear hbb
   go_wp2
   go_ret
   exact⟨bb,rfl,HQ.out.trans (by simp[z11,z0f,hi]),z15 _ _ _⟩
 ·go_enter Tryz.func175,Tryz.ntmps175
  go_wp2_with fail
  refine(zmd kd2 _).mono ?_
  rintro e w1 ⟨bb,rfl,hbb,rfl⟩
  have HQ:=z00 hbb
  clear hbb
  go_wp2
  go_ret
  exact⟨bb,rfl,HQ.out.trans (by simp[z11,z0f]),z15 _ _ _⟩
 ·go_enter Tryz.func175,Tryz.ntmps175
  go_wp2_with fail
  refine(z4m kd2 _).mono ?_
  rintro e w1 ⟨bb,rfl,hbb,rfl⟩
  have HQ:=z00 hbb
  clear hbb
  go_wp2
  go_ret
  exact⟨bb,rfl,HQ.out.trans (by simp[z11,z0f]),z15 _ _ _⟩
 ·by_cases hi:i+1<ks.length
  ·have hi1:((i:Int)+1)<(ks.length:Int):=by omega
   obtain⟨bb,hbb⟩:∃ bb,bb=(kd2==1):=⟨_,rfl⟩
   have HQ:=z00 (show bb=true↔kd2=1 by rw[hbb];simp)
   go_enter Tryz.func175,Tryz.ntmps175
   go_wp2
   rw[← hbb]
   go_ret
   exact⟨bb,rfl,HQ.out.trans (by simp[z11,z0f,hi]),z15 _ _ _⟩
  ·have hi1:¬ ((i:Int)+1)<(ks.length:Int):=by omega
   obtain⟨bb,hbb⟩:∃ bb,bb=(kd2==18):=⟨_,rfl⟩
   have HQ:=z00 (show bb=true↔kd2=18 by rw[hbb];simp)
   go_enter Tryz.func175,Tryz.ntmps175
   go_wp2
   rw[← hbb]
   go_ret
   exact⟨bb,rfl,HQ.out.trans (by simp[z11,z0f,hi]),z15 _ _ _⟩
 ·obtain⟨bb,hbb⟩:=z4g (z3y kd2)
  have HQ:=z00 hbb
  clear hbb
  by_cases n12:kd2=12
  ·subst n12
   go_enter Tryz.func175,Tryz.ntmps175
   go_wp2
   go_ret
   exact z12 (by simp[z11,z0f,z3y]) (z15 _ _ _)
  have m12:(kd2==12)=false:=by rw[beq_eq_false_iff_ne];exact n12
  by_cases n20:kd2=20
  ·subst n20
   go_enter Tryz.func175,Tryz.ntmps175
   go_wp2
   go_ret
   exact z12 (by simp[z11,z0f,z3y]) (z15 _ _ _)
  have m20:(kd2==20)=false:=by rw[beq_eq_false_iff_ne];exact n20
  by_cases n19:kd2=19
  ·subst n19
   go_enter Tryz.func175,Tryz.ntmps175
   go_wp2
   go_ret
   exact z12 (by simp[z11,z0f,z3y]) (z15 _ _ _)
  have m19:(kd2==19)=false:=by rw[beq_eq_false_iff_ne];exact n19
  go_enter Tryz.func175,Tryz.ntmps175
  go_wp2
  go_ret
  exact z0o (by simp[z11,z0f,z3y,n12,n20,n19]) (z15 _ _ _)
 ·obtain⟨bb,hbb⟩:=z4g (z3y kd2∨kd2=21)
  have HQ:=z00 hbb
  clear hbb
  by_cases n21:kd2=21
  ·subst n21
   go_enter Tryz.func175,Tryz.ntmps175
   go_wp2
   go_ret
   exact z12 (by simp[z11,z0f,z3y]) (z15 _ _ _)
  have m21:(kd2==21)=false:=by rw[beq_eq_false_iff_ne];exact n21
  by_cases n12:kd2=12
  ·subst n12
   go_enter Tryz.func175,Tryz.ntmps175
   go_wp2
   go_ret
   exact z12 (by simp[z11,z0f,z3y]) (z15 _ _ _)
  have m12:(kd2==12)=false:=by rw[beq_eq_false_iff_ne];exact n12
  by_cases n20:kd2=20
  ·subst n20
   go_enter Tryz.func175,Tryz.ntmps175
   go_wp2
   go_ret
   exact z12 (by simp[z11,z0f,z3y]) (z15 _ _ _)
  have m20:(kd2==20)=false:=by rw[beq_eq_false_iff_ne];exact n20
  by_cases n19:kd2=19
  ·subst n19
   go_enter Tryz.func175,Tryz.ntmps175
   go_wp2
   go_ret
   exact z12 (by simp[z11,z0f,z3y]) (z15 _ _ _)
  have m19:(kd2==19)=false:=by rw[beq_eq_false_iff_ne];exact n19
  go_enter Tryz.func175,Tryz.ntmps175
  go_wp2
  go_ret
  exact z0o (by simp[z11,z0f,z3y,n21,n12,n20,n19]) (z15 _ _ _)
end Go.Proofs.YtekebloinobjnaaGreatDoor
