/- Texts of one proof, laid together: DrSd. -/
import Derived.Test.YtekebloinobjnaaGreatDoorC46
set_option maxHeartbeats 16000000
set_option maxRecDepth 100000
namespace Go.Proofs.YtekebloinobjnaaGreatDoor
open Go.RowKit
def zk5:List ByteArray:=[⟨#[]⟩,⟨#[97]⟩,⟨#[97,44,32,98,44]⟩]
def ziy (mb blk:Nat) (t:ByteArray):Nat→Value→World→Prop
 | 0=>fun v _=>v=.pointer (some ⟨mb,0,none⟩)
 | 1=>fun v _=>v=.pointer (some ⟨mb,0,none⟩)
 | 2=>fun v _=>v=.pointer (some ⟨mb,0,none⟩)
 | 3=>fun v _=>v=.pointer (some ⟨mb,1,none⟩)
 | 4=>fun v _=>v=.string (t)
 | 5=>fun v _=>v=.pointer (some ⟨mb,0,none⟩)
 | 6=>fun v _=>∃ x13:ByteArray,x13.size≤23∧v=.string (x13)
 | 7=>fun v _=>∃ x13:ByteArray,x13.size≤23∧v=.string (t++x13)
 | 8=>fun v _=>∃ x13:ByteArray,x13.size≤23∧v=.string (t++x13++(⟨#[40]⟩:ByteArray))
 | 9=>fun v _=>v=.pointer (some ⟨mb,0,none⟩)
 | 10=>fun v _=>v=.pointer (some ⟨mb,0,none⟩)
 | 11=>fun v _=>v=.pointer (some ⟨mb,0,none⟩)
 | 12=>fun v _=>v=.pointer (some ⟨blk,0,none⟩)
 | 13=>fun v X=>∃ lb:Nat,v=.slice (some ⟨lb,0,none⟩) 3 3∧lb≠blk∧lb<X.heap.size∧∀ j,j<3→X.cell? ⟨lb,j,none⟩=(z0h zk5)[j]?
 | 14=>fun v _=>∃ x21:ByteArray,x21.size≤5∧v=.string (x21)
 | 15=>fun v _=>∃ x13:ByteArray,x13.size≤23∧∃ x21:ByteArray,x21.size≤5∧v=.string (t++x13++(⟨#[40]⟩:ByteArray)++x21)
 | 16=>fun v _=>∃ x13:ByteArray,x13.size≤23∧∃ x21:ByteArray,x21.size≤5∧v=.string (t++x13++(⟨#[40]⟩:ByteArray)++x21++(⟨#[41,32,123,32]⟩:ByteArray))
 | 17=>fun v _=>v=.pointer (some ⟨mb,0,none⟩)
 | 18=>fun v _=>v=.pointer (some ⟨mb,1,none⟩)
 | _=>fun _ _=>True
theorem zci (mb blk:Nat) (t:ByteArray):∀ k v (X X':World),ziy mb blk t k v X→X.grownBy X' (some blk)→ziy mb blk t k v X'
 | 0,_,_,_,h,_=>h
 | 1,_,_,_,h,_=>h
 | 2,_,_,_,h,_=>h
 | 3,_,_,_,h,_=>h
 | 4,_,_,_,h,_=>h
 | 5,_,_,_,h,_=>h
 | 6,_,_,_,h,_=>h
 | 7,_,_,_,h,_=>h
 | 8,_,_,_,h,_=>h
 | 9,_,_,_,h,_=>h
 | 10,_,_,_,h,_=>h
 | 11,_,_,_,h,_=>h
 | 12,_,_,_,h,_=>h
 | 13,_,_,_,⟨lb,h1,h2,h3,h4⟩,hg=>⟨lb,h1,h2,Nat.lt_of_lt_of_le h3 hg.size,fun j hj=>(World.cell?_of_block (hg.block lb h3 (fun e=>h2 (Option.some.inj e)))).trans (h4 j hj)⟩
 | 14,_,_,_,h,_=>h
 | 15,_,_,_,h,_=>h
 | 16,_,_,_,h,_=>h
 | 17,_,_,_,h,_=>h
 | 18,_,_,_,h,_=>h
 | _+19,_,_,_,_,_=>trivial
theorem zd3 (base:Nat) (w:World) (mb blk:Nat) (a:Option Addr) (len cap:Nat) (t:ByteArray) (n:Nat) (h:MkAt base w mb blk a len cap t) (ht:t.size≤n) (hn:n≤100000000) :
 Calls Tryz.prog 117 #[.pointer (some ⟨mb,0,none⟩)] w (zry base w mb blk a len cap (n+259000)):=by
 have HM:=z00 (show MkL base w w mb blk a len cap t from⟨h,Fr2.refl _ _ _⟩)
 have qS:=zv2.1
 rw[show (2:Int)=2 from rfl] at qS
 have c0:=h.c0
 clear h
 go_enter Tryz.func117,Tryz.ntmps117
 go_wp2_with fail
 refine(z1v base _ blk a len cap 5 HM.out.at_.cur (by omega) (by omega)).mono ?_
 rintro e w4 ⟨y,hy,rfl,hc4,hg4⟩
 have H4:=z00 (HM.out.gone hc4 hg4)
 clear hc4 hg4 HM c0
 by_cases hy0:y=0
 ·subst hy0
  have HD:=H4.out.drew
  have k0:=H4.out.at_.c1
  have q0:¬ 9223372036854775807<t.size+4:=by omega
  go_wp2
  go_region_with (go_at_call 155;refine(z47 base _ mb blk a len cap _ HD.at_).mono ?_;rintro e w10 ⟨t10,s10,rfl,hc10,hg10⟩;have J10:=HD.gone hc10 hg10;have k10:=J10.at_.c1;have z10:=J10.at_.fz;have q20:¬ 9223372036854775807<t.size+4+t10.size:=(by omega);have q21:¬ 9223372036854775807<t.size+4+t10.size+2:=(by omega))
  all_goals
   have HP:=z00 (fun u:ByteArray=>z2p J10 u)
   go_wp2
   go_end0
   exact⟨rfl,_,by(try simp[z0m]);omega,(HP.out _).out⟩
 by_cases hy1:y=1
 ·subst hy1
  have k1:=H4.out.at_.c1
  have z1:=H4.out.at_.fz
  have HP:=z00 (fun u:ByteArray=>z2p H4.out u)
  go_wp2
  go_end0
  exact⟨rfl,_,by(try simp[z0m]);omega,(HP.out _).out⟩
 have n0:((y:Int)==0)=false:=by rw[beq_eq_false_iff_ne];omega
 have n1:((y:Int)==1)=false:=by rw[beq_eq_false_iff_ne];omega
 have HD:=H4.out.drew
 clear hy0 hy1 hy
 go_upto_region 1 with fail
 refine z1c (by kernel_rfl) 19 (fun X=>MkL base w X mb blk a len cap t) (fun X X'=>X.grownBy X' (some blk)) (ziy mb blk t) HD (by kernel_rfl) (by kernel_rfl) (by decide) (fun k v X X' h _ hb=>zci mb blk t k v X X' h hb) ?_ ?_
 case refine_1 =>
  intro kk oo hne hk aa X hI hsz hfix hdep
  match kk,hk with
  | 0,hk =>
    cases hk;have e0:aa.tmps.getD 0 undef=.pointer (some ⟨mb,0,none⟩):=hfix 0 (by kernel_rfl)
    refine .inl ⟨z03 rfl,fun K hK=>z05 (v:=.pointer (some ⟨mb,0,none⟩)) (w':=X) ?_ (hK _ _ (by simp) hI (World.grownBy.refl X _) rfl)⟩
    clear hfix hdep hK hk hsz hI;go_simp
  | 1,hk =>
    cases hk;have e0:aa.tmps.getD 0 undef=.pointer (some ⟨mb,0,none⟩):=hfix 0 (by kernel_rfl)
    refine .inl ⟨z03 rfl,fun K hK=>z05 (v:=.pointer (some ⟨mb,0,none⟩)) (w':=X) ?_ (hK _ _ (by simp) hI (World.grownBy.refl X _) rfl)⟩
    clear hfix hdep hK hk hsz hI;go_simp
  | 2,hk =>
    cases hk;have e8:aa.tmps.getD 8 undef=.pointer (some ⟨mb,0,none⟩):=hdep 1 _ rfl (by kernel_rfl)
    refine .inl ⟨z03 rfl,fun K hK=>z05 (v:=.pointer (some ⟨mb,0,none⟩)) (w':=X) ?_ (hK _ _ (by simp) hI (World.grownBy.refl X _) rfl)⟩
    clear hfix hdep hK hk hsz hI;go_simp
  | 3,hk =>
    cases hk;have e9:aa.tmps.getD 9 undef=.pointer (some ⟨mb,0,none⟩):=hdep 2 _ rfl (by kernel_rfl)
    refine .inl ⟨z03 rfl,fun K hK=>z05 (v:=.pointer (some ⟨mb,1,none⟩)) (w':=X) ?_ (hK _ _ (by simp) hI (World.grownBy.refl X _) rfl)⟩
    clear hfix hdep hK hk hsz hI;go_simp
  | 4,hk =>
    cases hk;have e10:aa.tmps.getD 10 undef=.pointer (some ⟨mb,1,none⟩):=hdep 3 _ rfl (by kernel_rfl);have c0:=hI.at_.c0;have c1:=hI.at_.c1
    refine .inl ⟨z03 rfl,fun K hK=>z05 (v:=.string (t)) (w':=X) ?_ (hK _ _ (by simp) hI (World.grownBy.refl X _) rfl)⟩
    clear hfix hdep hK hk hsz hI;go_simp
  | 5,hk =>
    cases hk;have e0:aa.tmps.getD 0 undef=.pointer (some ⟨mb,0,none⟩):=hfix 0 (by kernel_rfl)
    refine .inl ⟨z03 rfl,fun K hK=>z05 (v:=.pointer (some ⟨mb,0,none⟩)) (w':=X) ?_ (hK _ _ (by simp) hI (World.grownBy.refl X _) rfl)⟩
    clear hfix hdep hK hk hsz hI;go_simp
  | 6,hk =>
    cases hk;have e12:aa.tmps.getD 12 undef=.pointer (some ⟨mb,0,none⟩):=hdep 5 _ rfl (by kernel_rfl)
    refine .inl ⟨z03 rfl,fun K hK=>z1h 155 #[.pointer (some ⟨mb,0,none⟩)] ?_ (z47 base X mb blk a len cap _ hI.at_) ?_⟩
    ·clear hfix hdep hK hk hsz hI;go_simp;try rfl
    ·rintro e X2 ⟨u,hu,rfl,hc2,hg2⟩;exact⟨_,rfl,hK _ _ (by simp) (hI.gone hc2 hg2) hg2 ⟨u,hu,rfl⟩⟩
  | 7,hk =>
    cases hk;have e11:aa.tmps.getD 11 undef=.string (t):=hdep 4 _ rfl (by kernel_rfl);obtain⟨x13,s13,e13⟩:=hdep 6 _ rfl (by kernel_rfl);change aa.tmps.getD 13 undef=_ at e13;have q0:¬ 9223372036854775807<t.size+x13.size:=by omega
    refine .inl ⟨z03 rfl,fun K hK=>z05 (v:=.string (t++x13)) (w':=X) ?_ (hK _ _ (by simp) hI (World.grownBy.refl X _) ⟨x13,s13,rfl⟩)⟩
    clear hfix hdep hK hk hsz hI;go_simp
  | 8,hk =>
    cases hk;obtain⟨x13,s13,e14⟩:=hdep 7 _ rfl (by kernel_rfl);change aa.tmps.getD 14 undef=_ at e14;have q0:¬ 9223372036854775807<t.size+x13.size+1:=by omega
    refine .inl ⟨z03 rfl,fun K hK=>z05 (v:=.string (t++x13++(⟨#[40]⟩:ByteArray))) (w':=X) ?_ (hK _ _ (by simp) hI (World.grownBy.refl X _) ⟨x13,s13,rfl⟩)⟩
    clear hfix hdep hK hk hsz hI;go_simp
  | 9,hk =>
    cases hk;have e0:aa.tmps.getD 0 undef=.pointer (some ⟨mb,0,none⟩):=hfix 0 (by kernel_rfl)
    refine .inl ⟨z03 rfl,fun K hK=>z05 (v:=.pointer (some ⟨mb,0,none⟩)) (w':=X) ?_ (hK _ _ (by simp) hI (World.grownBy.refl X _) rfl)⟩
    clear hfix hdep hK hk hsz hI;go_simp
  | 10,hk =>
    cases hk;have e16:aa.tmps.getD 16 undef=.pointer (some ⟨mb,0,none⟩):=hdep 9 _ rfl (by kernel_rfl)
    refine .inl ⟨z03 rfl,fun K hK=>z05 (v:=.pointer (some ⟨mb,0,none⟩)) (w':=X) ?_ (hK _ _ (by simp) hI (World.grownBy.refl X _) rfl)⟩
    clear hfix hdep hK hk hsz hI;go_simp
  | 11,hk =>
    cases hk;have e17:aa.tmps.getD 17 undef=.pointer (some ⟨mb,0,none⟩):=hdep 10 _ rfl (by kernel_rfl)
    refine .inl ⟨z03 rfl,fun K hK=>z05 (v:=.pointer (some ⟨mb,0,none⟩)) (w':=X) ?_ (hK _ _ (by simp) hI (World.grownBy.refl X _) rfl)⟩
    clear hfix hdep hK hk hsz hI;go_simp
  | 12,hk =>
    cases hk;have e18:aa.tmps.getD 18 undef=.pointer (some ⟨mb,0,none⟩):=hdep 11 _ rfl (by kernel_rfl);have c0:=hI.at_.c0;have c1:=hI.at_.c1
    refine .inl ⟨z03 rfl,fun K hK=>z05 (v:=.pointer (some ⟨blk,0,none⟩)) (w':=X) ?_ (hK _ _ (by simp) hI (World.grownBy.refl X _) rfl)⟩
    clear hfix hdep hK hk hsz hI;go_simp
  | 13,hk =>
    cases hk
    refine .inl ⟨z03 rfl,fun K hK=>z05 (v:=.slice (some ⟨X.heap.size,0,none⟩) 3 3) (w':=X.alloc (.cells (z0h zk5).toArray 9)) ?_ (hK _ _ (by simp) (hI.gone (hI.at_.cur.kept (World.grownBy_alloc X _ none) (fun k hk=>by cases hk)) (World.grownBy_alloc X _ _)) (World.grownBy_alloc X _ _) ⟨X.heap.size,rfl,Nat.ne_of_gt hI.at_.cur.lt,by simp,fun j _=>zif X _ _ zk5 rfl j⟩)⟩
    clear hfix hdep hK hk hsz hI;go_simp;try rfl
  | 14,hk =>
    cases hk;have e19:aa.tmps.getD 19 undef=.pointer (some ⟨blk,0,none⟩):=hdep 12 _ rfl (by kernel_rfl);obtain⟨lb,e20,l1,l2,l3⟩:=hdep 13 _ rfl (by kernel_rfl);change aa.tmps.getD 20 undef=_ at e20
    refine .inl ⟨z03 rfl,fun K hK=>z1h 156 #[.pointer (some ⟨blk,0,none⟩),.slice (some ⟨lb,0,none⟩) 3 3] ?_ (zga base X blk a len cap lb 3 3 5 zk5 hI.at_.cur (by omega) (by omega) rfl l1 l2 l3 (by decide)) ?_⟩
    ·clear hfix hdep hK hk hsz hI;go_simp;try rfl
    ·rintro e X2 ⟨u,hu,rfl,hc2,hg2⟩;exact⟨_,rfl,hK _ _ (by simp) (hI.gone hc2 hg2) hg2 ⟨u,hu,rfl⟩⟩
  | 15,hk =>
    cases hk;obtain⟨x13,s13,e15⟩:=hdep 8 _ rfl (by kernel_rfl);change aa.tmps.getD 15 undef=_ at e15;obtain⟨x21,s21,e21⟩:=hdep 14 _ rfl (by kernel_rfl);change aa.tmps.getD 21 undef=_ at e21;have q0:¬ 9223372036854775807<t.size+x13.size+1+x21.size:=by omega
    refine .inl ⟨z03 rfl,fun K hK=>z05 (v:=.string (t++x13++(⟨#[40]⟩:ByteArray)++x21)) (w':=X) ?_ (hK _ _ (by simp) hI (World.grownBy.refl X _) ⟨x13,s13,x21,s21,rfl⟩)⟩
    clear hfix hdep hK hk hsz hI;go_simp
  | 16,hk =>
    cases hk;obtain⟨x13,s13,x21,s21,e22⟩:=hdep 15 _ rfl (by kernel_rfl);change aa.tmps.getD 22 undef=_ at e22;have q0:¬ 9223372036854775807<t.size+x13.size+1+x21.size+4:=by omega
    refine .inl ⟨z03 rfl,fun K hK=>z05 (v:=.string (t++x13++(⟨#[40]⟩:ByteArray)++x21++(⟨#[41,32,123,32]⟩:ByteArray))) (w':=X) ?_ (hK _ _ (by simp) hI (World.grownBy.refl X _) ⟨x13,s13,x21,s21,rfl⟩)⟩
    clear hfix hdep hK hk hsz hI;go_simp
  | 17,hk =>
    cases hk;have e7:aa.tmps.getD 7 undef=.pointer (some ⟨mb,0,none⟩):=hdep 0 _ rfl (by kernel_rfl)
    refine .inl ⟨z03 rfl,fun K hK=>z05 (v:=.pointer (some ⟨mb,0,none⟩)) (w':=X) ?_ (hK _ _ (by simp) hI (World.grownBy.refl X _) rfl)⟩
    clear hfix hdep hK hk hsz hI;go_simp
  | 18,hk =>
    cases hk;have e24:aa.tmps.getD 24 undef=.pointer (some ⟨mb,0,none⟩):=hdep 17 _ rfl (by kernel_rfl)
    refine .inl ⟨z03 rfl,fun K hK=>z05 (v:=.pointer (some ⟨mb,1,none⟩)) (w':=X) ?_ (hK _ _ (by simp) hI (World.grownBy.refl X _) rfl)⟩
    clear hfix hdep hK hk hsz hI;go_simp
  | _+20,hk=>exact absurd (Array.getElem?_eq_some_iff.1 hk).1 (by simp)
 case refine_2 =>
  intro oo hk aa X hI hdf hsz hfix hpost
  cases hk
  have e25:aa.tmps.getD 25 undef=.pointer (some ⟨mb,1,none⟩):=hpost 18 _ (by decide) rfl
  obtain⟨x13,s13,x21,s21,e23⟩:=hpost 16 _ (by decide) rfl
  change aa.tmps.getD 23 undef=_ at e23
  have z1:=hI.at_.fz
  have c1:=hI.at_.c1
  have f0:aa.tmps.getD 0 undef=.pointer (some ⟨mb,0,none⟩):=hfix 0 (by kernel_rfl)
  refine⟨z03 rfl,fun K hK=>?_⟩
  refine z4v (w':=X.setCell ⟨mb,1,none⟩ (.string (t++x13++(⟨#[40]⟩:ByteArray)++x21++(⟨#[41,32,123,32]⟩:ByteArray)))) ?_ (hK _ _ ?_)
  ·clear hfix hpost hK hsz hI qS
   go_simp
  ·have HP:=z2p hI (t++x13++(⟨#[40]⟩:ByteArray)++x21++(⟨#[41,32,123,32]⟩:ByteArray))
   have hus:(t++x13++(⟨#[40]⟩:ByteArray)++x21++(⟨#[41,32,123,32]⟩:ByteArray)).size≤n+40:=by(try simp[z0m]);omega
   obtain⟨u,hu⟩:∃ u,u=t++x13++(⟨#[40]⟩:ByteArray)++x21++(⟨#[41,32,123,32]⟩:ByteArray):=⟨_,rfl⟩
   rw[← hu] at HP hus ⊢
   obtain⟨W5,hW5⟩:∃ W5,W5=X.setCell ⟨mb,1,none⟩ (.string u):=⟨_,rfl⟩
   rw[← hW5] at HP ⊢
   have ha:aa=⟨#[.pointer (some ⟨mb,0,none⟩),aa.tmps.getD 1 undef,aa.tmps.getD 2 undef,aa.tmps.getD 3 undef,aa.tmps.getD 4 undef,aa.tmps.getD 5 undef,aa.tmps.getD 6 undef,aa.tmps.getD 7 undef,aa.tmps.getD 8 undef,aa.tmps.getD 9 undef,aa.tmps.getD 10 undef,aa.tmps.getD 11 undef,aa.tmps.getD 12 undef,aa.tmps.getD 13 undef,aa.tmps.getD 14 undef,aa.tmps.getD 15 undef,aa.tmps.getD 16 undef,aa.tmps.getD 17 undef,aa.tmps.getD 18 undef,aa.tmps.getD 19 undef,aa.tmps.getD 20 undef,aa.tmps.getD 21 undef,aa.tmps.getD 22 undef,aa.tmps.getD 23 undef,aa.tmps.getD 24 undef,aa.tmps.getD 25 undef,aa.tmps.getD 26 undef,aa.tmps.getD 27 undef,aa.tmps.getD 28 undef,aa.tmps.getD 29 undef,aa.tmps.getD 30 undef,aa.tmps.getD 31 undef,aa.tmps.getD 32 undef,aa.tmps.getD 33 undef,aa.tmps.getD 34 undef,aa.tmps.getD 35 undef,aa.tmps.getD 36 undef,aa.tmps.getD 37 undef,aa.tmps.getD 38 undef,aa.tmps.getD 39 undef,aa.tmps.getD 40 undef,aa.tmps.getD 41 undef,aa.tmps.getD 42 undef,aa.tmps.getD 43 undef,aa.tmps.getD 44 undef,aa.tmps.getD 45 undef,aa.tmps.getD 46 undef,aa.tmps.getD 47 undef,aa.tmps.getD 48 undef,aa.tmps.getD 49 undef,aa.tmps.getD 50 undef,aa.tmps.getD 51 undef,aa.tmps.getD 52 undef,aa.tmps.getD 53 undef,aa.tmps.getD 54 undef,aa.tmps.getD 55 undef,aa.tmps.getD 56 undef,aa.tmps.getD 57 undef,aa.tmps.getD 58 undef,aa.tmps.getD 59 undef],[]⟩:=by
    have h9:=zef 60 aa.tmps hsz
    cases aa with
    | mk tt dd =>
      cases hdf
      refine congrArg (fun q=>(⟨q,[]⟩:Act)) (h9.trans ?_)
      rw[show (List.range 60)=[0,1,2,3,4,5,6,7,8,9,10,11,12,13,14,15,16,17,18,19,20,21,22,23,24,25,26,27,28,29,30,31,32,33,34,35,36,37,38,39,40,41,42,43,44,45,46,47,48,49,50,51,52,53,54,55,56,57,58,59] from by kernel_rfl]
      simp only[List.map_cons,List.map_nil,f0]
   clear hfix hpost hK hsz hdf f0 e25 e23 c1 z1 hI hu hW5
   show Exit.then _ _ _ aa _
   rw[ha]
   clear ha
   go_wp2_with fail
   refine(qS base _ mb blk a len cap u _ HP.out.at_ hus (by omega)).mono ?_
   rintro e w6 ⟨rfl,u4,hu4,J6⟩
   have H6:=HP.out.trans J6
   have c1:=H6.at_.c1
   have z1:=H6.at_.fz
   have HP6:=z00 (fun u:ByteArray=>z2p H6 u)
   clear J6 HP H6 qS
   go_wp2
   go_end0
   exact⟨rfl,_,by(try simp[z0m]);omega,(HP6.out _).out⟩
theorem zue (base:Nat) (w:World) (blk:Nat) (a:Option Addr) (len cap:Nat) (h:Cur base w blk a len cap) :
 Calls Tryz.prog 85 #[.pointer (some ⟨blk,0,none⟩)] w (zco base w blk a len cap 2000000):=by
 have hlt:=h.lt
 have hown:=h.own
 obtain⟨W0,hW0⟩:∃ W0,W0=w.alloc (.cells #[.pointer (some ⟨blk,0,none⟩),.string ⟨#[]⟩] 128):=⟨_,rfl⟩
 obtain⟨mb,hmb⟩:∃ mb,mb=w.heap.size:=⟨_,rfl⟩
 have H0:=z00 (show MkL base W0 W0 mb blk a len cap ⟨#[]⟩ from⟨⟨by rw[hW0];exact h.kept (World.grownBy_alloc w _ none) (fun k hk=>by cases hk),by omega,by omega,by rw[hW0,hmb];exact heap_alloc_new w _⟩,Fr2.refl _ _ _⟩)
 have HF:=z00 (show ∀ w':World,Fr2 W0 w' blk mb→w.grownBy w' (some blk) from fun w' f=>by
  rw[hW0] at f
  refine⟨f.os,f.tape,f.output,Nat.le_trans (by simp) f.size,fun k hk hr=>?_⟩
  rw[f.block k (by simp;omega) (fun e=>hr (by rw[e])) (by omega)]
  exact heap_alloc_old w _ hk)
 clear h hown hlt
 go_enter Tryz.func85,Tryz.ntmps85
 go_wp2_with fail
 rw[← hW0,← hmb]
 clear hW0 hmb
 refine(z6c base _ blk a len cap 2 H0.out.at_.cur (by omega) (by omega)).mono ?_
 rintro e w1 ⟨b,rfl,hc1,hg1⟩
 have H1:=z00 (H0.out.gone hc1 hg1)
 clear hc1 hg1 H0
 go_upto_if 10 with fail
 go_cut [] from 4 (fun wx=>∃ u:ByteArray,u.size≤600000∧Hid (MkL base W0 wx mb blk a len cap u))
 case first =>
  cases b with
  | false =>
    go_wp2_with fail
    go_meet
    exact⟨_,by decide,H1⟩
  | true =>
    have c1:=H1.out.at_.c1
    have z1:=H1.out.at_.fz
    have HP:=z00 (fun u:ByteArray=>z2p H1.out u)
    go_wp2_with fail
    clear c1 z1
    go_loopg [4] 2 (fun f i wr=>∃ (k:Nat) (u:ByteArray),f+k=2∧i=.int .i64 (k:Int)∧u.size≤11+k*259000∧Hid (MkL base W0 wr mb blk a len cap u))
    case atStart=>exact⟨0,_,rfl,rfl,by(try simp[z0m]),HP.out _⟩
    case round =>
     clear HP H1
     obtain⟨k,u,hf,rfl,hu,HI⟩:=hrel
     go_wp2_with fail
     refine(z1v base _ blk a len cap 2 HI.out.at_.cur (by omega) (by omega)).mono ?_
     rintro e w2 ⟨x,hx,rfl,hc2,hg2⟩
     have H2:=z00 (HI.out.gone hc2 hg2)
     clear hc2 hg2 HI
     by_cases hlt:k<1+x
     ·have hA:(k:Int)<1+(x:Int):=by omega
      obtain⟨f,rfl⟩:∃ f,gk=f+1:=⟨gk-1,by omega⟩
      go_wp2_with fail
      refine(zd3 base _ mb blk a len cap u (11+k*259000) H2.out.at_ hu (by omega)).mono ?_
      rintro e w3 ⟨rfl,v,hv,J⟩
      have H3:=z00 (H2.out.trans J)
      clear J H2
      go_wp2
      go_roundg f
      case rel=>exact⟨k+1,v,by omega,by go_num,by omega,H3⟩
      case measure=>omega
     ·have hA:¬ (k:Int)<1+(x:Int):=by omega
      have c1:=H2.out.at_.c1
      have z1:=H2.out.at_.fz
      have HP:=z00 (fun u:ByteArray=>z2p H2.out u)
      go_wp2_with fail
      go_meet
      exact⟨_,by(try simp[z0m]);omega,HP.out _⟩
 case rest =>
  clear H1
  obtain⟨u0,hu0,H2⟩:=hcut
  go_wp2_with fail
  go_loopg [5] 2 (fun f i wr=>∃ (k:Nat) (u:ByteArray),f+k=2∧i=.int .i64 (k:Int)∧u.size≤600000+k*259010∧Hid (MkL base W0 wr mb blk a len cap u))
  case atStart=>exact⟨0,u0,rfl,rfl,by omega,H2⟩
  case round =>
   clear H2 hu0
   obtain⟨k,u,hf,rfl,hu,HI⟩:=hrel
   go_wp2_with fail
   refine(z1v base _ blk a len cap 2 HI.out.at_.cur (by omega) (by omega)).mono ?_
   rintro e w2 ⟨x,hx,rfl,hc2,hg2⟩
   have H2:=z00 (HI.out.gone hc2 hg2)
   clear hc2 hg2 HI
   by_cases hlt:k<1+x
   ·have hA:(k:Int)<1+(x:Int):=by omega
    obtain⟨f,rfl⟩:∃ f,gk=f+1:=⟨gk-1,by omega⟩
    go_wp2_with fail
    refine(z6c base _ blk a len cap 3 H2.out.at_.cur (by omega) (by omega)).mono ?_
    rintro e w3 ⟨b,rfl,hc3,hg3⟩
    have H3:=z00 (H2.out.gone hc3 hg3)
    clear hc3 hg3 H2
    cases b with
    | false =>
      go_wp2_with fail
      refine(zd3 base _ mb blk a len cap u (600000+k*259010) H3.out.at_ hu (by omega)).mono ?_
      rintro e w4 ⟨rfl,v,hv,J⟩
      have H4:=z00 (H3.out.trans J)
      clear J H3
      go_wp2
      go_roundg f
      case rel=>exact⟨k+1,v,by omega,by go_num,by omega,H4⟩
      case measure=>omega
    | true =>
      have c1:=H3.out.at_.c1
      have z1:=H3.out.at_.fz
      have HP:=z00 (fun u:ByteArray=>z2p H3.out u)
      go_wp2_with fail
      refine(zd3 base _ mb blk a len cap _ (600000+k*259010+4) (HP.out _).out.at_ (by(try simp[z0m]);omega) (by omega)).mono ?_
      rintro e w4 ⟨rfl,v,hv,J⟩
      have H4:=z00 ((HP.out _).out.trans J)
      clear J H3 HP c1 z1
      go_wp2
      go_roundg f
      case rel=>exact⟨k+1,v,by omega,by go_num,by omega,H4⟩
      case measure=>omega
   ·have hA:¬ (k:Int)<1+(x:Int):=by omega
    have c1:=H2.out.at_.c1
    go_wp2
    go_ret
    exact z2q (by omega) H2.out.at_.cur (HF.out _ H2.out.fr)
end Go.Proofs.YtekebloinobjnaaGreatDoor
