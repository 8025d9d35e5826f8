/- Texts of one proof, laid together: SpanI. -/
import Derived.Test.YtekebloinobjnaaGreatDoorProg
import Derived.Test.YtekebloinobjnaaGreatDoorC02
import Derived.Lib.OthersKept
import Derived.Laws.RangeString
import Derived.Laws.RangeAny
import Derived.Shelf.Abstract
set_option maxHeartbeats 16000000
set_option maxRecDepth 100000
namespace Go.Proofs.YtekebloinobjnaaGreatDoor
open Go.RowKit
open Go.RowKit Go.Shelf
theorem zaj (r:Int) (w:World):Calls Tryz.prog 133 #[.int .i32 r] w fun e w'=>e=.returned (.bool (z2f r))∧w'=w:=by
 by_cases h1:48≤r
 all_goals go_enter Tryz.func133,Tryz.ntmps133
 all_goals go_wp2
 all_goals go_ret
 all_goals exact⟨z0l (by first|(simp[z2f, *];done)|(simp[z2f];omega)),rfl⟩
theorem zhe (r:Int) (w:World):Calls Tryz.prog 169 #[.int .i32 r] w fun e w'=>e=.returned (.bool (z2v r))∧w'=w:=by
 by_cases h1:32≤r
 all_goals go_enter Tryz.func169,Tryz.ntmps169
 all_goals go_wp2
 all_goals go_ret
 all_goals exact⟨z0l (by first|(simp[z2v, *];done)|(simp[z2v];omega)),rfl⟩
theorem zp9 (r:Int) (w:World):Calls Tryz.prog 168 #[.int .i32 r] w fun e w'=>e=.returned (.bool (z6z r))∧w'=w:=by
 go_enter Tryz.func168,Tryz.ntmps168
 go_wp2_with fail
 refine(zhe r _).mono ?_
 cases h:z2v r
 all_goals rintro e w ⟨rfl,rfl⟩
 all_goals go_wp2
 all_goals go_ret
 all_goals exact⟨z0l (by simp[z6z,h]),rfl⟩
theorem zny {r:Int} (h:122<r) (u:Bool):(decide (r≤122)||decide (r≤90)||u)=u:=by
 have e1:¬ r≤122:=by omega
 have e2:¬ r≤90:=by omega
 simp[e1,e2]
theorem zta {r:Int} (h:90<r) (u:Bool):(decide (r≤90)||u)=u:=by
 have e2:¬ r≤90:=by omega
 simp[e2]
theorem zo2 (r:Int) (w:World):Calls Tryz.prog 135 #[.int .i32 r] w fun e w'=>e=.returned (.bool (z3r r))∧w'=w:=by
 have key:(97≤r∧r≤122)∨(97≤r∧122<r∧65≤r∧90<r∧(r==95)=false)∨(r<97∧65≤r∧r≤90)∨(r<97∧65≤r∧90<r∧(r==95)=true)∨(r<97∧65≤r∧90<r∧(r==95)=false)∨(r<97∧r<65∧(r==95)=false):=by
  simp only[beq_iff_eq,beq_eq_false_iff_ne]
  omega
 rcases key with⟨h1,h2⟩|⟨h1,h2,h3,h4,h5⟩|⟨h1,h3,h4⟩|⟨h1,h3,h4,h5⟩|⟨h1,h3,h4,h5⟩|⟨h1,h3,h5⟩
 ·go_enter Tryz.func135,Tryz.ntmps135
  go_wp2
  go_ret
  exact⟨z0l (by simp[z3r,z3u];omega),rfl⟩
 ·have hn:z3r r=z2f r:=by
   have:z3u r=false:=by simp[z3u,h5];omega
   simp[z3r,this]
  rw[hn]
  have hF:=zaj r w
  obtain⟨u,hu⟩:∃ u,u=z2f r:=⟨_,rfl⟩
  rw[← hu] at hF ⊢
  clear hu
  go_enter Tryz.func135,Tryz.ntmps135
  go_wp2_with fail
  refine hF.mono ?_
  rintro e w ⟨rfl,rfl⟩
  go_wp2
  go_ret
  first|exact⟨rfl,rfl⟩|exact⟨z0l (zny h2 u),rfl⟩|exact⟨z0l (zta h4 u),rfl⟩
 ·go_enter Tryz.func135,Tryz.ntmps135
  go_wp2
  go_ret
  exact⟨z0l (by simp[z3r,z3u];omega),rfl⟩
 ·go_enter Tryz.func135,Tryz.ntmps135
  go_wp2
  go_ret
  exact⟨z0l (by simp[z3r,z3u];simp at h5;omega),rfl⟩
 ·have hn:z3r r=z2f r:=by
   have:z3u r=false:=by simp[z3u,h5];omega
   simp[z3r,this]
  rw[hn]
  have hF:=zaj r w
  obtain⟨u,hu⟩:∃ u,u=z2f r:=⟨_,rfl⟩
  rw[← hu] at hF ⊢
  clear hu
  go_enter Tryz.func135,Tryz.ntmps135
  go_wp2_with fail
  refine hF.mono ?_
  rintro e w ⟨rfl,rfl⟩
  go_wp2
  go_ret
  first|exact⟨rfl,rfl⟩|exact⟨z0l (zny h2 u),rfl⟩|exact⟨z0l (zta h4 u),rfl⟩
 ·have hn:z3r r=z2f r:=by
   have:z3u r=false:=by simp[z3u,h5];omega
   simp[z3r,this]
  rw[hn]
  have hF:=zaj r w
  obtain⟨u,hu⟩:∃ u,u=z2f r:=⟨_,rfl⟩
  rw[← hu] at hF ⊢
  clear hu
  go_enter Tryz.func135,Tryz.ntmps135
  go_wp2_with fail
  refine hF.mono ?_
  rintro e w ⟨rfl,rfl⟩
  go_wp2
  go_ret
  first|exact⟨rfl,rfl⟩|exact⟨z0l (zny h2 u),rfl⟩|exact⟨z0l (zta h4 u),rfl⟩
theorem zc9 {s:ByteArray} {k:Nat} (h:k<s.size) (ha:by8 s k<128):Utf8.decode s k=((by8 s k).toNat,1):=by
 have e:=z3x s k h
 rw[decode_ascii s k h (by omega),← e]
 rfl
theorem z7k (g:Nat) (p:Int→Bool) (hp:∀ r,128≤r→p r=false) (hg:∀ (r:Int) (W:World),Calls Tryz.prog g #[.int .i32 r] W fun e w'=>e=.returned (.bool (p r))∧w'=W) (eg:∀ (args:Array Value) (w:World),(callFunc g args).run Tryz.prog w=.ok (.enter g args) w)
 (s:ByteArray) (w:World) (_:s.size≤4194304) :
 Calls Tryz.prog 132 #[.string s,.func (.func g) #[] #[]] w fun e w'=>e=.returned (.int .i64 (spn p s 0))∧Below w.heap.size w w':=by
 go_enter Tryz.func132,Tryz.ntmps132
 go_wp2
 go_loopw [] (fun wr=>∃ pos:Nat,pos≤s.size∧wr.heap[w.heap.size]?=some (.stringIter s pos)∧Below w.heap.size w wr∧Hid (∀ j,j<pos→p (by8 s j)=true)) (fun wr=>s.size-wr.iterPos w.heap.size)
 case atStart =>
  refine⟨0,Nat.zero_le _,World.iter_heap w s 0,?_,z00 fun j hj=>by omega⟩
  exact(Below.refl _ w).alloc (Nat.le_refl _) _
 case round =>
  obtain⟨pos,hpos,hit,hb,HA⟩:=hrel
  have hsz:w.heap.size<wr.heap.size:=(Array.getElem?_eq_some_iff.1 hit).1
  by_cases hlt:pos<s.size
  ·have hnx:∀ ty,(Instr.next (.pointer (some ⟨w.heap.size,0,none⟩)) true ty).run Tryz.prog wr=_:=fun ty=>Lib.run_next_any_at wr w.heap.size s pos ty hit hlt
   have hbI:=fun q=>Lib.below_iterAt hb (k:=w.heap.size) (Nat.le_refl _) s q
   have hitI:=fun q=>Lib.iterAt_heap wr w.heap.size s pos q hit
   have hr:=z1f s pos
   cases hP:p (by8 s pos)
   ·have hd:p (((Utf8.decode s pos).1:Nat):Int)=false:=by
     by_cases ha:by8 s pos<128
     ·rw[zc9 hlt ha]
      show p (((by8 s pos).toNat:Nat):Int)=false
      rw[Int.toNat_of_nonneg hr.1]
      exact hP
     ·have e:=z3x s pos hlt
      exact hp _ (by have:=(decode_high s pos hlt (by omega)).1;omega)
    have hcall:=fun W=>hg (((Utf8.decode s pos).1:Nat):Int) W
    rw[hd] at hcall
    have HP:=z00 hP
    clear hP hd
    go_wp2_with (go_at_fn g;refine(hcall _).mono ?_;rintro e w' ⟨rfl,rfl⟩)
    go_ret
    refine⟨z2z ?_,hbI _⟩
    rw[z2s (p:=p) (s:=s) pos 0 (by omega) (fun j hj=>by rw[Nat.zero_add];exact HA.out j hj) (fun _=>by rw[Nat.zero_add];exact HP.out)]
   ·have ha:by8 s pos<128:=by
     by_cases h:by8 s pos<128
     ·exact h
     ·rw[hp _ (by omega)] at hP
      cases hP
    rw[zc9 hlt ha] at hnx
    have hcall:=fun W=>hg (((by8 s pos).toNat:Nat):Int) W
    rw[Int.toNat_of_nonneg hr.1,hP] at hcall
    simp only[Int.toNat_of_nonneg hr.1] at hnx
    have HP:=z00 hP
    clear hP ha
    go_wp2_with (go_at_fn g;refine(hcall _).mono ?_;rintro e w' ⟨rfl,rfl⟩)
    go_roundw
    case rel=>exact⟨pos+1,by omega,hitI _,hbI _,z00 fun j hj=>by
     by_cases e:j=pos
     ·subst e;exact HP.out
     ·exact HA.out j (by omega)⟩
    case measure =>
     simp only[World.iterPos,hitI,hit]
     omega
  ·have hnx:∀ ty,(Instr.next (.pointer (some ⟨w.heap.size,0,none⟩)) true ty).run Tryz.prog wr=_:=fun ty=>Lib.run_next_end_at wr w.heap.size s pos ty hit hlt
   go_wp2
   go_ret
   refine⟨z2z ?_,hb⟩
   rw[z2s (p:=p) (s:=s) s.size 0 (by omega) (fun j hj=>by rw[Nat.zero_add];exact HA.out j (by omega)) (fun h=>by omega)]
theorem zty:∀ (args:Array Value) (w:World),(callFunc 133 args).run Tryz.prog w=.ok (.enter 133 args) w:=enters_of Tryz.func133 (by kernel_rfl) rfl
theorem zuk:∀ (args:Array Value) (w:World),(callFunc 135 args).run Tryz.prog w=.ok (.enter 135 args) w:=enters_of Tryz.func135 (by kernel_rfl) rfl
theorem zu1:∀ (args:Array Value) (w:World),(callFunc 169 args).run Tryz.prog w=.ok (.enter 169 args) w:=enters_of Tryz.func169 (by kernel_rfl) rfl
theorem zuo:∀ (args:Array Value) (w:World),(callFunc 168 args).run Tryz.prog w=.ok (.enter 168 args) w:=enters_of Tryz.func168 (by kernel_rfl) rfl
theorem zkg (s:ByteArray) (w:World) (hs:s.size≤4194304):Calls Tryz.prog 132 #[.string s,.func (.func 133) #[] #[]] w fun e w'=>e=.returned (.int .i64 (spn z2f s 0))∧Below w.heap.size w w':=
 z7k _ z2f (fun r h=>by simp[z2f];omega) zaj zty s w hs
theorem ze8 (s:ByteArray) (w:World) (hs:s.size≤4194304):Calls Tryz.prog 132 #[.string s,.func (.func 135) #[] #[]] w fun e w'=>e=.returned (.int .i64 (spn z3r s 0))∧Below w.heap.size w w':=
 z7k _ z3r (fun r h=>by simp[z3r,z3u,z2f];omega) zo2 zuk s w hs
theorem zlq (s:ByteArray) (w:World) (hs:s.size≤4194304):Calls Tryz.prog 132 #[.string s,.func (.func 169) #[] #[]] w fun e w'=>e=.returned (.int .i64 (spn z2v s 0))∧Below w.heap.size w w':=
 z7k _ z2v (fun r h=>by simp[z2v];omega) zhe zu1 s w hs
theorem zkd (s:ByteArray) (w:World) (hs:s.size≤4194304):Calls Tryz.prog 132 #[.string s,.func (.func 168) #[] #[]] w fun e w'=>e=.returned (.int .i64 (spn z6z s 0))∧Below w.heap.size w w':=
 z7k _ z6z (fun r h=>by simp[z6z,z2v];omega) zp9 zuo s w hs
end Go.Proofs.YtekebloinobjnaaGreatDoor
