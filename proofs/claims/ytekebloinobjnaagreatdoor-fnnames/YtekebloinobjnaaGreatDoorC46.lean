/- Texts of one proof, laid together: DrSc. -/
import Derived.Test.YtekebloinobjnaaGreatDoorC45
import Derived.Deep.RegionHeld3
import Derived.Deep.LoopGhost
import Derived.Deep.CutRange
import Derived.Deep.CutBlock
set_option maxHeartbeats 16000000
set_option maxRecDepth 100000
namespace Go.Proofs.YtekebloinobjnaaGreatDoor
open Go.RowKit
structure Fr2 (w w':World) (b m:Nat):Prop where
 os:w'.os=w.os
 tape:w'.tape=w.tape
 output:w'.output=w.output
 size:w.heap.size≤w'.heap.size
 block:∀ k,k<w.heap.size→k≠b→k≠m→w'.heap[k]?=w.heap[k]?
theorem Fr2.refl (w:World) (b m:Nat):Fr2 w w b m:=⟨rfl,rfl,rfl,Nat.le_refl _,fun _ _ _ _=>rfl⟩
theorem Fr2.gone {w x y:World} {b m:Nat} (h:Fr2 w x b m) (hg:x.grownBy y (some b)):Fr2 w y b m:=
 ⟨hg.os.trans h.os,hg.tape.trans h.tape,hg.output.trans h.output,Nat.le_trans h.size hg.size,fun k hk h1 h2=>(hg.block k (Nat.lt_of_lt_of_le hk h.size) (fun e=>h1 (Option.some.inj e))).trans (h.block k hk h1 h2)⟩
theorem Fr2.trans {w x y:World} {b m:Nat} (h:Fr2 w x b m) (hg:Fr2 x y b m):Fr2 w y b m:=
 ⟨hg.os.trans h.os,hg.tape.trans h.tape,hg.output.trans h.output,Nat.le_trans h.size hg.size,fun k hk h1 h2=>(hg.block k (Nat.lt_of_lt_of_le hk h.size) h1 h2).trans (h.block k hk h1 h2)⟩
theorem Fr2.put {w x:World} {b m:Nat} (h:Fr2 w x b m) (v:Value):Fr2 w (x.setCell ⟨m,1,none⟩ v) b m:=
 ⟨h.os,h.tape,h.output,by simpa using h.size,fun k hk h1 h2=>(heap_setCell_other x ⟨m,1,none⟩ k v (fun e=>h2 (by simp[e]))).trans (h.block k hk h1 h2)⟩
structure MkL (base:Nat) (w0 w:World) (mb blk:Nat) (a:Option Addr) (len cap:Nat) (t:ByteArray):Prop where
 at_:MkAt base w mb blk a len cap t
 fr:Fr2 w0 w blk mb
section
variable {base:Nat} {w0 w w':World} {mb blk:Nat} {a:Option Addr} {len cap:Nat} {t:ByteArray}
theorem MkL.gone (h:MkL base w0 w mb blk a len cap t) (hc:Cur base w' blk a len cap) (hg:w.grownBy w' (some blk)):MkL base w0 w' mb blk a len cap t:=⟨h.at_.gone hc hg,h.fr.gone hg⟩
theorem MkL.drew (h:MkL base w0 w mb blk a len cap t):MkL base w0 w.drew mb blk a len cap t:=h.gone (h.at_.cur.kept (z0t ((Below.refl _ w).drew) none) (fun k hk=>by cases hk)) (z0t ((Below.refl _ w).drew) _)
theorem MkL.put (h:MkL base w0 w mb blk a len cap t) (u:ByteArray):MkL base w0 (w.setCell ⟨mb,1,none⟩ (.string u)) mb blk a len cap u:=by
 have hg:w.grownBy (w.setCell ⟨mb,1,none⟩ (.string u)) (some mb):=⟨rfl,rfl,rfl,by simp,fun k _ hk=>heap_setCell_other w ⟨mb,1,none⟩ k _ (fun e=>hk (by simp[e]))⟩
 exact⟨⟨h.at_.cur.kept hg (fun k hk=>by cases hk;exact⟨h.at_.own,h.at_.ne⟩),h.at_.own,h.at_.ne,heap_setCell_same w mb 1 _ _ (.string u) h.at_.row⟩,h.fr.put _⟩
end
def zry (base:Nat) (w:World) (mb blk:Nat) (a:Option Addr) (len cap:Nat) (n:Nat) (e:Ending) (w':World):Prop:=
 e=.returned (.tuple #[])∧∃ t:ByteArray,t.size≤n∧MkL base w w' mb blk a len cap t
def StC (di:Int) (S:Nat):Prop:=∀ (base:Nat) (w:World) (mb blk:Nat) (a:Option Addr) (len cap:Nat) (t:ByteArray) (n:Nat),MkAt base w mb blk a len cap t→t.size≤n→n+S≤1000000000 →
 Calls Tryz.prog 157 #[.pointer (some ⟨mb,0,none⟩),.int .i64 di] w (zry base w mb blk a len cap (n+S))
theorem zuv:vB 0=30∧vB 1=170∧vB 2=590∧vB 3=1850:=by decide
theorem MkL.trans {base:Nat} {w0 w w':World} {mb blk:Nat} {a:Option Addr} {len cap:Nat} {t u:ByteArray} (h:MkL base w0 w mb blk a len cap t) (g:MkL base w w' mb blk a len cap u):MkL base w0 w' mb blk a len cap u:=⟨g.at_,h.fr.trans g.fr⟩
theorem z2p {base:Nat} {w0 w:World} {mb blk:Nat} {a:Option Addr} {len cap:Nat} {t:ByteArray} (h:MkL base w0 w mb blk a len cap t) (u:ByteArray):Hid (MkL base w0 (w.setCell ⟨mb,1,none⟩ (.string u)) mb blk a len cap u):=h.put u
def zeq:List ByteArray:=[⟨#[115,97,105,100]⟩,⟨#[]⟩,⟨#[97,110,100,32,32,109,111,114,101,32,32]⟩]
def zq5 (mb _blk:Nat) (u2:ByteArray):Nat→Value→World→Prop
 | 0=>fun v _=>v=.pointer (some ⟨mb,0,none⟩)
 | 1=>fun v _=>v=.pointer (some ⟨mb,0,none⟩)
 | 2=>fun v _=>v=.pointer (some ⟨mb,0,none⟩)
 | 3=>fun v _=>v=.pointer (some ⟨mb,1,none⟩)
 | 4=>fun v _=>v=.string (u2)
 | 5=>fun v _=>v=.string (u2++(⟨#[118,97,114,32]⟩:ByteArray))
 | 6=>fun v _=>v=.pointer (some ⟨mb,0,none⟩)
 | 7=>fun v _=>∃ x68:ByteArray,x68.size≤23∧v=.string (x68)
 | 8=>fun v _=>∃ x68:ByteArray,x68.size≤23∧v=.string (u2++(⟨#[118,97,114,32]⟩:ByteArray)++x68)
 | 9=>fun v _=>∃ x68:ByteArray,x68.size≤23∧v=.string (u2++(⟨#[118,97,114,32]⟩:ByteArray)++x68++(⟨#[32,61,32]⟩:ByteArray))
 | 10=>fun v _=>v=.pointer (some ⟨mb,0,none⟩)
 | 11=>fun v _=>∃ x72:ByteArray,x72.size≤590∧v=.string (x72)
 | 12=>fun v _=>∃ x68:ByteArray,x68.size≤23∧∃ x72:ByteArray,x72.size≤590∧v=.string (u2++(⟨#[118,97,114,32]⟩:ByteArray)++x68++(⟨#[32,61,32]⟩:ByteArray)++x72)
 | 13=>fun v _=>∃ x68:ByteArray,x68.size≤23∧∃ x72:ByteArray,x72.size≤590∧v=.string (u2++(⟨#[118,97,114,32]⟩:ByteArray)++x68++(⟨#[32,61,32]⟩:ByteArray)++x72++(⟨#[59,32]⟩:ByteArray))
 | 14=>fun v _=>v=.pointer (some ⟨mb,0,none⟩)
 | 15=>fun v _=>v=.pointer (some ⟨mb,1,none⟩)
 | _=>fun _ _=>True
theorem zfv (mb blk:Nat) (u2:ByteArray):∀ k v (X X':World),zq5 mb blk u2 k v X→X.grownBy X' (some blk)→zq5 mb blk u2 k v X'
 | 0,_,_,_,h,_=>h
 | 1,_,_,_,h,_=>h
 | 2,_,_,_,h,_=>h
 | 3,_,_,_,h,_=>h
 | 4,_,_,_,h,_=>h
 | 5,_,_,_,h,_=>h
 | 6,_,_,_,h,_=>h
 | 7,_,_,_,h,_=>h
 | 8,_,_,_,h,_=>h
 | 9,_,_,_,h,_=>h
 | 10,_,_,_,h,_=>h
 | 11,_,_,_,h,_=>h
 | 12,_,_,_,h,_=>h
 | 13,_,_,_,h,_=>h
 | 14,_,_,_,h,_=>h
 | 15,_,_,_,h,_=>h
 | _+16,_,_,_,_,_=>trivial
def zqb (mb _blk:Nat) (u2:ByteArray):Nat→Value→World→Prop
 | 0=>fun v _=>v=.pointer (some ⟨mb,0,none⟩)
 | 1=>fun v _=>v=.pointer (some ⟨mb,0,none⟩)
 | 2=>fun v _=>v=.pointer (some ⟨mb,0,none⟩)
 | 3=>fun v _=>v=.pointer (some ⟨mb,1,none⟩)
 | 4=>fun v _=>v=.string (u2)
 | 5=>fun v _=>v=.pointer (some ⟨mb,0,none⟩)
 | 6=>fun v _=>∃ x103:ByteArray,x103.size≤1850∧v=.string (x103)
 | 7=>fun v _=>∃ x103:ByteArray,x103.size≤1850∧v=.string (u2++x103)
 | 8=>fun v _=>∃ x103:ByteArray,x103.size≤1850∧v=.string (u2++x103++(⟨#[59,32]⟩:ByteArray))
 | 9=>fun v _=>v=.pointer (some ⟨mb,0,none⟩)
 | 10=>fun v _=>v=.pointer (some ⟨mb,1,none⟩)
 | _=>fun _ _=>True
theorem zfl (mb blk:Nat) (u2:ByteArray):∀ k v (X X':World),zqb mb blk u2 k v X→X.grownBy X' (some blk)→zqb mb blk u2 k v X'
 | 0,_,_,_,h,_=>h
 | 1,_,_,_,h,_=>h
 | 2,_,_,_,h,_=>h
 | 3,_,_,_,h,_=>h
 | 4,_,_,_,h,_=>h
 | 5,_,_,_,h,_=>h
 | 6,_,_,_,h,_=>h
 | 7,_,_,_,h,_=>h
 | 8,_,_,_,h,_=>h
 | 9,_,_,_,h,_=>h
 | 10,_,_,_,h,_=>h
 | _+11,_,_,_,_,_=>trivial
def zov (mb _blk:Nat) (u2:ByteArray):Nat→Value→World→Prop
 | 0=>fun v _=>v=.pointer (some ⟨mb,0,none⟩)
 | 1=>fun v _=>v=.pointer (some ⟨mb,0,none⟩)
 | 2=>fun v _=>v=.pointer (some ⟨mb,0,none⟩)
 | 3=>fun v _=>v=.pointer (some ⟨mb,1,none⟩)
 | 4=>fun v _=>v=.string (u2)
 | 5=>fun v _=>v=.pointer (some ⟨mb,0,none⟩)
 | 6=>fun v _=>∃ x85:ByteArray,x85.size≤23∧v=.string (x85)
 | 7=>fun v _=>∃ x85:ByteArray,x85.size≤23∧v=.string (u2++x85)
 | 8=>fun v _=>∃ x85:ByteArray,x85.size≤23∧v=.string (u2++x85++(⟨#[32,61,32]⟩:ByteArray))
 | 9=>fun v _=>v=.pointer (some ⟨mb,0,none⟩)
 | 10=>fun v _=>∃ x89:ByteArray,x89.size≤1850∧v=.string (x89)
 | 11=>fun v _=>∃ x85:ByteArray,x85.size≤23∧∃ x89:ByteArray,x89.size≤1850∧v=.string (u2++x85++(⟨#[32,61,32]⟩:ByteArray)++x89)
 | 12=>fun v _=>∃ x85:ByteArray,x85.size≤23∧∃ x89:ByteArray,x89.size≤1850∧v=.string (u2++x85++(⟨#[32,61,32]⟩:ByteArray)++x89++(⟨#[59,32]⟩:ByteArray))
 | 13=>fun v _=>v=.pointer (some ⟨mb,0,none⟩)
 | 14=>fun v _=>v=.pointer (some ⟨mb,1,none⟩)
 | _=>fun _ _=>True
theorem zer (mb blk:Nat) (u2:ByteArray):∀ k v (X X':World),zov mb blk u2 k v X→X.grownBy X' (some blk)→zov mb blk u2 k v X'
 | 0,_,_,_,h,_=>h
 | 1,_,_,_,h,_=>h
 | 2,_,_,_,h,_=>h
 | 3,_,_,_,h,_=>h
 | 4,_,_,_,h,_=>h
 | 5,_,_,_,h,_=>h
 | 6,_,_,_,h,_=>h
 | 7,_,_,_,h,_=>h
 | 8,_,_,_,h,_=>h
 | 9,_,_,_,h,_=>h
 | 10,_,_,_,h,_=>h
 | 11,_,_,_,h,_=>h
 | 12,_,_,_,h,_=>h
 | 13,_,_,_,h,_=>h
 | 14,_,_,_,h,_=>h
 | _+15,_,_,_,_,_=>trivial
def znj (mb _blk:Nat) (u2:ByteArray):Nat→Value→World→Prop
 | 0=>fun v _=>v=.pointer (some ⟨mb,0,none⟩)
 | 1=>fun v _=>v=.pointer (some ⟨mb,0,none⟩)
 | 2=>fun v _=>v=.pointer (some ⟨mb,0,none⟩)
 | 3=>fun v _=>v=.pointer (some ⟨mb,1,none⟩)
 | 4=>fun v _=>v=.string (u2)
 | 5=>fun v _=>v=.string (u2++(⟨#[114,101,116,117,114,110,32]⟩:ByteArray))
 | 6=>fun v _=>v=.pointer (some ⟨mb,0,none⟩)
 | 7=>fun v _=>∃ x117:ByteArray,x117.size≤590∧v=.string (x117)
 | 8=>fun v _=>∃ x117:ByteArray,x117.size≤590∧v=.string (u2++(⟨#[114,101,116,117,114,110,32]⟩:ByteArray)++x117)
 | 9=>fun v _=>∃ x117:ByteArray,x117.size≤590∧v=.string (u2++(⟨#[114,101,116,117,114,110,32]⟩:ByteArray)++x117++(⟨#[59,32]⟩:ByteArray))
 | 10=>fun v _=>v=.pointer (some ⟨mb,0,none⟩)
 | 11=>fun v _=>v=.pointer (some ⟨mb,1,none⟩)
 | _=>fun _ _=>True
theorem zf5 (mb blk:Nat) (u2:ByteArray):∀ k v (X X':World),znj mb blk u2 k v X→X.grownBy X' (some blk)→znj mb blk u2 k v X'
 | 0,_,_,_,h,_=>h
 | 1,_,_,_,h,_=>h
 | 2,_,_,_,h,_=>h
 | 3,_,_,_,h,_=>h
 | 4,_,_,_,h,_=>h
 | 5,_,_,_,h,_=>h
 | 6,_,_,_,h,_=>h
 | 7,_,_,_,h,_=>h
 | 8,_,_,_,h,_=>h
 | 9,_,_,_,h,_=>h
 | 10,_,_,_,h,_=>h
 | 11,_,_,_,h,_=>h
 | _+12,_,_,_,_,_=>trivial
def zho (mb blk:Nat) (u2:ByteArray):Nat→Value→World→Prop
 | 0=>fun v _=>v=.pointer (some ⟨mb,0,none⟩)
 | 1=>fun v _=>v=.pointer (some ⟨mb,0,none⟩)
 | 2=>fun v _=>v=.pointer (some ⟨mb,0,none⟩)
 | 3=>fun v _=>v=.pointer (some ⟨mb,1,none⟩)
 | 4=>fun v _=>v=.string (u2)
 | 5=>fun v _=>v=.string (u2++(⟨#[47,47,32]⟩:ByteArray))
 | 6=>fun v _=>v=.pointer (some ⟨mb,0,none⟩)
 | 7=>fun v _=>v=.pointer (some ⟨mb,0,none⟩)
 | 8=>fun v _=>v=.pointer (some ⟨mb,0,none⟩)
 | 9=>fun v _=>v=.pointer (some ⟨blk,0,none⟩)
 | 10=>fun v X=>∃ lb:Nat,v=.slice (some ⟨lb,0,none⟩) 3 3∧lb≠blk∧lb<X.heap.size∧∀ j,j<3→X.cell? ⟨lb,j,none⟩=(z0h zeq)[j]?
 | 11=>fun v _=>∃ x135:ByteArray,x135.size≤11∧v=.string (x135)
 | 12=>fun v _=>∃ x135:ByteArray,x135.size≤11∧v=.string (u2++(⟨#[47,47,32]⟩:ByteArray)++x135)
 | 13=>fun v _=>∃ x135:ByteArray,x135.size≤11∧v=.string (u2++(⟨#[47,47,32]⟩:ByteArray)++x135++(⟨#[10]⟩:ByteArray))
 | 14=>fun v _=>v=.pointer (some ⟨mb,0,none⟩)
 | 15=>fun v _=>v=.pointer (some ⟨mb,1,none⟩)
 | _=>fun _ _=>True
theorem zcm (mb blk:Nat) (u2:ByteArray):∀ k v (X X':World),zho mb blk u2 k v X→X.grownBy X' (some blk)→zho mb blk u2 k v X'
 | 0,_,_,_,h,_=>h
 | 1,_,_,_,h,_=>h
 | 2,_,_,_,h,_=>h
 | 3,_,_,_,h,_=>h
 | 4,_,_,_,h,_=>h
 | 5,_,_,_,h,_=>h
 | 6,_,_,_,h,_=>h
 | 7,_,_,_,h,_=>h
 | 8,_,_,_,h,_=>h
 | 9,_,_,_,h,_=>h
 | 10,_,_,_,⟨lb,h1,h2,h3,h4⟩,hg=>⟨lb,h1,h2,Nat.lt_of_lt_of_le h3 hg.size,fun j hj=>(World.cell?_of_block (hg.block lb h3 (fun e=>h2 (Option.some.inj e)))).trans (h4 j hj)⟩
 | 11,_,_,_,h,_=>h
 | 12,_,_,_,h,_=>h
 | 13,_,_,_,h,_=>h
 | 14,_,_,_,h,_=>h
 | 15,_,_,_,h,_=>h
 | _+16,_,_,_,_,_=>trivial
def znr (mb _blk:Nat) (u2:ByteArray):Nat→Value→World→Prop
 | 0=>fun v _=>v=.pointer (some ⟨mb,0,none⟩)
 | 1=>fun v _=>v=.pointer (some ⟨mb,0,none⟩)
 | 2=>fun v _=>v=.pointer (some ⟨mb,0,none⟩)
 | 3=>fun v _=>v=.pointer (some ⟨mb,1,none⟩)
 | 4=>fun v _=>v=.string (u2)
 | 5=>fun v _=>v=.string (u2++(⟨#[105,102,32,40]⟩:ByteArray))
 | 6=>fun v _=>v=.pointer (some ⟨mb,0,none⟩)
 | 7=>fun v _=>∃ x151:ByteArray,x151.size≤590∧v=.string (x151)
 | 8=>fun v _=>∃ x151:ByteArray,x151.size≤590∧v=.string (u2++(⟨#[105,102,32,40]⟩:ByteArray)++x151)
 | 9=>fun v _=>∃ x151:ByteArray,x151.size≤590∧v=.string (u2++(⟨#[105,102,32,40]⟩:ByteArray)++x151++(⟨#[41,32,123]⟩:ByteArray))
 | 10=>fun v _=>v=.pointer (some ⟨mb,0,none⟩)
 | 11=>fun v _=>v=.pointer (some ⟨mb,1,none⟩)
 | _=>fun _ _=>True
theorem zew (mb blk:Nat) (u2:ByteArray):∀ k v (X X':World),znr mb blk u2 k v X→X.grownBy X' (some blk)→znr mb blk u2 k v X'
 | 0,_,_,_,h,_=>h
 | 1,_,_,_,h,_=>h
 | 2,_,_,_,h,_=>h
 | 3,_,_,_,h,_=>h
 | 4,_,_,_,h,_=>h
 | 5,_,_,_,h,_=>h
 | 6,_,_,_,h,_=>h
 | 7,_,_,_,h,_=>h
 | 8,_,_,_,h,_=>h
 | 9,_,_,_,h,_=>h
 | 10,_,_,_,h,_=>h
 | 11,_,_,_,h,_=>h
 | _+12,_,_,_,_,_=>trivial
def zo7 (mb _blk:Nat) (u2:ByteArray):Nat→Value→World→Prop
 | 0=>fun v _=>v=.pointer (some ⟨mb,0,none⟩)
 | 1=>fun v _=>v=.pointer (some ⟨mb,0,none⟩)
 | 2=>fun v _=>v=.pointer (some ⟨mb,0,none⟩)
 | 3=>fun v _=>v=.pointer (some ⟨mb,1,none⟩)
 | 4=>fun v _=>v=.string (u2)
 | 5=>fun v _=>v=.string (u2++(⟨#[119,104,105,108,101,32,40]⟩:ByteArray))
 | 6=>fun v _=>v=.pointer (some ⟨mb,0,none⟩)
 | 7=>fun v _=>∃ x41:ByteArray,x41.size≤170∧v=.string (x41)
 | 8=>fun v _=>∃ x41:ByteArray,x41.size≤170∧v=.string (u2++(⟨#[119,104,105,108,101,32,40]⟩:ByteArray)++x41)
 | 9=>fun v _=>∃ x41:ByteArray,x41.size≤170∧v=.string (u2++(⟨#[119,104,105,108,101,32,40]⟩:ByteArray)++x41++(⟨#[41,32,123]⟩:ByteArray))
 | 10=>fun v _=>v=.pointer (some ⟨mb,0,none⟩)
 | 11=>fun v _=>v=.pointer (some ⟨mb,1,none⟩)
 | _=>fun _ _=>True
theorem zey (mb blk:Nat) (u2:ByteArray):∀ k v (X X':World),zo7 mb blk u2 k v X→X.grownBy X' (some blk)→zo7 mb blk u2 k v X'
 | 0,_,_,_,h,_=>h
 | 1,_,_,_,h,_=>h
 | 2,_,_,_,h,_=>h
 | 3,_,_,_,h,_=>h
 | 4,_,_,_,h,_=>h
 | 5,_,_,_,h,_=>h
 | 6,_,_,_,h,_=>h
 | 7,_,_,_,h,_=>h
 | 8,_,_,_,h,_=>h
 | 9,_,_,_,h,_=>h
 | 10,_,_,_,h,_=>h
 | 11,_,_,_,h,_=>h
 | _+12,_,_,_,_,_=>trivial
theorem zef (n:Nat) (t:Array Value) (h:t.size=n):t=((List.range n).map fun i=>t.getD i undef).toArray:=by
 subst h
 apply Array.ext
 ·simp
 ·intro i h1 h2
  simp[Array.getElem?_eq_getElem h1]
theorem z90 {mb:Nat} {di:Int} {k:Nat} (aa:Act) (hdf:aa.defers=[]) (hsz:aa.tmps.size=193) (f0:aa.tmps.getD 0 undef=.pointer (some ⟨mb,0,none⟩)) (f1:aa.tmps.getD 1 undef=.int .i64 di) (f2:aa.tmps.getD 2 undef=undef) (f3:aa.tmps.getD 3 undef=undef) (f4:aa.tmps.getD 4 undef=.int .i64 (k:Int)):aa=⟨#[.pointer (some ⟨mb,0,none⟩),.int .i64 di,undef,undef,.int .i64 (k:Int),aa.tmps.getD 5 undef,aa.tmps.getD 6 undef,aa.tmps.getD 7 undef,aa.tmps.getD 8 undef,aa.tmps.getD 9 undef,aa.tmps.getD 10 undef,aa.tmps.getD 11 undef,aa.tmps.getD 12 undef,aa.tmps.getD 13 undef,aa.tmps.getD 14 undef,aa.tmps.getD 15 undef,aa.tmps.getD 16 undef,aa.tmps.getD 17 undef,aa.tmps.getD 18 undef,aa.tmps.getD 19 undef,aa.tmps.getD 20 undef,aa.tmps.getD 21 undef,aa.tmps.getD 22 undef,aa.tmps.getD 23 undef,aa.tmps.getD 24 undef,aa.tmps.getD 25 undef,aa.tmps.getD 26 undef,aa.tmps.getD 27 undef,aa.tmps.getD 28 undef,aa.tmps.getD 29 undef,aa.tmps.getD 30 undef,aa.tmps.getD 31 undef,aa.tmps.getD 32 undef,aa.tmps.getD 33 undef,aa.tmps.getD 34 undef,aa.tmps.getD 35 undef,aa.tmps.getD 36 undef,aa.tmps.getD 37 undef,aa.tmps.getD 38 undef,aa.tmps.getD 39 undef,aa.tmps.getD 40 undef,aa.tmps.getD 41 undef,aa.tmps.getD 42 undef,aa.tmps.getD 43 undef,aa.tmps.getD 44 undef,aa.tmps.getD 45 undef,aa.tmps.getD 46 undef,aa.tmps.getD 47 undef,aa.tmps.getD 48 undef,aa.tmps.getD 49 undef,aa.tmps.getD 50 undef,aa.tmps.getD 51 undef,aa.tmps.getD 52 undef,aa.tmps.getD 53 undef,aa.tmps.getD 54 undef,aa.tmps.getD 55 undef,aa.tmps.getD 56 undef,aa.tmps.getD 57 undef,aa.tmps.getD 58 undef,aa.tmps.getD 59 undef,aa.tmps.getD 60 undef,aa.tmps.getD 61 undef,aa.tmps.getD 62 undef,aa.tmps.getD 63 undef,aa.tmps.getD 64 undef,aa.tmps.getD 65 undef,aa.tmps.getD 66 undef,aa.tmps.getD 67 undef,aa.tmps.getD 68 undef,aa.tmps.getD 69 undef,aa.tmps.getD 70 undef,aa.tmps.getD 71 undef,aa.tmps.getD 72 undef,aa.tmps.getD 73 undef,aa.tmps.getD 74 undef,aa.tmps.getD 75 undef,aa.tmps.getD 76 undef,aa.tmps.getD 77 undef,aa.tmps.getD 78 undef,aa.tmps.getD 79 undef,aa.tmps.getD 80 undef,aa.tmps.getD 81 undef,aa.tmps.getD 82 undef,aa.tmps.getD 83 undef,aa.tmps.getD 84 undef,aa.tmps.getD 85 undef,aa.tmps.getD 86 undef,aa.tmps.getD 87 undef,aa.tmps.getD 88 undef,aa.tmps.getD 89 undef,aa.tmps.getD 90 undef,aa.tmps.getD 91 undef,aa.tmps.getD 92 undef,aa.tmps.getD 93 undef,aa.tmps.getD 94 undef,aa.tmps.getD 95 undef,aa.tmps.getD 96 undef,aa.tmps.getD 97 undef,aa.tmps.getD 98 undef,aa.tmps.getD 99 undef,aa.tmps.getD 100 undef,aa.tmps.getD 101 undef,aa.tmps.getD 102 undef,aa.tmps.getD 103 undef,aa.tmps.getD 104 undef,aa.tmps.getD 105 undef,aa.tmps.getD 106 undef,aa.tmps.getD 107 undef,aa.tmps.getD 108 undef,aa.tmps.getD 109 undef,aa.tmps.getD 110 undef,aa.tmps.getD 111 undef,aa.tmps.getD 112 undef,aa.tmps.getD 113 undef,aa.tmps.getD 114 undef,aa.tmps.getD 115 undef,aa.tmps.getD 116 undef,aa.tmps.getD 117 undef,aa.tmps.getD 118 undef,aa.tmps.getD 119 undef,aa.tmps.getD 120 undef,aa.tmps.getD 121 undef,aa.tmps.getD 122 undef,aa.tmps.getD 123 undef,aa.tmps.getD 124 undef,aa.tmps.getD 125 undef,aa.tmps.getD 126 undef,aa.tmps.getD 127 undef,aa.tmps.getD 128 undef,aa.tmps.getD 129 undef,aa.tmps.getD 130 undef,aa.tmps.getD 131 undef,aa.tmps.getD 132 undef,aa.tmps.getD 133 undef,aa.tmps.getD 134 undef,aa.tmps.getD 135 undef,aa.tmps.getD 136 undef,aa.tmps.getD 137 undef,aa.tmps.getD 138 undef,aa.tmps.getD 139 undef,aa.tmps.getD 140 undef,aa.tmps.getD 141 undef,aa.tmps.getD 142 undef,aa.tmps.getD 143 undef,aa.tmps.getD 144 undef,aa.tmps.getD 145 undef,aa.tmps.getD 146 undef,aa.tmps.getD 147 undef,aa.tmps.getD 148 undef,aa.tmps.getD 149 undef,aa.tmps.getD 150 undef,aa.tmps.getD 151 undef,aa.tmps.getD 152 undef,aa.tmps.getD 153 undef,aa.tmps.getD 154 undef,aa.tmps.getD 155 undef,aa.tmps.getD 156 undef,aa.tmps.getD 157 undef,aa.tmps.getD 158 undef,aa.tmps.getD 159 undef,aa.tmps.getD 160 undef,aa.tmps.getD 161 undef,aa.tmps.getD 162 undef,aa.tmps.getD 163 undef,aa.tmps.getD 164 undef,aa.tmps.getD 165 undef,aa.tmps.getD 166 undef,aa.tmps.getD 167 undef,aa.tmps.getD 168 undef,aa.tmps.getD 169 undef,aa.tmps.getD 170 undef,aa.tmps.getD 171 undef,aa.tmps.getD 172 undef,aa.tmps.getD 173 undef,aa.tmps.getD 174 undef,aa.tmps.getD 175 undef,aa.tmps.getD 176 undef,aa.tmps.getD 177 undef,aa.tmps.getD 178 undef,aa.tmps.getD 179 undef,aa.tmps.getD 180 undef,aa.tmps.getD 181 undef,aa.tmps.getD 182 undef,aa.tmps.getD 183 undef,aa.tmps.getD 184 undef,aa.tmps.getD 185 undef,aa.tmps.getD 186 undef,aa.tmps.getD 187 undef,aa.tmps.getD 188 undef,aa.tmps.getD 189 undef,aa.tmps.getD 190 undef,aa.tmps.getD 191 undef,aa.tmps.getD 192 undef],[]⟩:=by
 have h9:=zef 193 aa.tmps hsz
 cases aa with
 | mk t d =>
   cases hdf
   refine congrArg (fun q=>(⟨q,[]⟩:Act)) (h9.trans ?_)
   rw[show (List.range 193)=[0,1,2,3,4,5,6,7,8,9,10,11,12,13,14,15,16,17,18,19,20,21,22,23,24,25,26,27,28,29,30,31,32,33,34,35,36,37,38,39,40,41,42,43,44,45,46,47,48,49,50,51,52,53,54,55,56,57,58,59,60,61,62,63,64,65,66,67,68,69,70,71,72,73,74,75,76,77,78,79,80,81,82,83,84,85,86,87,88,89,90,91,92,93,94,95,96,97,98,99,100,101,102,103,104,105,106,107,108,109,110,111,112,113,114,115,116,117,118,119,120,121,122,123,124,125,126,127,128,129,130,131,132,133,134,135,136,137,138,139,140,141,142,143,144,145,146,147,148,149,150,151,152,153,154,155,156,157,158,159,160,161,162,163,164,165,166,167,168,169,170,171,172,173,174,175,176,177,178,179,180,181,182,183,184,185,186,187,188,189,190,191,192] from by kernel_rfl]
   simp only[List.map_cons,List.map_nil,f0,f1,f2,f3,f4]
theorem z82 {di:Int} {S:Nat} (hdi:di≤2) (h00:0≤di) (hSb:S≤10000000) (hS:0<di→StC (di-1) S):StC di (3*(2000+2*S)):=by
 intro base w mb blk a len cap t n h ht hn
 have HM:=z00 (show MkL base w w mb blk a len cap t from⟨h,Fr2.refl _ _ _⟩)
 have qV1:=fun W (t:ByteArray) (h:MkAt base W mb blk a len cap t)=>zrb (d:=1) (by omega) base W mb blk a len cap t h
 have qV2:=fun W (t:ByteArray) (h:MkAt base W mb blk a len cap t)=>zrb (d:=2) (by omega) base W mb blk a len cap t h
 have qV3:=fun W (t:ByteArray) (h:MkAt base W mb blk a len cap t)=>zrb (d:=3) (by omega) base W mb blk a len cap t h
 rw[zuv.2.1,show ((1:Nat):Int)=1 from rfl] at qV1
 rw[zuv.2.2.1,show ((2:Nat):Int)=2 from rfl] at qV2
 rw[zuv.2.2.2,show ((3:Nat):Int)=3 from rfl] at qV3
 obtain⟨R,hR⟩:∃ R,R=2000+2*S:=⟨_,rfl⟩
 rw[← hR] at hn ⊢
 have hR2:2000+2*S=R:=by omega
 have hRb:R≤20002000:=by omega
 have HS:=z00 hS
 clear h hR hS
 go_enter Tryz.func157,Tryz.ntmps157
 go_wp2
 go_loopg [4] 3 (fun f i wr=>∃ (k:Nat) (u:ByteArray),f+k=3∧i=.int .i64 (k:Int)∧u.size≤n+k*R∧Hid (MkL base w wr mb blk a len cap u))
 case atStart=>exact⟨0,t,rfl,rfl,by omega,HM⟩
 case round =>
  clear HM ht t
  obtain⟨k,u,hf,rfl,hu,HI⟩:=hrel
  have hk:k≤3:=by omega
  have hkR:k*R≤3*R:=Nat.mul_le_mul_right _ hk
  have c0:=HI.out.at_.c0
  go_wp2_with fail
  refine(z1v base _ blk a len cap 4 HI.out.at_.cur (by omega) (by omega)).mono ?_
  rintro e w1 ⟨x,hx,rfl,hc1,hg1⟩
  have H1:=z00 (HI.out.gone hc1 hg1)
  clear hc1 hg1 HI c0
  by_cases hlt:k<x
  ·have hA:(k:Int)<(x:Int):=by omega
   obtain⟨f,rfl⟩:∃ f,gk=f+1:=⟨gk-1,by omega⟩
   have hk1:(k+1)*R=k*R+R:=Nat.succ_mul _ _
   have hk2:k*R≤2*R:=Nat.mul_le_mul_right _ (by omega)
   obtain⟨K,hK⟩:∃ K,K=k*R:=⟨_,rfl⟩
   rw[← hK] at hkR hk1 hk2 hu
   go_upto_block 1 with fail
   go_cut [] from 5 to 192 (fun wx=>∃ u9:ByteArray,u9.size≤n+K+R∧Hid (MkL base w wx mb blk a len cap u9))
   case first =>
    have c0:=H1.out.at_.c0
    go_wp2_with fail
    refine(z6c base _ blk a len cap 5 H1.out.at_.cur (by omega) (by omega)).mono ?_
    rintro e w2 ⟨b,rfl,hc2,hg2⟩
    have H2:=z00 (H1.out.gone hc2 hg2)
    clear hc2 hg2 H1 c0
    go_upto_if 18 with fail
    go_cut [] from 5 to 192 (fun wx=>∃ u2:ByteArray,u2.size≤n+K+2∧Hid (MkL base w wx mb blk a len cap u2))
    case first =>
     cases b with
     | true =>
       have c1:=H2.out.at_.c1
       have z1:=H2.out.at_.fz
       go_wp2_with fail
       go_meet
       exact⟨_,by simp[z0m];omega,z2p H2.out _⟩
     | false =>
       go_wp2_with fail
       go_meet
       exact⟨u,by omega,H2⟩
    case rest =>
     clear H2 hu
     obtain⟨u2,hu2,H3⟩:=hcut
     have c0:=H3.out.at_.c0
     go_wp2_with fail
     refine(z1v base _ blk a len cap 9 H3.out.at_.cur (by omega) (by omega)).mono ?_
     rintro e w4 ⟨y,hy,rfl,hc4,hg4⟩
     have H4:=z00 (H3.out.gone hc4 hg4)
     clear hc4 hg4 H3 c0
     have hy9:y<9:=by omega
     by_cases h01:y=0∨y=1
     ·rcases h01 with rfl|rfl
      all_goals
       as_aux_lemma =>
       have HD:=H4.out.drew
       go_upto_region 12 with fail
       refine z1c (by kernel_rfl) 16 (fun X=>MkL base w X mb blk a len cap u2) (fun X X'=>X.grownBy X' (some blk)) (zq5 mb blk u2) HD (by kernel_rfl) (by kernel_rfl) (by decide) (fun k v X X' h _ hb=>zfv mb blk u2 k v X X' h hb) ?_ ?_
       case refine_1 =>
        intro kk oo hne hk aa X hI hsz hfix hdep
        match kk,hk with
        | 0,hk =>
          cases hk;have e0:aa.tmps.getD 0 undef=.pointer (some ⟨mb,0,none⟩):=hfix 0 (by kernel_rfl)
          refine .inl ⟨z03 rfl,fun K hK=>z05 (v:=.pointer (some ⟨mb,0,none⟩)) (w':=X) ?_ (hK _ _ (by simp) hI (World.grownBy.refl X _) rfl)⟩
          clear hfix hdep hK hk hsz hI;go_simp
        | 1,hk =>
          cases hk;have e0:aa.tmps.getD 0 undef=.pointer (some ⟨mb,0,none⟩):=hfix 0 (by kernel_rfl)
          refine .inl ⟨z03 rfl,fun K hK=>z05 (v:=.pointer (some ⟨mb,0,none⟩)) (w':=X) ?_ (hK _ _ (by simp) hI (World.grownBy.refl X _) rfl)⟩
          clear hfix hdep hK hk hsz hI;go_simp
        | 2,hk =>
          cases hk;have e62:aa.tmps.getD 62 undef=.pointer (some ⟨mb,0,none⟩):=hdep 1 _ rfl (by kernel_rfl)
          refine .inl ⟨z03 rfl,fun K hK=>z05 (v:=.pointer (some ⟨mb,0,none⟩)) (w':=X) ?_ (hK _ _ (by simp) hI (World.grownBy.refl X _) rfl)⟩
          clear hfix hdep hK hk hsz hI;go_simp
        | 3,hk =>
          cases hk;have e63:aa.tmps.getD 63 undef=.pointer (some ⟨mb,0,none⟩):=hdep 2 _ rfl (by kernel_rfl)
          refine .inl ⟨z03 rfl,fun K hK=>z05 (v:=.pointer (some ⟨mb,1,none⟩)) (w':=X) ?_ (hK _ _ (by simp) hI (World.grownBy.refl X _) rfl)⟩
          clear hfix hdep hK hk hsz hI;go_simp
        | 4,hk =>
          cases hk;have e64:aa.tmps.getD 64 undef=.pointer (some ⟨mb,1,none⟩):=hdep 3 _ rfl (by kernel_rfl);have c0:=hI.at_.c0;have c1:=hI.at_.c1
          refine .inl ⟨z03 rfl,fun K hK=>z05 (v:=.string (u2)) (w':=X) ?_ (hK _ _ (by simp) hI (World.grownBy.refl X _) rfl)⟩
          clear hfix hdep hK hk hsz hI;go_simp
        | 5,hk =>
          cases hk;have e65:aa.tmps.getD 65 undef=.string (u2):=hdep 4 _ rfl (by kernel_rfl);have q0:¬ 9223372036854775807<u2.size+4:=by omega
          refine .inl ⟨z03 rfl,fun K hK=>z05 (v:=.string (u2++(⟨#[118,97,114,32]⟩:ByteArray))) (w':=X) ?_ (hK _ _ (by simp) hI (World.grownBy.refl X _) rfl)⟩
          clear hfix hdep hK hk hsz hI;go_simp
        | 6,hk =>
          cases hk;have e0:aa.tmps.getD 0 undef=.pointer (some ⟨mb,0,none⟩):=hfix 0 (by kernel_rfl)
          refine .inl ⟨z03 rfl,fun K hK=>z05 (v:=.pointer (some ⟨mb,0,none⟩)) (w':=X) ?_ (hK _ _ (by simp) hI (World.grownBy.refl X _) rfl)⟩
          clear hfix hdep hK hk hsz hI;go_simp
        | 7,hk =>
          cases hk;have e67:aa.tmps.getD 67 undef=.pointer (some ⟨mb,0,none⟩):=hdep 6 _ rfl (by kernel_rfl)
          refine .inl ⟨z03 rfl,fun K hK=>z1h 155 #[.pointer (some ⟨mb,0,none⟩)] ?_ (z47 base X mb blk a len cap _ hI.at_) ?_⟩
          ·clear hfix hdep hK hk hsz hI;go_simp;try rfl
          ·rintro e X2 ⟨u,hu,rfl,hc2,hg2⟩;exact⟨_,rfl,hK _ _ (by simp) (hI.gone hc2 hg2) hg2 ⟨u,hu,rfl⟩⟩
        | 8,hk =>
          cases hk;have e66:aa.tmps.getD 66 undef=.string (u2++(⟨#[118,97,114,32]⟩:ByteArray)):=hdep 5 _ rfl (by kernel_rfl);obtain⟨x68,s68,e68⟩:=hdep 7 _ rfl (by kernel_rfl);change aa.tmps.getD 68 undef=_ at e68;have q0:¬ 9223372036854775807<u2.size+4+x68.size:=by omega
          refine .inl ⟨z03 rfl,fun K hK=>z05 (v:=.string (u2++(⟨#[118,97,114,32]⟩:ByteArray)++x68)) (w':=X) ?_ (hK _ _ (by simp) hI (World.grownBy.refl X _) ⟨x68,s68,rfl⟩)⟩
          clear hfix hdep hK hk hsz hI;go_simp
        | 9,hk =>
          cases hk;obtain⟨x68,s68,e69⟩:=hdep 8 _ rfl (by kernel_rfl);change aa.tmps.getD 69 undef=_ at e69;have q0:¬ 9223372036854775807<u2.size+4+x68.size+3:=by omega
          refine .inl ⟨z03 rfl,fun K hK=>z05 (v:=.string (u2++(⟨#[118,97,114,32]⟩:ByteArray)++x68++(⟨#[32,61,32]⟩:ByteArray))) (w':=X) ?_ (hK _ _ (by simp) hI (World.grownBy.refl X _) ⟨x68,s68,rfl⟩)⟩
          clear hfix hdep hK hk hsz hI;go_simp
        | 10,hk =>
          cases hk;have e0:aa.tmps.getD 0 undef=.pointer (some ⟨mb,0,none⟩):=hfix 0 (by kernel_rfl)
          refine .inl ⟨z03 rfl,fun K hK=>z05 (v:=.pointer (some ⟨mb,0,none⟩)) (w':=X) ?_ (hK _ _ (by simp) hI (World.grownBy.refl X _) rfl)⟩
          clear hfix hdep hK hk hsz hI;go_simp
        | 11,hk =>
          cases hk;have e71:aa.tmps.getD 71 undef=.pointer (some ⟨mb,0,none⟩):=hdep 10 _ rfl (by kernel_rfl)
          refine .inl ⟨z03 rfl,fun K hK=>z1h 185 #[.pointer (some ⟨mb,0,none⟩),.int .i64 2] ?_ (qV2 X _ hI.at_) ?_⟩
          ·clear hfix hdep hK hk hsz hI;go_simp;try rfl
          ·rintro e X2 ⟨u,hu,rfl,hc2,hg2⟩;exact⟨_,rfl,hK _ _ (by simp) (hI.gone hc2 hg2) hg2 ⟨u,hu,rfl⟩⟩
        | 12,hk =>
          cases hk;obtain⟨x68,s68,e70⟩:=hdep 9 _ rfl (by kernel_rfl);change aa.tmps.getD 70 undef=_ at e70;obtain⟨x72,s72,e72⟩:=hdep 11 _ rfl (by kernel_rfl);change aa.tmps.getD 72 undef=_ at e72;have q0:¬ 9223372036854775807<u2.size+4+x68.size+3+x72.size:=by omega
          refine .inl ⟨z03 rfl,fun K hK=>z05 (v:=.string (u2++(⟨#[118,97,114,32]⟩:ByteArray)++x68++(⟨#[32,61,32]⟩:ByteArray)++x72)) (w':=X) ?_ (hK _ _ (by simp) hI (World.grownBy.refl X _) ⟨x68,s68,x72,s72,rfl⟩)⟩
          clear hfix hdep hK hk hsz hI;go_simp
        | 13,hk =>
          cases hk;obtain⟨x68,s68,x72,s72,e73⟩:=hdep 12 _ rfl (by kernel_rfl);change aa.tmps.getD 73 undef=_ at e73;have q0:¬ 9223372036854775807<u2.size+4+x68.size+3+x72.size+2:=by omega
          refine .inl ⟨z03 rfl,fun K hK=>z05 (v:=.string (u2++(⟨#[118,97,114,32]⟩:ByteArray)++x68++(⟨#[32,61,32]⟩:ByteArray)++x72++(⟨#[59,32]⟩:ByteArray))) (w':=X) ?_ (hK _ _ (by simp) hI (World.grownBy.refl X _) ⟨x68,s68,x72,s72,rfl⟩)⟩
          clear hfix hdep hK hk hsz hI;go_simp
        | 14,hk =>
          cases hk;have e61:aa.tmps.getD 61 undef=.pointer (some ⟨mb,0,none⟩):=hdep 0 _ rfl (by kernel_rfl)
          refine .inl ⟨z03 rfl,fun K hK=>z05 (v:=.pointer (some ⟨mb,0,none⟩)) (w':=X) ?_ (hK _ _ (by simp) hI (World.grownBy.refl X _) rfl)⟩
          clear hfix hdep hK hk hsz hI;go_simp
        | 15,hk =>
          cases hk;have e75:aa.tmps.getD 75 undef=.pointer (some ⟨mb,0,none⟩):=hdep 14 _ rfl (by kernel_rfl)
          refine .inl ⟨z03 rfl,fun K hK=>z05 (v:=.pointer (some ⟨mb,1,none⟩)) (w':=X) ?_ (hK _ _ (by simp) hI (World.grownBy.refl X _) rfl)⟩
          clear hfix hdep hK hk hsz hI;go_simp
        | _+17,hk=>exact absurd (Array.getElem?_eq_some_iff.1 hk).1 (by simp)
       case refine_2 =>
        intro oo hk aa X hI hdf hsz hfix hpost
        cases hk
        have e76:aa.tmps.getD 76 undef=.pointer (some ⟨mb,1,none⟩):=hpost 15 _ (by decide) rfl
        obtain⟨x68,s68,x72,s72,e74⟩:=hpost 13 _ (by decide) rfl
        change aa.tmps.getD 74 undef=_ at e74
        have z1:=hI.at_.fz
        have c1:=hI.at_.c1
        refine⟨z03 rfl,fun K hK=>z4v (w':=X.setCell ⟨mb,1,none⟩ (.string (u2++(⟨#[118,97,114,32]⟩:ByteArray)++x68++(⟨#[32,61,32]⟩:ByteArray)++x72++(⟨#[59,32]⟩:ByteArray)))) ?_ (hK _ _ ?_)⟩
        ·clear hfix hpost hK hsz hI;go_simp
        ·have HP:=z2p hI (u2++(⟨#[118,97,114,32]⟩:ByteArray)++x68++(⟨#[32,61,32]⟩:ByteArray)++x72++(⟨#[59,32]⟩:ByteArray))
         have ha:=z90 aa hdf hsz (hfix 0 (by kernel_rfl)) (hfix 1 (by kernel_rfl)) (hfix 2 (by kernel_rfl)) (hfix 3 (by kernel_rfl)) (hfix 4 (by kernel_rfl))
         clear hfix hpost hK hsz hdf e76 e74
         show Exit.inBlock _ _ _ aa _
         rw[ha]
         clear ha
         go_wp2_with fail
         go_meet
         exact⟨_,by(try simp[z0m]);omega,HP⟩
     by_cases h34:y=3∨y=4
     ·rcases h34 with rfl|rfl
      all_goals
       as_aux_lemma =>
       have HD:=H4.out.drew
       go_upto_region 17 with fail
       refine z1c (by kernel_rfl) 11 (fun X=>MkL base w X mb blk a len cap u2) (fun X X'=>X.grownBy X' (some blk)) (zqb mb blk u2) HD (by kernel_rfl) (by kernel_rfl) (by decide) (fun k v X X' h _ hb=>zfl mb blk u2 k v X X' h hb) ?_ ?_
       case refine_1 =>
        intro kk oo hne hk aa X hI hsz hfix hdep
        match kk,hk with
        | 0,hk =>
          cases hk;have e0:aa.tmps.getD 0 undef=.pointer (some ⟨mb,0,none⟩):=hfix 0 (by kernel_rfl)
          refine .inl ⟨z03 rfl,fun K hK=>z05 (v:=.pointer (some ⟨mb,0,none⟩)) (w':=X) ?_ (hK _ _ (by simp) hI (World.grownBy.refl X _) rfl)⟩
          clear hfix hdep hK hk hsz hI;go_simp
        | 1,hk =>
          cases hk;have e0:aa.tmps.getD 0 undef=.pointer (some ⟨mb,0,none⟩):=hfix 0 (by kernel_rfl)
          refine .inl ⟨z03 rfl,fun K hK=>z05 (v:=.pointer (some ⟨mb,0,none⟩)) (w':=X) ?_ (hK _ _ (by simp) hI (World.grownBy.refl X _) rfl)⟩
          clear hfix hdep hK hk hsz hI;go_simp
        | 2,hk =>
          cases hk;have e98:aa.tmps.getD 98 undef=.pointer (some ⟨mb,0,none⟩):=hdep 1 _ rfl (by kernel_rfl)
          refine .inl ⟨z03 rfl,fun K hK=>z05 (v:=.pointer (some ⟨mb,0,none⟩)) (w':=X) ?_ (hK _ _ (by simp) hI (World.grownBy.refl X _) rfl)⟩
          clear hfix hdep hK hk hsz hI;go_simp
        | 3,hk =>
          cases hk;have e99:aa.tmps.getD 99 undef=.pointer (some ⟨mb,0,none⟩):=hdep 2 _ rfl (by kernel_rfl)
          refine .inl ⟨z03 rfl,fun K hK=>z05 (v:=.pointer (some ⟨mb,1,none⟩)) (w':=X) ?_ (hK _ _ (by simp) hI (World.grownBy.refl X _) rfl)⟩
          clear hfix hdep hK hk hsz hI;go_simp
        | 4,hk =>
          cases hk;have e100:aa.tmps.getD 100 undef=.pointer (some ⟨mb,1,none⟩):=hdep 3 _ rfl (by kernel_rfl);have c0:=hI.at_.c0;have c1:=hI.at_.c1
          refine .inl ⟨z03 rfl,fun K hK=>z05 (v:=.string (u2)) (w':=X) ?_ (hK _ _ (by simp) hI (World.grownBy.refl X _) rfl)⟩
          clear hfix hdep hK hk hsz hI;go_simp
        | 5,hk =>
          cases hk;have e0:aa.tmps.getD 0 undef=.pointer (some ⟨mb,0,none⟩):=hfix 0 (by kernel_rfl)
          refine .inl ⟨z03 rfl,fun K hK=>z05 (v:=.pointer (some ⟨mb,0,none⟩)) (w':=X) ?_ (hK _ _ (by simp) hI (World.grownBy.refl X _) rfl)⟩
          clear hfix hdep hK hk hsz hI;go_simp
        | 6,hk =>
          cases hk;have e102:aa.tmps.getD 102 undef=.pointer (some ⟨mb,0,none⟩):=hdep 5 _ rfl (by kernel_rfl)
          refine .inl ⟨z03 rfl,fun K hK=>z1h 185 #[.pointer (some ⟨mb,0,none⟩),.int .i64 3] ?_ (qV3 X _ hI.at_) ?_⟩
          ·clear hfix hdep hK hk hsz hI;go_simp;try rfl
          ·rintro e X2 ⟨u,hu,rfl,hc2,hg2⟩;exact⟨_,rfl,hK _ _ (by simp) (hI.gone hc2 hg2) hg2 ⟨u,hu,rfl⟩⟩
        | 7,hk =>
          cases hk;have e101:aa.tmps.getD 101 undef=.string (u2):=hdep 4 _ rfl (by kernel_rfl);obtain⟨x103,s103,e103⟩:=hdep 6 _ rfl (by kernel_rfl);change aa.tmps.getD 103 undef=_ at e103;have q0:¬ 9223372036854775807<u2.size+x103.size:=by omega
          refine .inl ⟨z03 rfl,fun K hK=>z05 (v:=.string (u2++x103)) (w':=X) ?_ (hK _ _ (by simp) hI (World.grownBy.refl X _) ⟨x103,s103,rfl⟩)⟩
          clear hfix hdep hK hk hsz hI;go_simp
        | 8,hk =>
          cases hk;obtain⟨x103,s103,e104⟩:=hdep 7 _ rfl (by kernel_rfl);change aa.tmps.getD 104 undef=_ at e104;have q0:¬ 9223372036854775807<u2.size+x103.size+2:=by omega
          refine .inl ⟨z03 rfl,fun K hK=>z05 (v:=.string (u2++x103++(⟨#[59,32]⟩:ByteArray))) (w':=X) ?_ (hK _ _ (by simp) hI (World.grownBy.refl X _) ⟨x103,s103,rfl⟩)⟩
          clear hfix hdep hK hk hsz hI;go_simp
        | 9,hk =>
          cases hk;have e97:aa.tmps.getD 97 undef=.pointer (some ⟨mb,0,none⟩):=hdep 0 _ rfl (by kernel_rfl)
          refine .inl ⟨z03 rfl,fun K hK=>z05 (v:=.pointer (some ⟨mb,0,none⟩)) (w':=X) ?_ (hK _ _ (by simp) hI (World.grownBy.refl X _) rfl)⟩
          clear hfix hdep hK hk hsz hI;go_simp
        | 10,hk =>
          cases hk;have e106:aa.tmps.getD 106 undef=.pointer (some ⟨mb,0,none⟩):=hdep 9 _ rfl (by kernel_rfl)
          refine .inl ⟨z03 rfl,fun K hK=>z05 (v:=.pointer (some ⟨mb,1,none⟩)) (w':=X) ?_ (hK _ _ (by simp) hI (World.grownBy.refl X _) rfl)⟩
          clear hfix hdep hK hk hsz hI;go_simp
        | _+12,hk=>exact absurd (Array.getElem?_eq_some_iff.1 hk).1 (by simp)
       case refine_2 =>
        intro oo hk aa X hI hdf hsz hfix hpost
        cases hk
        have e107:aa.tmps.getD 107 undef=.pointer (some ⟨mb,1,none⟩):=hpost 10 _ (by decide) rfl
        obtain⟨x103,s103,e105⟩:=hpost 8 _ (by decide) rfl
        change aa.tmps.getD 105 undef=_ at e105
        have z1:=hI.at_.fz
        have c1:=hI.at_.c1
        refine⟨z03 rfl,fun K hK=>z4v (w':=X.setCell ⟨mb,1,none⟩ (.string (u2++x103++(⟨#[59,32]⟩:ByteArray)))) ?_ (hK _ _ ?_)⟩
        ·clear hfix hpost hK hsz hI;go_simp
        ·have HP:=z2p hI (u2++x103++(⟨#[59,32]⟩:ByteArray))
         have ha:=z90 aa hdf hsz (hfix 0 (by kernel_rfl)) (hfix 1 (by kernel_rfl)) (hfix 2 (by kernel_rfl)) (hfix 3 (by kernel_rfl)) (hfix 4 (by kernel_rfl))
         clear hfix hpost hK hsz hdf e107 e105
         show Exit.inBlock _ _ _ aa _
         rw[ha]
         clear ha
         go_wp2_with fail
         go_meet
         exact⟨_,by(try simp[z0m]);omega,HP⟩
     rcases(show y=2∨y=5∨y=6∨y=7∨y=8 by omega) with rfl|rfl|rfl|rfl|rfl
     ·clear h01 h34
      as_aux_lemma =>
      have HD:=H4.out.drew
      go_upto_region 14 with fail
      refine z1c (by kernel_rfl) 15 (fun X=>MkL base w X mb blk a len cap u2) (fun X X'=>X.grownBy X' (some blk)) (zov mb blk u2) HD (by kernel_rfl) (by kernel_rfl) (by decide) (fun k v X X' h _ hb=>zer mb blk u2 k v X X' h hb) ?_ ?_
      case refine_1 =>
       intro kk oo hne hk aa X hI hsz hfix hdep
       match kk,hk with
       | 0,hk =>
         cases hk;have e0:aa.tmps.getD 0 undef=.pointer (some ⟨mb,0,none⟩):=hfix 0 (by kernel_rfl)
         refine .inl ⟨z03 rfl,fun K hK=>z05 (v:=.pointer (some ⟨mb,0,none⟩)) (w':=X) ?_ (hK _ _ (by simp) hI (World.grownBy.refl X _) rfl)⟩
         clear hfix hdep hK hk hsz hI;go_simp
       | 1,hk =>
         cases hk;have e0:aa.tmps.getD 0 undef=.pointer (some ⟨mb,0,none⟩):=hfix 0 (by kernel_rfl)
         refine .inl ⟨z03 rfl,fun K hK=>z05 (v:=.pointer (some ⟨mb,0,none⟩)) (w':=X) ?_ (hK _ _ (by simp) hI (World.grownBy.refl X _) rfl)⟩
         clear hfix hdep hK hk hsz hI;go_simp
       | 2,hk =>
         cases hk;have e80:aa.tmps.getD 80 undef=.pointer (some ⟨mb,0,none⟩):=hdep 1 _ rfl (by kernel_rfl)
         refine .inl ⟨z03 rfl,fun K hK=>z05 (v:=.pointer (some ⟨mb,0,none⟩)) (w':=X) ?_ (hK _ _ (by simp) hI (World.grownBy.refl X _) rfl)⟩
         clear hfix hdep hK hk hsz hI;go_simp
       | 3,hk =>
         cases hk;have e81:aa.tmps.getD 81 undef=.pointer (some ⟨mb,0,none⟩):=hdep 2 _ rfl (by kernel_rfl)
         refine .inl ⟨z03 rfl,fun K hK=>z05 (v:=.pointer (some ⟨mb,1,none⟩)) (w':=X) ?_ (hK _ _ (by simp) hI (World.grownBy.refl X _) rfl)⟩
         clear hfix hdep hK hk hsz hI;go_simp
       | 4,hk =>
         cases hk;have e82:aa.tmps.getD 82 undef=.pointer (some ⟨mb,1,none⟩):=hdep 3 _ rfl (by kernel_rfl);have c0:=hI.at_.c0;have c1:=hI.at_.c1
         refine .inl ⟨z03 rfl,fun K hK=>z05 (v:=.string (u2)) (w':=X) ?_ (hK _ _ (by simp) hI (World.grownBy.refl X _) rfl)⟩
         clear hfix hdep hK hk hsz hI;go_simp
       | 5,hk =>
         cases hk;have e0:aa.tmps.getD 0 undef=.pointer (some ⟨mb,0,none⟩):=hfix 0 (by kernel_rfl)
         refine .inl ⟨z03 rfl,fun K hK=>z05 (v:=.pointer (some ⟨mb,0,none⟩)) (w':=X) ?_ (hK _ _ (by simp) hI (World.grownBy.refl X _) rfl)⟩
         clear hfix hdep hK hk hsz hI;go_simp
       | 6,hk =>
         cases hk;have e84:aa.tmps.getD 84 undef=.pointer (some ⟨mb,0,none⟩):=hdep 5 _ rfl (by kernel_rfl)
         refine .inl ⟨z03 rfl,fun K hK=>z1h 155 #[.pointer (some ⟨mb,0,none⟩)] ?_ (z47 base X mb blk a len cap _ hI.at_) ?_⟩
         ·clear hfix hdep hK hk hsz hI;go_simp;try rfl
         ·rintro e X2 ⟨u,hu,rfl,hc2,hg2⟩;exact⟨_,rfl,hK _ _ (by simp) (hI.gone hc2 hg2) hg2 ⟨u,hu,rfl⟩⟩
       | 7,hk =>
         cases hk;have e83:aa.tmps.getD 83 undef=.string (u2):=hdep 4 _ rfl (by kernel_rfl);obtain⟨x85,s85,e85⟩:=hdep 6 _ rfl (by kernel_rfl);change aa.tmps.getD 85 undef=_ at e85;have q0:¬ 9223372036854775807<u2.size+x85.size:=by omega
         refine .inl ⟨z03 rfl,fun K hK=>z05 (v:=.string (u2++x85)) (w':=X) ?_ (hK _ _ (by simp) hI (World.grownBy.refl X _) ⟨x85,s85,rfl⟩)⟩
         clear hfix hdep hK hk hsz hI;go_simp
       | 8,hk =>
         cases hk;obtain⟨x85,s85,e86⟩:=hdep 7 _ rfl (by kernel_rfl);change aa.tmps.getD 86 undef=_ at e86;have q0:¬ 9223372036854775807<u2.size+x85.size+3:=by omega
         refine .inl ⟨z03 rfl,fun K hK=>z05 (v:=.string (u2++x85++(⟨#[32,61,32]⟩:ByteArray))) (w':=X) ?_ (hK _ _ (by simp) hI (World.grownBy.refl X _) ⟨x85,s85,rfl⟩)⟩
         clear hfix hdep hK hk hsz hI;go_simp
       | 9,hk =>
         cases hk;have e0:aa.tmps.getD 0 undef=.pointer (some ⟨mb,0,none⟩):=hfix 0 (by kernel_rfl)
         refine .inl ⟨z03 rfl,fun K hK=>z05 (v:=.pointer (some ⟨mb,0,none⟩)) (w':=X) ?_ (hK _ _ (by simp) hI (World.grownBy.refl X _) rfl)⟩
         clear hfix hdep hK hk hsz hI;go_simp
       | 10,hk =>
         cases hk;have e88:aa.tmps.getD 88 undef=.pointer (some ⟨mb,0,none⟩):=hdep 9 _ rfl (by kernel_rfl)
         refine .inl ⟨z03 rfl,fun K hK=>z1h 185 #[.pointer (some ⟨mb,0,none⟩),.int .i64 3] ?_ (qV3 X _ hI.at_) ?_⟩
         ·clear hfix hdep hK hk hsz hI;go_simp;try rfl
         ·rintro e X2 ⟨u,hu,rfl,hc2,hg2⟩;exact⟨_,rfl,hK _ _ (by simp) (hI.gone hc2 hg2) hg2 ⟨u,hu,rfl⟩⟩
       | 11,hk =>
         cases hk;obtain⟨x85,s85,e87⟩:=hdep 8 _ rfl (by kernel_rfl);change aa.tmps.getD 87 undef=_ at e87;obtain⟨x89,s89,e89⟩:=hdep 10 _ rfl (by kernel_rfl);change aa.tmps.getD 89 undef=_ at e89;have q0:¬ 9223372036854775807<u2.size+x85.size+3+x89.size:=by omega
         refine .inl ⟨z03 rfl,fun K hK=>z05 (v:=.string (u2++x85++(⟨#[32,61,32]⟩:ByteArray)++x89)) (w':=X) ?_ (hK _ _ (by simp) hI (World.grownBy.refl X _) ⟨x85,s85,x89,s89,rfl⟩)⟩
         clear hfix hdep hK hk hsz hI;go_simp
       | 12,hk =>
         cases hk;obtain⟨x85,s85,x89,s89,e90⟩:=hdep 11 _ rfl (by kernel_rfl);change aa.tmps.getD 90 undef=_ at e90;have q0:¬ 9223372036854775807<u2.size+x85.size+3+x89.size+2:=by omega
         refine .inl ⟨z03 rfl,fun K hK=>z05 (v:=.string (u2++x85++(⟨#[32,61,32]⟩:ByteArray)++x89++(⟨#[59,32]⟩:ByteArray))) (w':=X) ?_ (hK _ _ (by simp) hI (World.grownBy.refl X _) ⟨x85,s85,x89,s89,rfl⟩)⟩
         clear hfix hdep hK hk hsz hI;go_simp
       | 13,hk =>
         cases hk;have e79:aa.tmps.getD 79 undef=.pointer (some ⟨mb,0,none⟩):=hdep 0 _ rfl (by kernel_rfl)
         refine .inl ⟨z03 rfl,fun K hK=>z05 (v:=.pointer (some ⟨mb,0,none⟩)) (w':=X) ?_ (hK _ _ (by simp) hI (World.grownBy.refl X _) rfl)⟩
         clear hfix hdep hK hk hsz hI;go_simp
       | 14,hk =>
         cases hk;have e92:aa.tmps.getD 92 undef=.pointer (some ⟨mb,0,none⟩):=hdep 13 _ rfl (by kernel_rfl)
         refine .inl ⟨z03 rfl,fun K hK=>z05 (v:=.pointer (some ⟨mb,1,none⟩)) (w':=X) ?_ (hK _ _ (by simp) hI (World.grownBy.refl X _) rfl)⟩
         clear hfix hdep hK hk hsz hI;go_simp
       | _+16,hk=>exact absurd (Array.getElem?_eq_some_iff.1 hk).1 (by simp)
      case refine_2 =>
       intro oo hk aa X hI hdf hsz hfix hpost
       cases hk
       have e93:aa.tmps.getD 93 undef=.pointer (some ⟨mb,1,none⟩):=hpost 14 _ (by decide) rfl
       obtain⟨x85,s85,x89,s89,e91⟩:=hpost 12 _ (by decide) rfl
       change aa.tmps.getD 91 undef=_ at e91
       have z1:=hI.at_.fz
       have c1:=hI.at_.c1
       refine⟨z03 rfl,fun K hK=>z4v (w':=X.setCell ⟨mb,1,none⟩ (.string (u2++x85++(⟨#[32,61,32]⟩:ByteArray)++x89++(⟨#[59,32]⟩:ByteArray)))) ?_ (hK _ _ ?_)⟩
       ·clear hfix hpost hK hsz hI;go_simp
       ·have HP:=z2p hI (u2++x85++(⟨#[32,61,32]⟩:ByteArray)++x89++(⟨#[59,32]⟩:ByteArray))
        have ha:=z90 aa hdf hsz (hfix 0 (by kernel_rfl)) (hfix 1 (by kernel_rfl)) (hfix 2 (by kernel_rfl)) (hfix 3 (by kernel_rfl)) (hfix 4 (by kernel_rfl))
        clear hfix hpost hK hsz hdf e93 e91
        show Exit.inBlock _ _ _ aa _
        rw[ha]
        clear ha
        go_wp2_with fail
        go_meet
        exact⟨_,by(try simp[z0m]);omega,HP⟩
     ·clear h01 h34
      as_aux_lemma =>
      have HD:=H4.out.drew
      go_upto_region 19 with fail
      refine z1c (by kernel_rfl) 12 (fun X=>MkL base w X mb blk a len cap u2) (fun X X'=>X.grownBy X' (some blk)) (znj mb blk u2) HD (by kernel_rfl) (by kernel_rfl) (by decide) (fun k v X X' h _ hb=>zf5 mb blk u2 k v X X' h hb) ?_ ?_
      case refine_1 =>
       intro kk oo hne hk aa X hI hsz hfix hdep
       match kk,hk with
       | 0,hk =>
         cases hk;have e0:aa.tmps.getD 0 undef=.pointer (some ⟨mb,0,none⟩):=hfix 0 (by kernel_rfl)
         refine .inl ⟨z03 rfl,fun K hK=>z05 (v:=.pointer (some ⟨mb,0,none⟩)) (w':=X) ?_ (hK _ _ (by simp) hI (World.grownBy.refl X _) rfl)⟩
         clear hfix hdep hK hk hsz hI;go_simp
       | 1,hk =>
         cases hk;have e0:aa.tmps.getD 0 undef=.pointer (some ⟨mb,0,none⟩):=hfix 0 (by kernel_rfl)
         refine .inl ⟨z03 rfl,fun K hK=>z05 (v:=.pointer (some ⟨mb,0,none⟩)) (w':=X) ?_ (hK _ _ (by simp) hI (World.grownBy.refl X _) rfl)⟩
         clear hfix hdep hK hk hsz hI;go_simp
       | 2,hk =>
         cases hk;have e111:aa.tmps.getD 111 undef=.pointer (some ⟨mb,0,none⟩):=hdep 1 _ rfl (by kernel_rfl)
         refine .inl ⟨z03 rfl,fun K hK=>z05 (v:=.pointer (some ⟨mb,0,none⟩)) (w':=X) ?_ (hK _ _ (by simp) hI (World.grownBy.refl X _) rfl)⟩
         clear hfix hdep hK hk hsz hI;go_simp
       | 3,hk =>
         cases hk;have e112:aa.tmps.getD 112 undef=.pointer (some ⟨mb,0,none⟩):=hdep 2 _ rfl (by kernel_rfl)
         refine .inl ⟨z03 rfl,fun K hK=>z05 (v:=.pointer (some ⟨mb,1,none⟩)) (w':=X) ?_ (hK _ _ (by simp) hI (World.grownBy.refl X _) rfl)⟩
         clear hfix hdep hK hk hsz hI;go_simp
       | 4,hk =>
         cases hk;have e113:aa.tmps.getD 113 undef=.pointer (some ⟨mb,1,none⟩):=hdep 3 _ rfl (by kernel_rfl);have c0:=hI.at_.c0;have c1:=hI.at_.c1
         refine .inl ⟨z03 rfl,fun K hK=>z05 (v:=.string (u2)) (w':=X) ?_ (hK _ _ (by simp) hI (World.grownBy.refl X _) rfl)⟩
         clear hfix hdep hK hk hsz hI;go_simp
       | 5,hk =>
         cases hk;have e114:aa.tmps.getD 114 undef=.string (u2):=hdep 4 _ rfl (by kernel_rfl);have q0:¬ 9223372036854775807<u2.size+7:=by omega
         refine .inl ⟨z03 rfl,fun K hK=>z05 (v:=.string (u2++(⟨#[114,101,116,117,114,110,32]⟩:ByteArray))) (w':=X) ?_ (hK _ _ (by simp) hI (World.grownBy.refl X _) rfl)⟩
         clear hfix hdep hK hk hsz hI;go_simp
       | 6,hk =>
         cases hk;have e0:aa.tmps.getD 0 undef=.pointer (some ⟨mb,0,none⟩):=hfix 0 (by kernel_rfl)
         refine .inl ⟨z03 rfl,fun K hK=>z05 (v:=.pointer (some ⟨mb,0,none⟩)) (w':=X) ?_ (hK _ _ (by simp) hI (World.grownBy.refl X _) rfl)⟩
         clear hfix hdep hK hk hsz hI;go_simp
       | 7,hk =>
         cases hk;have e116:aa.tmps.getD 116 undef=.pointer (some ⟨mb,0,none⟩):=hdep 6 _ rfl (by kernel_rfl)
         refine .inl ⟨z03 rfl,fun K hK=>z1h 185 #[.pointer (some ⟨mb,0,none⟩),.int .i64 2] ?_ (qV2 X _ hI.at_) ?_⟩
         ·clear hfix hdep hK hk hsz hI;go_simp;try rfl
         ·rintro e X2 ⟨u,hu,rfl,hc2,hg2⟩;exact⟨_,rfl,hK _ _ (by simp) (hI.gone hc2 hg2) hg2 ⟨u,hu,rfl⟩⟩
       | 8,hk =>
         cases hk;have e115:aa.tmps.getD 115 undef=.string (u2++(⟨#[114,101,116,117,114,110,32]⟩:ByteArray)):=hdep 5 _ rfl (by kernel_rfl);obtain⟨x117,s117,e117⟩:=hdep 7 _ rfl (by kernel_rfl);change aa.tmps.getD 117 undef=_ at e117;have q0:¬ 9223372036854775807<u2.size+7+x117.size:=by omega
         refine .inl ⟨z03 rfl,fun K hK=>z05 (v:=.string (u2++(⟨#[114,101,116,117,114,110,32]⟩:ByteArray)++x117)) (w':=X) ?_ (hK _ _ (by simp) hI (World.grownBy.refl X _) ⟨x117,s117,rfl⟩)⟩
         clear hfix hdep hK hk hsz hI;go_simp
       | 9,hk =>
         cases hk;obtain⟨x117,s117,e118⟩:=hdep 8 _ rfl (by kernel_rfl);change aa.tmps.getD 118 undef=_ at e118;have q0:¬ 9223372036854775807<u2.size+7+x117.size+2:=by omega
         refine .inl ⟨z03 rfl,fun K hK=>z05 (v:=.string (u2++(⟨#[114,101,116,117,114,110,32]⟩:ByteArray)++x117++(⟨#[59,32]⟩:ByteArray))) (w':=X) ?_ (hK _ _ (by simp) hI (World.grownBy.refl X _) ⟨x117,s117,rfl⟩)⟩
         clear hfix hdep hK hk hsz hI;go_simp
       | 10,hk =>
         cases hk;have e110:aa.tmps.getD 110 undef=.pointer (some ⟨mb,0,none⟩):=hdep 0 _ rfl (by kernel_rfl)
         refine .inl ⟨z03 rfl,fun K hK=>z05 (v:=.pointer (some ⟨mb,0,none⟩)) (w':=X) ?_ (hK _ _ (by simp) hI (World.grownBy.refl X _) rfl)⟩
         clear hfix hdep hK hk hsz hI;go_simp
       | 11,hk =>
         cases hk;have e120:aa.tmps.getD 120 undef=.pointer (some ⟨mb,0,none⟩):=hdep 10 _ rfl (by kernel_rfl)
         refine .inl ⟨z03 rfl,fun K hK=>z05 (v:=.pointer (some ⟨mb,1,none⟩)) (w':=X) ?_ (hK _ _ (by simp) hI (World.grownBy.refl X _) rfl)⟩
         clear hfix hdep hK hk hsz hI;go_simp
       | _+13,hk=>exact absurd (Array.getElem?_eq_some_iff.1 hk).1 (by simp)
      case refine_2 =>
       intro oo hk aa X hI hdf hsz hfix hpost
       cases hk
       have e121:aa.tmps.getD 121 undef=.pointer (some ⟨mb,1,none⟩):=hpost 11 _ (by decide) rfl
       obtain⟨x117,s117,e119⟩:=hpost 9 _ (by decide) rfl
       change aa.tmps.getD 119 undef=_ at e119
       have z1:=hI.at_.fz
       have c1:=hI.at_.c1
       refine⟨z03 rfl,fun K hK=>z4v (w':=X.setCell ⟨mb,1,none⟩ (.string (u2++(⟨#[114,101,116,117,114,110,32]⟩:ByteArray)++x117++(⟨#[59,32]⟩:ByteArray)))) ?_ (hK _ _ ?_)⟩
       ·clear hfix hpost hK hsz hI;go_simp
       ·have HP:=z2p hI (u2++(⟨#[114,101,116,117,114,110,32]⟩:ByteArray)++x117++(⟨#[59,32]⟩:ByteArray))
        have ha:=z90 aa hdf hsz (hfix 0 (by kernel_rfl)) (hfix 1 (by kernel_rfl)) (hfix 2 (by kernel_rfl)) (hfix 3 (by kernel_rfl)) (hfix 4 (by kernel_rfl))
        clear hfix hpost hK hsz hdf e121 e119
        show Exit.inBlock _ _ _ aa _
        rw[ha]
        clear ha
        go_wp2_with fail
        go_meet
        exact⟨_,by(try simp[z0m]);omega,HP⟩
     ·clear h01 h34
      as_aux_lemma =>
      have HD:=H4.out.drew
      go_upto_region 21 with fail
      refine z1c (by kernel_rfl) 16 (fun X=>MkL base w X mb blk a len cap u2) (fun X X'=>X.grownBy X' (some blk)) (zho mb blk u2) HD (by kernel_rfl) (by kernel_rfl) (by decide) (fun k v X X' h _ hb=>zcm mb blk u2 k v X X' h hb) ?_ ?_
      case refine_1 =>
       intro kk oo hne hk aa X hI hsz hfix hdep
       match kk,hk with
       | 0,hk =>
         cases hk;have e0:aa.tmps.getD 0 undef=.pointer (some ⟨mb,0,none⟩):=hfix 0 (by kernel_rfl)
         refine .inl ⟨z03 rfl,fun K hK=>z05 (v:=.pointer (some ⟨mb,0,none⟩)) (w':=X) ?_ (hK _ _ (by simp) hI (World.grownBy.refl X _) rfl)⟩
         clear hfix hdep hK hk hsz hI;go_simp
       | 1,hk =>
         cases hk;have e0:aa.tmps.getD 0 undef=.pointer (some ⟨mb,0,none⟩):=hfix 0 (by kernel_rfl)
         refine .inl ⟨z03 rfl,fun K hK=>z05 (v:=.pointer (some ⟨mb,0,none⟩)) (w':=X) ?_ (hK _ _ (by simp) hI (World.grownBy.refl X _) rfl)⟩
         clear hfix hdep hK hk hsz hI;go_simp
       | 2,hk =>
         cases hk;have e125:aa.tmps.getD 125 undef=.pointer (some ⟨mb,0,none⟩):=hdep 1 _ rfl (by kernel_rfl)
         refine .inl ⟨z03 rfl,fun K hK=>z05 (v:=.pointer (some ⟨mb,0,none⟩)) (w':=X) ?_ (hK _ _ (by simp) hI (World.grownBy.refl X _) rfl)⟩
         clear hfix hdep hK hk hsz hI;go_simp
       | 3,hk =>
         cases hk;have e126:aa.tmps.getD 126 undef=.pointer (some ⟨mb,0,none⟩):=hdep 2 _ rfl (by kernel_rfl)
         refine .inl ⟨z03 rfl,fun K hK=>z05 (v:=.pointer (some ⟨mb,1,none⟩)) (w':=X) ?_ (hK _ _ (by simp) hI (World.grownBy.refl X _) rfl)⟩
         clear hfix hdep hK hk hsz hI;go_simp
       | 4,hk =>
         cases hk;have e127:aa.tmps.getD 127 undef=.pointer (some ⟨mb,1,none⟩):=hdep 3 _ rfl (by kernel_rfl);have c0:=hI.at_.c0;have c1:=hI.at_.c1
         refine .inl ⟨z03 rfl,fun K hK=>z05 (v:=.string (u2)) (w':=X) ?_ (hK _ _ (by simp) hI (World.grownBy.refl X _) rfl)⟩
         clear hfix hdep hK hk hsz hI;go_simp
       | 5,hk =>
         cases hk;have e128:aa.tmps.getD 128 undef=.string (u2):=hdep 4 _ rfl (by kernel_rfl);have q0:¬ 9223372036854775807<u2.size+3:=by omega
         refine .inl ⟨z03 rfl,fun K hK=>z05 (v:=.string (u2++(⟨#[47,47,32]⟩:ByteArray))) (w':=X) ?_ (hK _ _ (by simp) hI (World.grownBy.refl X _) rfl)⟩
         clear hfix hdep hK hk hsz hI;go_simp
       | 6,hk =>
         cases hk;have e0:aa.tmps.getD 0 undef=.pointer (some ⟨mb,0,none⟩):=hfix 0 (by kernel_rfl)
         refine .inl ⟨z03 rfl,fun K hK=>z05 (v:=.pointer (some ⟨mb,0,none⟩)) (w':=X) ?_ (hK _ _ (by simp) hI (World.grownBy.refl X _) rfl)⟩
         clear hfix hdep hK hk hsz hI;go_simp
       | 7,hk =>
         cases hk;have e130:aa.tmps.getD 130 undef=.pointer (some ⟨mb,0,none⟩):=hdep 6 _ rfl (by kernel_rfl)
         refine .inl ⟨z03 rfl,fun K hK=>z05 (v:=.pointer (some ⟨mb,0,none⟩)) (w':=X) ?_ (hK _ _ (by simp) hI (World.grownBy.refl X _) rfl)⟩
         clear hfix hdep hK hk hsz hI;go_simp
       | 8,hk =>
         cases hk;have e131:aa.tmps.getD 131 undef=.pointer (some ⟨mb,0,none⟩):=hdep 7 _ rfl (by kernel_rfl)
         refine .inl ⟨z03 rfl,fun K hK=>z05 (v:=.pointer (some ⟨mb,0,none⟩)) (w':=X) ?_ (hK _ _ (by simp) hI (World.grownBy.refl X _) rfl)⟩
         clear hfix hdep hK hk hsz hI;go_simp
       | 9,hk =>
         cases hk;have e132:aa.tmps.getD 132 undef=.pointer (some ⟨mb,0,none⟩):=hdep 8 _ rfl (by kernel_rfl);have c0:=hI.at_.c0;have c1:=hI.at_.c1
         refine .inl ⟨z03 rfl,fun K hK=>z05 (v:=.pointer (some ⟨blk,0,none⟩)) (w':=X) ?_ (hK _ _ (by simp) hI (World.grownBy.refl X _) rfl)⟩
         clear hfix hdep hK hk hsz hI;go_simp
       | 10,hk =>
         cases hk
         refine .inl ⟨z03 rfl,fun K hK=>z05 (v:=.slice (some ⟨X.heap.size,0,none⟩) 3 3) (w':=X.alloc (.cells (z0h zeq).toArray 9)) ?_ (hK _ _ (by simp) (hI.gone (hI.at_.cur.kept (World.grownBy_alloc X _ none) (fun k hk=>by cases hk)) (World.grownBy_alloc X _ _)) (World.grownBy_alloc X _ _) ⟨X.heap.size,rfl,Nat.ne_of_gt hI.at_.cur.lt,by simp,fun j _=>zif X _ _ zeq rfl j⟩)⟩
         clear hfix hdep hK hk hsz hI;go_simp;try rfl
       | 11,hk =>
         cases hk;have e133:aa.tmps.getD 133 undef=.pointer (some ⟨blk,0,none⟩):=hdep 9 _ rfl (by kernel_rfl);obtain⟨lb,e134,l1,l2,l3⟩:=hdep 10 _ rfl (by kernel_rfl);change aa.tmps.getD 134 undef=_ at e134
         refine .inl ⟨z03 rfl,fun K hK=>z1h 156 #[.pointer (some ⟨blk,0,none⟩),.slice (some ⟨lb,0,none⟩) 3 3] ?_ (zga base X blk a len cap lb 3 3 11 zeq hI.at_.cur (by omega) (by omega) rfl l1 l2 l3 (by decide)) ?_⟩
         ·clear hfix hdep hK hk hsz hI;go_simp;try rfl
         ·rintro e X2 ⟨u,hu,rfl,hc2,hg2⟩;exact⟨_,rfl,hK _ _ (by simp) (hI.gone hc2 hg2) hg2 ⟨u,hu,rfl⟩⟩
       | 12,hk =>
         cases hk;have e129:aa.tmps.getD 129 undef=.string (u2++(⟨#[47,47,32]⟩:ByteArray)):=hdep 5 _ rfl (by kernel_rfl);obtain⟨x135,s135,e135⟩:=hdep 11 _ rfl (by kernel_rfl);change aa.tmps.getD 135 undef=_ at e135;have q0:¬ 9223372036854775807<u2.size+3+x135.size:=by omega
         refine .inl ⟨z03 rfl,fun K hK=>z05 (v:=.string (u2++(⟨#[47,47,32]⟩:ByteArray)++x135)) (w':=X) ?_ (hK _ _ (by simp) hI (World.grownBy.refl X _) ⟨x135,s135,rfl⟩)⟩
         clear hfix hdep hK hk hsz hI;go_simp
       | 13,hk =>
         cases hk;obtain⟨x135,s135,e136⟩:=hdep 12 _ rfl (by kernel_rfl);change aa.tmps.getD 136 undef=_ at e136;have q0:¬ 9223372036854775807<u2.size+3+x135.size+1:=by omega
         refine .inl ⟨z03 rfl,fun K hK=>z05 (v:=.string (u2++(⟨#[47,47,32]⟩:ByteArray)++x135++(⟨#[10]⟩:ByteArray))) (w':=X) ?_ (hK _ _ (by simp) hI (World.grownBy.refl X _) ⟨x135,s135,rfl⟩)⟩
         clear hfix hdep hK hk hsz hI;go_simp
       | 14,hk =>
         cases hk;have e124:aa.tmps.getD 124 undef=.pointer (some ⟨mb,0,none⟩):=hdep 0 _ rfl (by kernel_rfl)
         refine .inl ⟨z03 rfl,fun K hK=>z05 (v:=.pointer (some ⟨mb,0,none⟩)) (w':=X) ?_ (hK _ _ (by simp) hI (World.grownBy.refl X _) rfl)⟩
         clear hfix hdep hK hk hsz hI;go_simp
       | 15,hk =>
         cases hk;have e138:aa.tmps.getD 138 undef=.pointer (some ⟨mb,0,none⟩):=hdep 14 _ rfl (by kernel_rfl)
         refine .inl ⟨z03 rfl,fun K hK=>z05 (v:=.pointer (some ⟨mb,1,none⟩)) (w':=X) ?_ (hK _ _ (by simp) hI (World.grownBy.refl X _) rfl)⟩
         clear hfix hdep hK hk hsz hI;go_simp
       | _+17,hk=>exact absurd (Array.getElem?_eq_some_iff.1 hk).1 (by simp)
      case refine_2 =>
       intro oo hk aa X hI hdf hsz hfix hpost
       cases hk
       have e139:aa.tmps.getD 139 undef=.pointer (some ⟨mb,1,none⟩):=hpost 15 _ (by decide) rfl
       obtain⟨x135,s135,e137⟩:=hpost 13 _ (by decide) rfl
       change aa.tmps.getD 137 undef=_ at e137
       have z1:=hI.at_.fz
       have c1:=hI.at_.c1
       refine⟨z03 rfl,fun K hK=>z4v (w':=X.setCell ⟨mb,1,none⟩ (.string (u2++(⟨#[47,47,32]⟩:ByteArray)++x135++(⟨#[10]⟩:ByteArray)))) ?_ (hK _ _ ?_)⟩
       ·clear hfix hpost hK hsz hI;go_simp
       ·have HP:=z2p hI (u2++(⟨#[47,47,32]⟩:ByteArray)++x135++(⟨#[10]⟩:ByteArray))
        have ha:=z90 aa hdf hsz (hfix 0 (by kernel_rfl)) (hfix 1 (by kernel_rfl)) (hfix 2 (by kernel_rfl)) (hfix 3 (by kernel_rfl)) (hfix 4 (by kernel_rfl))
        clear hfix hpost hK hsz hdf e139 e137
        show Exit.inBlock _ _ _ aa _
        rw[ha]
        clear ha
        go_wp2_with fail
        go_meet
        exact⟨_,by(try simp[z0m]);omega,HP⟩
     ·clear h01 h34
      as_aux_lemma =>
      by_cases h0:0<di
      ·have HD:=H4.out.drew
       go_upto_region 24 with fail
       go_cut [] from 5 to 192 (fun wx=>∃ u3:ByteArray,u3.size≤n+K+700∧Hid (MkL base w wx mb blk a len cap u3))
       case first =>
        refine z1c (by kernel_rfl) 12 (fun X=>MkL base w X mb blk a len cap u2) (fun X X'=>X.grownBy X' (some blk)) (znr mb blk u2) HD (by kernel_rfl) (by kernel_rfl) (by decide) (fun k v X X' h _ hb=>zew mb blk u2 k v X X' h hb) ?_ ?_
        case refine_1 =>
         intro kk oo hne hk aa X hI hsz hfix hdep
         match kk,hk with
         | 0,hk =>
           cases hk;have e0:aa.tmps.getD 0 undef=.pointer (some ⟨mb,0,none⟩):=hfix 0 (by kernel_rfl)
           refine .inl ⟨z03 rfl,fun K hK=>z05 (v:=.pointer (some ⟨mb,0,none⟩)) (w':=X) ?_ (hK _ _ (by simp) hI (World.grownBy.refl X _) rfl)⟩
           clear hfix hdep hK hk hsz hI;go_simp
         | 1,hk =>
           cases hk;have e0:aa.tmps.getD 0 undef=.pointer (some ⟨mb,0,none⟩):=hfix 0 (by kernel_rfl)
           refine .inl ⟨z03 rfl,fun K hK=>z05 (v:=.pointer (some ⟨mb,0,none⟩)) (w':=X) ?_ (hK _ _ (by simp) hI (World.grownBy.refl X _) rfl)⟩
           clear hfix hdep hK hk hsz hI;go_simp
         | 2,hk =>
           cases hk;have e145:aa.tmps.getD 145 undef=.pointer (some ⟨mb,0,none⟩):=hdep 1 _ rfl (by kernel_rfl)
           refine .inl ⟨z03 rfl,fun K hK=>z05 (v:=.pointer (some ⟨mb,0,none⟩)) (w':=X) ?_ (hK _ _ (by simp) hI (World.grownBy.refl X _) rfl)⟩
           clear hfix hdep hK hk hsz hI;go_simp
         | 3,hk =>
           cases hk;have e146:aa.tmps.getD 146 undef=.pointer (some ⟨mb,0,none⟩):=hdep 2 _ rfl (by kernel_rfl)
           refine .inl ⟨z03 rfl,fun K hK=>z05 (v:=.pointer (some ⟨mb,1,none⟩)) (w':=X) ?_ (hK _ _ (by simp) hI (World.grownBy.refl X _) rfl)⟩
           clear hfix hdep hK hk hsz hI;go_simp
         | 4,hk =>
           cases hk;have e147:aa.tmps.getD 147 undef=.pointer (some ⟨mb,1,none⟩):=hdep 3 _ rfl (by kernel_rfl);have c0:=hI.at_.c0;have c1:=hI.at_.c1
           refine .inl ⟨z03 rfl,fun K hK=>z05 (v:=.string (u2)) (w':=X) ?_ (hK _ _ (by simp) hI (World.grownBy.refl X _) rfl)⟩
           clear hfix hdep hK hk hsz hI;go_simp
         | 5,hk =>
           cases hk;have e148:aa.tmps.getD 148 undef=.string (u2):=hdep 4 _ rfl (by kernel_rfl);have q0:¬ 9223372036854775807<u2.size+4:=by omega
           refine .inl ⟨z03 rfl,fun K hK=>z05 (v:=.string (u2++(⟨#[105,102,32,40]⟩:ByteArray))) (w':=X) ?_ (hK _ _ (by simp) hI (World.grownBy.refl X _) rfl)⟩
           clear hfix hdep hK hk hsz hI;go_simp
         | 6,hk =>
           cases hk;have e0:aa.tmps.getD 0 undef=.pointer (some ⟨mb,0,none⟩):=hfix 0 (by kernel_rfl)
           refine .inl ⟨z03 rfl,fun K hK=>z05 (v:=.pointer (some ⟨mb,0,none⟩)) (w':=X) ?_ (hK _ _ (by simp) hI (World.grownBy.refl X _) rfl)⟩
           clear hfix hdep hK hk hsz hI;go_simp
         | 7,hk =>
           cases hk;have e150:aa.tmps.getD 150 undef=.pointer (some ⟨mb,0,none⟩):=hdep 6 _ rfl (by kernel_rfl)
           refine .inl ⟨z03 rfl,fun K hK=>z1h 185 #[.pointer (some ⟨mb,0,none⟩),.int .i64 2] ?_ (qV2 X _ hI.at_) ?_⟩
           ·clear hfix hdep hK hk hsz hI;go_simp;try rfl
           ·rintro e X2 ⟨u,hu,rfl,hc2,hg2⟩;exact⟨_,rfl,hK _ _ (by simp) (hI.gone hc2 hg2) hg2 ⟨u,hu,rfl⟩⟩
         | 8,hk =>
           cases hk;have e149:aa.tmps.getD 149 undef=.string (u2++(⟨#[105,102,32,40]⟩:ByteArray)):=hdep 5 _ rfl (by kernel_rfl);obtain⟨x151,s151,e151⟩:=hdep 7 _ rfl (by kernel_rfl);change aa.tmps.getD 151 undef=_ at e151;have q0:¬ 9223372036854775807<u2.size+4+x151.size:=by omega
           refine .inl ⟨z03 rfl,fun K hK=>z05 (v:=.string (u2++(⟨#[105,102,32,40]⟩:ByteArray)++x151)) (w':=X) ?_ (hK _ _ (by simp) hI (World.grownBy.refl X _) ⟨x151,s151,rfl⟩)⟩
           clear hfix hdep hK hk hsz hI;go_simp
         | 9,hk =>
           cases hk;obtain⟨x151,s151,e152⟩:=hdep 8 _ rfl (by kernel_rfl);change aa.tmps.getD 152 undef=_ at e152;have q0:¬ 9223372036854775807<u2.size+4+x151.size+3:=by omega
           refine .inl ⟨z03 rfl,fun K hK=>z05 (v:=.string (u2++(⟨#[105,102,32,40]⟩:ByteArray)++x151++(⟨#[41,32,123]⟩:ByteArray))) (w':=X) ?_ (hK _ _ (by simp) hI (World.grownBy.refl X _) ⟨x151,s151,rfl⟩)⟩
           clear hfix hdep hK hk hsz hI;go_simp
         | 10,hk =>
           cases hk;have e144:aa.tmps.getD 144 undef=.pointer (some ⟨mb,0,none⟩):=hdep 0 _ rfl (by kernel_rfl)
           refine .inl ⟨z03 rfl,fun K hK=>z05 (v:=.pointer (some ⟨mb,0,none⟩)) (w':=X) ?_ (hK _ _ (by simp) hI (World.grownBy.refl X _) rfl)⟩
           clear hfix hdep hK hk hsz hI;go_simp
         | 11,hk =>
           cases hk;have e154:aa.tmps.getD 154 undef=.pointer (some ⟨mb,0,none⟩):=hdep 10 _ rfl (by kernel_rfl)
           refine .inl ⟨z03 rfl,fun K hK=>z05 (v:=.pointer (some ⟨mb,1,none⟩)) (w':=X) ?_ (hK _ _ (by simp) hI (World.grownBy.refl X _) rfl)⟩
           clear hfix hdep hK hk hsz hI;go_simp
         | _+13,hk=>exact absurd (Array.getElem?_eq_some_iff.1 hk).1 (by simp)
        case refine_2 =>
         intro oo hk aa X hI hdf hsz hfix hpost
         cases hk
         have e155:aa.tmps.getD 155 undef=.pointer (some ⟨mb,1,none⟩):=hpost 11 _ (by decide) rfl
         obtain⟨x151,s151,e153⟩:=hpost 9 _ (by decide) rfl
         change aa.tmps.getD 153 undef=_ at e153
         have z1:=hI.at_.fz
         have c1:=hI.at_.c1
         refine⟨z03 rfl,fun K hK=>z4v (w':=X.setCell ⟨mb,1,none⟩ (.string (u2++(⟨#[105,102,32,40]⟩:ByteArray)++x151++(⟨#[41,32,123]⟩:ByteArray)))) ?_ (hK _ _ ?_)⟩
         ·clear hfix hpost hK hsz hI;go_simp
         ·have HP:=z2p hI (u2++(⟨#[105,102,32,40]⟩:ByteArray)++x151++(⟨#[41,32,123]⟩:ByteArray))
          have ha:=z90 aa hdf hsz (hfix 0 (by kernel_rfl)) (hfix 1 (by kernel_rfl)) (hfix 2 (by kernel_rfl)) (hfix 3 (by kernel_rfl)) (hfix 4 (by kernel_rfl))
          clear hfix hpost hK hsz hdf e155 e153
          show Exit.«then» _ _ _ aa _
          rw[ha]
          clear ha
          go_wp2_with fail
          go_meet
          exact⟨_,by(try simp[z0m]);omega,HP⟩
       case rest =>
        clear H4 HD hu2
        obtain⟨u3,hu3,H5⟩:=hcut
        go_wp2_with fail
        refine(HS.out h0 base _ mb blk a len cap u3 _ H5.out.at_ hu3 (by omega)).mono ?_
        rintro e w6 ⟨rfl,u4,hu4,J6⟩
        have H6:=H5.out.trans J6
        have c0:=H6.at_.c0
        have c1:=H6.at_.c1
        have z1:=H6.at_.fz
        have HP:=z00 (fun u:ByteArray=>z2p H6 u)
        clear J6 H5 hu3 H6
        have d0:∀ v:ByteArray,(w6.setCell ⟨mb,1,none⟩ (.string v)).cell? ⟨mb,0,none⟩=some (.pointer (some ⟨blk,0,none⟩)):=fun v=>(HP.out v).out.at_.c0
        go_wp2_with fail
        refine(z6c base _ blk a len cap 2 (HP.out _).out.at_.cur (by omega) (by omega)).mono ?_
        rintro e w7 ⟨b7,rfl,hc7,hg7⟩
        have J7:=(HP.out _).out.gone hc7 hg7
        have hu5:(u4++(⟨#[125,32]⟩:ByteArray)).size≤n+K+702+S:=by simp[z0m];omega
        obtain⟨u5,hu5e⟩:∃ u5,u5=u4++(⟨#[125,32]⟩:ByteArray):=⟨_,rfl⟩
        rw[← hu5e] at J7 hu5
        have e1:=J7.at_.c1
        have y1:=J7.at_.fz
        have H7:=z00 J7
        have HP7:=z00 (fun u:ByteArray=>z2p J7 u)
        clear HP d0 c0 c1 z1 hc7 hg7 hu5e J7 hu4
        cases b7 with
        | false =>
          go_wp2_with fail
          go_meet
          exact⟨u5,by omega,H7⟩
        | true =>
          go_wp2_with fail
          refine(HS.out h0 base _ mb blk a len cap _ (n+K+708+S) (HP7.out _).out.at_ (by simp[z0m];omega) (by omega)).mono ?_
          rintro e w8 ⟨rfl,u6,hu6,J8⟩
          have H8:=(HP7.out _).out.trans J8
          have c1:=H8.at_.c1
          have z1:=H8.at_.fz
          have HP:=z00 (fun u:ByteArray=>z2p H8 u)
          clear J8 HP7 H7 e1 y1 H8
          go_wp2_with fail
          go_meet
          exact⟨_,by(try simp[z0m]);omega,HP.out _⟩
      ·go_wp2_with fail
       go_meet
       exact⟨_,by omega,H4⟩
     ·clear h01 h34
      as_aux_lemma =>
      by_cases h0:0<di
      ·have HD:=H4.out.drew
       go_upto_region 7 with fail
       go_cut [] from 5 to 192 (fun wx=>∃ u3:ByteArray,u3.size≤n+K+700∧Hid (MkL base w wx mb blk a len cap u3))
       case first =>
        refine z1c (by kernel_rfl) 12 (fun X=>MkL base w X mb blk a len cap u2) (fun X X'=>X.grownBy X' (some blk)) (zo7 mb blk u2) HD (by kernel_rfl) (by kernel_rfl) (by decide) (fun k v X X' h _ hb=>zey mb blk u2 k v X X' h hb) ?_ ?_
        case refine_1 =>
         intro kk oo hne hk aa X hI hsz hfix hdep
         match kk,hk with
         | 0,hk =>
           cases hk;have e0:aa.tmps.getD 0 undef=.pointer (some ⟨mb,0,none⟩):=hfix 0 (by kernel_rfl)
           refine .inl ⟨z03 rfl,fun K hK=>z05 (v:=.pointer (some ⟨mb,0,none⟩)) (w':=X) ?_ (hK _ _ (by simp) hI (World.grownBy.refl X _) rfl)⟩
           clear hfix hdep hK hk hsz hI;go_simp
         | 1,hk =>
           cases hk;have e0:aa.tmps.getD 0 undef=.pointer (some ⟨mb,0,none⟩):=hfix 0 (by kernel_rfl)
           refine .inl ⟨z03 rfl,fun K hK=>z05 (v:=.pointer (some ⟨mb,0,none⟩)) (w':=X) ?_ (hK _ _ (by simp) hI (World.grownBy.refl X _) rfl)⟩
           clear hfix hdep hK hk hsz hI;go_simp
         | 2,hk =>
           cases hk;have e35:aa.tmps.getD 35 undef=.pointer (some ⟨mb,0,none⟩):=hdep 1 _ rfl (by kernel_rfl)
           refine .inl ⟨z03 rfl,fun K hK=>z05 (v:=.pointer (some ⟨mb,0,none⟩)) (w':=X) ?_ (hK _ _ (by simp) hI (World.grownBy.refl X _) rfl)⟩
           clear hfix hdep hK hk hsz hI;go_simp
         | 3,hk =>
           cases hk;have e36:aa.tmps.getD 36 undef=.pointer (some ⟨mb,0,none⟩):=hdep 2 _ rfl (by kernel_rfl)
           refine .inl ⟨z03 rfl,fun K hK=>z05 (v:=.pointer (some ⟨mb,1,none⟩)) (w':=X) ?_ (hK _ _ (by simp) hI (World.grownBy.refl X _) rfl)⟩
           clear hfix hdep hK hk hsz hI;go_simp
         | 4,hk =>
           cases hk;have e37:aa.tmps.getD 37 undef=.pointer (some ⟨mb,1,none⟩):=hdep 3 _ rfl (by kernel_rfl);have c0:=hI.at_.c0;have c1:=hI.at_.c1
           refine .inl ⟨z03 rfl,fun K hK=>z05 (v:=.string (u2)) (w':=X) ?_ (hK _ _ (by simp) hI (World.grownBy.refl X _) rfl)⟩
           clear hfix hdep hK hk hsz hI;go_simp
         | 5,hk =>
           cases hk;have e38:aa.tmps.getD 38 undef=.string (u2):=hdep 4 _ rfl (by kernel_rfl);have q0:¬ 9223372036854775807<u2.size+7:=by omega
           refine .inl ⟨z03 rfl,fun K hK=>z05 (v:=.string (u2++(⟨#[119,104,105,108,101,32,40]⟩:ByteArray))) (w':=X) ?_ (hK _ _ (by simp) hI (World.grownBy.refl X _) rfl)⟩
           clear hfix hdep hK hk hsz hI;go_simp
         | 6,hk =>
           cases hk;have e0:aa.tmps.getD 0 undef=.pointer (some ⟨mb,0,none⟩):=hfix 0 (by kernel_rfl)
           refine .inl ⟨z03 rfl,fun K hK=>z05 (v:=.pointer (some ⟨mb,0,none⟩)) (w':=X) ?_ (hK _ _ (by simp) hI (World.grownBy.refl X _) rfl)⟩
           clear hfix hdep hK hk hsz hI;go_simp
         | 7,hk =>
           cases hk;have e40:aa.tmps.getD 40 undef=.pointer (some ⟨mb,0,none⟩):=hdep 6 _ rfl (by kernel_rfl)
           refine .inl ⟨z03 rfl,fun K hK=>z1h 185 #[.pointer (some ⟨mb,0,none⟩),.int .i64 1] ?_ (qV1 X _ hI.at_) ?_⟩
           ·clear hfix hdep hK hk hsz hI;go_simp;try rfl
           ·rintro e X2 ⟨u,hu,rfl,hc2,hg2⟩;exact⟨_,rfl,hK _ _ (by simp) (hI.gone hc2 hg2) hg2 ⟨u,hu,rfl⟩⟩
         | 8,hk =>
           cases hk;have e39:aa.tmps.getD 39 undef=.string (u2++(⟨#[119,104,105,108,101,32,40]⟩:ByteArray)):=hdep 5 _ rfl (by kernel_rfl);obtain⟨x41,s41,e41⟩:=hdep 7 _ rfl (by kernel_rfl);change aa.tmps.getD 41 undef=_ at e41;have q0:¬ 9223372036854775807<u2.size+7+x41.size:=by omega
           refine .inl ⟨z03 rfl,fun K hK=>z05 (v:=.string (u2++(⟨#[119,104,105,108,101,32,40]⟩:ByteArray)++x41)) (w':=X) ?_ (hK _ _ (by simp) hI (World.grownBy.refl X _) ⟨x41,s41,rfl⟩)⟩
           clear hfix hdep hK hk hsz hI;go_simp
         | 9,hk =>
           cases hk;obtain⟨x41,s41,e42⟩:=hdep 8 _ rfl (by kernel_rfl);change aa.tmps.getD 42 undef=_ at e42;have q0:¬ 9223372036854775807<u2.size+7+x41.size+3:=by omega
           refine .inl ⟨z03 rfl,fun K hK=>z05 (v:=.string (u2++(⟨#[119,104,105,108,101,32,40]⟩:ByteArray)++x41++(⟨#[41,32,123]⟩:ByteArray))) (w':=X) ?_ (hK _ _ (by simp) hI (World.grownBy.refl X _) ⟨x41,s41,rfl⟩)⟩
           clear hfix hdep hK hk hsz hI;go_simp
         | 10,hk =>
           cases hk;have e34:aa.tmps.getD 34 undef=.pointer (some ⟨mb,0,none⟩):=hdep 0 _ rfl (by kernel_rfl)
           refine .inl ⟨z03 rfl,fun K hK=>z05 (v:=.pointer (some ⟨mb,0,none⟩)) (w':=X) ?_ (hK _ _ (by simp) hI (World.grownBy.refl X _) rfl)⟩
           clear hfix hdep hK hk hsz hI;go_simp
         | 11,hk =>
           cases hk;have e44:aa.tmps.getD 44 undef=.pointer (some ⟨mb,0,none⟩):=hdep 10 _ rfl (by kernel_rfl)
           refine .inl ⟨z03 rfl,fun K hK=>z05 (v:=.pointer (some ⟨mb,1,none⟩)) (w':=X) ?_ (hK _ _ (by simp) hI (World.grownBy.refl X _) rfl)⟩
           clear hfix hdep hK hk hsz hI;go_simp
         | _+13,hk=>exact absurd (Array.getElem?_eq_some_iff.1 hk).1 (by simp)
        case refine_2 =>
         intro oo hk aa X hI hdf hsz hfix hpost
         cases hk
         have e45:aa.tmps.getD 45 undef=.pointer (some ⟨mb,1,none⟩):=hpost 11 _ (by decide) rfl
         obtain⟨x41,s41,e43⟩:=hpost 9 _ (by decide) rfl
         change aa.tmps.getD 43 undef=_ at e43
         have z1:=hI.at_.fz
         have c1:=hI.at_.c1
         refine⟨z03 rfl,fun K hK=>z4v (w':=X.setCell ⟨mb,1,none⟩ (.string (u2++(⟨#[119,104,105,108,101,32,40]⟩:ByteArray)++x41++(⟨#[41,32,123]⟩:ByteArray)))) ?_ (hK _ _ ?_)⟩
         ·clear hfix hpost hK hsz hI;go_simp
         ·have HP:=z2p hI (u2++(⟨#[119,104,105,108,101,32,40]⟩:ByteArray)++x41++(⟨#[41,32,123]⟩:ByteArray))
          have ha:=z90 aa hdf hsz (hfix 0 (by kernel_rfl)) (hfix 1 (by kernel_rfl)) (hfix 2 (by kernel_rfl)) (hfix 3 (by kernel_rfl)) (hfix 4 (by kernel_rfl))
          clear hfix hpost hK hsz hdf e45 e43
          show Exit.«then» _ _ _ aa _
          rw[ha]
          clear ha
          go_wp2_with fail
          go_meet
          exact⟨_,by(try simp[z0m]);omega,HP⟩
       case rest =>
        clear H4 HD hu2
        obtain⟨u3,hu3,H5⟩:=hcut
        go_wp2_with fail
        refine(HS.out h0 base _ mb blk a len cap u3 _ H5.out.at_ hu3 (by omega)).mono ?_
        rintro e w6 ⟨rfl,u4,hu4,J6⟩
        have H6:=H5.out.trans J6
        have c0:=H6.at_.c0
        have c1:=H6.at_.c1
        have z1:=H6.at_.fz
        have HP:=z00 (fun u:ByteArray=>z2p H6 u)
        clear J6 H5 hu3 H6
        go_wp2_with fail
        go_meet
        exact⟨_,by(try simp[z0m]);omega,HP.out _⟩
      ·go_wp2_with fail
       go_meet
       exact⟨_,by omega,H4⟩
   case rest =>
    clear H1 hu hx hlt hA
    obtain⟨u9,hu9,H9⟩:=hcut
    go_wp2
    go_roundg f
    case rel=>exact⟨k+1,u9,by omega,by go_num,by omega,H9⟩
    case measure=>omega
  ·have hA:¬ (k:Int)<(x:Int):=by omega
   go_wp2
   go_end0
   exact⟨rfl,u,by omega,H1.out⟩
theorem zv2:StC 2 258000∧StC 0 6000:=by
 have h0:StC 0 6000:=z82 (S:=0) (by omega) (by omega) (by omega) (fun h=>absurd h (by omega))
 have h1:StC 1 42000:=z82 (S:=6000) (by omega) (by omega) (by omega) (fun _=>h0)
 exact⟨z82 (S:=42000) (by omega) (by omega) (by omega) (fun _=>h1),h0⟩
end Go.Proofs.YtekebloinobjnaaGreatDoor
