/- Texts of one proof, laid together: Lib, CutLib, IntLib, RowLib, NdL, SgLib, Key. -/
import Derived.WalkKit
import Derived.WalkSpells
import Derived.BigQuiet
import Derived.Laws.BytesArg
import Derived.Laws.OwnMore
import Derived.Maps.AppendAt
import Derived.Test.YtekebloinobjnaaGreatDoorProg
set_option maxHeartbeats 16000000
set_option maxRecDepth 100000
namespace Go.Proofs.YtekebloinobjnaaGreatDoor
open Go.RowKit
theorem z06 {w:World} {base e size:Nat} {v:Value} {n:Nat} {xs:List Value} (h:w.ownsRow base e size v n xs):∃ (ao:Option Addr) (c:Nat),v=.slice ao n c:=by
 rcases h.2 with⟨rfl,rfl⟩|⟨g,cap,cur,rfl,_⟩
 ·exact⟨none,0,rfl⟩
 ·exact⟨_,_,rfl⟩
theorem z00 {p:Prop} (h:p):Hid p:=h
theorem zaa {a b:ByteArray} (h:a=b):Ending.returned (.string a)=.returned (.string b):=by rw[h]
theorem z2z {k:IntKind} {a b:Int} (h:a=b):Ending.returned (.int k a)=.returned (.int k b):=by rw[h]
theorem z0l {a b:Bool} (h:a=b):Ending.returned (.bool a)=.returned (.bool b):=by rw[h]
theorem z01 {w:World} {base base':Nat} {e size:Nat} {v:Value} {n:Nat} {xs:List Value} (h:w.ownsRow base e size v n xs) (hb:base'≤base):w.ownsRow base' e size v n xs:=by
 refine⟨h.1,?_⟩
 rcases h.2 with h|⟨g,cap,cur,h1,h2,h3⟩
 ·exact .inl h
 ·exact .inr ⟨g,cap,cur,h1,Nat.le_trans hb h2,h3⟩
def by8 (s:ByteArray) (k:Nat):Int:=((s.data.toList.getD k 0).toNat:Int)
theorem z3x (s:ByteArray):∀ (k:Nat) (h:k<s.size),((s[k]'h).toNat:Int)=by8 s k:=fun k h=>by
 unfold by8
 have h':k<s.data.toList.length:=by simpa using h
 rw[List.getD_eq_getElem?_getD,List.getElem?_eq_getElem h']
 rfl
theorem z1f (s:ByteArray) (k:Nat):0≤by8 s k∧by8 s k≤255:=by
 unfold by8
 have:=(s.data.toList.getD k 0).toNat_lt
 omega
theorem zae (a b:ByteArray):(a.toList==b.toList)=decide (a=b):=by
 rw[Bool.eq_iff_iff]
 simp only[beq_iff_eq,decide_eq_true_eq,ByteArray.toList_eq]
 exact⟨fun h=>ByteArray.ext (Array.ext' h),fun h=>by rw[h]⟩
theorem z30 {P:Program} (t:Nat) (s:ByteArray) (a b:Nat) (i j:Int) (ht:P.underlying t=some .string) (hi:i=a) (hj:j=b) (h1:a≤b) (h2:b≤s.size) :
 ∀ wx:World,(Instr.slice t (.string s) (some (.int .i64 i)) (some (.int .i64 j)) none).run P wx=.ok (.string (s.extract a b)) wx:=by
 intro wx
 rw[run_slice_string_if (P:=P) (w:=wx) t s .i64 .i64 i j ht,if_pos (by omega),if_pos (by omega),hi,hj]
 rfl
theorem zgc {P:Program} (t:Nat) (s:ByteArray) (b:Nat) (j:Int) (ht:P.underlying t=some .string) (hj:j=b) (h2:b≤s.size) :
 ∀ wx:World,(Instr.slice t (.string s) none (some (.int .i64 j)) none).run P wx=.ok (.string (s.extract 0 b)) wx:=by
 intro wx
 rw[run_slice_string_to_if (P:=P) (w:=wx) t s .i64 j ht,if_pos (by omega),hj]
 rfl
theorem z9s {P:Program} (t:Nat) (s:ByteArray) (a:Nat) (i:Int) (ht:P.underlying t=some .string) (hi:i=a) (h2:a≤s.size) :
 ∀ wx:World,(Instr.slice t (.string s) (some (.int .i64 i)) none none).run P wx=.ok (.string (s.extract a s.size)) wx:=by
 intro wx
 rw[run_slice_string_from_if (P:=P) (w:=wx) t s .i64 i ht,if_pos (by omega),hi]
 rfl
def vbF:Nat→Nat→List Int
 | 0,n=>[(n:Int)]
 | f+1,n=>if 127<n then ((n:Int) % 128+128)::vbF f (n / 128) else [(n:Int)]
def vb (n:Nat):List Int:=vbF n n
theorem z07 {w w':World} {base e size:Nat} {v:Value} {n:Nat} {xs:List Value} (h:w.ownsRow base e size v n xs) (hb:Below w.heap.size w w'):w'.ownsRow base e size v n xs:=by
 refine⟨h.1,?_⟩
 rcases h.2 with h|⟨g,cap,cur,h1,h2,h3,h4⟩
 ·exact .inl h
 ·refine .inr ⟨g,cap,cur,h1,h2,?_,h4⟩
  rw[hb.block g (Array.getElem?_eq_some_iff.1 h3).1]
  exact h3
theorem z0t {w w':World} (h:Below w.heap.size w w') (row:Option Nat):w.grownBy w' row:=⟨h.os,h.tape,h.output,h.size,fun k hk _=>h.block k hk⟩
theorem z0w {a b c:World} {row:Option Nat} (h1:a.grownBy b row) (h2:b.grownBy c row):a.grownBy c row:=
 ⟨h2.os.trans h1.os,h2.tape.trans h1.tape,h2.output.trans h1.output,Nat.le_trans h1.size h2.size,fun k hk hr=>(h2.block k (Nat.lt_of_lt_of_le hk h1.size) hr).trans (h1.block k hk hr)⟩
theorem z1x {B:Nat} {a w:World} (h:Below B a w) (n:Nat):Below B a (w.drewN n):=⟨h.os,h.tape,h.output,h.size,h.block⟩
theorem z0e (w:World) (n:Nat):Below w.heap.size w (w.drewN n):=⟨rfl,rfl,rfl,Nat.le_refl _,fun _ _=>rfl⟩
def z0h (ss:List ByteArray):List Value:=ss.map Value.string
def zhk (ss:List ByteArray) (e0:Nat) (w:World) (e:Ending) (w':World):Prop:=
 Below w.heap.size w w'∧∃ v,e=.returned v∧w'.ownsRow w.heap.size e0 1 v ss.length (z0h ss)
def lists (os:List ByteArray):List (List UInt8):=os.map fun o=>o.data.toList
theorem zab (s:ByteArray) (i:Nat) (h:i<s.size):s.data.toList.drop i=s.data.toList.getD i 0::s.data.toList.drop (i+1):=by
 have h':i<s.data.toList.length:=by simpa using h
 rw[List.drop_eq_getElem_cons h',List.getD_eq_getElem?_getD,List.getElem?_eq_getElem h']
 rfl
theorem z0s {w:World} {base e size n c:Nat} {ao:Option Addr} {xs:List Value} (h:w.ownsRow base e size (.slice ao n c) n xs) (hn:0<n):∃ g,ao=some ⟨g,0,none⟩:=by
 rcases h.2 with⟨_,e⟩|⟨g,cap,cur,e,_⟩
 ·omega
 ·injection e with e1
  exact⟨g,e1⟩
def z73 (w:World) (a:Option Addr) (ks:List Int):Prop:=
 0<ks.length→∃ b off,a=some ⟨b,off,none⟩∧b<w.heap.size∧∀ j z,ks[j]?=some z→w.cell? ⟨b,off+j,none⟩=some (.int .i64 z)
theorem z73.below {w w':World} {a:Option Addr} {ks:List Int} {B:Nat} (h:z73 w a ks) (hb:Below B w w') (hB:w.heap.size≤B):z73 w' a ks:=by
 intro hn
 obtain⟨b,off,ha,hlt,hc⟩:=h hn
 exact⟨b,off,ha,Nat.lt_of_lt_of_le hlt hb.size,fun j z hz=>by rw[hb.cell (Nat.lt_of_lt_of_le hlt hB)];exact hc j z hz⟩
def z02 (ks:List Int):List Value:=ks.map (Value.int .i64)
theorem z5l (ks:List Int):(z02 ks).length=ks.length:=by simp[z02]
theorem z73.of_own {w:World} {base e n c:Nat} {a:Option Addr} {ks:List Int} (h:w.ownsRow base e 1 (.slice a n c) n (z02 ks)):z73 w a ks:=by
 have hl:ks.length=n:=by have:=h.1;simp[z02] at this;omega
 intro hn
 obtain⟨g,rfl⟩:=z0s h (by omega)
 refine⟨g,0,rfl,(h.lt g rfl).2,fun j z hz=>?_⟩
 have hj:j<ks.length:=(List.getElem?_eq_some_iff.1 hz).1
 rw[Nat.zero_add,h.cellAt j (by omega)]
 simp[z02,hz]
def z7u (ks:List Int) (e0:Nat) (w:World) (e:Ending) (w':World):Prop:=
 Below w.heap.size w w'∧∃ a c,e=.returned (.slice a ks.length c)∧w'.ownsRow w.heap.size e0 1 (.slice a ks.length c) ks.length (z02 ks)
theorem za8 {ks:List Int} {e0:Nat} {w w':World} {v:Value} (hb:Below w.heap.size w w') (h:w'.ownsRow w.heap.size e0 1 v ks.length (z02 ks)):z7u ks e0 w (.returned v) w':=by
 obtain⟨a,c,rfl⟩:=z06 h
 exact⟨hb,a,c,rfl,h⟩
theorem z5s (w:World) (o:Obj):(w.alloc o).heap.size=w.heap.size+1:=by simp
theorem zbu (w:World) (o:Obj) (t s:Nat):((w.alloc o).alloc (.cells #[] t)).ownsRow (w.heap.size+1) t s (.slice (some ⟨w.heap.size+1,0,none⟩) 0 0) 0 []:=by
 have h:=World.ownsRow_made (e:=t) (size:=s) (base:=w.heap.size+1) (w.alloc o) #[] 0 (by simp) (Nat.zero_le _) (by simp)
 rw[z5s] at h
 exact h
def z0r {α:Type} (cells:α→List Value) (xs:List α):List Value:=xs.flatMap cells
theorem z2w {α:Type} {cells:α→List Value} {s:Nat} (hs:∀ x,(cells x).length=s):∀ (xs:List α),(z0r cells xs).length=xs.length*s
 | []=>by simp[z0r]
 | x::xs=>by
   rw[show z0r cells (x::xs)=cells x++z0r cells xs from rfl,List.length_append,z2w hs xs,hs,List.length_cons,Nat.succ_mul]
   omega
theorem z7q {α:Type} (cells:α→List Value) (xs ys:List α):z0r cells (xs++ys)=z0r cells xs++z0r cells ys:=by simp[z0r]
theorem z8d {α:Type} (cells:α→List Value) (x:α):z0r cells [x]=cells x:=by simp[z0r]
theorem z58 {α:Type} {cells:α→List Value} {s:Nat} (hs:∀ x,(cells x).length=s):∀ (xs:List α) (k:Nat) (x:α),xs[k]?=some x→∀ j,j<s→(z0r cells xs)[k*s+j]?=(cells x)[j]?
 | [],k,x,h,_,_=>by simp at h
 | y::xs,0,x,h,j,hj=>by
   have e:y=x:=by simpa using h
   subst e
   rw[show z0r cells (y::xs)=cells y++z0r cells xs from rfl,Nat.zero_mul,Nat.zero_add,List.getElem?_append_left (by rw[hs];omega)]
 | y::xs,k+1,x,h,j,hj=>by
   have ih:=z58 hs xs k x (by simpa using h) j hj
   rw[show z0r cells (y::xs)=cells y++z0r cells xs from rfl,Nat.succ_mul,List.getElem?_append_right (by rw[hs];omega),hs,show k*s+s+j-s=k*s+j by omega]
   exact ih
def zeh {α:Type} (s:Nat) (cells:α→List Value) (w:World) (a:Option Addr) (xs:List α):Prop:=
 0<xs.length→∃ b off,a=some ⟨b,off,none⟩∧b<w.heap.size∧∀ k x,xs[k]?=some x→∀ j,j<s→w.cell? ⟨b,off+k*s+j,none⟩=(cells x)[j]?
structure Nd where
 kind:Int
 text:ByteArray
 kids:List Int
 blank:Bool
structure Np where
 nd:Nd
 a:Option Addr
 c:Nat
def z0u (q:Np):List Value:=[.int .i64 q.nd.kind,.string q.nd.text,.slice q.a q.nd.kids.length q.c,.bool q.nd.blank]
theorem z8e (q:Np):(z0u q).length=4:=rfl
theorem z8f (q:Np):∀ u∈z0u q,u.oneCell'=true:=fun u hu=>by
 simp[z0u] at hu
 rcases hu with rfl|rfl|rfl|rfl<;>rfl
structure Nds (w:World) (B:Nat) (a:Option Addr) (c:Nat) (qs:List Np):Prop where
 row:w.ownsRow B 56 4 (.slice a qs.length c) qs.length (z0r z0u qs)
 each:∀ q∈qs,w.ownsRow B 3 1 (.slice q.a q.nd.kids.length q.c) q.nd.kids.length (z02 q.nd.kids)
theorem Nds.below {w w':World} {B:Nat} {a:Option Addr} {c:Nat} {qs:List Np} (h:Nds w B a c qs) (hb:Below w.heap.size w w'):Nds w' B a c qs:=⟨z07 h.row hb,fun q hq=>z07 (h.each q hq) hb⟩
theorem np4 {w:World} {b o:Nat} {q:Np} (h:∀ j,j<4→w.cell? ⟨b,o+j,none⟩=(z0u q)[j]?) :
 w.cell? ⟨b,o,none⟩=some (.int .i64 q.nd.kind)∧w.cell? ⟨b,o+1,none⟩=some (.string q.nd.text)∧w.cell? ⟨b,o+2,none⟩=some (.slice q.a q.nd.kids.length q.c)∧w.cell? ⟨b,o+3,none⟩=some (.bool q.nd.blank):=
 ⟨h 0 (by omega),h 1 (by omega),h 2 (by omega),h 3 (by omega)⟩
structure Sg where
 kind:Int
 text:ByteArray
 place:Int
 blank:Bool
def z4q (x:Sg):List Value:=[.int .i64 x.kind,.string x.text,.int .i64 x.place,.bool x.blank]
def z3j (xs:List Sg):List Value:=xs.flatMap z4q
theorem z5t (x:Sg):(z4q x).length=4:=rfl
theorem zfb (xs ys:List Sg):z3j (xs++ys)=z3j xs++z3j ys:=by simp[z3j]
theorem z62:∀ (xs:List Sg) (k:Nat) (x:Sg),xs[k]?=some x→∀ j,j<4→(z3j xs)[k*4+j]?=(z4q x)[j]?
 | [],k,x,h,_,_=>by simp at h
 | y::xs,0,x,h,j,hj=>by
   have e:y=x:=by simpa using h
   subst e
   rw[show z3j (y::xs)=z4q y++z3j xs from rfl,List.getElem?_append_left (by rw[z5t];omega)]
   congr 1
   omega
 | y::xs,k+1,x,h,j,hj=>by
   have ih:=z62 xs k x (by simpa using h) j hj
   rw[show z3j (y::xs)=z4q y++z3j xs from rfl,List.getElem?_append_right (by rw[z5t];omega),z5t,show (k+1)*4+j-4=k*4+j by omega]
   exact ih
def kw (s:ByteArray):Bool:=(s.toList==[99,108,97,115,115])||(s.toList==[118,97,114])||(s.toList==[105,102])||(s.toList==[101,108,115,101])||(s.toList==[119,104,105,108,101])||(s.toList==[114,101,116,117,114,110])
theorem z6i (s:ByteArray) (w:World):Calls Tryz.prog 114 #[.string s] w fun e w'=>e=.returned (.bool (kw s))∧w'=w:=by
 go_enter Tryz.func114,Tryz.ntmps114
 go_wp2
 all_goals go_ret
 all_goals exact⟨z0l (by simp_all [kw]),rfl⟩
end Go.Proofs.YtekebloinobjnaaGreatDoor
