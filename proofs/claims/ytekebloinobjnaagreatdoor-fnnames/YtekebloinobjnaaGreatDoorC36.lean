/- Texts of one proof, laid together: UmLib, UsI, DelI, WoI, ShelfM. -/
import Derived.Test.YtekebloinobjnaaGreatDoorC34
import Derived.Maps.OwnSet
import Derived.Lib.SlMapFilter
import Derived.Sort.KeysCollected
import Derived.Test.YtekebloinobjnaaGreatDoorC33
import Derived.Maps.OwnOps
import Derived.Maps.RangeWalk
import Derived.Deep.LoopGhost
import Derived.Laws.IdiomRangeMap
import Derived.Maps.Ext
import Derived.Shelf.Abstract
import Derived.Lib.AtoiErrMem
import Derived.Shelf.SlIter.Collect
import Derived.Shelf.SlGeneric
import Derived.Ground.GgzProg
import Derived.Test.YtekebloinobjnaaGreatDoorProg
set_option maxHeartbeats 16000000
set_option maxRecDepth 100000
namespace Go.Proofs.YtekebloinobjnaaGreatDoor
open Go.RowKit
open Go.RowKit Go.Maps
abbrev Dt:=DataW Unit
def z5b (a b:Int):Dt:=.agg [.lit (.int .i64 a),.lit (.int .i64 b)]
theorem zkz {a b a' b':Int} (h:z5b a b=z5b a' b'):a=a'∧b=b':=by
 unfold z5b at h
 injection h with h
 injection h with h1 h2
 injection h2 with h2 _
 injection h1 with h1
 injection h1 with _ h1
 injection h2 with h2
 injection h2 with _ h2
 exact⟨h1,h2⟩
def zfy:Value→Option (Dt×List MemPlace)
 | .agg cs=>match cs.toList with
   | [.int .i64 a,.int .i64 b]=>some (z5b a b,[])
   | _=>none
 | _=>none
theorem za1 (a b:Int):zfy (.agg #[.int .i64 a,.int .i64 b])=some (z5b a b,[]):=rfl
theorem zdy {v:Value} {z:Dt×List MemPlace} (h:zfy v=some z):∃ a b:Int,v=.agg #[.int .i64 a,.int .i64 b]∧z=(z5b a b,[]):=by
 unfold zfy at h
 split at h
 ·rename_i cs
  split at h
  ·rename_i a b hc
   cases h
   refine⟨a,b,?_,rfl⟩
   congr 1
   exact Array.toList_inj.1 hc
  ·cases h
 ·cases h
def z2g (l:List ByteArray) (s:ByteArray):Nat:=(l.filter fun x=>decide (x=s)).length
theorem z5o {l:List ByteArray} {s:ByteArray} (h:¬ s∈l):z2g l s=0:=by
 unfold z2g
 rw[List.length_eq_zero_iff,List.filter_eq_nil_iff]
 intro x hx e
 exact h (by rwa [← of_decide_eq_true e])
theorem zh0 (l:List ByteArray) (t s:ByteArray):z2g (l++[t]) s=z2g l s+if t=s then 1 else 0:=by
 unfold z2g
 rw[List.filter_append,List.length_append]
 by_cases h:t=s<;>simp[h]
def kS (s:ByteArray):Lit:=.string s.data.toList
theorem zb2 {s t:ByteArray} (h:kS s=kS t):s=t:=by
 unfold kS at h
 injection h with h
 exact ByteArray.ext (Array.toList_inj.1 h)
def UM (D:Dt) (K:ByteArray→Prop) (f:ByteArray→Nat):Prop:=
 IsMap D∧(∀ k,has D k=true↔∃ s,K s∧k=kS s)∧∀ s,K s→∃ a:Int,∀ zd,D.atKey (kS s) zd=z5b a (f s)
theorem znm:UM (.map []) (·∈([]:List ByteArray)) (z2g []):=
 ⟨isMap_empty,fun k=>⟨fun h=>by simp[has] at h,fun ⟨s,h,_⟩=>by cases h⟩,fun s h=>by cases h⟩
theorem zor {D:Dt} {K:ByteArray→Prop} {f:ByteArray→Nat} (h:UM D K f) (h0:∀ s,¬ K s→f s=0) (s:ByteArray):∃ a:Int,D.atKey (kS s) (z5b 0 0)=z5b a (f s):=by
 by_cases hk:K s
 ·obtain⟨a,ha⟩:=h.2.2 s hk
  exact⟨a,ha _⟩
 ·refine⟨0,?_⟩
  rw[h0 s hk]
  refine atKey_of_not_has ?_ _
  cases hh:has D (kS s) with
  | false=>rfl
  | true =>
    obtain⟨t,ht,e⟩:=(h.2.1 _).1 hh
    rw[zb2 e] at hk
    exact absurd ht hk
theorem zso {D:Dt} {l:List ByteArray} (h:UM D (·∈l) (z2g l)) (t:ByteArray) (a:Int):UM (D.put (kS t) (z5b a ((z2g l t:Nat)+1))) (·∈l++[t]) (z2g (l++[t])):=by
 obtain⟨h1,h2,h3⟩:=h
 have hk:WideAt.IsKeyLit (kS t):=trivial
 refine⟨h1.put _ _,fun k=>?_,fun s hs=>?_⟩
 ·by_cases e:k=kS t
  ·subst e
   rw[has_put_same h1 hk]
   exact⟨fun _=>⟨t,by simp,rfl⟩,fun _=>rfl⟩
  ·rw[has_put_other e,h2 k]
   constructor
   ·rintro⟨s,hs,rfl⟩
    exact⟨s,List.mem_append_left _ hs,rfl⟩
   ·rintro⟨s,hs,rfl⟩
    rcases List.mem_append.1 hs with hs|hs
    ·exact⟨s,hs,rfl⟩
    ·obtain rfl:=List.mem_singleton.1 hs
     exact absurd rfl e
 ·rw[zh0]
  by_cases e:s=t
  ·subst e
   refine⟨a,fun zd=>?_⟩
   rw[atKey_put_same h1 hk,if_pos rfl]
   rfl
  ·have hm:s∈l:=by
    rcases List.mem_append.1 hs with hs|hs
    ·exact hs
    ·exact absurd (List.mem_singleton.1 hs) e
   obtain⟨b,hb⟩:=h3 s hm
   refine⟨b,fun zd=>?_⟩
   rw[atKey_put_other (fun x=>e (zb2 x)),hb zd,if_neg (Ne.symm e)]
   rfl
theorem znh {D:Dt} {K K':ByteArray→Prop} {f:ByteArray→Nat} (h:UM D K f) (hk:∀ s,K s↔K' s):UM D K' f:=
 ⟨h.1,fun k=>(h.2.1 k).trans ⟨fun ⟨s,h1,h2⟩=>⟨s,(hk s).1 h1,h2⟩,fun ⟨s,h1,h2⟩=>⟨s,(hk s).2 h1,h2⟩⟩,fun s hs=>h.2.2 s ((hk s).2 hs)⟩
theorem zmq {w:World} {P:Program} {k:TypeId} {R:Value→Option (Dt×List MemPlace)} {b n:Nat} {D:Dt} (hown:w.ownsMap P k R b n D) (KK:Keyed P k) {K:ByteArray→Prop} {f:ByteArray→Nat} (h:UM D K f) {pd:Lit→Dt→Bool} {p:ByteArray→Bool} (hp:∀ s a,K s→pd (kS s) (z5b a (f s))=p s) :
 UM (Lib.deleteFuncD pd D) (fun s=>K s∧p s=false) f:=by
 obtain⟨es,rfl,hap,hkl⟩:=hown.entries KK
 obtain⟨_,h2,h3⟩:=h
 have hin:∀ e∈es,∃ s a,K s∧e=(kS s,z5b a (f s)):=fun e he=>by
  obtain⟨s,hs,e1⟩:=(h2 e.1).1 (List.any_eq_true.2 ⟨e,he,WideAt.sameKey_self (hkl e he)⟩)
  obtain⟨a,ha⟩:=h3 s hs
  have:=WideAt.atKey_mem (k:=e.1) (d:=e.2) .nil (hkl e he) hap he
  rw[e1,ha] at this
  exact⟨s,a,hs,Prod.ext e1 this.symm⟩
 have hmem:∀ s,K s→p s=false→∃ a,(kS s,z5b a (f s))∈es.filter fun e=>!pd e.1 e.2:=fun s hs hf=>by
  obtain⟨e,he,hk⟩:=List.any_eq_true.1 ((h2 (kS s)).2 ⟨s,hs,rfl⟩)
  obtain⟨s',a,hs',rfl⟩:=hin e he
  obtain rfl:=zb2 (WideAt.sameKey_eq hk)
  exact⟨a,List.mem_filter.2 ⟨he,by rw[hp _ _ hs,hf];rfl⟩⟩
 refine⟨⟨_,rfl⟩,fun k=>⟨fun hh=>?_,?_⟩,fun s hs=>?_⟩
 ·obtain⟨e,he,hk⟩:=List.any_eq_true.1 hh
  obtain⟨he1,he2⟩:=List.mem_filter.1 he
  obtain⟨s,a,hs,rfl⟩:=hin e he1
  rw[hp _ _ hs] at he2
  exact⟨s,⟨hs,by simpa using he2⟩,(WideAt.sameKey_eq hk).symm⟩
 ·rintro⟨s,⟨hs,hf⟩,rfl⟩
  obtain⟨a,ha⟩:=hmem s hs hf
  exact List.any_eq_true.2 ⟨_,ha,WideAt.sameKey_self (show WideAt.IsKeyLit (kS s) from trivial)⟩
 ·obtain⟨a,ha⟩:=hmem s hs.1 hs.2
  exact⟨a,fun zd=>WideAt.atKey_mem zd (show WideAt.IsKeyLit (kS s) from trivial) (hap.filter _) ha⟩
theorem znq {w:World} {P:Program} {k:TypeId} {R:Value→Option (Dt×List MemPlace)} {b n:Nat} {D:Dt} (hown:w.ownsMap P k R b n D) (KK:Keyed P k) {K:ByteArray→Prop} {f:ByteArray→Nat} (h:UM D K f) {ss:List (List UInt8)} (hs:ss.Perm (strKeys D)) :
 ss.Nodup∧∀ s:ByteArray,s.data.toList∈ss↔K s:=by
 obtain⟨es,rfl,hap,hkl⟩:=hown.entries KK
 obtain⟨_,h2,h3⟩:=h
 have hin:∀ e∈es,∃ s,K s∧e.1=kS s:=fun e he=>(h2 e.1).1 (List.any_eq_true.2 ⟨e,he,WideAt.sameKey_self (hkl e he)⟩)
 constructor
 ·rw[hs.nodup_iff]
  show (es.map fun p=>strOf p.1).Nodup
  refine List.pairwise_map.2 (hap.imp_of_mem fun {p q} hp hq hne e=>hne ?_)
  obtain⟨a,_,ha⟩:=hin p hp
  obtain⟨b,_,hb⟩:=hin q hq
  rw[ha,hb] at e ⊢
  exact congrArg Lit.string e
 ·intro s
  rw[hs.mem_iff]
  show s.data.toList∈es.map (fun p=>strOf p.1)↔_
  rw[List.mem_map]
  constructor
  ·rintro⟨e,he,h1⟩
   obtain⟨t,ht,h4⟩:=hin e he
   rw[h4] at h1
   have:t=s:=zb2 (congrArg Lit.string h1)
   rwa [← this]
  ·intro hk
   obtain⟨e,he,h1⟩:=List.any_eq_true.1 ((h2 (kS s)).2 ⟨s,hk,rfl⟩)
   exact⟨e,he,by rw[WideAt.sameKey_eq h1];rfl⟩
open Go.RowKit Go.Lib Go.Maps
theorem zo4 (w:World):(zeroValue 71).run Tryz.prog w=.ok (.agg #[.int .i64 0,.int .i64 0]) w:=by kernel_rfl
def z2d (w:World) (b n:Nat) (D:Dt):Prop:=w.ownsMap Tryz.prog 9 zfy b n D
theorem z2d.below {w w':World} {b n:Nat} {D:Dt} (h:z2d w b n D) (hb:Below w.heap.size w w'):z2d w' b n D:=by
 have hl:=World.ownsMap.lt h
 obtain⟨es,clock,h1,F,hs,hD⟩:=h
 exact⟨es,clock,(hb.block _ hl).trans h1,F,hs,hD⟩
theorem z56 {D:Dt} {K:ByteArray→Prop} {f:ByteArray→Nat} (hu:UM D K f) (h0:∀ s,¬ K s→f s=0) {s:ByteArray} (hs:s.size≤maxLen) :
 ∃ a:Int,D.atKey (kS s) (z5b 0 0)=z5b a (f s)∧∀ (W:World) (b n:Nat),z2d W b n D→(Instr.lookup 61 (.map (some b)) (.string s) false).run Tryz.prog W=.ok (.agg #[.int .i64 a,.int .i64 (f s:Int)]) W:=by
 obtain⟨a,ha⟩:=zor hu h0 s
 refine⟨a,ha,fun W b n hW=>?_⟩
 obtain⟨v,ps,hrun,hv⟩:=World.ownsMap.lookup hW (string_keyed Tryz.underlying9) Tryz.underlying61 (zo4 W) (za1 0 0) (WideMaps.keyOf_string_mk Tryz.underlying9 hs)
 obtain⟨x,y,rfl,e⟩:=zdy hv
 have e1:=congrArg Prod.fst e
 simp only at e1
 rw[show Lit.string s.data.toList=kS s from rfl,ha] at e1
 obtain⟨rfl,rfl⟩:=zkz e1
 exact hrun
def zdh (K:ByteArray→Prop) (f:ByteArray→Nat) (w:World) (e:Ending) (w':World):Prop:=
 ∃ (b n:Nat) (D:Dt),e=.returned (.map (some b))∧w.heap.size≤b∧n≤1000∧z2d w' b n D∧UM D K f∧Below w.heap.size w w'
theorem zll {w:World} {B:Nat} {a:Option Addr} {c:Nat} {qs:List Np} (h:Nds w B a c qs) (hS:∀ q∈qs,SafeNd q.nd) {B' uc:Nat} {ua:Option Addr} {us:List Nat} (hu:w.ownsRow B' tI 1 (.slice ua us.length uc) us.length (z02 (z1d us))) (hlt:∀ u∈us,u<qs.length) (hU:us.length≤1000) :
 Calls Tryz.prog 56 #[.slice a qs.length c,.slice ua us.length uc] w (zdh (·∈us.map (z0y (qs.map Np.nd))) (z2g (us.map (z0y (qs.map Np.nd)))) w):=by
 have hmm:=@run_makeMap Tryz.prog
 have hm0:z2d (w.alloc (.map #[] 0)) w.heap.size 0 (.map []):=World.ownsMap_made w Tryz.prog 9 zfy
 have hB0:Below w.heap.size w (w.alloc (.map #[] 0)):=(Below.refl _ w).alloc (Nat.le_refl _) _
 have HH:=z00 h
 have HS:=z00 hS
 have HU:=z00 hu
 have HL:=z00 hlt
 clear h hS hu hlt
 go_enter Tryz.func56,Tryz.ntmps56
 go_wp2
 go_loopw [13] (fun i wr=>∃ (j:Nat) (D:Dt),j≤us.length∧i=.int .i64 (j:Int)∧z2d wr w.heap.size j D∧Hid (UM D (·∈(us.take j).map (z0y (qs.map Np.nd))) (z2g ((us.take j).map (z0y (qs.map Np.nd)))))∧Hid (Below w.heap.size w wr)) (fun i _=>us.length-(intOf i).toNat)
 case atStart=>exact⟨0,_,Nat.zero_le _,rfl,hm0,z00 znm,z00 hB0⟩
 case round =>
  clear hm0 hB0
  obtain⟨j,D,hj,rfl,hM,HD,HW⟩:=hrel
  by_cases hlt:j<us.length
  ·obtain⟨u,hu⟩:∃ u,us[j]?=some u:=⟨_,List.getElem?_eq_getElem hlt⟩
   have hun:=HL.out u (List.mem_of_getElem? hu)
   have hUr:=z07 HU.out HW.out
   obtain⟨ub,rfl⟩:=z0s hUr (by omega)
   have cu:=(hUr.cellAt j (by omega)).trans (z5r hu)
   obtain⟨q,hq⟩:∃ q,qs[u]?=some q:=⟨_,List.getElem?_eq_getElem hun⟩
   obtain⟨a0,rfl,hb0,d0,d1,d2,d3⟩:=(HH.out.below HW.out).node hq
   have hx:z0y (qs.map Np.nd) u=q.nd.text:=z1e (by rw[List.getElem?_map,hq];rfl)
   have hsz:q.nd.text.size≤maxLen:=by have:=(HS.out q (List.mem_of_getElem? hq)).few;unfold maxLen;omega
   obtain⟨x,hat,hL⟩:=z56 HD.out (fun s hs=>z5o hs) hsz
   obtain⟨t,ht⟩:∃ t,t=q.nd.text:=⟨_,rfl⟩
   rw[← ht] at d1 hsz hL hx
   obtain⟨l,hl⟩:∃ l,l=(us.take j).map (z0y (qs.map Np.nd)):=⟨_,rfl⟩
   have hl1:(us.take (j+1)).map (z0y (qs.map Np.nd))=l++[t]:=by rw[List.take_add_one,hu,hl];simp[hx]
   rw[← hl] at hL
   have HDl:=z00 (show UM D (·∈l) (z2g l) by rw[hl];exact HD.out)
   have hc:z2g l t≤j:=by
    unfold z2g
    refine Nat.le_trans (List.length_filter_le _ _) ?_
    rw[hl,List.length_map,List.length_take]
    omega
   have hL1:=hL wr _ _ hM
   have hM2:z2d (wr.alloc (.cells #[.int .i64 0,.int .i64 0] 71)) w.heap.size j D:=World.ownsMap.alloc hM _
   have hL2:=hL _ _ _ hM2
   have hA:(0:Int)≤(j:Int):=by omega
   have hB1:(j:Int)<(us.length:Int):=by omega
   have hA2:(0:Int)≤(u:Int):=by omega
   have hB2:(u:Int)<(qs.length:Int):=by omega
   have HL1:=z00 hl1
   have hbl:=HW.out.size
   clear hu hq hx hat hl hl1 d0 d2 d3 hL ht
   have hP:∀ (y:Int) (W w1:World),z2d w1 w.heap.size (j+1) (D.put (kS t) (z5b y ((z2g l t:Nat)+1)))→Below w.heap.size w w1→∃ (j':Nat) (D':Dt),j'≤us.length∧Value.int .i64 ((j+1:Nat):Int)=.int .i64 (j':Int)∧z2d w1 w.heap.size j' D'∧Hid (UM D' (·∈(us.take j').map (z0y (qs.map Np.nd))) (z2g ((us.take j').map (z0y (qs.map Np.nd)))))∧Hid (Below w.heap.size w w1):=fun y W w1 h1 h2 =>
    ⟨j+1,_,hlt,rfl,h1,z00 (by rw[HL1.out];exact zso HDl.out t y),z00 h2⟩
   by_cases h0:(((z2g l t:Nat):Int)==0)=true
   ·go_wp2_with (at_mapUpdate;refine wpList_mapUpdate_own _ rfl _ _ _ 61 rfl 9 71 (string_keyed Tryz.underlying9) Tryz.underlying61 zfy w.heap.size j D rfl (World.ownsMap.alloc hM _) (by unfold maxLen;omega) _ _ (kS t) rfl rfl (WideMaps.keyOf_string_mk Tryz.underlying9 hsz) _ [] (za1 _ _) ?_;intro w1 hown1 hgrow1)
    go_wp2
    go_roundw
    case rel =>
     have:=hP _ wr w1 hown1 ((HW.out.alloc hbl _).grown hgrow1 (by simp;omega) (fun k e=>by injection e with e;omega))
     simpa using this
    case measure=>simp[intOf];omega
   ·have h0:(((z2g l t:Nat):Int)==0)=false:=by simpa using h0
    go_wp2_with (at_mapUpdate;refine wpList_mapUpdate_own _ rfl _ _ _ 61 rfl 9 71 (string_keyed Tryz.underlying9) Tryz.underlying61 zfy w.heap.size j D rfl (World.ownsMap.alloc hM _) (by unfold maxLen;omega) _ _ (kS t) rfl rfl (WideMaps.keyOf_string_mk Tryz.underlying9 hsz) _ [] (za1 _ _) ?_;intro w1 hown1 hgrow1)
    go_wp2
    go_roundw
    case rel =>
     have:=hP _ wr w1 hown1 ((HW.out.alloc hbl _).grown hgrow1 (by simp;omega) (fun k e=>by injection e with e;omega))
     simpa using this
    case measure=>simp[intOf];omega
  ·obtain rfl:j=us.length:=by omega
   go_wp2
   go_ret
   refine⟨_,_,D,rfl,Nat.le_refl _,hU,hM,?_,HW.out⟩
   have:=HD.out
   rwa [List.take_length] at this
open Go.RowKit Go.Lib Go.Maps
abbrev zuw (c:Int×Int):Value:=.agg #[.int .i64 c.1,.int .i64 c.2]
theorem zra (key:Value) (kl:Lit) (h:keyOf Tryz.prog 9 key=some kl):∃ s:ByteArray,key=.string s:=by
 obtain⟨x,e,_⟩:=Maps.keyOf_str Tryz.underlying9 h
 exact⟨_,e⟩
theorem zqs (v:Value) (y:Dt×List MemPlace) (h:zfy v=some y):∃ c,v=zuw c:=by
 obtain⟨a,b,e,_⟩:=zdy h
 exact⟨(a,b),e⟩
theorem zi8 {w:World} {b n:Nat} {D:Dt} (pd:Lit→Dt→Bool) (g:Nat) (cb:Array Value) (eg:∀ args w,(callFunc g args).run Tryz.prog w=.ok (.enter g args) w) (hown:z2d w b n D)
 (hdel:∀ (W:World) (s:ByteArray) (x y:Int),w.grownBy W (some b)→s.size≤maxLen→Calls Tryz.prog g (#[.string s,.agg #[.int .i64 x,.int .i64 y]]++cb) W fun e w'=>e=.returned (.bool (pd (kS s) (z5b x y)))∧W.grownBy w' none) :
 Calls Tryz.prog 58 #[.map (some b),.func (.func g) #[] cb] w fun e w'=>e=.returned (.tuple #[])∧z2d w' b n (Lib.deleteFuncD pd D)∧w.grownBy w' (some b):=by
 have KK:Keyed Tryz.prog 9:=string_keyed Tryz.underlying9
 obtain⟨es0,rfl,hap,hkeys⟩:=World.ownsMap.entries hown KK
 have HD:=z00 hdel
 clear hdel
 go_enter Tryz.func58,Tryz.ntmps58
 go_wp2_with (first
  | (at_range;refine wpList_range_own _ rfl _ 61 rfl 9 71 KK Tryz.underlying61 zfy b n _ rfl hown ?_;intro w0 hrg0 hg0 hs0)
  | go_in)
 go_frame
 go_loopw [8] (fun _ wr=>∃ (left:Lit→Bool) (cnt:Nat),wr.ranges Tryz.prog 9 zfy b w.heap.size n (Fk pd es0 left) left cnt∧w.grownBy wr (some b))
  (fun _ wr=>wr.rangeLeft b w.heap.size)
 case atStart=>exact⟨_,_,by rw[Fk_start hkeys];exact hrg0,hg0.but _⟩
 case round =>
  obtain⟨left,cnt,hrg,hgw⟩:=hrel
  go_wp2_with (first
   | (at_next;refine wpList_next_ranges _ rfl _ rfl 9 KK zfy Value.string zuw zra zqs b w.heap.size n _ _ _ rfl hrg ?_ ?_)
   | go_in)
  ·intro _ hl0
   go_wp2
   go_end0
   exact⟨rfl,by rw[← Fk_end hl0];exact hrg.owns,hgw⟩
  ·intro s x y kl yd yp w1 cnt1 hkey hlx hv hat hrg1 hlt hg1 hs1 hen
   obtain⟨s',es,rfl,hsz⟩:=Maps.keyOf_str Tryz.underlying9 hkey
   have es2:s=⟨s'.toArray⟩:=by injection es
   subst es2
   rw[za1] at hv
   obtain⟨rfl,rfl⟩:=Prod.mk.inj (Option.some.inj hv)
   have hkS:Lit.string s'=kS ⟨s'.toArray⟩:=by simp[kS]
   rw[hkS] at hkey hlx hat hrg1
   obtain⟨t,ht⟩:∃ t:ByteArray,t=⟨s'.toArray⟩:=⟨_,rfl⟩
   have hts:t.size≤maxLen:=by rw[ht];exact hsz
   rw[← ht] at hkey hlx hat hrg1 hen
   have hgw1:=hgw.andThen hg1 (fun j hj=>by cases hj;exact Or.inl (Nat.le_refl _))
   have HC:=z00 (fun W (hW:w.grownBy W (some b))=>HD.out W t x y hW hts)
   have hrl:=hrg1.lt
   have hbl:=hrg1.owns.lt
   rw[← ht]
   obtain⟨o,ho⟩:∃ o:Obj,o=.cells #[.int .i64 x,.int .i64 y] 71:=⟨_,rfl⟩
   have hg2:=World.grownBy_alloc w1 o none
   have hrg2:=hrg1.kept hg2 (by simp) (by simp)
   have hgw2:=hgw1.andThen hg2 (fun j hj=>by cases hj)
   have hc:=HC.out _ hgw2
   subst ho
   clear ht es hv hkS HC hg2
   cases hp:pd (kS t) (z5b x y)<;>rw[hp] at hc
   ·go_wp2_with (first
     | (go_at_fn g;refine hc.mono ?_;rintro e w2 ⟨rfl,hg3⟩)
     | go_in)
    have hrg3:=hrg2.kept hg3 (by simp) (by simp)
    go_roundw
    case rel=>exact⟨_,cnt1,by rw[← Fk_stays hap (show WideAt.IsKeyLit (kS t) from trivial) hlx hp hat];exact hrg3,hgw2.andThen hg3 (fun j hj=>by cases hj)⟩
    case measure=>rw[hrg3.left_eq,hrg.left_eq];exact hlt
   ·go_wp2_with (first
     | (go_at_fn g;refine hc.mono ?_;rintro e w2 ⟨rfl,hg3⟩;have hrg3:=hrg2.kept hg3 (by simp) (by simp))
     | (at_delete;refine wpList_delete_ranges _ rfl _ _ 61 9 rfl 71 KK Tryz.underlying61 zfy b w.heap.size n _ _ _ rfl hrg3 _ _ rfl hkey ?_;intro w3 cnt3 hrg4 hle hturn;go_frame)
     | go_in)
    rw[strike_twice] at hrg4
    go_roundw
    case rel=>exact⟨_,cnt3,by rw[← Fk_struck hap (show WideAt.IsKeyLit (kS t) from trivial) hlx hp hat];exact hrg4,(hgw2.andThen hg3 (fun j hj=>by cases hj)).andThen hturn.grown (fun j hj=>by cases hj;exact Or.inr rfl)⟩
    case measure=>rw[hrg4.left_eq,hrg.left_eq];omega
open Go.RowKit Go.Lib Go.Maps
theorem z80 (W:World) (a b:Int):(Instr.field 71 (.agg #[.int .i64 a,.int .i64 b]) 1).run Tryz.prog W=.ok (.int .i64 b) W:=by kernel_rfl
theorem zbv (W:World) (a b:Int):(Instr.field 71 (.agg #[.int .i64 a,.int .i64 b]) 0).run Tryz.prog W=.ok (.int .i64 a) W:=by kernel_rfl
def zr6:Dt→Int
 | .agg [_,.lit (.int _ c)]=>c
 | _=>0
def zqm (D:Dt) (k:Lit) (_:Dt):Bool:=decide (0<zr6 (D.atKey k (z5b 0 0)))
def zfe (D:Dt) (k:Lit) (d:Dt):Bool:=zr6 d==zr6 (D.atKey k (z5b 0 0))
theorem zqw {W:World} {b n ob:Nat} {D:Dt} {K:ByteArray→Prop} {f:ByteArray→Nat} (hM:z2d W b n D) (hu:UM D K f) (h0:∀ s,¬ K s→f s=0) (hc:W.cell? ⟨ob,0,none⟩=some (.map (some b))) {s:ByteArray} (hs:s.size≤maxLen) (x y:Int) :
 Calls Tryz.prog 97 #[.string s,.agg #[.int .i64 x,.int .i64 y],.pointer (some ⟨ob,0,none⟩)] W fun e w'=>e=.returned (.bool (zqm D (kS s) (z5b x y)))∧W.grownBy w' none:=by
 obtain⟨a,hat,hL⟩:=z56 hu h0 hs
 have hg:=World.grownBy_alloc W (.cells #[.int .i64 x,.int .i64 y] 71) none
 have hc1:=hg.cell hc (by simp)
 have hf:=fun W=>z80 W a (f s)
 have hL1:=hL _ b n (World.ownsMap.kept hM hg (by simp))
 have hv:zqm D (kS s) (z5b x y)=decide (0<f s):=by unfold zqm;rw[hat];simp[zr6,z5b]
 rw[hv]
 clear hM hu h0 hat hL hv hc
 go_enter Tryz.func97,Tryz.ntmps97
 go_wp2
 go_ret
 exact⟨rfl,hg⟩
theorem zq6 {W:World} {b n ob:Nat} {D:Dt} {K:ByteArray→Prop} {f:ByteArray→Nat} (hM:z2d W b n D) (hu:UM D K f) (h0:∀ s,¬ K s→f s=0) (hc:W.cell? ⟨ob,0,none⟩=some (.map (some b))) {s:ByteArray} (hs:s.size≤maxLen) (x y:Int) :
 Calls Tryz.prog 59 #[.string s,.agg #[.int .i64 x,.int .i64 y],.pointer (some ⟨ob,0,none⟩)] W fun e w'=>e=.returned (.bool (zfe D (kS s) (z5b x y)))∧W.grownBy w' none:=by
 obtain⟨a,hat,hL⟩:=z56 hu h0 hs
 have hg:=World.grownBy_alloc W (.cells #[.int .i64 x,.int .i64 y] 71) none
 have hc1:=hg.cell hc (by simp)
 have hf:=fun W=>z80 W a (f s)
 have hL1:=hL _ b n (World.ownsMap.kept hM hg (by simp))
 have hv:zfe D (kS s) (z5b x y)=(y==(f s:Int)):=by unfold zfe;rw[hat];rfl
 rw[hv]
 clear hM hu h0 hat hL hv hc
 go_enter Tryz.func59,Tryz.ntmps59
 go_wp2
 go_ret
 exact⟨rfl,hg⟩
theorem ze4 {w:World} {b n b2 n2:Nat} {D D2:Dt} {K K2:ByteArray→Prop} {f f2:ByteArray→Nat} (hM:z2d w b n D) (hu:UM D K f) (hM2:z2d w b2 n2 D2) (hu2:UM D2 K2 f2) (h02:∀ s,¬ K2 s→f2 s=0) (hne:b2≠b) :
 Calls Tryz.prog 55 #[.map (some b),.map (some b2)] w fun e w'=>∃ D',e=.returned (.map (some b))∧z2d w' b n D'∧UM D' (fun s=>K s∧¬ 0<f2 s) f∧w.grownBy w' (some b):=by
 obtain⟨W1,hW1⟩:∃ W1,W1=w.alloc (.cells #[.map (some b2)] 61):=⟨_,rfl⟩
 have hg:w.grownBy W1 none:=by rw[hW1];exact World.grownBy_alloc w _ none
 have hc:W1.cell? ⟨w.heap.size,0,none⟩=some (.map (some b2)):=by rw[hW1];exact cell_one_new w _ _ 0 _ rfl
 have hs1:W1.heap.size=w.heap.size+1:=by rw[hW1];simp
 have hM1:=World.ownsMap.kept hM hg (by simp)
 have hM21:=World.ownsMap.kept hM2 hg (by simp)
 have hlb:=World.ownsMap.lt hM
 have eg:∀ (args:Array Value) (w:World),(callFunc 97 args).run Tryz.prog w=.ok (.enter 97 args) w:=enters_of Tryz.func97 (by kernel_rfl) rfl
 have q:=zi8 (zqm D2) 97 #[.pointer (some ⟨w.heap.size,0,none⟩)] eg hM1 (fun W s x y hW hs=>zqw (World.ownsMap.kept hM21 hW (by intro e;injection e with e;exact hne e)) hu2 h02 (hW.cell hc (by intro e;injection e with e;simp only at e;omega)) hs x y)
 have hU:=zmq hM1 (string_keyed Tryz.underlying9) hu (pd:=zqm D2) (p:=fun s=>decide (0<f2 s)) (fun s a _=>by
  obtain⟨x,hx⟩:=zor hu2 h02 s
  unfold zqm
  rw[hx]
  simp[zr6,z5b])
 have HU:=z00 (znh hU (K':=fun s=>K s∧¬ 0<f2 s) (fun s=>by simp))
 clear hM hu hM2 hu2 h02 hM1 hM21 hU hc eg
 go_enter Tryz.func55,Tryz.ntmps55
 go_wp2_with fail
 rw[← hW1]
 refine q.mono ?_
 rintro e w2 ⟨rfl,hm,hg2⟩
 have hg3:=(hg.but (some b)).andThen hg2 (fun j hj=>by cases hj;exact Or.inr rfl)
 clear q hW1
 go_wp2
 go_ret
 exact⟨_,rfl,hm,HU.out,hg3⟩
end Go.Proofs.YtekebloinobjnaaGreatDoor
namespace Go.Proofs
open Go.Shelf
def Tryz.keysM_ren:Go.Shelf.Ren:=⟨fun|7=>95|10=>131|n=>n,fun|23=>61|26=>9|3=>71|28=>111|0=>0|27=>110|33=>90|4=>4|n=>n,fun|n=>n⟩
theorem Tryz.keysM:Go.Proofs.SlLaysZ.n7 Tryz.prog Tryz.keysM_ren:={
 mixed:=by kernel_rfl
 f7:=⟨Tryz.f95.name,by decide,Tryz.func95.trans (congrArg some (by kernel_rfl))⟩
 f10:=⟨Tryz.f131.name,by decide,Tryz.func131.trans (congrArg some (by kernel_rfl))⟩
 t0:=Tryz.underlying0
 a0:=Tryz.isAgg0
 z0:=Tryz.sizeOf0
 v0:=Tryz.zeroValue0
 t4:=Tryz.underlying4
 a4:=Tryz.isAgg4
 z4:=Tryz.sizeOf4
 v4:=Tryz.zeroValue4
 t23:=Tryz.underlying61
 a23:=Tryz.isAgg61
 z23:=Tryz.sizeOf61
 v23:=Tryz.zeroValue61
 t26:=Tryz.underlying9
 a26:=Tryz.isAgg9
 z26:=Tryz.sizeOf9
 v26:=Tryz.zeroValue9
 t27:=Tryz.underlying110
 a27:=Tryz.isAgg110
 z27:=Tryz.sizeOf110
 v27:=Tryz.zeroValue110
 t28:=Tryz.underlying111
 a28:=Tryz.isAgg111
 z28:=Tryz.sizeOf111
 v28:=Tryz.zeroValue111
 t33:=Tryz.underlying90
 a33:=Tryz.isAgg90
 z33:=Tryz.sizeOf90
 v33:=Tryz.zeroValue90 }
def Tryz.collectM_ren:Go.Shelf.Ren:=⟨fun|8=>129|11=>165|n=>n,fun|26=>9|28=>111|24=>27|0=>0|33=>90|4=>4|n=>n,fun|n=>n⟩
theorem Tryz.collectM:Go.Proofs.SlLaysZ.n8 Tryz.prog Tryz.collectM_ren:={
 mixed:=by kernel_rfl
 f8:=⟨Tryz.f129.name,by decide,Tryz.func129.trans (congrArg some (by kernel_rfl))⟩
 f11:=⟨Tryz.f165.name,by decide,Tryz.func165.trans (congrArg some (by kernel_rfl))⟩
 t0:=Tryz.underlying0
 a0:=Tryz.isAgg0
 z0:=Tryz.sizeOf0
 v0:=Tryz.zeroValue0
 t24:=Tryz.underlying27
 a24:=Tryz.isAgg27
 z24:=Tryz.sizeOf27
 v24:=Tryz.zeroValue27
 t26:=Tryz.underlying9
 a26:=Tryz.isAgg9
 z26:=Tryz.sizeOf9
 v26:=Tryz.zeroValue9
 t28:=Tryz.underlying111
 a28:=Tryz.isAgg111
 z28:=Tryz.sizeOf111
 v28:=Tryz.zeroValue111
 i26:=by kernel_rfl }
end Go.Proofs
namespace Go.Proofs.YtekebloinobjnaaGreatDoor
open Go.RowKit
end Go.Proofs.YtekebloinobjnaaGreatDoor
