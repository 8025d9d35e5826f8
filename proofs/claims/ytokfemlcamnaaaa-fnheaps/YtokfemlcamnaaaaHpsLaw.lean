/- The law on heaps. -/
import Derived.Test.YtokfemlcamnaaaaHpsLib
import Derived.Test.YtokfemlcamnaaaaDrawP
import Derived.Test.YtokfemlcamnaaaaRegG
import Derived.BigRegion
namespace Go.Proofs.Ytokfemlcamnaaaa
open Go.RowKit

theorem CodeAt.wide {base base' : Nat} {w : World} {a : Option Addr} {len : Nat} (h : CodeAt base w a len) (hb : base ≤ base') : CodeAt base' w a len := ⟨h.1, fun hl => by
  obtain ⟨b, off, ha, hbb, hc⟩ := h.2 hl
  exact ⟨b, off, ha, Nat.lt_of_lt_of_le hbb hb, hc⟩⟩
/-- What the law has so far. -/
structure FH (w W : World) (aL : Option Addr) (L : List St) (aX : Option Addr) (X : List St) (sb : Nat) (s : Sp) (aU : Option Addr) (U : List St) (aT : Option Addr) (T : List St) (fb : Nat) (f : Sp) : Prop where
  bel : Below w.heap.size w W
  L : StR W aL L
  X : StR W aX X
  S : Vx W sb s
  U : StR W aU U
  T : StR W aT T
  F : Vx W fb f
theorem FH.below {w W W' : World} {aL : Option Addr} {L : List St} {aX : Option Addr} {X : List St} {sb : Nat} {s : Sp} {aU : Option Addr} {U : List St} {aT : Option Addr} {T : List St} {fb : Nat} {f : Sp} (h : FH w W aL L aX X sb s aU U aT T fb f) (hb : Below W.heap.size W W') : FH w W' aL L aX X sb s aU U aT T fb f :=
  ⟨h.bel.trans (hb.mono h.bel.size), h.L.below hb, h.X.below hb, h.S.below hb, h.U.below hb, h.T.below hb, h.F.below hb⟩
/-- One of a list, in memory. -/
theorem StR.at {w : World} {a : Option Addr} {R : List St} {k : Nat} (h : StR w a R) (hk : k < R.length) : ∃ (b o : Nat) (p : Sp), a = some ⟨b, o, none⟩ ∧ b < w.heap.size ∧ R[k]? = some p.st ∧ w.cell? ⟨b, o + k * 2, none⟩ = some (.slice p.a p.st.vals.length p.c) ∧ w.cell? ⟨b, o + k * 2 + 1, none⟩ = some (.int .i64 p.st.sum) ∧ KidsAt w p.a p.st.vals := by
  obtain ⟨ps, e, hr, hK⟩ := h
  have hl := len_smL e
  obtain ⟨p, ep⟩ : ∃ p, ps[k]? = some p := ⟨_, List.getElem?_eq_getElem (by omega)⟩
  obtain ⟨b, o, ha, hb, hc⟩ := hr (by omega)
  obtain ⟨h0, h1⟩ := sp2 (hc k p ep)
  exact ⟨b, o, p, ha, hb, by rw [← e, List.getElem?_map, ep]; rfl, h0, h1, hK p (List.mem_of_getElem? ep)⟩
theorem sumS_le {R : List St} (h : SmL R) (k : Nat) : 0 ≤ sums (R.take k) ∧ sums (R.take k) ≤ 120 := by
  have h1 := sums_bd (R.take k) (fun x hx => h.1 x (List.mem_of_mem_take hx))
  have h2 : (R.take k).length ≤ 12 := by rw [List.length_take]; have := h.2; omega
  omega
/-- What the law has at its end. -/
structure GH (w W : World) (aL : Option Addr) (L : List St) (aX : Option Addr) (X : List St) (aU : Option Addr) (U : List St) (aT : Option Addr) (T : List St) (aA : Option Addr) (KA : List St) (bb : Nat) (b : Sp) (aD : Option Addr) (KD : List St) (eb : Nat) (e : Sp) (aF : Option Addr) (gb : Nat) (g : Sp) (hb : Nat) (h : Sp) (ib : Nat) (i : Sp) : Prop where
  bel : Below w.heap.size w W
  L : StR W aL L
  X : StR W aX X
  U : StR W aU U
  T : StR W aT T
  A : StR W aA KA
  B : Vx W bb b
  D : StR W aD KD
  E : Vx W eb e
  F : StR W aF KD
  G : Vx W gb g
  H : Vx W hb h
  I : Vx W ib i
theorem GH.below {w W W' : World} {aL : Option Addr} {L : List St} {aX : Option Addr} {X : List St} {aU : Option Addr} {U : List St} {aT : Option Addr} {T : List St} {aA : Option Addr} {KA : List St} {bb : Nat} {b : Sp} {aD : Option Addr} {KD : List St} {eb : Nat} {e : Sp} {aF : Option Addr} {gb : Nat} {g : Sp} {hb : Nat} {h : Sp} {ib : Nat} {i : Sp} (H : GH w W aL L aX X aU U aT T aA KA bb b aD KD eb e aF gb g hb h ib i) (hs : Below W.heap.size W W') : GH w W' aL L aX X aU U aT T aA KA bb b aD KD eb e aF gb g hb h ib i :=
  ⟨H.bel.trans (hs.mono H.bel.size), H.L.below hs, H.X.below hs, H.U.below hs, H.T.below hs, H.A.below hs, H.B.below hs, H.D.below hs, H.E.below hs, H.F.below hs, H.G.below hs, H.H.below hs, H.I.below hs⟩
/-- What each operation of the last statement leaves. -/
def hpsPost (aL : Option Addr) (cL n : Nat) (aX : Option Addr) (cX : Nat) (X : List St) (aU : Option Addr) (cU : Nat) (aT : Option Addr) (cT : Nat) (y2 : Int) (aA : Option Addr) (cA : Nat) (KA : List St) (b : Sp) (PA : List St) (aD : Option Addr) (cD : Nat) (KD : List St) (aF : Option Addr) (cF : Nat) (eb : Nat) (ey : St) (ea : Option Addr) (ec : Nat) (gb : Nat) (ga : Option Addr) (gc : Nat) (mb : Bool) (h i : Sp) (bl bx : Bool) : Nat → Value → World → Prop
  | 0 => fun v _ => v = .bool true
  | 1 => fun v _ => v = .bool true
  | 2 => fun v _ => v = .slice aL n cL
  | 3 => fun v _ => v = .bool true
  | 4 => fun v _ => v = .bool true
  | 5 => fun v _ => v = .bool true
  | 6 => fun v _ => v = .slice aU (n + 1) cU
  | 7 => fun v _ => v = .bool true
  | 8 => fun v _ => v = .bool true
  | 9 => fun v _ => v = .bool true
  | 10 => fun v _ => v = .slice aT n cT
  | 11 => fun v _ => v = .bool true
  | 12 => fun v _ => v = .bool true
  | 13 => fun v _ => v = .bool true
  | 14 => fun v _ => v = .slice aU (n + 1) cU
  | 15 => fun v _ => v = .int .i64 ((n : Int) + 1)
  | 16 => fun v _ => v = .slice aL n cL
  | 17 => fun v _ => v = .int .i64 n
  | 18 => fun v _ => v = .int .i64 ((n : Int) + 1)
  | 19 => fun v _ => v = .bool true
  | 20 => fun v _ => v = .bool true
  | 21 => fun v _ => v = .bool true
  | 22 => fun v _ => v = .slice aT n cT
  | 23 => fun v _ => v = .int .i64 n
  | 24 => fun v _ => v = .slice aL n cL
  | 25 => fun v _ => v = .int .i64 n
  | 26 => fun v _ => v = .bool true
  | 27 => fun v _ => v = .bool true
  | 28 => fun v _ => v = .bool true
  | 29 => fun v _ => v = .int .i64 y2
  | 30 => fun v _ => v = .int .i64 y2
  | 31 => fun v _ => v = .bool true
  | 32 => fun v _ => v = .bool true
  | 33 => fun v _ => v = .bool true
  | 34 => fun v _ => v = .slice aA KA.length cA
  | 35 => fun v _ => v = .agg #[.slice b.a b.st.vals.length b.c, .int .i64 b.st.sum]
  | 36 => fun v W => ∃ a c, v = .slice a PA.length c ∧ StR W a PA
  | 37 => fun v _ => v = .slice aA KA.length cA
  | 38 => fun v _ => v = .agg #[.slice b.a b.st.vals.length b.c, .int .i64 b.st.sum]
  | 39 => fun v W => ∃ a c, v = .slice a PA.length c ∧ StR W a PA
  | 40 => fun v _ => v = .bool true
  | 41 => fun v _ => v = .bool true
  | 42 => fun v _ => v = .bool true
  | 43 => fun v _ => v = .bool mb
  | 44 => fun v _ => v = .bool mb
  | 45 => fun v _ => v = .bool true
  | 46 => fun v _ => v = .bool true
  | 47 => fun v _ => v = .bool true
  | 48 => fun v _ => v = .slice aD KD.length cD
  | 49 => fun v _ => v = .slice aF KD.length cF
  | 50 => fun v _ => v = .bool true
  | 51 => fun v _ => v = .bool true
  | 52 => fun v _ => v = .bool true
  | 53 => fun v _ => v = .pointer (some ⟨eb, 1, none⟩)
  | 54 => fun v _ => v = .int .i64 ey.sum
  | 55 => fun v _ => v = .pointer (some ⟨gb, 1, none⟩)
  | 56 => fun v _ => v = .int .i64 ey.sum
  | 57 => fun v _ => v = .bool true
  | 58 => fun v _ => v = .bool true
  | 59 => fun v _ => v = .bool true
  | 60 => fun v _ => v = .pointer (some ⟨eb, 0, none⟩)
  | 61 => fun v _ => v = .slice ea ey.vals.length ec
  | 62 => fun v _ => v = .pointer (some ⟨gb, 0, none⟩)
  | 63 => fun v _ => v = .slice ga ey.vals.length gc
  | 64 => fun v _ => v = .bool true
  | 65 => fun v _ => v = .bool true
  | 66 => fun v _ => v = .bool true
  | 67 => fun v _ => v = .agg #[.slice h.a h.st.vals.length h.c, .int .i64 h.st.sum]
  | 68 => fun v _ => v = .agg #[.slice i.a i.st.vals.length i.c, .int .i64 i.st.sum]
  | 69 => fun v _ => v = .bool bl
  | 70 => fun v _ => v = .agg #[.slice h.a h.st.vals.length h.c, .int .i64 h.st.sum]
  | 71 => fun v _ => v = .agg #[.slice i.a i.st.vals.length i.c, .int .i64 i.st.sum]
  | 72 => fun v _ => v = .bool bl
  | 73 => fun v _ => v = .bool true
  | 74 => fun v _ => v = .bool true
  | 75 => fun v _ => v = .bool true
  | 76 => fun v _ => v = .slice aX X.length cX
  | 77 => fun v _ => v = .bool bx
  | 78 => fun v _ => v = .slice aX X.length cX
  | 79 => fun v _ => v = .bool bx
  | 80 => fun v _ => v = .bool true
  | 81 => fun v _ => v = .bool true
  | 82 => fun v _ => v = .bool true
  | _ => fun _ _ => True
theorem hpsPost_stab {aL : Option Addr} {cL n : Nat} {aX : Option Addr} {cX : Nat} {X : List St} {aU : Option Addr} {cU : Nat} {aT : Option Addr} {cT : Nat} {y2 : Int} {aA : Option Addr} {cA : Nat} {KA : List St} {b : Sp} {PA : List St} {aD : Option Addr} {cD : Nat} {KD : List St} {aF : Option Addr} {cF : Nat} {eb : Nat} {ey : St} {ea : Option Addr} {ec : Nat} {gb : Nat} {ga : Option Addr} {gc : Nat} {mb : Bool} {h i : Sp} {bl bx : Bool} (k : Nat) (v : Value) (W W' : World) (H : hpsPost aL cL n aX cX X aU cU aT cT y2 aA cA KA b PA aD cD KD aF cF eb ey ea ec gb ga gc mb h i bl bx k v W) (hs : Below W.heap.size W W') : hpsPost aL cL n aX cX X aU cU aT cT y2 aA cA KA b PA aD cD KD aF cF eb ey ea ec gb ga gc mb h i bl bx k v W' := by
  unfold hpsPost at H ⊢
  split <;> first | exact H | trivial | (obtain ⟨a, c, e, hk⟩ := H; exact ⟨a, c, e, hk.below hs⟩)

theorem vx_made (w : World) (y z : Int) (t1 t2 : Nat) : Vx ((w.alloc (.cells #[.int .i64 y] t1)).alloc (.cells #[.slice (some ⟨w.heap.size, 0, none⟩) 1 1, .int .i64 z] t2)).drew (w.heap.size + 1) ⟨⟨[y], z⟩, some ⟨w.heap.size, 0, none⟩, 1⟩ := by
  have A0 := heap_alloc2_old w (.cells #[.int .i64 y] t1) (.cells #[.slice (some ⟨w.heap.size, 0, none⟩) 1 1, .int .i64 z] t2)
  have A1 := heap_alloc2_new w (.cells #[.int .i64 y] t1) (.cells #[.slice (some ⟨w.heap.size, 0, none⟩) 1 1, .int .i64 z] t2)
  refine ⟨⟨(Array.getElem?_eq_some_iff.1 A1).1, cell_of_row _ _ 0 _ _ _ A1, cell_of_row _ _ 1 _ _ _ A1⟩, fun _ => ⟨w.heap.size, 0, rfl, (Array.getElem?_eq_some_iff.1 A0).1, fun j u hu => ?_⟩⟩
  match j with
  | 0 =>
    have : u = y := by simpa using hu.symm
    subst this
    exact cell_of_row _ _ 0 _ _ _ A0
  | j + 1 => simp at hu
theorem vx_made' (w : World) (y z : Int) (t1 t2 : Nat) : Vx ((w.alloc (.cells #[.slice (some ⟨w.heap.size + 1, 0, none⟩) 1 1, .int .i64 z] t2)).alloc (.cells #[.int .i64 y] t1)).drew w.heap.size ⟨⟨[y], z⟩, some ⟨w.heap.size + 1, 0, none⟩, 1⟩ := by
  have A0 := heap_alloc2_old w (.cells #[.slice (some ⟨w.heap.size + 1, 0, none⟩) 1 1, .int .i64 z] t2) (.cells #[.int .i64 y] t1)
  have A1 := heap_alloc2_new w (.cells #[.slice (some ⟨w.heap.size + 1, 0, none⟩) 1 1, .int .i64 z] t2) (.cells #[.int .i64 y] t1)
  refine ⟨⟨(Array.getElem?_eq_some_iff.1 A0).1, cell_of_row _ _ 0 _ _ _ A0, cell_of_row _ _ 1 _ _ _ A0⟩, fun _ => ⟨w.heap.size + 1, 0, rfl, (Array.getElem?_eq_some_iff.1 A1).1, fun j u hu => ?_⟩⟩
  match j with
  | 0 =>
    have : u = y := by simpa using hu.symm
    subst this
    exact cell_of_row _ _ 0 _ _ _ A1
  | j + 1 => simp at hu

set_option maxHeartbeats 32000000 in
set_option maxRecDepth 100000 in
theorem lawHeaps (a : Option Addr) (len cap : Nat) (w : World) (hc : len ≤ 1048576 → CodeAt w.heap.size w a len) (hlm : len ≤ 9223372036854775807) :
    Calls Try.prog 5 #[.slice a len cap] w fun e w' => e = .returned (.bool true) ∧ Below w.heap.size w w' := by
  by_cases h0 : 1048576 < len
  · clear hc
    go_enter Try.func5, Try.ntmps5
    go_wp2
    go_ret
    exact ⟨rfl, Below.refl _ _⟩
  have HC := hidOf (hc (by omega))
  clear hc
  go_enter Try.func5, Try.ntmps5
  go_wp2_with (first | (go_at_call 11; go_in))
  refine (drawHeap_any w.heap.size _ a len cap HC.out (Nat.le_refl _)).mono ?_
  rintro e w1 ⟨aL, cL, pL, rfl, O1, S1, n1, H1, b1⟩
  obtain ⟨L, hL⟩ : ∃ L, L = pL.map Sp.st := ⟨_, rfl⟩
  have TL : StR w1 aL L := ⟨pL, hL.symm, O1.sts⟩
  have SL := hidOf (show SmL L by rw [hL]; exact smL_of S1 n1)
  have HL := hidOf (show heapB stLess L = true by rw [hL, ← heapB_map Sp.st pL]; exact H1 rfl)
  have lL : pL.length = L.length := by rw [hL, List.length_map]
  rw [lL] at n1 ⊢
  have B1 := hidOf b1
  clear hL O1 S1 H1 b1 lL
  go_wp2_with fail
  refine (drawPush_any w.heap.size _ a len cap (HC.out.below B1.out) B1.out.size).mono ?_
  rintro e w2 ⟨aX, cX, pX, y, rfl, O2, S2, n2, hy, yo, b2⟩
  obtain ⟨X, hX⟩ : ∃ X, X = pX.map Sp.st := ⟨_, rfl⟩
  have TX : StR w2 aX X := ⟨pX, hX.symm, O2.sts⟩
  have SX := hidOf (show SmL X by rw [hX]; exact smL_of S2 n2)
  have lX : pX.length = X.length := by rw [hX, List.length_map]
  rw [lX]
  have B2 := hidOf (B1.out.trans (b2.mono B1.out.size))
  have TL := TL.below b2
  clear hX O2 S2 n2 hy yo b2 lX B1
  go_upto_region 5 with fail
  obtain ⟨W2, hW2, -, b2, S2⟩ := bx_new w2 y 57
  rw [← hW2]
  obtain ⟨yb, hyb⟩ : ∃ yb, yb = w2.heap.size := ⟨_, rfl⟩
  rw [← hyb]
  have B3 := hidOf (B2.out.trans (b2.mono B2.out.size))
  have TL := TL.below b2
  have TX := TX.below b2
  clear hW2 hyb S2 b2 B2
  go_wp2_with fail
  refine (places_any W2.heap.size _ a len cap ((HC.out.below B3.out).wide B3.out.size) (Nat.le_refl _)).mono ?_
  rintro e w3 ⟨v3, zs, hzl, hz, rfl, o3, b3⟩
  obtain ⟨aP, cP, rfl⟩ := owns_slice o3
  obtain ⟨gP, rfl⟩ := owns_at o3 (by omega)
  obtain ⟨z0, e0⟩ : ∃ z0, zs[0]? = some z0 := ⟨_, List.getElem?_eq_getElem (by omega)⟩
  obtain ⟨z1, e1⟩ : ∃ z1, zs[1]? = some z1 := ⟨_, List.getElem?_eq_getElem (by omega)⟩
  have q0 : w3.cell? ⟨gP, 0, none⟩ = some (.int .i64 z0) := by rw [o3.cellAt 0 (by omega), List.getElem?_map, e0]; rfl
  have q1 : w3.cell? ⟨gP, 1, none⟩ = some (.int .i64 z1) := by rw [o3.cellAt 1 (by omega), List.getElem?_map, e1]; rfl
  have hz0 := hz z0 (List.mem_of_getElem? e0)
  have hz1 := hz z1 (List.mem_of_getElem? e1)
  have hgl := (o3.lt gP rfl).2
  have m0 : z0.tmod 3 = z0 % 3 := Int.tmod_eq_emod_of_nonneg hz0.1
  have m1 : z1.tmod 5 = z1 % 5 := Int.tmod_eq_emod_of_nonneg hz1.1
  have x0 : IntKind.i64.wrap (z0 % 3) = z0 % 3 := IntWalk.i64_in _ ⟨by omega, by omega⟩
  have x1 : IntKind.i64.wrap (z1 % 5) = z1 % 5 := IntWalk.i64_in _ ⟨by omega, by omega⟩
  have hal : ∀ (ob : Obj) (b k : Nat), b < w3.heap.size → (w3.alloc ob).cell? ⟨b, k, none⟩ = w3.cell? ⟨b, k, none⟩ := fun ob b k h => ((Below.refl w3.heap.size w3).alloc (Nat.le_refl _) ob).cell (p := ⟨b, k, none⟩) h
  have B4 := hidOf (B3.out.trans (b3.mono B3.out.size))
  have TL := TL.below b3
  have TX := TX.below b3
  clear hz hzl e0 e1 B3 o3
  go_upto_region 6 with fail
  go_cut [7] from 28 (fun v wx => ∃ (sb : Nat) (s : Sp), v = .pointer (some ⟨sb, 0, none⟩) ∧ Hid (Small s.st) ∧ Hid (Vx wx sb s) ∧ Hid (Below w3.heap.size w3 wx))
  case first =>
    go_region
    all_goals go_wp2_with fail
    all_goals go_meet
    all_goals first
      | exact ⟨w3.heap.size + 1, ⟨⟨[z0 % 3], z1 % 5⟩, some ⟨w3.heap.size, 0, none⟩, 1⟩, rfl, hidOf ⟨by show 1 ≤ 3; omega, by show 0 ≤ z1 % 5; omega, by show z1 % 5 ≤ 10; omega⟩, hidOf (vx_made w3 (z0 % 3) (z1 % 5) _ _), hidOf (((Below.refl _ _).alloc (Nat.le_refl _) _).alloc (by simp) _).drew⟩
      | exact ⟨w3.heap.size, ⟨⟨[z0 % 3], z1 % 5⟩, some ⟨w3.heap.size + 1, 0, none⟩, 1⟩, rfl, hidOf ⟨by show 1 ≤ 3; omega, by show 0 ≤ z1 % 5; omega, by show z1 % 5 ≤ 10; omega⟩, hidOf (vx_made' w3 (z0 % 3) (z1 % 5) _ _), hidOf (((Below.refl _ _).alloc (Nat.le_refl _) _).alloc (by simp) _).drew⟩
  case rest =>
  obtain ⟨sb, s, rfl, SS, VS, b4⟩ := hcut
  have B5 := hidOf (B4.out.trans (b4.out.mono B4.out.size))
  have TL := TL.below b4.out
  have TX := TX.below b4.out
  clear hal q0 q1 b3 b4 B4 m0 m1 x0 x1 hz0 hz1 hgl
  obtain ⟨U, hU⟩ : ∃ U, U = pushL stLess L s.st := ⟨_, rfl⟩
  have HU := hidOf hU
  have nU := hidOf (show U.length = L.length + 1 by rw [hU, pushL_len])
  have SU := hidOf (show SmL U by rw [hU]; exact smL_push SL.out n1 SS.out)
  have HHU := hidOf (show heapB stLess U = true by rw [hU]; exact heap_push stOrd HL.out)
  have qU := hidOf (iPuR aL cL L s wc SL.out SS.out TL VS.out.kids)
  rw [← hU] at qU
  clear hU
  obtain ⟨-, c0, c1⟩ := VS.out.box
  go_wp2_with fail
  refine qU.out.mono ?_
  rintro e w5 ⟨aU, cU, rfl, TU, b5⟩
  have B6 := hidOf (B5.out.trans (b5.mono B5.out.size))
  have TL := TL.below b5
  have TX := TX.below b5
  have VS := hidOf (VS.out.below b5)
  clear b5 qU c0 c1 B5
  obtain ⟨T, hT⟩ : ∃ T, T = restL stLess U := ⟨_, rfl⟩
  have HT := hidOf hT
  have nT := hidOf (show T.length = L.length by rw [hT, restL_len, nU.out]; rfl)
  have ST := hidOf (show SmL T by rw [hT]; exact smL_rest SU.out)
  have HHT := hidOf (show heapB stLess T = true by rw [hT]; exact heap_rest stOrd HHU.out)
  have hUp : decide (0 < U.length) = true := by rw [nU.out]; simp
  have qT := hidOf (iPpR aU cU U w5 SU.out TU)
  unfold PpR at qT
  rw [← hT, hUp] at qT
  clear hT hUp
  go_wp2_with fail
  refine qT.out.mono ?_
  rintro e w6 ⟨aT, cT, f, rfl, hf, TT, kf, b6⟩
  have B7 := hidOf (B6.out.trans (b6.mono B6.out.size))
  have TL := TL.below b6
  have TX := TX.below b6
  have TU := TU.below b6
  have VS := hidOf (VS.out.below b6)
  have SF := hidOf (show Small f.st by rw [hf]; exact small_hd SU.out)
  have LF := hidOf (show ∀ x ∈ T, stLess x f.st = false from fun x hx => by
    rw [hf]
    exact least_rest stOrd HHU.out (hd_at (by rw [nU.out]; omega)) (by rw [← HT.out]; exact hx))
  have SUM := hidOf (show s.st.sum + sums L = f.st.sum + sums T by rw [hf, HT.out, HU.out]; exact sums_pop)
  clear b6 qT B6 hf
  go_upto_region 9 with fail
  obtain ⟨W6, hW6, X6, b6, S6⟩ := bx_new w6 f 57
  rw [← hW6]
  obtain ⟨fb, hfb⟩ : ∃ fb, fb = w6.heap.size := ⟨_, rfl⟩
  rw [← hfb] at X6
  rw [← hfb]
  have F6 : Hid (FH w W6 aL L aX X sb s aU U aT T fb f) := hidOf ⟨B7.out.trans (b6.mono B7.out.size), TL.below b6, TX.below b6, VS.out.below b6, TU.below b6, TT.below b6, ⟨X6, kf.below b6 (Nat.le_refl _)⟩⟩
  clear hW6 S6 b6 hfb X6 TL TX VS TU TT kf B7
  obtain ⟨n, hn⟩ : ∃ n, n = L.length := ⟨_, rfl⟩
  have hn10 : n ≤ 10 := by omega
  have HN := hidOf hn
  rw [← hn] at nT nU n1
  rw [nT.out, nU.out, ← hn]
  clear hn
  go_wp2
  go_loopw [12] (fun v wr => ∃ k : Nat, k ≤ n ∧ v = .int .i64 k ∧ Hid (FH w wr aL L aX X sb s aU U aT T fb f)) (fun v _ => n - (intOf v).toNat)
  case atStart => exact ⟨0, Nat.zero_le _, rfl, F6⟩
  case round =>
    clear F6
    obtain ⟨k, hk, rfl, HF⟩ := hrel
    have hA : (0 : Int) ≤ (k : Int) := by omega
    by_cases hlt : k < n
    · have hB : (k : Int) < (n : Int) := by omega
      obtain ⟨b1, o1, p, rfl, hb1, ep, p0, p1, kp⟩ := HF.out.T.at (show k < T.length by rw [nT.out]; exact hlt)
      obtain ⟨hfl, c0, c1⟩ := HF.out.F.box
      have qS := iSLR p f wr.drew (ST.out.1 _ (List.mem_of_getElem? ep)) SF.out (kp.below (Below.refl wr.heap.size wr).drew (Nat.le_refl _)) (HF.out.F.kids.below (Below.refl wr.heap.size wr).drew (Nat.le_refl _))
      rw [LF.out p.st (List.mem_of_getElem? ep)] at qS
      have QS := hidOf qS
      clear qS ep kp
      go_wp2
      go_region_held3 (fun W => (W.cell? ⟨b1, o1 + k * 2, none⟩ = some (.slice p.a p.st.vals.length p.c) ∧ W.cell? ⟨b1, o1 + k * 2 + 1, none⟩ = some (.int .i64 p.st.sum)) ∧ W.cell? ⟨fb, 0, none⟩ = some (.slice f.a f.st.vals.length f.c) ∧ W.cell? ⟨fb, 1, none⟩ = some (.int .i64 f.st.sum)) (first | trivial | go_keep)
        ((go_at_call 44; refine QS.out.mono ?_; rintro e w7 ⟨rfl, hb7⟩; have E7 := (Below.refl wr.heap.size wr).drew.trans hb7; have hc7 := (bcell E7).1))
      have F7 := hidOf (HF.out.below E7)
      clear p0 p1 c0 c1 hc7 hb7 E7 QS HF
      go_wp2
      go_roundw
      case rel => exact ⟨k + 1, by omega, by go_num, F7⟩
      case measure => simp [intOf]; omega
    · have hB : ¬ (k : Int) < (n : Int) := by omega
      obtain ⟨-, c0, c1⟩ := HF.out.S.box
      have hs0 := SS.out.2.1
      have hs1 := SS.out.2.2
      go_wp2
      go_loopw [13, 14] (fun v i wr => ∃ (j : Nat) (z : Int), j ≤ n ∧ i = .int .i64 j ∧ v = .int .i64 z ∧ 0 ≤ z ∧ z ≤ 130 ∧ Hid (z = s.st.sum + sums (L.take j)) ∧ Hid (FH w wr aL L aX X sb s aU U aT T fb f)) (fun _ i _ => n - (intOf i).toNat)
      case atStart => exact ⟨0, s.st.sum, Nat.zero_le _, rfl, rfl, hs0, by omega, hidOf (by simp [sums, totS]), HF⟩
      case round =>
        clear HF c0 c1 hs0 hs1
        obtain ⟨j, z, hj, rfl, rfl, hz0, hz1, HZ, HF⟩ := hrel
        have hA2 : (0 : Int) ≤ (j : Int) := by omega
        by_cases hlt2 : j < n
        · have hB2 : (j : Int) < (n : Int) := by omega
          obtain ⟨b1, o1, p, rfl, hb1, ep, p0, p1, kp⟩ := HF.out.L.at (show j < L.length by rw [← HN.out]; exact hlt2)
          have h1 := SL.out.1 _ (List.mem_of_getElem? ep)
          have hp0 := h1.2.1
          have hp1 := h1.2.2
          have hzz := hidOf (sums_take ep)
          have hbd := sumS_le SL.out (j + 1)
          have hz2 : z + p.st.sum ≤ 130 := by have := HZ.out; have := hzz.out; have := SS.out.2.2; omega
          clear ep kp h1 hbd
          go_wp2
          go_roundw
          case rel => exact ⟨j + 1, z + p.st.sum, by omega, by go_num, rfl, by omega, hz2, hidOf (by have := HZ.out; have := hzz.out; omega), HF⟩
          case measure => simp [intOf]; omega
        · have hB2 : ¬ (j : Int) < (n : Int) := by omega
          have HSum := hidOf (show z = s.st.sum + sums L by have h := HZ.out; rw [List.take_of_length_le (by rw [← HN.out]; omega)] at h; exact h)
          obtain ⟨-, c0, c1⟩ := HF.out.F.box
          have hs0 := SF.out.2.1
          have hs1 := SF.out.2.2
          clear HZ
          go_wp2
          go_loopw [15, 16] (fun v i wr => ∃ (m : Nat) (y : Int), m ≤ n ∧ i = .int .i64 m ∧ v = .int .i64 y ∧ 0 ≤ y ∧ y ≤ 130 ∧ Hid (y = f.st.sum + sums (T.take m)) ∧ Hid (FH w wr aL L aX X sb s aU U aT T fb f)) (fun _ i _ => n - (intOf i).toNat)
          case atStart => exact ⟨0, f.st.sum, Nat.zero_le _, rfl, rfl, hs0, by omega, hidOf (by simp [sums, totS]), HF⟩
          case round =>
            clear HF c0 c1 hs0 hs1
            obtain ⟨m, y2, hm, rfl, rfl, hy0, hy1, HY, HF⟩ := hrel
            have hA3 : (0 : Int) ≤ (m : Int) := by omega
            by_cases hlt3 : m < n
            · have hB3 : (m : Int) < (n : Int) := by omega
              obtain ⟨b1, o1, p, rfl, hb1, ep, p0, p1, kp⟩ := HF.out.T.at (show m < T.length by rw [nT.out]; exact hlt3)
              have h1 := ST.out.1 _ (List.mem_of_getElem? ep)
              have hp0 := h1.2.1
              have hp1 := h1.2.2
              have hzz := hidOf (sums_take ep)
              have hbd := sumS_le ST.out (m + 1)
              have hz2 : y2 + p.st.sum ≤ 130 := by have := HY.out; have := hzz.out; have := SF.out.2.2; omega
              clear ep kp h1 hbd
              go_wp2
              go_roundw
              case rel => exact ⟨m + 1, y2 + p.st.sum, by omega, by go_num, rfl, by omega, hz2, hidOf (by have := HY.out; have := hzz.out; omega), HF⟩
              case measure => simp [intOf]; omega
            · have hB3 : ¬ (m : Int) < (n : Int) := by omega
              have hyz : y2 = z := by
                have h := HY.out
                rw [List.take_of_length_le (by rw [nT.out]; omega)] at h
                have h2 := HSum.out
                have h3 := SUM.out
                omega
              subst hyz
              clear HY HSum
              go_wp2_with fail
              refine (drawPush_any w.heap.size _ a len cap (HC.out.below HF.out.bel) HF.out.bel.size).mono ?_
              rintro e w8 ⟨aA, cA, pA, b, rfl, O8, S8, n8, hb, yo, b8⟩
              obtain ⟨KA, hKA⟩ : ∃ KA, KA = pA.map Sp.st := ⟨_, rfl⟩
              have TA : StR w8 aA KA := ⟨pA, hKA.symm, O8.sts⟩
              have SA := hidOf (show SmL KA by rw [hKA]; exact smL_of S8 n8)
              have lA : pA.length = KA.length := by rw [hKA, List.length_map]
              have nA : KA.length ≤ 10 := by omega
              rw [lA]
              have SB := hidOf hb
              have kb := KidsAt.of_own yo
              have F8 := hidOf (HF.out.below b8)
              clear hKA O8 S8 n8 hb yo b8 lA HF
              go_upto_region 25 with fail
              obtain ⟨W8, hW8, X8, b8, S8⟩ := bx_new w8 b 57
              rw [← hW8]
              obtain ⟨bb, hbb⟩ : ∃ bb, bb = w8.heap.size := ⟨_, rfl⟩
              rw [← hbb] at X8
              rw [← hbb]
              have VB : Vx W8 bb b := ⟨X8, kb.below b8 (Nat.le_refl _)⟩
              have TA := TA.below b8
              have F9 := hidOf (F8.out.below b8)
              clear hW8 S8 b8 hbb X8 kb F8
              go_wp2_with fail
              refine (drawPop_any w.heap.size _ a len cap (HC.out.below F9.out.bel) F9.out.bel.size).mono ?_
              rintro e w9 ⟨aC, cC, pC, rfl, O9, S9, n9, -, b9⟩
              obtain ⟨KC, hKC⟩ : ∃ KC, KC = pC.map Sp.st := ⟨_, rfl⟩
              have TC : StR w9 aC KC := ⟨pC, hKC.symm, O9.sts⟩
              have SC := hidOf (show SmL KC by rw [hKC]; exact smL_of S9 n9)
              have lC : pC.length = KC.length := by rw [hKC, List.length_map]
              rw [lC]
              have VB := VB.below b9
              have TA := TA.below b9
              have F10 := hidOf (F9.out.below b9)
              clear hKC O9 S9 n9 b9 lC F9
              obtain ⟨KD, hKD⟩ : ∃ KD, KD = restL stLess KC := ⟨_, rfl⟩
              have SKD := hidOf (show SmL KD by rw [hKD]; exact smL_rest SC.out)
              have hKDl := hidOf (show KD.length ≤ 1048576 by have := SKD.out.2; omega)
              obtain ⟨mb, hmb⟩ : ∃ mb, mb = decide (0 < KC.length) := ⟨_, rfl⟩
              obtain ⟨ey, hey⟩ : ∃ ey, ey = hdS KC := ⟨_, rfl⟩
              have SE := hidOf (show Small ey by rw [hey]; exact small_hd SC.out)
              have qI := hidOf (fun W h => iPpR aC cC KC W SC.out h)
              have qSp := hidOf (fun W h => sPpR aC cC KC W SC.out h)
              unfold PpR at qI qSp
              rw [← hKD, ← hmb, ← hey] at qI qSp
              clear hKD hmb hey
              go_wp2_with fail
              refine (qI.out _ TC).mono ?_
              rintro e w10 ⟨aD, cD, e1, rfl, he1, TD, ke, b10⟩
              obtain ⟨es, ea, ec⟩ := e1
              dsimp only at he1 ke ⊢
              subst he1
              have VB := VB.below b10
              have TA := TA.below b10
              have TC := TC.below b10
              have F11 := hidOf (F10.out.below b10)
              clear b10 F10 qI
              go_upto_region 27 with fail
              obtain ⟨W10, hW10, X10, b10, S10⟩ := bx_new w10 ⟨es, ea, ec⟩ 57
              obtain ⟨eb, heb⟩ : ∃ eb, eb = w10.heap.size := ⟨_, rfl⟩
              dsimp only at hW10
              rw [← heb] at X10
              rw [← hW10, ← heb]
              have VE : Vx W10 eb ⟨es, ea, ec⟩ := ⟨X10, ke.below b10 (Nat.le_refl _)⟩
              have VB := VB.below b10
              have TA := TA.below b10
              have TC := TC.below b10
              have TD := TD.below b10
              have F12 := hidOf (F11.out.below b10)
              clear hW10 S10 b10 heb X10 ke F11
              go_wp2_with fail
              refine (qSp.out _ TC).mono ?_
              rintro e w11 ⟨aF, cF, g1, rfl, hg1, TF, kg, b11⟩
              obtain ⟨gs, ga, gc⟩ := g1
              dsimp only at hg1 kg ⊢
              subst hg1
              have VB := VB.below b11
              have TA := TA.below b11
              have TD := TD.below b11
              have VE := VE.below b11
              have F13 := hidOf (F12.out.below b11)
              clear b11 F12 qSp TC
              go_upto_region 28 with fail
              obtain ⟨W11, hW11, X11, b11, S11⟩ := bx_new w11 ⟨gs, ga, gc⟩ 57
              obtain ⟨gb, hgb⟩ : ∃ gb, gb = w11.heap.size := ⟨_, rfl⟩
              dsimp only at hW11
              rw [← hgb] at X11
              rw [← hW11, ← hgb]
              have VG : Vx W11 gb ⟨gs, ga, gc⟩ := ⟨X11, kg.below b11 (Nat.le_refl _)⟩
              have VB := VB.below b11
              have TA := TA.below b11
              have TD := TD.below b11
              have TF := TF.below b11
              have VE := VE.below b11
              have F14 := hidOf (F13.out.below b11)
              clear hW11 S11 b11 hgb X11 kg F13
              go_wp2_with fail
              refine (drawSl_any w.heap.size _ a len cap (HC.out.below F14.out.bel) F14.out.bel.size).mono ?_
              rintro e w12 ⟨h, i, rfl, hh, hi, ho, io, b12⟩
              have SH := hidOf hh
              have SI := hidOf hi
              have kh := KidsAt.of_own ho
              have ki := KidsAt.of_own io
              have VB := VB.below b12
              have TA := TA.below b12
              have TD := TD.below b12
              have TF := TF.below b12
              have VE := VE.below b12
              have VG := VG.below b12
              have F15 := hidOf (F14.out.below b12)
              clear hh hi ho io b12 F14
              go_upto_region 29 with fail
              obtain ⟨W12, hW12, XH, XI, b12, S12⟩ := bx_new2 w12 h i 57
              obtain ⟨hb, hhb⟩ : ∃ hb, hb = w12.heap.size := ⟨_, rfl⟩
              obtain ⟨ib, hib⟩ : ∃ ib, ib = w12.heap.size + 1 := ⟨_, rfl⟩
              rw [← hib] at XI
              rw [← hhb] at XH
              rw [← hW12, ← hib, ← hhb]
              have F16 := F15.out.below b12
              have G16 : Hid (GH w W12 aL L aX X aU U aT T aA KA bb b aD KD eb ⟨gs, ea, ec⟩ aF gb ⟨gs, ga, gc⟩ hb h ib i) := hidOf ⟨F16.bel, F16.L, F16.X, F16.U, F16.T, TA.below b12, VB.below b12, TD.below b12, VE.below b12, TF.below b12, VG.below b12, ⟨XH, kh.below b12 (Nat.le_refl _)⟩, ⟨XI, ki.below b12 (Nat.le_refl _)⟩⟩
              clear hW12 S12 b12 hhb hib XH XI kh ki F15 F16 TA VB TD VE TF VG
              obtain ⟨ey, hey0⟩ : ∃ ey, ey = gs := ⟨_, rfl⟩
              subst hey0
              have hey : ey.vals.length ≤ 4611686018427387904 := by have := SE.out.1; omega
              obtain ⟨PA, hPA0⟩ : ∃ PA, PA = pushL stLess KA b.st := ⟨_, rfl⟩
              have SPA := hidOf (show SmL PA by rw [hPA0]; exact smL_push SA.out nA SB.out)
              have hPA : PA.length ≤ 1048576 := by have := SPA.out.2; omega
              have hKD : KD.length ≤ 1048576 := hKDl.out
              have qPI := fun W h1 h2 => iPuR aA cA KA b W SA.out SB.out h1 h2
              have qPS := fun W h1 h2 => sPuR aA cA KA b W SA.out SB.out h1 h2
              rw [← hPA0] at qPI qPS
              have qL2 := fun W h => iHpR aL cL L W SL.out h
              rw [← HN.out, HL.out] at qL2
              have qU2 := fun W h => iHpR aU cU U W SU.out h
              rw [nU.out, HHU.out] at qU2
              have qT2 := fun W h => iHpR aT cT T W ST.out h
              rw [nT.out, HHT.out] at qT2
              obtain ⟨bl, hbl⟩ : ∃ bl, bl = stLess h.st i.st := ⟨_, rfl⟩
              have HBL := hidOf hbl
              obtain ⟨bx, hbx⟩ : ∃ bx, bx = heapB stLess X := ⟨_, rfl⟩
              have HBX := hidOf hbx
              have hE1 : (mb == mb) = true := by simp
              have hE2 : (bl == bl) = true := by simp
              have hE3 : (bx == bx) = true := by simp
              have hE4 : (y2 == y2) = true := by simp
              have hE5 : (ey.sum == ey.sum) = true := by simp
              have hE6 : (((n : Int) + 1) == ((n : Int) + 1)) = true := by simp
              have hE7 : ((n : Int) == (n : Int)) = true := by simp
              have hE8 : IntKind.i64.wrap ((n : Int) + 1) = (n : Int) + 1 := IntWalk.i64_in _ ⟨by omega, by omega⟩
              clear hPA0 hbl hbx SS LF SUM SF HU HT HL HHU HHT HN nT nU hB hB2 hB3 hA hA2 hA3
              go_wp2
              refine wp_region_guards (by kernel_rfl) (fun W => GH w W aL L aX X aU U aT T aA KA bb b aD KD eb ⟨ey, ea, ec⟩ aF gb ⟨ey, ga, gc⟩ hb h ib i) (fun W W' => Below W.heap.size W W') (hpsPost aL cL n aX cX X aU cU aT cT y2 aA cA KA b PA aD cD KD aF cF eb ey ea ec gb ga gc mb h i bl bx) (G16.out.below (Below.refl _ _).drew) (by kernel_rfl) (fun k v W W' h _ hst => hpsPost_stab k v W W' h hst) ?_ ?_
              case refine_1 =>
                intro k o hk a W hI hsz hfix hdep
                clear G16
                match k, hk with
                | 0, hk =>
                  cases hk
                  refine .inl ⟨wanted_none rfl, fun K hK => ?_⟩
                  have e11 : a.tmps.getD 11 undef = .bool true := hfix 11 (by kernel_rfl)
                  refine wp_value (v := .bool true) (w' := W) ?_ (hK _ _ (by simp) hI (Below.refl _ _) rfl)
                  clear hfix hdep hK hk hsz
                  go_simp
                | 1, hk =>
                  cases hk
                  refine .inl ⟨wanted_none rfl, fun K hK => ?_⟩
                  have e124 : a.tmps.getD 124 undef = .bool true := hdep 0 _ rfl (by kernel_rfl)
                  refine wp_value (v := .bool true) (w' := W) ?_ (hK _ _ (by simp) hI (Below.refl _ _) rfl)
                  clear hfix hdep hK hk hsz
                  go_simp
                | 2, hk =>
                  cases hk
                  refine .inl ⟨?hg, fun K hK => ?_⟩
                  case hg => exact wanted_is (c := true) (b := true) rfl rfl rfl (hdep 1 _ rfl (by kernel_rfl))
                  have e3 : a.tmps.getD 3 undef = .slice aL n cL := hfix 3 (by kernel_rfl)
                  refine wp_value (v := .slice aL n cL) (w' := W) ?_ (hK _ _ (by simp) hI (Below.refl _ _) rfl)
                  clear hfix hdep hK hk hsz
                  go_simp
                | 3, hk =>
                  cases hk
                  refine .inl ⟨?hg, fun K hK => ?_⟩
                  case hg => exact wanted_is (c := true) (b := true) rfl rfl rfl (hdep 1 _ rfl (by kernel_rfl))
                  have e126 : a.tmps.getD 126 undef = .slice aL n cL := hdep 2 _ rfl (by kernel_rfl)
                  have hcon := qL2 W hI.L
                  refine wp_calls 48 #[.slice aL n cL] ?_ hcon ?_
                  · clear hfix hdep hK hk hsz hcon
                    go_simp
                    try rfl
                  · rintro e W2 ⟨rfl, A⟩
                    exact ⟨_, rfl, hK _ _ (by simp) (hI.below A) A rfl⟩
                | 4, hk =>
                  cases hk
                  refine .inl ⟨wanted_none rfl, fun K hK => ?_⟩
                  have e125 : a.tmps.getD 125 undef = .bool true := hdep 1 _ rfl (by kernel_rfl)
                  have e127 : a.tmps.getD 127 undef = .bool true := hdep 3 _ rfl (by kernel_rfl)
                  refine wp_value (v := .bool true) (w' := W) ?_ (hK _ _ (by simp) hI (Below.refl _ _) rfl)
                  clear hfix hdep hK hk hsz
                  go_simp
                | 5, hk =>
                  cases hk
                  refine .inl ⟨wanted_none rfl, fun K hK => ?_⟩
                  have e128 : a.tmps.getD 128 undef = .bool true := hdep 4 _ rfl (by kernel_rfl)
                  refine wp_value (v := .bool true) (w' := W) ?_ (hK _ _ (by simp) hI (Below.refl _ _) rfl)
                  clear hfix hdep hK hk hsz
                  go_simp
                | 6, hk =>
                  cases hk
                  refine .inl ⟨?hg, fun K hK => ?_⟩
                  case hg => exact wanted_is (c := true) (b := true) rfl rfl rfl (hdep 5 _ rfl (by kernel_rfl))
                  have e8 : a.tmps.getD 8 undef = .slice aU (n + 1) cU := hfix 8 (by kernel_rfl)
                  refine wp_value (v := .slice aU (n + 1) cU) (w' := W) ?_ (hK _ _ (by simp) hI (Below.refl _ _) rfl)
                  clear hfix hdep hK hk hsz
                  go_simp
                | 7, hk =>
                  cases hk
                  refine .inl ⟨?hg, fun K hK => ?_⟩
                  case hg => exact wanted_is (c := true) (b := true) rfl rfl rfl (hdep 5 _ rfl (by kernel_rfl))
                  have e130 : a.tmps.getD 130 undef = .slice aU (n + 1) cU := hdep 6 _ rfl (by kernel_rfl)
                  have hcon := qU2 W hI.U
                  refine wp_calls 48 #[.slice aU (n + 1) cU] ?_ hcon ?_
                  · clear hfix hdep hK hk hsz hcon
                    go_simp
                    try rfl
                  · rintro e W2 ⟨rfl, A⟩
                    exact ⟨_, rfl, hK _ _ (by simp) (hI.below A) A rfl⟩
                | 8, hk =>
                  cases hk
                  refine .inl ⟨wanted_none rfl, fun K hK => ?_⟩
                  have e129 : a.tmps.getD 129 undef = .bool true := hdep 5 _ rfl (by kernel_rfl)
                  have e131 : a.tmps.getD 131 undef = .bool true := hdep 7 _ rfl (by kernel_rfl)
                  refine wp_value (v := .bool true) (w' := W) ?_ (hK _ _ (by simp) hI (Below.refl _ _) rfl)
                  clear hfix hdep hK hk hsz
                  go_simp
                | 9, hk =>
                  cases hk
                  refine .inl ⟨wanted_none rfl, fun K hK => ?_⟩
                  have e132 : a.tmps.getD 132 undef = .bool true := hdep 8 _ rfl (by kernel_rfl)
                  refine wp_value (v := .bool true) (w' := W) ?_ (hK _ _ (by simp) hI (Below.refl _ _) rfl)
                  clear hfix hdep hK hk hsz
                  go_simp
                | 10, hk =>
                  cases hk
                  refine .inl ⟨?hg, fun K hK => ?_⟩
                  case hg => exact wanted_is (c := true) (b := true) rfl rfl rfl (hdep 9 _ rfl (by kernel_rfl))
                  have e9 : a.tmps.getD 9 undef = .slice aT n cT := hfix 9 (by kernel_rfl)
                  refine wp_value (v := .slice aT n cT) (w' := W) ?_ (hK _ _ (by simp) hI (Below.refl _ _) rfl)
                  clear hfix hdep hK hk hsz
                  go_simp
                | 11, hk =>
                  cases hk
                  refine .inl ⟨?hg, fun K hK => ?_⟩
                  case hg => exact wanted_is (c := true) (b := true) rfl rfl rfl (hdep 9 _ rfl (by kernel_rfl))
                  have e134 : a.tmps.getD 134 undef = .slice aT n cT := hdep 10 _ rfl (by kernel_rfl)
                  have hcon := qT2 W hI.T
                  refine wp_calls 48 #[.slice aT n cT] ?_ hcon ?_
                  · clear hfix hdep hK hk hsz hcon
                    go_simp
                    try rfl
                  · rintro e W2 ⟨rfl, A⟩
                    exact ⟨_, rfl, hK _ _ (by simp) (hI.below A) A rfl⟩
                | 12, hk =>
                  cases hk
                  refine .inl ⟨wanted_none rfl, fun K hK => ?_⟩
                  have e133 : a.tmps.getD 133 undef = .bool true := hdep 9 _ rfl (by kernel_rfl)
                  have e135 : a.tmps.getD 135 undef = .bool true := hdep 11 _ rfl (by kernel_rfl)
                  refine wp_value (v := .bool true) (w' := W) ?_ (hK _ _ (by simp) hI (Below.refl _ _) rfl)
                  clear hfix hdep hK hk hsz
                  go_simp
                | 13, hk =>
                  cases hk
                  refine .inl ⟨wanted_none rfl, fun K hK => ?_⟩
                  have e136 : a.tmps.getD 136 undef = .bool true := hdep 12 _ rfl (by kernel_rfl)
                  refine wp_value (v := .bool true) (w' := W) ?_ (hK _ _ (by simp) hI (Below.refl _ _) rfl)
                  clear hfix hdep hK hk hsz
                  go_simp
                | 14, hk =>
                  cases hk
                  refine .inl ⟨?hg, fun K hK => ?_⟩
                  case hg => exact wanted_is (c := true) (b := true) rfl rfl rfl (hdep 13 _ rfl (by kernel_rfl))
                  have e8 : a.tmps.getD 8 undef = .slice aU (n + 1) cU := hfix 8 (by kernel_rfl)
                  refine wp_value (v := .slice aU (n + 1) cU) (w' := W) ?_ (hK _ _ (by simp) hI (Below.refl _ _) rfl)
                  clear hfix hdep hK hk hsz
                  go_simp
                | 15, hk =>
                  cases hk
                  refine .inl ⟨?hg, fun K hK => ?_⟩
                  case hg => exact wanted_is (c := true) (b := true) rfl rfl rfl (hdep 13 _ rfl (by kernel_rfl))
                  have e138 : a.tmps.getD 138 undef = .slice aU (n + 1) cU := hdep 14 _ rfl (by kernel_rfl)
                  refine wp_value (v := .int .i64 ((n : Int) + 1)) (w' := W) ?_ (hK _ _ (by simp) hI (Below.refl _ _) rfl)
                  clear hfix hdep hK hk hsz
                  go_simp
                | 16, hk =>
                  cases hk
                  refine .inl ⟨?hg, fun K hK => ?_⟩
                  case hg => exact wanted_is (c := true) (b := true) rfl rfl rfl (hdep 13 _ rfl (by kernel_rfl))
                  have e3 : a.tmps.getD 3 undef = .slice aL n cL := hfix 3 (by kernel_rfl)
                  refine wp_value (v := .slice aL n cL) (w' := W) ?_ (hK _ _ (by simp) hI (Below.refl _ _) rfl)
                  clear hfix hdep hK hk hsz
                  go_simp
                | 17, hk =>
                  cases hk
                  refine .inl ⟨?hg, fun K hK => ?_⟩
                  case hg => exact wanted_is (c := true) (b := true) rfl rfl rfl (hdep 13 _ rfl (by kernel_rfl))
                  have e140 : a.tmps.getD 140 undef = .slice aL n cL := hdep 16 _ rfl (by kernel_rfl)
                  refine wp_value (v := .int .i64 n) (w' := W) ?_ (hK _ _ (by simp) hI (Below.refl _ _) rfl)
                  clear hfix hdep hK hk hsz
                  go_simp
                | 18, hk =>
                  cases hk
                  refine .inl ⟨?hg, fun K hK => ?_⟩
                  case hg => exact wanted_is (c := true) (b := true) rfl rfl rfl (hdep 13 _ rfl (by kernel_rfl))
                  have e141 : a.tmps.getD 141 undef = .int .i64 n := hdep 17 _ rfl (by kernel_rfl)
                  refine wp_value (v := .int .i64 ((n : Int) + 1)) (w' := W) ?_ (hK _ _ (by simp) hI (Below.refl _ _) rfl)
                  clear hfix hdep hK hk hsz
                  go_simp
                | 19, hk =>
                  cases hk
                  refine .inl ⟨?hg, fun K hK => ?_⟩
                  case hg => exact wanted_is (c := true) (b := true) rfl rfl rfl (hdep 13 _ rfl (by kernel_rfl))
                  have e139 : a.tmps.getD 139 undef = .int .i64 ((n : Int) + 1) := hdep 15 _ rfl (by kernel_rfl)
                  have e142 : a.tmps.getD 142 undef = .int .i64 ((n : Int) + 1) := hdep 18 _ rfl (by kernel_rfl)
                  refine wp_value (v := .bool true) (w' := W) ?_ (hK _ _ (by simp) hI (Below.refl _ _) rfl)
                  clear hfix hdep hK hk hsz
                  go_simp
                | 20, hk =>
                  cases hk
                  refine .inl ⟨wanted_none rfl, fun K hK => ?_⟩
                  have e137 : a.tmps.getD 137 undef = .bool true := hdep 13 _ rfl (by kernel_rfl)
                  have e143 : a.tmps.getD 143 undef = .bool true := hdep 19 _ rfl (by kernel_rfl)
                  refine wp_value (v := .bool true) (w' := W) ?_ (hK _ _ (by simp) hI (Below.refl _ _) rfl)
                  clear hfix hdep hK hk hsz
                  go_simp
                | 21, hk =>
                  cases hk
                  refine .inl ⟨wanted_none rfl, fun K hK => ?_⟩
                  have e144 : a.tmps.getD 144 undef = .bool true := hdep 20 _ rfl (by kernel_rfl)
                  refine wp_value (v := .bool true) (w' := W) ?_ (hK _ _ (by simp) hI (Below.refl _ _) rfl)
                  clear hfix hdep hK hk hsz
                  go_simp
                | 22, hk =>
                  cases hk
                  refine .inl ⟨?hg, fun K hK => ?_⟩
                  case hg => exact wanted_is (c := true) (b := true) rfl rfl rfl (hdep 21 _ rfl (by kernel_rfl))
                  have e9 : a.tmps.getD 9 undef = .slice aT n cT := hfix 9 (by kernel_rfl)
                  refine wp_value (v := .slice aT n cT) (w' := W) ?_ (hK _ _ (by simp) hI (Below.refl _ _) rfl)
                  clear hfix hdep hK hk hsz
                  go_simp
                | 23, hk =>
                  cases hk
                  refine .inl ⟨?hg, fun K hK => ?_⟩
                  case hg => exact wanted_is (c := true) (b := true) rfl rfl rfl (hdep 21 _ rfl (by kernel_rfl))
                  have e146 : a.tmps.getD 146 undef = .slice aT n cT := hdep 22 _ rfl (by kernel_rfl)
                  refine wp_value (v := .int .i64 n) (w' := W) ?_ (hK _ _ (by simp) hI (Below.refl _ _) rfl)
                  clear hfix hdep hK hk hsz
                  go_simp
                | 24, hk =>
                  cases hk
                  refine .inl ⟨?hg, fun K hK => ?_⟩
                  case hg => exact wanted_is (c := true) (b := true) rfl rfl rfl (hdep 21 _ rfl (by kernel_rfl))
                  have e3 : a.tmps.getD 3 undef = .slice aL n cL := hfix 3 (by kernel_rfl)
                  refine wp_value (v := .slice aL n cL) (w' := W) ?_ (hK _ _ (by simp) hI (Below.refl _ _) rfl)
                  clear hfix hdep hK hk hsz
                  go_simp
                | 25, hk =>
                  cases hk
                  refine .inl ⟨?hg, fun K hK => ?_⟩
                  case hg => exact wanted_is (c := true) (b := true) rfl rfl rfl (hdep 21 _ rfl (by kernel_rfl))
                  have e148 : a.tmps.getD 148 undef = .slice aL n cL := hdep 24 _ rfl (by kernel_rfl)
                  refine wp_value (v := .int .i64 n) (w' := W) ?_ (hK _ _ (by simp) hI (Below.refl _ _) rfl)
                  clear hfix hdep hK hk hsz
                  go_simp
                | 26, hk =>
                  cases hk
                  refine .inl ⟨?hg, fun K hK => ?_⟩
                  case hg => exact wanted_is (c := true) (b := true) rfl rfl rfl (hdep 21 _ rfl (by kernel_rfl))
                  have e147 : a.tmps.getD 147 undef = .int .i64 n := hdep 23 _ rfl (by kernel_rfl)
                  have e149 : a.tmps.getD 149 undef = .int .i64 n := hdep 25 _ rfl (by kernel_rfl)
                  refine wp_value (v := .bool true) (w' := W) ?_ (hK _ _ (by simp) hI (Below.refl _ _) rfl)
                  clear hfix hdep hK hk hsz
                  go_simp
                | 27, hk =>
                  cases hk
                  refine .inl ⟨wanted_none rfl, fun K hK => ?_⟩
                  have e145 : a.tmps.getD 145 undef = .bool true := hdep 21 _ rfl (by kernel_rfl)
                  have e150 : a.tmps.getD 150 undef = .bool true := hdep 26 _ rfl (by kernel_rfl)
                  refine wp_value (v := .bool true) (w' := W) ?_ (hK _ _ (by simp) hI (Below.refl _ _) rfl)
                  clear hfix hdep hK hk hsz
                  go_simp
                | 28, hk =>
                  cases hk
                  refine .inl ⟨wanted_none rfl, fun K hK => ?_⟩
                  have e151 : a.tmps.getD 151 undef = .bool true := hdep 27 _ rfl (by kernel_rfl)
                  refine wp_value (v := .bool true) (w' := W) ?_ (hK _ _ (by simp) hI (Below.refl _ _) rfl)
                  clear hfix hdep hK hk hsz
                  go_simp
                | 29, hk =>
                  cases hk
                  refine .inl ⟨?hg, fun K hK => ?_⟩
                  case hg => exact wanted_is (c := true) (b := true) rfl rfl rfl (hdep 28 _ rfl (by kernel_rfl))
                  have e13 : a.tmps.getD 13 undef = .int .i64 y2 := hfix 13 (by kernel_rfl)
                  refine wp_value (v := .int .i64 y2) (w' := W) ?_ (hK _ _ (by simp) hI (Below.refl _ _) rfl)
                  clear hfix hdep hK hk hsz
                  go_simp
                | 30, hk =>
                  cases hk
                  refine .inl ⟨?hg, fun K hK => ?_⟩
                  case hg => exact wanted_is (c := true) (b := true) rfl rfl rfl (hdep 28 _ rfl (by kernel_rfl))
                  have e15 : a.tmps.getD 15 undef = .int .i64 y2 := hfix 15 (by kernel_rfl)
                  refine wp_value (v := .int .i64 y2) (w' := W) ?_ (hK _ _ (by simp) hI (Below.refl _ _) rfl)
                  clear hfix hdep hK hk hsz
                  go_simp
                | 31, hk =>
                  cases hk
                  refine .inl ⟨?hg, fun K hK => ?_⟩
                  case hg => exact wanted_is (c := true) (b := true) rfl rfl rfl (hdep 28 _ rfl (by kernel_rfl))
                  have e153 : a.tmps.getD 153 undef = .int .i64 y2 := hdep 29 _ rfl (by kernel_rfl)
                  have e154 : a.tmps.getD 154 undef = .int .i64 y2 := hdep 30 _ rfl (by kernel_rfl)
                  refine wp_value (v := .bool true) (w' := W) ?_ (hK _ _ (by simp) hI (Below.refl _ _) rfl)
                  clear hfix hdep hK hk hsz
                  go_simp
                | 32, hk =>
                  cases hk
                  refine .inl ⟨wanted_none rfl, fun K hK => ?_⟩
                  have e152 : a.tmps.getD 152 undef = .bool true := hdep 28 _ rfl (by kernel_rfl)
                  have e155 : a.tmps.getD 155 undef = .bool true := hdep 31 _ rfl (by kernel_rfl)
                  refine wp_value (v := .bool true) (w' := W) ?_ (hK _ _ (by simp) hI (Below.refl _ _) rfl)
                  clear hfix hdep hK hk hsz
                  go_simp
                | 33, hk =>
                  cases hk
                  refine .inl ⟨wanted_none rfl, fun K hK => ?_⟩
                  have e156 : a.tmps.getD 156 undef = .bool true := hdep 32 _ rfl (by kernel_rfl)
                  refine wp_value (v := .bool true) (w' := W) ?_ (hK _ _ (by simp) hI (Below.refl _ _) rfl)
                  clear hfix hdep hK hk hsz
                  go_simp
                | 34, hk =>
                  cases hk
                  refine .inl ⟨?hg, fun K hK => ?_⟩
                  case hg => exact wanted_is (c := true) (b := true) rfl rfl rfl (hdep 33 _ rfl (by kernel_rfl))
                  have e17 : a.tmps.getD 17 undef = .slice aA KA.length cA := hfix 17 (by kernel_rfl)
                  refine wp_value (v := .slice aA KA.length cA) (w' := W) ?_ (hK _ _ (by simp) hI (Below.refl _ _) rfl)
                  clear hfix hdep hK hk hsz
                  go_simp
                | 35, hk =>
                  cases hk
                  refine .inl ⟨?hg, fun K hK => ?_⟩
                  case hg => exact wanted_is (c := true) (b := true) rfl rfl rfl (hdep 33 _ rfl (by kernel_rfl))
                  have e18 : a.tmps.getD 18 undef = .pointer (some ⟨bb, 0, none⟩) := hfix 18 (by kernel_rfl)
                  obtain ⟨hbl, c0, c1⟩ := hI.B.box; (try dsimp only at c0 c1)
                  refine wp_value (v := .agg #[.slice b.a b.st.vals.length b.c, .int .i64 b.st.sum]) (w' := W) ?_ (hK _ _ (by simp) hI (Below.refl _ _) rfl)
                  clear hfix hdep hK hk hsz
                  go_simp
                | 36, hk =>
                  cases hk
                  refine .inl ⟨?hg, fun K hK => ?_⟩
                  case hg => exact wanted_is (c := true) (b := true) rfl rfl rfl (hdep 33 _ rfl (by kernel_rfl))
                  have e158 : a.tmps.getD 158 undef = .slice aA KA.length cA := hdep 34 _ rfl (by kernel_rfl)
                  have e159 : a.tmps.getD 159 undef = .agg #[.slice b.a b.st.vals.length b.c, .int .i64 b.st.sum] := hdep 35 _ rfl (by kernel_rfl)
                  have hcon := qPI W hI.A hI.B.kids
                  refine wp_calls 42 #[.slice aA KA.length cA, .agg #[.slice b.a b.st.vals.length b.c, .int .i64 b.st.sum]] ?_ hcon ?_
                  · clear hfix hdep hK hk hsz hcon
                    go_simp
                    try rfl
                  · rintro e W2 ⟨a7, c7, rfl, t7, A⟩
                    exact ⟨_, rfl, hK _ _ (by simp) (hI.below A) A ⟨a7, c7, rfl, t7⟩⟩
                | 37, hk =>
                  cases hk
                  refine .inl ⟨?hg, fun K hK => ?_⟩
                  case hg => exact wanted_is (c := true) (b := true) rfl rfl rfl (hdep 33 _ rfl (by kernel_rfl))
                  have e17 : a.tmps.getD 17 undef = .slice aA KA.length cA := hfix 17 (by kernel_rfl)
                  refine wp_value (v := .slice aA KA.length cA) (w' := W) ?_ (hK _ _ (by simp) hI (Below.refl _ _) rfl)
                  clear hfix hdep hK hk hsz
                  go_simp
                | 38, hk =>
                  cases hk
                  refine .inl ⟨?hg, fun K hK => ?_⟩
                  case hg => exact wanted_is (c := true) (b := true) rfl rfl rfl (hdep 33 _ rfl (by kernel_rfl))
                  have e18 : a.tmps.getD 18 undef = .pointer (some ⟨bb, 0, none⟩) := hfix 18 (by kernel_rfl)
                  obtain ⟨hbl, c0, c1⟩ := hI.B.box; (try dsimp only at c0 c1)
                  refine wp_value (v := .agg #[.slice b.a b.st.vals.length b.c, .int .i64 b.st.sum]) (w' := W) ?_ (hK _ _ (by simp) hI (Below.refl _ _) rfl)
                  clear hfix hdep hK hk hsz
                  go_simp
                | 39, hk =>
                  cases hk
                  refine .inl ⟨?hg, fun K hK => ?_⟩
                  case hg => exact wanted_is (c := true) (b := true) rfl rfl rfl (hdep 33 _ rfl (by kernel_rfl))
                  have e161 : a.tmps.getD 161 undef = .slice aA KA.length cA := hdep 37 _ rfl (by kernel_rfl)
                  have e162 : a.tmps.getD 162 undef = .agg #[.slice b.a b.st.vals.length b.c, .int .i64 b.st.sum] := hdep 38 _ rfl (by kernel_rfl)
                  have hcon := qPS W hI.A hI.B.kids
                  refine wp_calls 50 #[.slice aA KA.length cA, .agg #[.slice b.a b.st.vals.length b.c, .int .i64 b.st.sum]] ?_ hcon ?_
                  · clear hfix hdep hK hk hsz hcon
                    go_simp
                    try rfl
                  · rintro e W2 ⟨a7, c7, rfl, t7, A⟩
                    exact ⟨_, rfl, hK _ _ (by simp) (hI.below A) A ⟨a7, c7, rfl, t7⟩⟩
                | 40, hk =>
                  cases hk
                  refine .inl ⟨?hg, fun K hK => ?_⟩
                  case hg => exact wanted_is (c := true) (b := true) rfl rfl rfl (hdep 33 _ rfl (by kernel_rfl))
                  obtain ⟨u160, n160, e160, k160⟩ := hdep 36 _ rfl (by kernel_rfl)
                  change a.tmps.getD 160 undef = _ at e160
                  obtain ⟨u163, n163, e163, k163⟩ := hdep 39 _ rfl (by kernel_rfl)
                  change a.tmps.getD 163 undef = _ at e163
                  have hcon := sameR u160 u163 n160 n163 PA W (.inl SPA.out) hPA k160 k163
                  refine wp_calls 49 #[.slice u160 PA.length n160, .slice u163 PA.length n163] ?_ hcon ?_
                  · clear hfix hdep hK hk hsz hcon
                    go_simp
                    try rfl
                  · rintro e W2 ⟨rfl, A⟩
                    exact ⟨_, rfl, hK _ _ (by simp) (hI.below A) A rfl⟩
                | 41, hk =>
                  cases hk
                  refine .inl ⟨wanted_none rfl, fun K hK => ?_⟩
                  have e157 : a.tmps.getD 157 undef = .bool true := hdep 33 _ rfl (by kernel_rfl)
                  have e164 : a.tmps.getD 164 undef = .bool true := hdep 40 _ rfl (by kernel_rfl)
                  refine wp_value (v := .bool true) (w' := W) ?_ (hK _ _ (by simp) hI (Below.refl _ _) rfl)
                  clear hfix hdep hK hk hsz
                  go_simp
                | 42, hk =>
                  cases hk
                  refine .inl ⟨wanted_none rfl, fun K hK => ?_⟩
                  have e165 : a.tmps.getD 165 undef = .bool true := hdep 41 _ rfl (by kernel_rfl)
                  refine wp_value (v := .bool true) (w' := W) ?_ (hK _ _ (by simp) hI (Below.refl _ _) rfl)
                  clear hfix hdep hK hk hsz
                  go_simp
                | 43, hk =>
                  cases hk
                  refine .inl ⟨?hg, fun K hK => ?_⟩
                  case hg => exact wanted_is (c := true) (b := true) rfl rfl rfl (hdep 42 _ rfl (by kernel_rfl))
                  have e22 : a.tmps.getD 22 undef = .bool mb := hfix 22 (by kernel_rfl)
                  refine wp_value (v := .bool mb) (w' := W) ?_ (hK _ _ (by simp) hI (Below.refl _ _) rfl)
                  clear hfix hdep hK hk hsz
                  go_simp
                | 44, hk =>
                  cases hk
                  refine .inl ⟨?hg, fun K hK => ?_⟩
                  case hg => exact wanted_is (c := true) (b := true) rfl rfl rfl (hdep 42 _ rfl (by kernel_rfl))
                  have e25 : a.tmps.getD 25 undef = .bool mb := hfix 25 (by kernel_rfl)
                  refine wp_value (v := .bool mb) (w' := W) ?_ (hK _ _ (by simp) hI (Below.refl _ _) rfl)
                  clear hfix hdep hK hk hsz
                  go_simp
                | 45, hk =>
                  cases hk
                  refine .inl ⟨?hg, fun K hK => ?_⟩
                  case hg => exact wanted_is (c := true) (b := true) rfl rfl rfl (hdep 42 _ rfl (by kernel_rfl))
                  have e167 : a.tmps.getD 167 undef = .bool mb := hdep 43 _ rfl (by kernel_rfl)
                  have e168 : a.tmps.getD 168 undef = .bool mb := hdep 44 _ rfl (by kernel_rfl)
                  refine wp_value (v := .bool true) (w' := W) ?_ (hK _ _ (by simp) hI (Below.refl _ _) rfl)
                  clear hfix hdep hK hk hsz
                  go_simp
                | 46, hk =>
                  cases hk
                  refine .inl ⟨wanted_none rfl, fun K hK => ?_⟩
                  have e166 : a.tmps.getD 166 undef = .bool true := hdep 42 _ rfl (by kernel_rfl)
                  have e169 : a.tmps.getD 169 undef = .bool true := hdep 45 _ rfl (by kernel_rfl)
                  refine wp_value (v := .bool true) (w' := W) ?_ (hK _ _ (by simp) hI (Below.refl _ _) rfl)
                  clear hfix hdep hK hk hsz
                  go_simp
                | 47, hk =>
                  cases hk
                  refine .inl ⟨wanted_none rfl, fun K hK => ?_⟩
                  have e170 : a.tmps.getD 170 undef = .bool true := hdep 46 _ rfl (by kernel_rfl)
                  refine wp_value (v := .bool true) (w' := W) ?_ (hK _ _ (by simp) hI (Below.refl _ _) rfl)
                  clear hfix hdep hK hk hsz
                  go_simp
                | 48, hk =>
                  cases hk
                  refine .inl ⟨?hg, fun K hK => ?_⟩
                  case hg => exact wanted_is (c := true) (b := true) rfl rfl rfl (hdep 47 _ rfl (by kernel_rfl))
                  have e20 : a.tmps.getD 20 undef = .slice aD KD.length cD := hfix 20 (by kernel_rfl)
                  refine wp_value (v := .slice aD KD.length cD) (w' := W) ?_ (hK _ _ (by simp) hI (Below.refl _ _) rfl)
                  clear hfix hdep hK hk hsz
                  go_simp
                | 49, hk =>
                  cases hk
                  refine .inl ⟨?hg, fun K hK => ?_⟩
                  case hg => exact wanted_is (c := true) (b := true) rfl rfl rfl (hdep 47 _ rfl (by kernel_rfl))
                  have e23 : a.tmps.getD 23 undef = .slice aF KD.length cF := hfix 23 (by kernel_rfl)
                  refine wp_value (v := .slice aF KD.length cF) (w' := W) ?_ (hK _ _ (by simp) hI (Below.refl _ _) rfl)
                  clear hfix hdep hK hk hsz
                  go_simp
                | 50, hk =>
                  cases hk
                  refine .inl ⟨?hg, fun K hK => ?_⟩
                  case hg => exact wanted_is (c := true) (b := true) rfl rfl rfl (hdep 47 _ rfl (by kernel_rfl))
                  have e172 : a.tmps.getD 172 undef = .slice aD KD.length cD := hdep 48 _ rfl (by kernel_rfl)
                  have e173 : a.tmps.getD 173 undef = .slice aF KD.length cF := hdep 49 _ rfl (by kernel_rfl)
                  have hcon := sameR aD aF cD cF KD W (.inl SKD.out) hKD hI.D hI.F
                  refine wp_calls 49 #[.slice aD KD.length cD, .slice aF KD.length cF] ?_ hcon ?_
                  · clear hfix hdep hK hk hsz hcon
                    go_simp
                    try rfl
                  · rintro e W2 ⟨rfl, A⟩
                    exact ⟨_, rfl, hK _ _ (by simp) (hI.below A) A rfl⟩
                | 51, hk =>
                  cases hk
                  refine .inl ⟨wanted_none rfl, fun K hK => ?_⟩
                  have e171 : a.tmps.getD 171 undef = .bool true := hdep 47 _ rfl (by kernel_rfl)
                  have e174 : a.tmps.getD 174 undef = .bool true := hdep 50 _ rfl (by kernel_rfl)
                  refine wp_value (v := .bool true) (w' := W) ?_ (hK _ _ (by simp) hI (Below.refl _ _) rfl)
                  clear hfix hdep hK hk hsz
                  go_simp
                | 52, hk =>
                  cases hk
                  refine .inl ⟨wanted_none rfl, fun K hK => ?_⟩
                  have e175 : a.tmps.getD 175 undef = .bool true := hdep 51 _ rfl (by kernel_rfl)
                  refine wp_value (v := .bool true) (w' := W) ?_ (hK _ _ (by simp) hI (Below.refl _ _) rfl)
                  clear hfix hdep hK hk hsz
                  go_simp
                | 53, hk =>
                  cases hk
                  refine .inl ⟨?hg, fun K hK => ?_⟩
                  case hg => exact wanted_is (c := true) (b := true) rfl rfl rfl (hdep 52 _ rfl (by kernel_rfl))
                  have e21 : a.tmps.getD 21 undef = .pointer (some ⟨eb, 0, none⟩) := hfix 21 (by kernel_rfl)
                  refine wp_value (v := .pointer (some ⟨eb, 1, none⟩)) (w' := W) ?_ (hK _ _ (by simp) hI (Below.refl _ _) rfl)
                  clear hfix hdep hK hk hsz
                  go_simp
                | 54, hk =>
                  cases hk
                  refine .inl ⟨?hg, fun K hK => ?_⟩
                  case hg => exact wanted_is (c := true) (b := true) rfl rfl rfl (hdep 52 _ rfl (by kernel_rfl))
                  have e177 : a.tmps.getD 177 undef = .pointer (some ⟨eb, 1, none⟩) := hdep 53 _ rfl (by kernel_rfl)
                  obtain ⟨hbl, c0, c1⟩ := hI.E.box; (try dsimp only at c0 c1)
                  refine wp_value (v := .int .i64 ey.sum) (w' := W) ?_ (hK _ _ (by simp) hI (Below.refl _ _) rfl)
                  clear hfix hdep hK hk hsz
                  go_simp
                | 55, hk =>
                  cases hk
                  refine .inl ⟨?hg, fun K hK => ?_⟩
                  case hg => exact wanted_is (c := true) (b := true) rfl rfl rfl (hdep 52 _ rfl (by kernel_rfl))
                  have e24 : a.tmps.getD 24 undef = .pointer (some ⟨gb, 0, none⟩) := hfix 24 (by kernel_rfl)
                  refine wp_value (v := .pointer (some ⟨gb, 1, none⟩)) (w' := W) ?_ (hK _ _ (by simp) hI (Below.refl _ _) rfl)
                  clear hfix hdep hK hk hsz
                  go_simp
                | 56, hk =>
                  cases hk
                  refine .inl ⟨?hg, fun K hK => ?_⟩
                  case hg => exact wanted_is (c := true) (b := true) rfl rfl rfl (hdep 52 _ rfl (by kernel_rfl))
                  have e179 : a.tmps.getD 179 undef = .pointer (some ⟨gb, 1, none⟩) := hdep 55 _ rfl (by kernel_rfl)
                  obtain ⟨hbl, c0, c1⟩ := hI.G.box; (try dsimp only at c0 c1)
                  refine wp_value (v := .int .i64 ey.sum) (w' := W) ?_ (hK _ _ (by simp) hI (Below.refl _ _) rfl)
                  clear hfix hdep hK hk hsz
                  go_simp
                | 57, hk =>
                  cases hk
                  refine .inl ⟨?hg, fun K hK => ?_⟩
                  case hg => exact wanted_is (c := true) (b := true) rfl rfl rfl (hdep 52 _ rfl (by kernel_rfl))
                  have e178 : a.tmps.getD 178 undef = .int .i64 ey.sum := hdep 54 _ rfl (by kernel_rfl)
                  have e180 : a.tmps.getD 180 undef = .int .i64 ey.sum := hdep 56 _ rfl (by kernel_rfl)
                  refine wp_value (v := .bool true) (w' := W) ?_ (hK _ _ (by simp) hI (Below.refl _ _) rfl)
                  clear hfix hdep hK hk hsz
                  go_simp
                | 58, hk =>
                  cases hk
                  refine .inl ⟨wanted_none rfl, fun K hK => ?_⟩
                  have e176 : a.tmps.getD 176 undef = .bool true := hdep 52 _ rfl (by kernel_rfl)
                  have e181 : a.tmps.getD 181 undef = .bool true := hdep 57 _ rfl (by kernel_rfl)
                  refine wp_value (v := .bool true) (w' := W) ?_ (hK _ _ (by simp) hI (Below.refl _ _) rfl)
                  clear hfix hdep hK hk hsz
                  go_simp
                | 59, hk =>
                  cases hk
                  refine .inl ⟨wanted_none rfl, fun K hK => ?_⟩
                  have e182 : a.tmps.getD 182 undef = .bool true := hdep 58 _ rfl (by kernel_rfl)
                  refine wp_value (v := .bool true) (w' := W) ?_ (hK _ _ (by simp) hI (Below.refl _ _) rfl)
                  clear hfix hdep hK hk hsz
                  go_simp
                | 60, hk =>
                  cases hk
                  refine .inl ⟨?hg, fun K hK => ?_⟩
                  case hg => exact wanted_is (c := true) (b := true) rfl rfl rfl (hdep 59 _ rfl (by kernel_rfl))
                  have e21 : a.tmps.getD 21 undef = .pointer (some ⟨eb, 0, none⟩) := hfix 21 (by kernel_rfl)
                  refine wp_value (v := .pointer (some ⟨eb, 0, none⟩)) (w' := W) ?_ (hK _ _ (by simp) hI (Below.refl _ _) rfl)
                  clear hfix hdep hK hk hsz
                  go_simp
                | 61, hk =>
                  cases hk
                  refine .inl ⟨?hg, fun K hK => ?_⟩
                  case hg => exact wanted_is (c := true) (b := true) rfl rfl rfl (hdep 59 _ rfl (by kernel_rfl))
                  have e184 : a.tmps.getD 184 undef = .pointer (some ⟨eb, 0, none⟩) := hdep 60 _ rfl (by kernel_rfl)
                  obtain ⟨hbl, c0, c1⟩ := hI.E.box; (try dsimp only at c0 c1)
                  refine wp_value (v := .slice ea ey.vals.length ec) (w' := W) ?_ (hK _ _ (by simp) hI (Below.refl _ _) rfl)
                  clear hfix hdep hK hk hsz
                  go_simp
                | 62, hk =>
                  cases hk
                  refine .inl ⟨?hg, fun K hK => ?_⟩
                  case hg => exact wanted_is (c := true) (b := true) rfl rfl rfl (hdep 59 _ rfl (by kernel_rfl))
                  have e24 : a.tmps.getD 24 undef = .pointer (some ⟨gb, 0, none⟩) := hfix 24 (by kernel_rfl)
                  refine wp_value (v := .pointer (some ⟨gb, 0, none⟩)) (w' := W) ?_ (hK _ _ (by simp) hI (Below.refl _ _) rfl)
                  clear hfix hdep hK hk hsz
                  go_simp
                | 63, hk =>
                  cases hk
                  refine .inl ⟨?hg, fun K hK => ?_⟩
                  case hg => exact wanted_is (c := true) (b := true) rfl rfl rfl (hdep 59 _ rfl (by kernel_rfl))
                  have e186 : a.tmps.getD 186 undef = .pointer (some ⟨gb, 0, none⟩) := hdep 62 _ rfl (by kernel_rfl)
                  obtain ⟨hbl, c0, c1⟩ := hI.G.box; (try dsimp only at c0 c1)
                  refine wp_value (v := .slice ga ey.vals.length gc) (w' := W) ?_ (hK _ _ (by simp) hI (Below.refl _ _) rfl)
                  clear hfix hdep hK hk hsz
                  go_simp
                | 64, hk =>
                  cases hk
                  refine .inl ⟨?hg, fun K hK => ?_⟩
                  case hg => exact wanted_is (c := true) (b := true) rfl rfl rfl (hdep 59 _ rfl (by kernel_rfl))
                  have e185 : a.tmps.getD 185 undef = .slice ea ey.vals.length ec := hdep 61 _ rfl (by kernel_rfl)
                  have e187 : a.tmps.getD 187 undef = .slice ga ey.vals.length gc := hdep 63 _ rfl (by kernel_rfl)
                  have hcon := sameInts_any ea ga ec gc ey.vals W hey hI.E.kids hI.G.kids
                  refine wp_calls 27 #[.slice ea ey.vals.length ec, .slice ga ey.vals.length gc] ?_ hcon ?_
                  · clear hfix hdep hK hk hsz hcon
                    go_simp
                    try rfl
                  · rintro e W2 ⟨rfl, A⟩
                    exact ⟨_, rfl, hK _ _ (by simp) (hI.below A) A rfl⟩
                | 65, hk =>
                  cases hk
                  refine .inl ⟨wanted_none rfl, fun K hK => ?_⟩
                  have e183 : a.tmps.getD 183 undef = .bool true := hdep 59 _ rfl (by kernel_rfl)
                  have e188 : a.tmps.getD 188 undef = .bool true := hdep 64 _ rfl (by kernel_rfl)
                  refine wp_value (v := .bool true) (w' := W) ?_ (hK _ _ (by simp) hI (Below.refl _ _) rfl)
                  clear hfix hdep hK hk hsz
                  go_simp
                | 66, hk =>
                  cases hk
                  refine .inl ⟨wanted_none rfl, fun K hK => ?_⟩
                  have e189 : a.tmps.getD 189 undef = .bool true := hdep 65 _ rfl (by kernel_rfl)
                  refine wp_value (v := .bool true) (w' := W) ?_ (hK _ _ (by simp) hI (Below.refl _ _) rfl)
                  clear hfix hdep hK hk hsz
                  go_simp
                | 67, hk =>
                  cases hk
                  refine .inl ⟨?hg, fun K hK => ?_⟩
                  case hg => exact wanted_is (c := true) (b := true) rfl rfl rfl (hdep 66 _ rfl (by kernel_rfl))
                  have e26 : a.tmps.getD 26 undef = .pointer (some ⟨hb, 0, none⟩) := hfix 26 (by kernel_rfl)
                  obtain ⟨hbl, c0, c1⟩ := hI.H.box; (try dsimp only at c0 c1)
                  refine wp_value (v := .agg #[.slice h.a h.st.vals.length h.c, .int .i64 h.st.sum]) (w' := W) ?_ (hK _ _ (by simp) hI (Below.refl _ _) rfl)
                  clear hfix hdep hK hk hsz
                  go_simp
                | 68, hk =>
                  cases hk
                  refine .inl ⟨?hg, fun K hK => ?_⟩
                  case hg => exact wanted_is (c := true) (b := true) rfl rfl rfl (hdep 66 _ rfl (by kernel_rfl))
                  have e27 : a.tmps.getD 27 undef = .pointer (some ⟨ib, 0, none⟩) := hfix 27 (by kernel_rfl)
                  obtain ⟨hbl, c0, c1⟩ := hI.I.box; (try dsimp only at c0 c1)
                  refine wp_value (v := .agg #[.slice i.a i.st.vals.length i.c, .int .i64 i.st.sum]) (w' := W) ?_ (hK _ _ (by simp) hI (Below.refl _ _) rfl)
                  clear hfix hdep hK hk hsz
                  go_simp
                | 69, hk =>
                  cases hk
                  refine .inl ⟨?hg, fun K hK => ?_⟩
                  case hg => exact wanted_is (c := true) (b := true) rfl rfl rfl (hdep 66 _ rfl (by kernel_rfl))
                  have e191 : a.tmps.getD 191 undef = .agg #[.slice h.a h.st.vals.length h.c, .int .i64 h.st.sum] := hdep 67 _ rfl (by kernel_rfl)
                  have e192 : a.tmps.getD 192 undef = .agg #[.slice i.a i.st.vals.length i.c, .int .i64 i.st.sum] := hdep 68 _ rfl (by kernel_rfl)
                  have hcon := iSLR h i W SH.out SI.out hI.H.kids hI.I.kids
                  refine wp_calls 44 #[.agg #[.slice h.a h.st.vals.length h.c, .int .i64 h.st.sum], .agg #[.slice i.a i.st.vals.length i.c, .int .i64 i.st.sum]] ?_ hcon ?_
                  · clear hfix hdep hK hk hsz hcon
                    go_simp
                    try rfl
                  · rintro e W2 ⟨rfl, A⟩
                    exact ⟨_, rfl, hK _ _ (by simp) (hI.below A) A (congrArg Value.bool HBL.out.symm)⟩
                | 70, hk =>
                  cases hk
                  refine .inl ⟨?hg, fun K hK => ?_⟩
                  case hg => exact wanted_is (c := true) (b := true) rfl rfl rfl (hdep 66 _ rfl (by kernel_rfl))
                  have e26 : a.tmps.getD 26 undef = .pointer (some ⟨hb, 0, none⟩) := hfix 26 (by kernel_rfl)
                  obtain ⟨hbl, c0, c1⟩ := hI.H.box; (try dsimp only at c0 c1)
                  refine wp_value (v := .agg #[.slice h.a h.st.vals.length h.c, .int .i64 h.st.sum]) (w' := W) ?_ (hK _ _ (by simp) hI (Below.refl _ _) rfl)
                  clear hfix hdep hK hk hsz
                  go_simp
                | 71, hk =>
                  cases hk
                  refine .inl ⟨?hg, fun K hK => ?_⟩
                  case hg => exact wanted_is (c := true) (b := true) rfl rfl rfl (hdep 66 _ rfl (by kernel_rfl))
                  have e27 : a.tmps.getD 27 undef = .pointer (some ⟨ib, 0, none⟩) := hfix 27 (by kernel_rfl)
                  obtain ⟨hbl, c0, c1⟩ := hI.I.box; (try dsimp only at c0 c1)
                  refine wp_value (v := .agg #[.slice i.a i.st.vals.length i.c, .int .i64 i.st.sum]) (w' := W) ?_ (hK _ _ (by simp) hI (Below.refl _ _) rfl)
                  clear hfix hdep hK hk hsz
                  go_simp
                | 72, hk =>
                  cases hk
                  refine .inl ⟨?hg, fun K hK => ?_⟩
                  case hg => exact wanted_is (c := true) (b := true) rfl rfl rfl (hdep 66 _ rfl (by kernel_rfl))
                  have e194 : a.tmps.getD 194 undef = .agg #[.slice h.a h.st.vals.length h.c, .int .i64 h.st.sum] := hdep 70 _ rfl (by kernel_rfl)
                  have e195 : a.tmps.getD 195 undef = .agg #[.slice i.a i.st.vals.length i.c, .int .i64 i.st.sum] := hdep 71 _ rfl (by kernel_rfl)
                  have hcon := sSLR h i W SH.out SI.out hI.H.kids hI.I.kids
                  refine wp_calls 51 #[.agg #[.slice h.a h.st.vals.length h.c, .int .i64 h.st.sum], .agg #[.slice i.a i.st.vals.length i.c, .int .i64 i.st.sum]] ?_ hcon ?_
                  · clear hfix hdep hK hk hsz hcon
                    go_simp
                    try rfl
                  · rintro e W2 ⟨rfl, A⟩
                    exact ⟨_, rfl, hK _ _ (by simp) (hI.below A) A (congrArg Value.bool HBL.out.symm)⟩
                | 73, hk =>
                  cases hk
                  refine .inl ⟨?hg, fun K hK => ?_⟩
                  case hg => exact wanted_is (c := true) (b := true) rfl rfl rfl (hdep 66 _ rfl (by kernel_rfl))
                  have e193 : a.tmps.getD 193 undef = .bool bl := hdep 69 _ rfl (by kernel_rfl)
                  have e196 : a.tmps.getD 196 undef = .bool bl := hdep 72 _ rfl (by kernel_rfl)
                  refine wp_value (v := .bool true) (w' := W) ?_ (hK _ _ (by simp) hI (Below.refl _ _) rfl)
                  clear hfix hdep hK hk hsz
                  go_simp
                | 74, hk =>
                  cases hk
                  refine .inl ⟨wanted_none rfl, fun K hK => ?_⟩
                  have e190 : a.tmps.getD 190 undef = .bool true := hdep 66 _ rfl (by kernel_rfl)
                  have e197 : a.tmps.getD 197 undef = .bool true := hdep 73 _ rfl (by kernel_rfl)
                  refine wp_value (v := .bool true) (w' := W) ?_ (hK _ _ (by simp) hI (Below.refl _ _) rfl)
                  clear hfix hdep hK hk hsz
                  go_simp
                | 75, hk =>
                  cases hk
                  refine .inl ⟨wanted_none rfl, fun K hK => ?_⟩
                  have e198 : a.tmps.getD 198 undef = .bool true := hdep 74 _ rfl (by kernel_rfl)
                  refine wp_value (v := .bool true) (w' := W) ?_ (hK _ _ (by simp) hI (Below.refl _ _) rfl)
                  clear hfix hdep hK hk hsz
                  go_simp
                | 76, hk =>
                  cases hk
                  refine .inl ⟨?hg, fun K hK => ?_⟩
                  case hg => exact wanted_is (c := true) (b := true) rfl rfl rfl (hdep 75 _ rfl (by kernel_rfl))
                  have e4 : a.tmps.getD 4 undef = .slice aX X.length cX := hfix 4 (by kernel_rfl)
                  refine wp_value (v := .slice aX X.length cX) (w' := W) ?_ (hK _ _ (by simp) hI (Below.refl _ _) rfl)
                  clear hfix hdep hK hk hsz
                  go_simp
                | 77, hk =>
                  cases hk
                  refine .inl ⟨?hg, fun K hK => ?_⟩
                  case hg => exact wanted_is (c := true) (b := true) rfl rfl rfl (hdep 75 _ rfl (by kernel_rfl))
                  have e200 : a.tmps.getD 200 undef = .slice aX X.length cX := hdep 76 _ rfl (by kernel_rfl)
                  have hcon := iHpR aX cX X W SX.out hI.X
                  refine wp_calls 48 #[.slice aX X.length cX] ?_ hcon ?_
                  · clear hfix hdep hK hk hsz hcon
                    go_simp
                    try rfl
                  · rintro e W2 ⟨rfl, A⟩
                    exact ⟨_, rfl, hK _ _ (by simp) (hI.below A) A (congrArg Value.bool HBX.out.symm)⟩
                | 78, hk =>
                  cases hk
                  refine .inl ⟨?hg, fun K hK => ?_⟩
                  case hg => exact wanted_is (c := true) (b := true) rfl rfl rfl (hdep 75 _ rfl (by kernel_rfl))
                  have e4 : a.tmps.getD 4 undef = .slice aX X.length cX := hfix 4 (by kernel_rfl)
                  refine wp_value (v := .slice aX X.length cX) (w' := W) ?_ (hK _ _ (by simp) hI (Below.refl _ _) rfl)
                  clear hfix hdep hK hk hsz
                  go_simp
                | 79, hk =>
                  cases hk
                  refine .inl ⟨?hg, fun K hK => ?_⟩
                  case hg => exact wanted_is (c := true) (b := true) rfl rfl rfl (hdep 75 _ rfl (by kernel_rfl))
                  have e202 : a.tmps.getD 202 undef = .slice aX X.length cX := hdep 78 _ rfl (by kernel_rfl)
                  have hcon := sHpR aX cX X W SX.out hI.X
                  refine wp_calls 52 #[.slice aX X.length cX] ?_ hcon ?_
                  · clear hfix hdep hK hk hsz hcon
                    go_simp
                    try rfl
                  · rintro e W2 ⟨rfl, A⟩
                    exact ⟨_, rfl, hK _ _ (by simp) (hI.below A) A (congrArg Value.bool HBX.out.symm)⟩
                | 80, hk =>
                  cases hk
                  refine .inl ⟨?hg, fun K hK => ?_⟩
                  case hg => exact wanted_is (c := true) (b := true) rfl rfl rfl (hdep 75 _ rfl (by kernel_rfl))
                  have e201 : a.tmps.getD 201 undef = .bool bx := hdep 77 _ rfl (by kernel_rfl)
                  have e203 : a.tmps.getD 203 undef = .bool bx := hdep 79 _ rfl (by kernel_rfl)
                  refine wp_value (v := .bool true) (w' := W) ?_ (hK _ _ (by simp) hI (Below.refl _ _) rfl)
                  clear hfix hdep hK hk hsz
                  go_simp
                | 81, hk =>
                  cases hk
                  refine .inl ⟨wanted_none rfl, fun K hK => ?_⟩
                  have e199 : a.tmps.getD 199 undef = .bool true := hdep 75 _ rfl (by kernel_rfl)
                  have e204 : a.tmps.getD 204 undef = .bool true := hdep 80 _ rfl (by kernel_rfl)
                  refine wp_value (v := .bool true) (w' := W) ?_ (hK _ _ (by simp) hI (Below.refl _ _) rfl)
                  clear hfix hdep hK hk hsz
                  go_simp
                | 82, hk =>
                  cases hk
                  refine .inl ⟨wanted_none rfl, fun K hK => ?_⟩
                  have e205 : a.tmps.getD 205 undef = .bool true := hdep 81 _ rfl (by kernel_rfl)
                  refine wp_value (v := .bool true) (w' := W) ?_ (hK _ _ (by simp) hI (Below.refl _ _) rfl)
                  clear hfix hdep hK hk hsz
                  go_simp
                | k + 83, hk => cases hk
              case refine_2 =>
                intro a W hI hd hsz hfix hpost
                have e2 : a.tmps.getD 2 undef = .bool true := hpost 82 _ rfl
                have hd' : a.defers = [] := hd
                have hR : (results Try.f5 a.tmps).run Try.prog W = .ok (.bool true) W := by
                  simp [results, Try.results5, go_sem]
                  simpa using e2
                clear hpost hfix hsz hd
                have hB : bodyPost Try.prog Try.f5 (fun e w' => e = Ending.returned (Value.bool true) ∧ Below w.heap.size w w') .ret a W := bodyPost_ret hR hd' ⟨rfl, hI.bel⟩
                first
                  | (dsimp only [Exit.then]; apply_assumption; exact wp_ret hB)
                  | (go_wp2; exact hB)
                  | (unfold Exit.then; dsimp only; apply_assumption; exact wp_ret hB)
end Go.Proofs.Ytokfemlcamnaaaa
