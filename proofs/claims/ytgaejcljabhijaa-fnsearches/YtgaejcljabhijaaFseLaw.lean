/- The law on searches: what is found by trying is the cheapest; with little room no dearer than all split. -/
import Derived.Test.YtgaejcljabhijaaKar
import Derived.Deep.CutBlock
import Derived.Deep.RegionHeld3
namespace Go.Proofs.Ytgaejcljabhijaa
open Go.RowKit

theorem code_wide {base base' : Nat} {w : World} {a : Option Addr} {len : Nat} (h : CodeAt base w a len) (hb : base ≤ base') : CodeAt base' w a len := ⟨h.1, fun hl => by
  obtain ⟨b, off, ha, hbb, hc⟩ := h.2 hl
  exact ⟨b, off, ha, Nat.lt_of_lt_of_le hbb hb, hc⟩⟩

theorem cb_set {w : World} {b t : Nat} {x y : Value} (o s : Int) (R : w.heap[b]? = some (.cells #[x, y] t (0, 0))) : Cb ((w.setCell ⟨b, 0, none⟩ (.int .i64 o)).setCell ⟨b, 1, none⟩ (.int .i64 s)) b o s := by
  have R2 := heap_setCell_same _ b 1 _ _ (.int .i64 s) (heap_setCell_same w b 0 _ _ (.int .i64 o) R)
  exact ⟨(Array.getElem?_eq_some_iff.1 R2).1, cell_of_row _ b 0 _ _ _ R2, cell_of_row _ b 1 _ _ _ R2⟩

def fsePostA (p : Pc) (l : Pl) (y : Int) (av : Option Addr) (cv : Nat) (ab : Option Addr) (cbs : Nat) (b5 : List Int) (o : Int) (s : Int) (aw : Option Addr) (cw : Nat) (ws : List Int) (o3 : Int) (s3 : Int) (o4 : Int) (s4 : Int) (s5 : Int) (a1 : Option Addr) (d1 : Nat) (a2 : Option Addr) (d2 : Nat) (ks : List Int) : Nat → Value → World → Prop
  | 0 => fun v _ => v = .int .i64 1
  | 1 => fun v _ => v = .bool true
  | 2 => fun v _ => v = .bool true
  | 3 => fun v _ => v = .slice av b5.length cv
  | 4 => fun v _ => v = .slice ab b5.length cbs
  | 5 => fun v _ => v = .bool true
  | 6 => fun v _ => v = .bool true
  | 7 => fun v _ => v = .bool true
  | 8 => fun v _ => v = pcV p l
  | 9 => fun v _ => v = .slice av b5.length cv
  | 10 => fun v _ => v = .int .i64 y
  | 11 => fun v _ => v = .agg #[.int .i64 o, .int .i64 s]
  | 12 => fun v _ => v = .agg #[.int .i64 o, .int .i64 s]
  | 13 => fun v _ => v = .bool true
  | 14 => fun v _ => v = .bool true
  | 15 => fun v _ => v = .bool true
  | 16 => fun v _ => v = pcV p l
  | 17 => fun v _ => v = .slice aw ws.length cw
  | 18 => fun v _ => v = .bool true
  | 19 => fun v _ => v = .bool true
  | 20 => fun v _ => v = .bool true
  | 21 => fun v _ => v = .agg #[.int .i64 o3, .int .i64 s3]
  | 22 => fun v _ => v = pcV p l
  | 23 => fun v _ => v = .slice aw ws.length cw
  | 24 => fun v _ => v = .int .i64 y
  | 25 => fun v _ => v = .agg #[.int .i64 o4, .int .i64 s4]
  | 26 => fun v _ => v = .bool false
  | 27 => fun v _ => v = .bool true
  | 28 => fun v _ => v = .bool true
  | 29 => fun v _ => v = .bool true
  | 30 => fun v _ => v = .int .i64 2
  | 31 => fun v _ => v = .bool true
  | 32 => fun v _ => v = .bool true
  | 33 => fun v _ => v = undef
  | 34 => fun v _ => v = undef
  | 35 => fun v _ => v = undef
  | 36 => fun v _ => v = .bool true
  | 37 => fun v _ => v = .bool true
  | 38 => fun v _ => v = .bool true
  | 39 => fun v _ => v = .int .i64 s5
  | 40 => fun v _ => v = .int .i64 s5
  | 41 => fun v _ => v = .bool true
  | 42 => fun v _ => v = .bool true
  | 43 => fun v _ => v = .bool true
  | 44 => fun v _ => v = .slice a1 ks.length d1
  | 45 => fun v _ => v = .slice a2 ks.length d2
  | 46 => fun v _ => v = .bool true
  | 47 => fun v _ => v = .bool true
  | 48 => fun v _ => v = .bool true
  | _ => fun _ _ => True
theorem fsePostA_stab {p : Pc} {l : Pl} {y : Int} {av : Option Addr} {cv : Nat} {ab : Option Addr} {cbs : Nat} {b5 : List Int} {o : Int} {s : Int} {aw : Option Addr} {cw : Nat} {ws : List Int} {o3 : Int} {s3 : Int} {o4 : Int} {s4 : Int} {s5 : Int} {a1 : Option Addr} {d1 : Nat} {a2 : Option Addr} {d2 : Nat} {ks : List Int} (k : Nat) (v : Value) (W W' : World) (h : fsePostA p l y av cv ab cbs b5 o s aw cw ws o3 s3 o4 s4 s5 a1 d1 a2 d2 ks k v W) : fsePostA p l y av cv ab cbs b5 o s aw cw ws o3 s3 o4 s4 s5 a1 d1 a2 d2 ks k v W' := by
  unfold fsePostA at h ⊢
  split at h <;> exact h
def fsePostB (p : Pc) (l : Pl) (y : Int) (av : Option Addr) (cv : Nat) (ab : Option Addr) (cbs : Nat) (b5 : List Int) (o : Int) (s : Int) (aw : Option Addr) (cw : Nat) (ws : List Int) (o3 : Int) (s3 : Int) (o4 : Int) (s4 : Int) (s5 : Int) (a1 : Option Addr) (d1 : Nat) (a2 : Option Addr) (d2 : Nat) (ks : List Int) : Nat → Value → World → Prop
  | 0 => fun v _ => v = .int .i64 1
  | 1 => fun v _ => v = .bool true
  | 2 => fun v _ => v = .bool true
  | 3 => fun v _ => v = .slice av b5.length cv
  | 4 => fun v _ => v = .slice ab b5.length cbs
  | 5 => fun v _ => v = .bool true
  | 6 => fun v _ => v = .bool true
  | 7 => fun v _ => v = .bool true
  | 8 => fun v _ => v = pcV p l
  | 9 => fun v _ => v = .slice av b5.length cv
  | 10 => fun v _ => v = .int .i64 y
  | 11 => fun v _ => v = .agg #[.int .i64 o, .int .i64 s]
  | 12 => fun v _ => v = .agg #[.int .i64 o, .int .i64 s]
  | 13 => fun v _ => v = .bool true
  | 14 => fun v _ => v = .bool true
  | 15 => fun v _ => v = .bool true
  | 16 => fun v _ => v = pcV p l
  | 17 => fun v _ => v = .slice aw ws.length cw
  | 18 => fun v _ => v = .bool true
  | 19 => fun v _ => v = .bool true
  | 20 => fun v _ => v = .bool true
  | 21 => fun v _ => v = .agg #[.int .i64 o3, .int .i64 s3]
  | 22 => fun v _ => v = pcV p l
  | 23 => fun v _ => v = .slice aw ws.length cw
  | 24 => fun v _ => v = .int .i64 y
  | 25 => fun v _ => v = .agg #[.int .i64 o4, .int .i64 s4]
  | 26 => fun v _ => v = .bool false
  | 27 => fun v _ => v = .bool true
  | 28 => fun v _ => v = .bool true
  | 29 => fun v _ => v = .bool true
  | 30 => fun v _ => v = .int .i64 1
  | 31 => fun v _ => v = .bool false
  | 32 => fun v _ => v = .bool false
  | 33 => fun v _ => v = .slice aw ws.length cw
  | 34 => fun v _ => v = .slice ab b5.length cbs
  | 35 => fun v _ => v = .bool true
  | 36 => fun v _ => v = .bool true
  | 37 => fun v _ => v = .bool true
  | 38 => fun v _ => v = .bool true
  | 39 => fun v _ => v = .int .i64 s5
  | 40 => fun v _ => v = .int .i64 s5
  | 41 => fun v _ => v = .bool true
  | 42 => fun v _ => v = .bool true
  | 43 => fun v _ => v = .bool true
  | 44 => fun v _ => v = .slice a1 ks.length d1
  | 45 => fun v _ => v = .slice a2 ks.length d2
  | 46 => fun v _ => v = .bool true
  | 47 => fun v _ => v = .bool true
  | 48 => fun v _ => v = .bool true
  | _ => fun _ _ => True
theorem fsePostB_stab {p : Pc} {l : Pl} {y : Int} {av : Option Addr} {cv : Nat} {ab : Option Addr} {cbs : Nat} {b5 : List Int} {o : Int} {s : Int} {aw : Option Addr} {cw : Nat} {ws : List Int} {o3 : Int} {s3 : Int} {o4 : Int} {s4 : Int} {s5 : Int} {a1 : Option Addr} {d1 : Nat} {a2 : Option Addr} {d2 : Nat} {ks : List Int} (k : Nat) (v : Value) (W W' : World) (h : fsePostB p l y av cv ab cbs b5 o s aw cw ws o3 s3 o4 s4 s5 a1 d1 a2 d2 ks k v W) : fsePostB p l y av cv ab cbs b5 o s aw cw ws o3 s3 o4 s4 s5 a1 d1 a2 d2 ks k v W' := by
  unfold fsePostB at h ⊢
  split at h <;> exact h

set_option maxHeartbeats 32000000 in
set_option maxRecDepth 100000 in
theorem lawSearches (a : Option Addr) (len cap : Nat) (w : World) (hc : len ≤ 1048576 → CodeAt w.heap.size w a len) (hlm : len ≤ 9223372036854775807) :
    Calls Try.prog 3 #[.slice a len cap] w fun e w' => e = .returned (.bool true) ∧ Below w.heap.size w w' := by
  by_cases h0 : 1048576 < len
  · clear hc
    go_enter Try.func3, Try.ntmps3
    go_wp2
    go_ret
    exact ⟨rfl, Below.refl _ _⟩
  have HC := hidOf (hc (by omega))
  clear hc
  go_enter Try.func3, Try.ntmps3
  go_wp2_with (first | (go_at_call 6; go_in))
  refine (drawPiece_any w.heap.size _ a len cap HC.out (Nat.le_refl _)).mono ?_
  rintro e w1 ⟨p, l, rfl, hD, ho1, hb1⟩
  have HD := hidOf hD
  have B1 := hidOf hb1
  have HCap := hidOf (capOf ho1.o2)
  have hr5 : p.rules.length ≤ 5 := hD.r5
  clear hD hb1
  go_wp2_with fail
  obtain ⟨W1, hW1, X1, b1, S1⟩ := boxed w1 p l 29
  rw [← hW1]
  have I1 : Pb W1 w1.heap.size p l := ⟨X1, ho1.is.below b1 (Nat.le_refl _)⟩
  have B2 : Hid (Below w.heap.size w W1) := B1.out.trans (b1.mono B1.out.size)
  obtain ⟨pb, hpb⟩ : ∃ pb, pb = w1.heap.size := ⟨_, rfl⟩
  rw [← hpb] at I1 ⊢
  clear hW1 X1 b1 S1 ho1 hpb B1
  have hs0 := B2.out.size
  refine (drawWid_any w.heap.size _ a len cap (HC.out.below B2.out) hs0).mono ?_
  rintro e w2 ⟨y, hy1, hy2, rfl, b2⟩
  have B3 : Hid (Below w.heap.size w w2) := B2.out.trans (b2.mono hs0)
  have I2 := I1.below b2
  clear I1 B2 b2 hs0
  obtain ⟨hpl, c0, c1, c2, c3, c4⟩ := I2.box
  have hR := HD.out.right
  have hT := allR_ties hR
  have hcn := cnt_le hR
  obtain ⟨n, hn⟩ : ∃ n, n = cntOf p := ⟨_, rfl⟩
  rw [← hn] at hcn
  have hw2 : IntKind.i64.wrap (2 * n) = 2 * n := IntWalk.i64_in _ ⟨by omega, by omega⟩
  have D2 := (Below.refl w2.heap.size w2).drew
  have qN := sCnt_any p l w2.drew HD.out.few.rules (I2.inn.below D2 (Nat.le_refl _)).rules
  rw [← hn] at qN
  have qS := fun W (hb : Below w2.heap.size w2 W) => iSearch_yes p l y (2 * n) W ⟨by omega, by omega⟩ HD.out.few HCap.out (I2.inn.below hb (Nat.le_refl _)) hR
  have hE1 : (srchOf p y (2 * n) (allV p)).2 = 1 := srchOf_room hR hT (by rw [hn]; omega)
  have hB1 := srchOf_best hR hT hE1
  obtain ⟨bs, hbs⟩ : ∃ bs, bs = (srchOf p y (2 * n) (allV p)).1 := ⟨_, rfl⟩
  have hpr : srchOf p y (2 * n) (allV p) = (bs, 1) := by rw [hbs, ← hE1]
  rw [hpr] at qS
  rw [← hbs] at hB1
  unfold pcV at qN qS
  unfold SeAns at qS
  have HB := hidOf hB1
  have hbl : bs.length ≤ 1048576 := by rw [hB1.ties.vals.len]; omega
  clear hE1 hbs hpr hB1 hn
  go_upto_region 5 with fail
  go_region_held3 (fun W => W.cell? ⟨pb, 0, none⟩ = some (.int .i64 p.indent) ∧ W.cell? ⟨pb, 1, none⟩ = some (.slice l.a1 p.rules.length l.c1) ∧ W.cell? ⟨pb, 2, none⟩ = some (.slice l.a2 p.chunks.length l.c2) ∧ W.cell? ⟨pb, 3, none⟩ = some (.slice l.a3 p.spans.length l.c3) ∧ W.cell? ⟨pb, 4, none⟩ = some (.slice l.a4 p.ties.length l.c4)) (first | trivial | go_keep)
    ((first
    | (go_at_call 10; refine qN.mono ?_; rintro e w3 ⟨rfl, hb3⟩; have A3 := D2.trans hb3; have hc3 := (bcell A3).1; have hd3 := (bcell A3).2)
    | (go_at_call 9; refine (qS _ A3).mono ?_; rintro e w4 ⟨hb4, av, cv, rfl, o4⟩; have A4 := A3.trans (hb4.mono A3.size); have hc4 := (bcell A4).1; have hd4 := (bcell A4).2)))
  have B4 : Hid (Below w.heap.size w w4) := B3.out.trans (A4.mono B3.out.size)
  have I4 := I2.below A4
  have V4 : Hid (KidsAt w4 av bs) := KidsAt.of_own o4
  clear qN qS c0 c1 c2 c3 c4 hc3 hd3 hc4 hd4 A3 A4 hb3 hb4 I2 B3 D2 o4 hpl
  obtain ⟨hpl, c0, c1, c2, c3, c4⟩ := I4.box
  have qB := sBest_yes p l y w4 HD.out.few I4.inn hR
  unfold pcV at qB
  go_wp2_with fail
  refine qB.mono ?_
  rintro e w5 ⟨b5, hB5, hb5, ab, cbs, rfl, o5⟩
  have e5 := best_one hB5 HB.out
  subst e5
  obtain ⟨o, ho⟩ : ∃ o, o = costOver p b5 y := ⟨_, rfl⟩
  obtain ⟨s, hs⟩ : ∃ s, s = costSum p b5 := ⟨_, rfl⟩
  unfold coV
  rw [← ho, ← hs]
  have HO := hidOf ho
  have HS := hidOf hs
  clear ho hs hB5 qB c0 c1 c2 c3 c4 hpl
  go_upto_region 7 with fail
  obtain ⟨W5, hW5, C5, y5, S5⟩ := cb_new w5 o s 37
  rw [← hW5]
  have A5 := hb5.trans (y5.mono hb5.size)
  obtain ⟨cb, hcb⟩ : ∃ cb, cb = w5.heap.size := ⟨_, rfl⟩
  rw [← hcb] at C5 ⊢
  have B5 : Hid (Below w.heap.size w W5) := B4.out.trans (A5.mono B4.out.size)
  have I5 := hidOf (I4.below A5)
  have V5 : Hid (KidsAt W5 av b5) := V4.out.below A5 (Nat.le_refl _)
  have U5 : Hid (KidsAt W5 ab b5) := (KidsAt.of_own o5).below y5 (Nat.le_refl _)
  have HC5 := hidOf C5
  clear hW5 S5 hcb y5 A5 I4 V4 B4 hb5 o5 C5
  go_wp2_with fail
  refine (places_any W5.heap.size _ a len cap (code_wide (HC.out.below B5.out) B5.out.size) (Nat.le_refl _)).mono ?_
  rintro e w6 ⟨v6, zs, hzl, hz, rfl, o6, b6⟩
  obtain ⟨aP, cP, rfl⟩ := owns_slice o6
  obtain ⟨gP, rfl⟩ := owns_at o6 (by omega)
  obtain ⟨z0, ez0⟩ : ∃ z0, zs[0]? = some z0 := ⟨_, List.getElem?_eq_getElem (by omega)⟩
  have q0 : w6.cell? ⟨gP, 0, none⟩ = some (.int .i64 z0) := by rw [o6.cellAt 0 (by omega), List.getElem?_map, ez0]; rfl
  have hz0 := hz z0 (List.mem_of_getElem? ez0)
  have m0 : z0.tmod 9 = z0 % 9 := Int.tmod_eq_emod_of_nonneg hz0.1
  have x0 : IntKind.i64.wrap (z0 % 9) = z0 % 9 := IntWalk.i64_in _ ⟨by omega, by omega⟩
  have hgl := (o6.lt gP rfl).2
  have B6 : Hid (Below w.heap.size w w6) := B5.out.trans (b6.mono B5.out.size)
  have I6 := I5.out.below b6
  have V6 : Hid (KidsAt w6 av b5) := V5.out.below b6 (Nat.le_refl _)
  have U6 : Hid (KidsAt w6 ab b5) := U5.out.below b6 (Nat.le_refl _)
  have HC6 := hidOf (HC5.out.below b6)
  have hf0 : 0 ≤ z0 % 9 ∧ z0 % 9 ≤ 8 := by omega
  have qF := iSearch_yes p l y (z0 % 9) w6 ⟨by omega, by omega⟩ HD.out.few HCap.out I6.inn hR
  have hsm := srchOf_some (wd := y) (budget := z0 % 9) hR hT
  have hbb := srchOf_best (p := p) (wd := y) (budget := z0 % 9) hR hT
  obtain ⟨ws, hws⟩ : ∃ ws, ws = (srchOf p y (z0 % 9) (allV p)).1 := ⟨_, rfl⟩
  obtain ⟨sm, hsmm⟩ : ∃ sm, sm = (srchOf p y (z0 % 9) (allV p)).2 := ⟨_, rfl⟩
  have hpr : srchOf p y (z0 % 9) (allV p) = (ws, sm) := by rw [hws, hsmm]
  rw [hpr] at qF hsm hbb
  dsimp only at hsm hbb
  have HW := hidOf hsm
  have HWB := hidOf hbb
  have hwl : ws.length ≤ 1048576 := by rw [hsm.1.vals.len]; omega
  unfold pcV at qF
  clear hws hsmm hpr hsm hbb hz hzl ez0 I5 V5 U5 HC5 B5 o6 b6
  obtain ⟨hpl, c0, c1, c2, c3, c4⟩ := I6.box
  go_wp2_with fail
  refine qF.mono ?_
  rintro e w7 ⟨b7, aw, cw, rfl, o7⟩
  dsimp only at o7
  dsimp only
  have B7 : Hid (Below w.heap.size w w7) := B6.out.trans (b7.mono B6.out.size)
  have I7 := I6.below b7
  have V7 : Hid (KidsAt w7 av b5) := V6.out.below b7 (Nat.le_refl _)
  have U7 : Hid (KidsAt w7 ab b5) := U6.out.below b7 (Nat.le_refl _)
  have HC7 := hidOf (HC6.out.below b7)
  have K7 : Hid (KidsAt w7 aw ws) := KidsAt.of_own o7
  clear qF c0 c1 c2 c3 c4 hpl I6 V6 U6 HC6 B6 b7 o7 q0 m0 x0 hgl
  obtain ⟨hpl, c0, c1, c2, c3, c4⟩ := I7.box
  have qA := fun W (hb : Below w7.heap.size w7 W) => sSpl_any p l W (by omega) (I7.inn.below hb (Nat.le_refl _)).rules
  have hal' : (allV p).length ≤ 1048576 := by rw [allV_len]; omega
  have qC := fun W a c (hb : Below w7.heap.size w7 W) (hk : KidsAt W a (allV p)) => sCost_yes p l a c (allV p) y W HD.out.few hal' (I7.inn.below hb (Nat.le_refl _)) hk hR hT.vals
  unfold pcV at qA qC
  unfold CoAns coV at qC
  obtain ⟨o3, ho3⟩ : ∃ o3, o3 = costOver p (allV p) y := ⟨_, rfl⟩
  obtain ⟨s3, hs3⟩ : ∃ s3, s3 = costSum p (allV p) := ⟨_, rfl⟩
  rw [← ho3, ← hs3] at qC
  have HO3 := hidOf ho3
  have HS3 := hidOf hs3
  clear ho3 hs3
  go_upto_region 9 with fail
  go_cut [13] from 14 (fun v wx => ∃ db, v = .pointer (some ⟨db, 0, none⟩) ∧ Below w7.heap.size w7 wx ∧ Cb wx db o3 s3)
  case first =>
    have D7 : Below w7.heap.size w7 w7.drew := (Below.refl w7.heap.size w7).drew
    have D7a : ∀ ob : Obj, Below w7.heap.size w7 (w7.alloc ob).drew := fun ob => ((Below.refl w7.heap.size w7).alloc (Nat.le_refl _) ob).drew
    have hal : ∀ (ob : Obj) (b k : Nat), b < w7.heap.size → (w7.alloc ob).cell? ⟨b, k, none⟩ = w7.cell? ⟨b, k, none⟩ := fun ob b k h => ((Below.refl w7.heap.size w7).alloc (Nat.le_refl _) ob).cell (p := ⟨b, k, none⟩) h
    have hn7 : w7.heap.size ≠ pb := by omega
    have hn7' : pb ≠ w7.heap.size := by omega
    go_region_held3 (fun W => W.cell? ⟨pb, 0, none⟩ = some (.int .i64 p.indent) ∧ W.cell? ⟨pb, 1, none⟩ = some (.slice l.a1 p.rules.length l.c1) ∧ W.cell? ⟨pb, 2, none⟩ = some (.slice l.a2 p.chunks.length l.c2) ∧ W.cell? ⟨pb, 3, none⟩ = some (.slice l.a3 p.spans.length l.c3) ∧ W.cell? ⟨pb, 4, none⟩ = some (.slice l.a4 p.ties.length l.c4)) (first | trivial | go_keep)
      ((first
      | (go_at_call 14; first
        | (refine (qA _ D7).mono ?_; rintro e w8 ⟨hb8, a8, c8, rfl, o8⟩; have A8 : Below w7.heap.size w7 w8 := D7.trans hb8; have hc8 := (bcell A8).1; have hd8 := (bcell A8).2; have hn8 : w8.heap.size ≠ pb := (by have := A8.size; omega); have hn8' : pb ≠ w8.heap.size := hn8.symm; have hl8 : pb < w8.heap.size := (by have := A8.size; omega); have hal8 : ∀ (ob : Obj) (b k : Nat), b < w8.heap.size → (w8.alloc ob).cell? ⟨b, k, none⟩ = w8.cell? ⟨b, k, none⟩ := fun ob b k h => ((Below.refl w8.heap.size w8).alloc (Nat.le_refl _) ob).cell (p := ⟨b, k, none⟩) h)
        | (refine (qA _ (D7a _)).mono ?_; rintro e w8 ⟨hb8, a8, c8, rfl, o8⟩; have A8 : Below w7.heap.size w7 w8 := (D7a _).trans (hb8.mono (D7a _).size); have hc8 := (bcell A8).1; have hd8 := (bcell A8).2; obtain ⟨hx, hx0, hx1, hx2, hx3⟩ := box_kept hb8))
      | (go_at_call 13; first
        | (refine (qC _ _ _ A8 (.of_own o8)).mono ?_; rintro e w9 ⟨rfl, hb9⟩; have R9 : w9.heap[w7.heap.size]? = some (.cells #[.int .i64 0, .int .i64 0] 37 (0, 0)) := keep_bel hx hb9; have A9 : Below w7.heap.size w7 w9 := A8.trans (hb9.mono A8.size); have hc9 := (bcell A9).1; have hd9 := (bcell A9).2; have r0 := cell_of_row w9 _ 0 _ _ _ R9; have r1 := cell_of_row w9 _ 1 _ _ _ R9; have r2 := frozen_of_row w9 _ 0 _ _ R9; have r3 := frozen_of_row w9 _ 1 _ _ R9; simp only [List.getElem?_toArray, List.getElem?_cons_zero, List.getElem?_cons_succ] at r0 r1)
        | (refine (qC _ _ _ A8 (.of_own o8)).mono ?_; rintro e w9 ⟨rfl, hb9⟩; have A9 : Below w7.heap.size w7 w9 := A8.trans (hb9.mono A8.size); have hc9 := (bcell A9).1; have hd9 := (bcell A9).2; have hn9 : w9.heap.size ≠ pb := (by have := A9.size; omega); have hn9' : pb ≠ w9.heap.size := hn9.symm; have hl9 : pb < w9.heap.size := (by have := A9.size; omega))
        | (refine (qC _ _ _ (A8.alloc A8.size _) ((KidsAt.of_own o8).below ((Below.refl _ _).alloc (Nat.le_refl _) _) (Nat.le_refl _))).mono ?_; rintro e w9 ⟨rfl, hb9⟩; have A9 : Below w7.heap.size w7 w9 := (A8.alloc A8.size _).trans (hb9.mono (A8.alloc A8.size _).size); have hc9 := (bcell A9).1; have hd9 := (bcell A9).2; have R9 : w9.heap[w8.heap.size]? = some (.cells #[.int .i64 0, .int .i64 0] 37 (0, 0)) := keep_bel (heap_alloc_new w8 _) hb9; have r0 := cell_of_row w9 _ 0 _ _ _ R9; have r1 := cell_of_row w9 _ 1 _ _ _ R9; have r2 := frozen_of_row w9 _ 0 _ _ R9; have r3 := frozen_of_row w9 _ 1 _ _ R9; simp only [List.getElem?_toArray, List.getElem?_cons_zero, List.getElem?_cons_succ] at r0 r1))))
    all_goals go_wp2_with fail
    all_goals go_meet
    all_goals first | exact ⟨w9.heap.size, rfl, A9.alloc A9.size _, (cb_new w9 o3 s3 _).elim (fun W hW => by have h1 := hW.1; subst h1; exact hW.2.1)⟩ | exact ⟨w8.heap.size, rfl, (A9.setCell (p := ⟨w8.heap.size, 0, none⟩) A8.size _).setCell (p := ⟨w8.heap.size, 1, none⟩) A8.size _, cb_set o3 s3 R9⟩ | exact ⟨w7.heap.size, rfl, (A9.setCell (p := ⟨w7.heap.size, 0, none⟩) (Nat.le_refl _) _).setCell (p := ⟨w7.heap.size, 1, none⟩) (Nat.le_refl _) _, cb_set o3 s3 R9⟩
  case rest =>
    obtain ⟨db, rfl, b8, D8⟩ := hcut
    have B8 : Hid (Below w.heap.size w wc) := B7.out.trans (b8.mono B7.out.size)
    have F8 : Hid (Pb wc pb p l ∧ KidsAt wc av b5 ∧ KidsAt wc ab b5 ∧ Cb wc cb o s ∧ KidsAt wc aw ws ∧ Cb wc db o3 s3) := hidOf ⟨I7.below b8, V7.out.below b8 (Nat.le_refl _), U7.out.below b8 (Nat.le_refl _), HC7.out.below b8, K7.out.below b8 (Nat.le_refl _), D8⟩
    clear I7 V7 U7 HC7 K7 D8 B7 b8 qA qC c0 c1 c2 c3 c4 hpl
    go_wp2_with fail
    refine (drawSe_any w.heap.size _ a len cap (HC.out.below B8.out) B8.out.size).mono ?_
    rintro e w10 ⟨x, lx, mx, nx, rfl, hFx, hnx, ox, b10⟩
    obtain ⟨ks, s5, hk8, qS, qI⟩ := search_key x mx nx ⟨by omega, by omega⟩ hFx.few
    have hcx := capOf ox.o2
    have hkl : ks.length ≤ 1048576 := by omega
    have B10 : Hid (Below w.heap.size w w10) := B8.out.trans (b10.mono B8.out.size)
    have HB10 := hidOf b10
    have HX := hidOf ox
    clear hk8 hFx hnx ox b10
    go_upto_region 11 with fail
    obtain ⟨W10, hW10, X10, y10, S10⟩ := boxed w10 x lx 29
    rw [← hW10]
    have IX : Pb W10 w10.heap.size x lx := ⟨X10, HX.out.is.below y10 (Nat.le_refl _)⟩
    have A10 : Hid (Below wc.heap.size wc W10) := HB10.out.trans (y10.mono HB10.out.size)
    have B11 : Hid (Below w.heap.size w W10) := B10.out.trans (y10.mono B10.out.size)
    obtain ⟨xb, hxb⟩ : ∃ xb, xb = w10.heap.size := ⟨_, rfl⟩
    rw [← hxb] at IX
    rw [← hxb]
    clear hW10 X10 y10 S10 hxb HX HB10 B10
    obtain ⟨hxl, c0, c1, c2, c3, c4⟩ := IX.box
    unfold pcV at qS qI
    go_wp2_with fail
    refine (qI _ _ hcx IX.inn).mono ?_
    rintro e w11 ⟨b11, a1, d1, rfl, o11⟩
    dsimp only at o11
    dsimp only
    have IX2 := IX.below b11
    clear qI c0 c1 c2 c3 c4 hxl IX
    obtain ⟨hxl, c0, c1, c2, c3, c4⟩ := IX2.box
    go_wp2_with fail
    refine (qS _ _ IX2.inn).mono ?_
    rintro e w12 ⟨b12, a2, d2, rfl, o12⟩
    dsimp only at o12
    dsimp only
    have S12 : Hid (ZS w w12 pb p l av ab b5 cb o s aw ws db o3 s3 a1 a2 ks) := hidOf (by
      have A1 := b11.trans (b12.mono b11.size)
      have A12 := A10.out.trans (A1.mono A10.out.size)
      obtain ⟨f1, f2, f3, f4, f5, f6⟩ := F8.out
      exact ⟨B11.out.trans (A1.mono B11.out.size), f1.below A12, f2.below A12 (Nat.le_refl _), f3.below A12 (Nat.le_refl _), f4.below A12, f5.below A12 (Nat.le_refl _), f6.below A12, (KidsAt.of_own o11).below b12 (Nat.le_refl _), .of_own o12⟩)
    clear qS c0 c1 c2 c3 c4 hxl IX2 A10 B11 b11 b12 o11 o12 F8 B8
    have qCB := fun W hP hK => sCost_yes p l av cv b5 y W HD.out.few hbl hP hK hR HB.out.ties.vals
    unfold CoAns coV at qCB
    rw [← HO.out, ← HS.out] at qCB
    obtain ⟨o4, ho4⟩ : ∃ o4, o4 = costOver p ws y := ⟨_, rfl⟩
    obtain ⟨s4, hs4⟩ : ∃ s4, s4 = costSum p ws := ⟨_, rfl⟩
    have qCW := fun W hP hK => sCost_yes p l aw cw ws y W HD.out.few hwl hP hK hR HW.out.1.vals
    unfold CoAns coV at qCW
    rw [← ho4, ← hs4] at qCW
    have qTW := fun W hP hK => sTie_any p l aw cw ws W HD.out.few hwl (noLeast_right hR.rules) hP hK
    have hlf : lessC o3 s3 o4 s4 = false := by rw [HO3.out, HS3.out, ho4, hs4]; exact HW.out.2.1
    have qLS := fun W => sLess_any o3 s3 o4 s4 W
    rw [hlf] at qLS
    unfold coV at qLS
    have hE1 := coEql o s
    have hS5 : (s5 == s5) = true := by simp
    clear ho4 hs4 hlf
    go_wp2
    rcases HW.out.2.2 with hsm | hsm
    · have hwb := best_one (HWB.out hsm) HB.out
      have qW2 : ∀ W, KidsAt W aw ws → KidsAt W ab b5 → Calls Try.prog 17 #[.slice aw ws.length cw, .slice ab b5.length cbs] W fun e w' => e = .returned (.bool true) ∧ Below W.heap.size W w' := fun W h1 h2 => by
        subst hwb
        exact sameInts_any aw ab cw cbs _ W (by omega) h1 h2
      subst hsm
      clear hwb HWB
      refine wp_region_guards (by kernel_rfl) (fun W => ZS w W pb p l av ab b5 cb o s aw ws db o3 s3 a1 a2 ks) (fun W W' => Below W.heap.size W W') (fsePostB p l y av cv ab cbs b5 o s aw cw ws o3 s3 o4 s4 s5 a1 d1 a2 d2 ks) (S12.out.below (Below.refl _ _).drew) (by kernel_rfl) (fun k v W W' h _ _ => fsePostB_stab k v W W' h) ?_ ?_
      case refine_1 =>
        intro kk oo hk aa W hI hsz hfix hdep
        clear S12
        match kk, hk with
        | 0, hk =>
          cases hk
          refine .inl ⟨wanted_none rfl, fun K hK => ?_⟩
          have e6 : aa.tmps.getD 6 undef = .int .i64 1 := hfix 6 (by kernel_rfl)
          refine wp_value (v := .int .i64 1) (w' := W) ?_ (hK _ _ (by simp) hI (Below.refl _ _) rfl)
          clear hfix hdep hK hk hsz
          go_simp
        | 1, hk =>
          cases hk
          refine .inl ⟨wanted_none rfl, fun K hK => ?_⟩
          have e80 : aa.tmps.getD 80 undef = .int .i64 1 := hdep 0 _ rfl (by kernel_rfl)
          refine wp_value (v := .bool true) (w' := W) ?_ (hK _ _ (by simp) hI (Below.refl _ _) rfl)
          clear hfix hdep hK hk hsz
          go_simp
        | 2, hk =>
          cases hk
          refine .inl ⟨wanted_none rfl, fun K hK => ?_⟩
          have e81 : aa.tmps.getD 81 undef = .bool true := hdep 1 _ rfl (by kernel_rfl)
          refine wp_value (v := .bool true) (w' := W) ?_ (hK _ _ (by simp) hI (Below.refl _ _) rfl)
          clear hfix hdep hK hk hsz
          go_simp
        | 3, hk =>
          cases hk
          refine .inl ⟨?hg, fun K hK => ?_⟩
          case hg => exact wanted_is (c := true) (b := true) rfl rfl rfl (hdep 2 _ rfl (by kernel_rfl))
          have e5 : aa.tmps.getD 5 undef = .slice av b5.length cv := hfix 5 (by kernel_rfl)
          refine wp_value (v := .slice av b5.length cv) (w' := W) ?_ (hK _ _ (by simp) hI (Below.refl _ _) rfl)
          clear hfix hdep hK hk hsz
          go_simp
        | 4, hk =>
          cases hk
          refine .inl ⟨?hg, fun K hK => ?_⟩
          case hg => exact wanted_is (c := true) (b := true) rfl rfl rfl (hdep 2 _ rfl (by kernel_rfl))
          have e7 : aa.tmps.getD 7 undef = .slice ab b5.length cbs := hfix 7 (by kernel_rfl)
          refine wp_value (v := .slice ab b5.length cbs) (w' := W) ?_ (hK _ _ (by simp) hI (Below.refl _ _) rfl)
          clear hfix hdep hK hk hsz
          go_simp
        | 5, hk =>
          cases hk
          refine .inl ⟨?hg, fun K hK => ?_⟩
          case hg => exact wanted_is (c := true) (b := true) rfl rfl rfl (hdep 2 _ rfl (by kernel_rfl))
          have e83 : aa.tmps.getD 83 undef = .slice av b5.length cv := hdep 3 _ rfl (by kernel_rfl)
          have e84 : aa.tmps.getD 84 undef = .slice ab b5.length cbs := hdep 4 _ rfl (by kernel_rfl)
          have hcon := sameInts_any av ab cv cbs b5 W (by omega) hI.V hI.B
          refine wp_calls 17 #[.slice av b5.length cv, .slice ab b5.length cbs] ?_ hcon ?_
          · clear hfix hdep hK hk hsz hcon
            go_simp
            try rfl
          · rintro e W2 ⟨rfl, A⟩
            exact ⟨_, rfl, hK _ _ (by simp) (hI.below A) A rfl⟩
        | 6, hk =>
          cases hk
          refine .inl ⟨wanted_none rfl, fun K hK => ?_⟩
          have e82 : aa.tmps.getD 82 undef = .bool true := hdep 2 _ rfl (by kernel_rfl)
          have e85 : aa.tmps.getD 85 undef = .bool true := hdep 5 _ rfl (by kernel_rfl)
          refine wp_value (v := .bool true) (w' := W) ?_ (hK _ _ (by simp) hI (Below.refl _ _) rfl)
          clear hfix hdep hK hk hsz
          go_simp
        | 7, hk =>
          cases hk
          refine .inl ⟨wanted_none rfl, fun K hK => ?_⟩
          have e86 : aa.tmps.getD 86 undef = .bool true := hdep 6 _ rfl (by kernel_rfl)
          refine wp_value (v := .bool true) (w' := W) ?_ (hK _ _ (by simp) hI (Below.refl _ _) rfl)
          clear hfix hdep hK hk hsz
          go_simp
        | 8, hk =>
          cases hk
          refine .inl ⟨?hg, fun K hK => ?_⟩
          case hg => exact wanted_is (c := true) (b := true) rfl rfl rfl (hdep 7 _ rfl (by kernel_rfl))
          have e3 : aa.tmps.getD 3 undef = .pointer (some ⟨pb, 0, none⟩) := hfix 3 (by kernel_rfl)
          obtain ⟨hpl, c0, c1, c2, c3, c4⟩ := hI.P.box
          refine wp_value (v := pcV p l) (w' := W) ?_ (hK _ _ (by simp) hI (Below.refl _ _) rfl)
          clear hfix hdep hK hk hsz
          go_simp
        | 9, hk =>
          cases hk
          refine .inl ⟨?hg, fun K hK => ?_⟩
          case hg => exact wanted_is (c := true) (b := true) rfl rfl rfl (hdep 7 _ rfl (by kernel_rfl))
          have e5 : aa.tmps.getD 5 undef = .slice av b5.length cv := hfix 5 (by kernel_rfl)
          refine wp_value (v := .slice av b5.length cv) (w' := W) ?_ (hK _ _ (by simp) hI (Below.refl _ _) rfl)
          clear hfix hdep hK hk hsz
          go_simp
        | 10, hk =>
          cases hk
          refine .inl ⟨?hg, fun K hK => ?_⟩
          case hg => exact wanted_is (c := true) (b := true) rfl rfl rfl (hdep 7 _ rfl (by kernel_rfl))
          have e4 : aa.tmps.getD 4 undef = .int .i64 y := hfix 4 (by kernel_rfl)
          refine wp_value (v := .int .i64 y) (w' := W) ?_ (hK _ _ (by simp) hI (Below.refl _ _) rfl)
          clear hfix hdep hK hk hsz
          go_simp
        | 11, hk =>
          cases hk
          refine .inl ⟨?hg, fun K hK => ?_⟩
          case hg => exact wanted_is (c := true) (b := true) rfl rfl rfl (hdep 7 _ rfl (by kernel_rfl))
          have e88 : aa.tmps.getD 88 undef = pcV p l := hdep 8 _ rfl (by kernel_rfl)
          have e89 : aa.tmps.getD 89 undef = .slice av b5.length cv := hdep 9 _ rfl (by kernel_rfl)
          have e90 : aa.tmps.getD 90 undef = .int .i64 y := hdep 10 _ rfl (by kernel_rfl)
          have hcon := qCB W hI.P.inn hI.V
          refine wp_calls 13 #[pcV p l, .slice av b5.length cv, .int .i64 y] ?_ hcon ?_
          · clear hfix hdep hK hk hsz hcon
            go_simp
            try rfl
          · rintro e W2 ⟨rfl, A⟩
            exact ⟨_, rfl, hK _ _ (by simp) (hI.below A) A rfl⟩
        | 12, hk =>
          cases hk
          refine .inl ⟨?hg, fun K hK => ?_⟩
          case hg => exact wanted_is (c := true) (b := true) rfl rfl rfl (hdep 7 _ rfl (by kernel_rfl))
          have e8 : aa.tmps.getD 8 undef = .pointer (some ⟨cb, 0, none⟩) := hfix 8 (by kernel_rfl)
          obtain ⟨hpl, c0, c1⟩ := hI.C
          refine wp_value (v := .agg #[.int .i64 o, .int .i64 s]) (w' := W) ?_ (hK _ _ (by simp) hI (Below.refl _ _) rfl)
          clear hfix hdep hK hk hsz
          go_simp
        | 13, hk =>
          cases hk
          refine .inl ⟨?hg, fun K hK => ?_⟩
          case hg => exact wanted_is (c := true) (b := true) rfl rfl rfl (hdep 7 _ rfl (by kernel_rfl))
          have e91 : aa.tmps.getD 91 undef = .agg #[.int .i64 o, .int .i64 s] := hdep 11 _ rfl (by kernel_rfl)
          have e92 : aa.tmps.getD 92 undef = .agg #[.int .i64 o, .int .i64 s] := hdep 12 _ rfl (by kernel_rfl)
          refine wp_value (v := .bool true) (w' := W) ?_ (hK _ _ (by simp) hI (Below.refl _ _) rfl)
          clear hfix hdep hK hk hsz
          go_simp
        | 14, hk =>
          cases hk
          refine .inl ⟨wanted_none rfl, fun K hK => ?_⟩
          have e87 : aa.tmps.getD 87 undef = .bool true := hdep 7 _ rfl (by kernel_rfl)
          have e93 : aa.tmps.getD 93 undef = .bool true := hdep 13 _ rfl (by kernel_rfl)
          refine wp_value (v := .bool true) (w' := W) ?_ (hK _ _ (by simp) hI (Below.refl _ _) rfl)
          clear hfix hdep hK hk hsz
          go_simp
        | 15, hk =>
          cases hk
          refine .inl ⟨wanted_none rfl, fun K hK => ?_⟩
          have e94 : aa.tmps.getD 94 undef = .bool true := hdep 14 _ rfl (by kernel_rfl)
          refine wp_value (v := .bool true) (w' := W) ?_ (hK _ _ (by simp) hI (Below.refl _ _) rfl)
          clear hfix hdep hK hk hsz
          go_simp
        | 16, hk =>
          cases hk
          refine .inl ⟨?hg, fun K hK => ?_⟩
          case hg => exact wanted_is (c := true) (b := true) rfl rfl rfl (hdep 15 _ rfl (by kernel_rfl))
          have e3 : aa.tmps.getD 3 undef = .pointer (some ⟨pb, 0, none⟩) := hfix 3 (by kernel_rfl)
          obtain ⟨hpl, c0, c1, c2, c3, c4⟩ := hI.P.box
          refine wp_value (v := pcV p l) (w' := W) ?_ (hK _ _ (by simp) hI (Below.refl _ _) rfl)
          clear hfix hdep hK hk hsz
          go_simp
        | 17, hk =>
          cases hk
          refine .inl ⟨?hg, fun K hK => ?_⟩
          case hg => exact wanted_is (c := true) (b := true) rfl rfl rfl (hdep 15 _ rfl (by kernel_rfl))
          have e11 : aa.tmps.getD 11 undef = .slice aw ws.length cw := hfix 11 (by kernel_rfl)
          refine wp_value (v := .slice aw ws.length cw) (w' := W) ?_ (hK _ _ (by simp) hI (Below.refl _ _) rfl)
          clear hfix hdep hK hk hsz
          go_simp
        | 18, hk =>
          cases hk
          refine .inl ⟨?hg, fun K hK => ?_⟩
          case hg => exact wanted_is (c := true) (b := true) rfl rfl rfl (hdep 15 _ rfl (by kernel_rfl))
          have e96 : aa.tmps.getD 96 undef = pcV p l := hdep 16 _ rfl (by kernel_rfl)
          have e97 : aa.tmps.getD 97 undef = .slice aw ws.length cw := hdep 17 _ rfl (by kernel_rfl)
          have hcon := qTW W hI.P.inn hI.Wk
          refine wp_calls 18 #[pcV p l, .slice aw ws.length cw] ?_ hcon ?_
          · clear hfix hdep hK hk hsz hcon
            go_simp
            try rfl
          · rintro e W2 hq
            obtain ⟨rfl, A⟩ := hq.yes HW.out.1
            exact ⟨_, rfl, hK _ _ (by simp) (hI.below A) A rfl⟩
        | 19, hk =>
          cases hk
          refine .inl ⟨wanted_none rfl, fun K hK => ?_⟩
          have e95 : aa.tmps.getD 95 undef = .bool true := hdep 15 _ rfl (by kernel_rfl)
          have e98 : aa.tmps.getD 98 undef = .bool true := hdep 18 _ rfl (by kernel_rfl)
          refine wp_value (v := .bool true) (w' := W) ?_ (hK _ _ (by simp) hI (Below.refl _ _) rfl)
          clear hfix hdep hK hk hsz
          go_simp
        | 20, hk =>
          cases hk
          refine .inl ⟨wanted_none rfl, fun K hK => ?_⟩
          have e99 : aa.tmps.getD 99 undef = .bool true := hdep 19 _ rfl (by kernel_rfl)
          refine wp_value (v := .bool true) (w' := W) ?_ (hK _ _ (by simp) hI (Below.refl _ _) rfl)
          clear hfix hdep hK hk hsz
          go_simp
        | 21, hk =>
          cases hk
          refine .inl ⟨?hg, fun K hK => ?_⟩
          case hg => exact wanted_is (c := true) (b := true) rfl rfl rfl (hdep 20 _ rfl (by kernel_rfl))
          have e13 : aa.tmps.getD 13 undef = .pointer (some ⟨db, 0, none⟩) := hfix 13 (by kernel_rfl)
          obtain ⟨hpl, c0, c1⟩ := hI.D
          refine wp_value (v := .agg #[.int .i64 o3, .int .i64 s3]) (w' := W) ?_ (hK _ _ (by simp) hI (Below.refl _ _) rfl)
          clear hfix hdep hK hk hsz
          go_simp
        | 22, hk =>
          cases hk
          refine .inl ⟨?hg, fun K hK => ?_⟩
          case hg => exact wanted_is (c := true) (b := true) rfl rfl rfl (hdep 20 _ rfl (by kernel_rfl))
          have e3 : aa.tmps.getD 3 undef = .pointer (some ⟨pb, 0, none⟩) := hfix 3 (by kernel_rfl)
          obtain ⟨hpl, c0, c1, c2, c3, c4⟩ := hI.P.box
          refine wp_value (v := pcV p l) (w' := W) ?_ (hK _ _ (by simp) hI (Below.refl _ _) rfl)
          clear hfix hdep hK hk hsz
          go_simp
        | 23, hk =>
          cases hk
          refine .inl ⟨?hg, fun K hK => ?_⟩
          case hg => exact wanted_is (c := true) (b := true) rfl rfl rfl (hdep 20 _ rfl (by kernel_rfl))
          have e11 : aa.tmps.getD 11 undef = .slice aw ws.length cw := hfix 11 (by kernel_rfl)
          refine wp_value (v := .slice aw ws.length cw) (w' := W) ?_ (hK _ _ (by simp) hI (Below.refl _ _) rfl)
          clear hfix hdep hK hk hsz
          go_simp
        | 24, hk =>
          cases hk
          refine .inl ⟨?hg, fun K hK => ?_⟩
          case hg => exact wanted_is (c := true) (b := true) rfl rfl rfl (hdep 20 _ rfl (by kernel_rfl))
          have e4 : aa.tmps.getD 4 undef = .int .i64 y := hfix 4 (by kernel_rfl)
          refine wp_value (v := .int .i64 y) (w' := W) ?_ (hK _ _ (by simp) hI (Below.refl _ _) rfl)
          clear hfix hdep hK hk hsz
          go_simp
        | 25, hk =>
          cases hk
          refine .inl ⟨?hg, fun K hK => ?_⟩
          case hg => exact wanted_is (c := true) (b := true) rfl rfl rfl (hdep 20 _ rfl (by kernel_rfl))
          have e102 : aa.tmps.getD 102 undef = pcV p l := hdep 22 _ rfl (by kernel_rfl)
          have e103 : aa.tmps.getD 103 undef = .slice aw ws.length cw := hdep 23 _ rfl (by kernel_rfl)
          have e104 : aa.tmps.getD 104 undef = .int .i64 y := hdep 24 _ rfl (by kernel_rfl)
          have hcon := qCW W hI.P.inn hI.Wk
          refine wp_calls 13 #[pcV p l, .slice aw ws.length cw, .int .i64 y] ?_ hcon ?_
          · clear hfix hdep hK hk hsz hcon
            go_simp
            try rfl
          · rintro e W2 ⟨rfl, A⟩
            exact ⟨_, rfl, hK _ _ (by simp) (hI.below A) A rfl⟩
        | 26, hk =>
          cases hk
          refine .inl ⟨?hg, fun K hK => ?_⟩
          case hg => exact wanted_is (c := true) (b := true) rfl rfl rfl (hdep 20 _ rfl (by kernel_rfl))
          have e101 : aa.tmps.getD 101 undef = .agg #[.int .i64 o3, .int .i64 s3] := hdep 21 _ rfl (by kernel_rfl)
          have e105 : aa.tmps.getD 105 undef = .agg #[.int .i64 o4, .int .i64 s4] := hdep 25 _ rfl (by kernel_rfl)
          have hcon := qLS W
          refine wp_calls 19 #[.agg #[.int .i64 o3, .int .i64 s3], .agg #[.int .i64 o4, .int .i64 s4]] ?_ hcon ?_
          · clear hfix hdep hK hk hsz hcon
            go_simp
            try rfl
          · rintro e W2 ⟨rfl, A⟩
            exact ⟨_, rfl, hK _ _ (by simp) (hI.below A) A rfl⟩
        | 27, hk =>
          cases hk
          refine .inl ⟨?hg, fun K hK => ?_⟩
          case hg => exact wanted_is (c := true) (b := true) rfl rfl rfl (hdep 20 _ rfl (by kernel_rfl))
          have e106 : aa.tmps.getD 106 undef = .bool false := hdep 26 _ rfl (by kernel_rfl)
          refine wp_value (v := .bool true) (w' := W) ?_ (hK _ _ (by simp) hI (Below.refl _ _) rfl)
          clear hfix hdep hK hk hsz
          go_simp
        | 28, hk =>
          cases hk
          refine .inl ⟨wanted_none rfl, fun K hK => ?_⟩
          have e100 : aa.tmps.getD 100 undef = .bool true := hdep 20 _ rfl (by kernel_rfl)
          have e107 : aa.tmps.getD 107 undef = .bool true := hdep 27 _ rfl (by kernel_rfl)
          refine wp_value (v := .bool true) (w' := W) ?_ (hK _ _ (by simp) hI (Below.refl _ _) rfl)
          clear hfix hdep hK hk hsz
          go_simp
        | 29, hk =>
          cases hk
          refine .inl ⟨wanted_none rfl, fun K hK => ?_⟩
          have e108 : aa.tmps.getD 108 undef = .bool true := hdep 28 _ rfl (by kernel_rfl)
          refine wp_value (v := .bool true) (w' := W) ?_ (hK _ _ (by simp) hI (Below.refl _ _) rfl)
          clear hfix hdep hK hk hsz
          go_simp
        | 30, hk =>
          cases hk
          refine .inl ⟨?hg, fun K hK => ?_⟩
          case hg => exact wanted_is (c := true) (b := true) rfl rfl rfl (hdep 29 _ rfl (by kernel_rfl))
          have e12 : aa.tmps.getD 12 undef = .int .i64 1 := hfix 12 (by kernel_rfl)
          refine wp_value (v := .int .i64 1) (w' := W) ?_ (hK _ _ (by simp) hI (Below.refl _ _) rfl)
          clear hfix hdep hK hk hsz
          go_simp
        | 31, hk =>
          cases hk
          refine .inl ⟨?hg, fun K hK => ?_⟩
          case hg => exact wanted_is (c := true) (b := true) rfl rfl rfl (hdep 29 _ rfl (by kernel_rfl))
          have e110 : aa.tmps.getD 110 undef = .int .i64 1 := hdep 30 _ rfl (by kernel_rfl)
          refine wp_value (v := .bool false) (w' := W) ?_ (hK _ _ (by simp) hI (Below.refl _ _) rfl)
          clear hfix hdep hK hk hsz
          go_simp
        | 32, hk =>
          cases hk
          refine .inl ⟨?hg, fun K hK => ?_⟩
          case hg => exact wanted_is (c := true) (b := true) rfl rfl rfl (hdep 29 _ rfl (by kernel_rfl))
          have e111 : aa.tmps.getD 111 undef = .bool false := hdep 31 _ rfl (by kernel_rfl)
          refine wp_value (v := .bool false) (w' := W) ?_ (hK _ _ (by simp) hI (Below.refl _ _) rfl)
          clear hfix hdep hK hk hsz
          go_simp
        | 33, hk =>
          cases hk
          refine .inl ⟨?hg, fun K hK => ?_⟩
          case hg => exact wanted_is (c := false) (b := false) rfl rfl rfl (hdep 32 _ rfl (by kernel_rfl))
          have e11 : aa.tmps.getD 11 undef = .slice aw ws.length cw := hfix 11 (by kernel_rfl)
          refine wp_value (v := .slice aw ws.length cw) (w' := W) ?_ (hK _ _ (by simp) hI (Below.refl _ _) rfl)
          clear hfix hdep hK hk hsz
          go_simp
        | 34, hk =>
          cases hk
          refine .inl ⟨?hg, fun K hK => ?_⟩
          case hg => exact wanted_is (c := false) (b := false) rfl rfl rfl (hdep 32 _ rfl (by kernel_rfl))
          have e7 : aa.tmps.getD 7 undef = .slice ab b5.length cbs := hfix 7 (by kernel_rfl)
          refine wp_value (v := .slice ab b5.length cbs) (w' := W) ?_ (hK _ _ (by simp) hI (Below.refl _ _) rfl)
          clear hfix hdep hK hk hsz
          go_simp
        | 35, hk =>
          cases hk
          refine .inl ⟨?hg, fun K hK => ?_⟩
          case hg => exact wanted_is (c := false) (b := false) rfl rfl rfl (hdep 32 _ rfl (by kernel_rfl))
          have e113 : aa.tmps.getD 113 undef = .slice aw ws.length cw := hdep 33 _ rfl (by kernel_rfl)
          have e114 : aa.tmps.getD 114 undef = .slice ab b5.length cbs := hdep 34 _ rfl (by kernel_rfl)
          have hcon := qW2 W hI.Wk hI.B
          refine wp_calls 17 #[.slice aw ws.length cw, .slice ab b5.length cbs] ?_ hcon ?_
          · clear hfix hdep hK hk hsz hcon
            go_simp
            try rfl
          · rintro e W2 ⟨rfl, A⟩
            exact ⟨_, rfl, hK _ _ (by simp) (hI.below A) A rfl⟩
        | 36, hk =>
          cases hk
          refine .inl ⟨?hg, fun K hK => ?_⟩
          case hg => exact wanted_is (c := true) (b := true) rfl rfl rfl (hdep 29 _ rfl (by kernel_rfl))
          have e112 : aa.tmps.getD 112 undef = .bool false := hdep 32 _ rfl (by kernel_rfl)
          have e115 : aa.tmps.getD 115 undef = .bool true := hdep 35 _ rfl (by kernel_rfl)
          refine wp_value (v := .bool true) (w' := W) ?_ (hK _ _ (by simp) hI (Below.refl _ _) rfl)
          clear hfix hdep hK hk hsz
          go_simp
        | 37, hk =>
          cases hk
          refine .inl ⟨wanted_none rfl, fun K hK => ?_⟩
          have e109 : aa.tmps.getD 109 undef = .bool true := hdep 29 _ rfl (by kernel_rfl)
          have e116 : aa.tmps.getD 116 undef = .bool true := hdep 36 _ rfl (by kernel_rfl)
          refine wp_value (v := .bool true) (w' := W) ?_ (hK _ _ (by simp) hI (Below.refl _ _) rfl)
          clear hfix hdep hK hk hsz
          go_simp
        | 38, hk =>
          cases hk
          refine .inl ⟨wanted_none rfl, fun K hK => ?_⟩
          have e117 : aa.tmps.getD 117 undef = .bool true := hdep 37 _ rfl (by kernel_rfl)
          refine wp_value (v := .bool true) (w' := W) ?_ (hK _ _ (by simp) hI (Below.refl _ _) rfl)
          clear hfix hdep hK hk hsz
          go_simp
        | 39, hk =>
          cases hk
          refine .inl ⟨?hg, fun K hK => ?_⟩
          case hg => exact wanted_is (c := true) (b := true) rfl rfl rfl (hdep 38 _ rfl (by kernel_rfl))
          have e18 : aa.tmps.getD 18 undef = .int .i64 s5 := hfix 18 (by kernel_rfl)
          refine wp_value (v := .int .i64 s5) (w' := W) ?_ (hK _ _ (by simp) hI (Below.refl _ _) rfl)
          clear hfix hdep hK hk hsz
          go_simp
        | 40, hk =>
          cases hk
          refine .inl ⟨?hg, fun K hK => ?_⟩
          case hg => exact wanted_is (c := true) (b := true) rfl rfl rfl (hdep 38 _ rfl (by kernel_rfl))
          have e20 : aa.tmps.getD 20 undef = .int .i64 s5 := hfix 20 (by kernel_rfl)
          refine wp_value (v := .int .i64 s5) (w' := W) ?_ (hK _ _ (by simp) hI (Below.refl _ _) rfl)
          clear hfix hdep hK hk hsz
          go_simp
        | 41, hk =>
          cases hk
          refine .inl ⟨?hg, fun K hK => ?_⟩
          case hg => exact wanted_is (c := true) (b := true) rfl rfl rfl (hdep 38 _ rfl (by kernel_rfl))
          have e119 : aa.tmps.getD 119 undef = .int .i64 s5 := hdep 39 _ rfl (by kernel_rfl)
          have e120 : aa.tmps.getD 120 undef = .int .i64 s5 := hdep 40 _ rfl (by kernel_rfl)
          refine wp_value (v := .bool true) (w' := W) ?_ (hK _ _ (by simp) hI (Below.refl _ _) rfl)
          clear hfix hdep hK hk hsz
          go_simp
        | 42, hk =>
          cases hk
          refine .inl ⟨wanted_none rfl, fun K hK => ?_⟩
          have e118 : aa.tmps.getD 118 undef = .bool true := hdep 38 _ rfl (by kernel_rfl)
          have e121 : aa.tmps.getD 121 undef = .bool true := hdep 41 _ rfl (by kernel_rfl)
          refine wp_value (v := .bool true) (w' := W) ?_ (hK _ _ (by simp) hI (Below.refl _ _) rfl)
          clear hfix hdep hK hk hsz
          go_simp
        | 43, hk =>
          cases hk
          refine .inl ⟨wanted_none rfl, fun K hK => ?_⟩
          have e122 : aa.tmps.getD 122 undef = .bool true := hdep 42 _ rfl (by kernel_rfl)
          refine wp_value (v := .bool true) (w' := W) ?_ (hK _ _ (by simp) hI (Below.refl _ _) rfl)
          clear hfix hdep hK hk hsz
          go_simp
        | 44, hk =>
          cases hk
          refine .inl ⟨?hg, fun K hK => ?_⟩
          case hg => exact wanted_is (c := true) (b := true) rfl rfl rfl (hdep 43 _ rfl (by kernel_rfl))
          have e17 : aa.tmps.getD 17 undef = .slice a1 ks.length d1 := hfix 17 (by kernel_rfl)
          refine wp_value (v := .slice a1 ks.length d1) (w' := W) ?_ (hK _ _ (by simp) hI (Below.refl _ _) rfl)
          clear hfix hdep hK hk hsz
          go_simp
        | 45, hk =>
          cases hk
          refine .inl ⟨?hg, fun K hK => ?_⟩
          case hg => exact wanted_is (c := true) (b := true) rfl rfl rfl (hdep 43 _ rfl (by kernel_rfl))
          have e19 : aa.tmps.getD 19 undef = .slice a2 ks.length d2 := hfix 19 (by kernel_rfl)
          refine wp_value (v := .slice a2 ks.length d2) (w' := W) ?_ (hK _ _ (by simp) hI (Below.refl _ _) rfl)
          clear hfix hdep hK hk hsz
          go_simp
        | 46, hk =>
          cases hk
          refine .inl ⟨?hg, fun K hK => ?_⟩
          case hg => exact wanted_is (c := true) (b := true) rfl rfl rfl (hdep 43 _ rfl (by kernel_rfl))
          have e124 : aa.tmps.getD 124 undef = .slice a1 ks.length d1 := hdep 44 _ rfl (by kernel_rfl)
          have e125 : aa.tmps.getD 125 undef = .slice a2 ks.length d2 := hdep 45 _ rfl (by kernel_rfl)
          have hcon := sameInts_any a1 a2 d1 d2 ks W (by omega) hI.K1 hI.K2
          refine wp_calls 17 #[.slice a1 ks.length d1, .slice a2 ks.length d2] ?_ hcon ?_
          · clear hfix hdep hK hk hsz hcon
            go_simp
            try rfl
          · rintro e W2 ⟨rfl, A⟩
            exact ⟨_, rfl, hK _ _ (by simp) (hI.below A) A rfl⟩
        | 47, hk =>
          cases hk
          refine .inl ⟨wanted_none rfl, fun K hK => ?_⟩
          have e123 : aa.tmps.getD 123 undef = .bool true := hdep 43 _ rfl (by kernel_rfl)
          have e126 : aa.tmps.getD 126 undef = .bool true := hdep 46 _ rfl (by kernel_rfl)
          refine wp_value (v := .bool true) (w' := W) ?_ (hK _ _ (by simp) hI (Below.refl _ _) rfl)
          clear hfix hdep hK hk hsz
          go_simp
        | 48, hk =>
          cases hk
          refine .inl ⟨wanted_none rfl, fun K hK => ?_⟩
          have e127 : aa.tmps.getD 127 undef = .bool true := hdep 47 _ rfl (by kernel_rfl)
          refine wp_value (v := .bool true) (w' := W) ?_ (hK _ _ (by simp) hI (Below.refl _ _) rfl)
          clear hfix hdep hK hk hsz
          go_simp
        | k + 49, hk => cases hk
      case refine_2 =>
        intro aa W hI hd hsz hfix hpost
        have e2 : aa.tmps.getD 2 undef = .bool true := hpost 48 _ rfl
        have hd' : aa.defers = [] := hd
        have hRR : (results Try.f3 aa.tmps).run Try.prog W = .ok (.bool true) W := by
          simp [results, Try.results3, go_sem]
          simpa using e2
        clear hpost hfix hsz hd
        have hBB : bodyPost Try.prog Try.f3 (fun e w' => e = Ending.returned (Value.bool true) ∧ Below w.heap.size w w') .ret aa W := bodyPost_ret hRR hd' ⟨rfl, hI.bel⟩
        first
          | (dsimp only [Exit.then]; apply_assumption; exact wp_ret hBB)
          | (go_wp2; exact hBB)
          | (unfold Exit.then; dsimp only; apply_assumption; exact wp_ret hBB)
    · subst hsm
      clear HWB
      refine wp_region_guards (by kernel_rfl) (fun W => ZS w W pb p l av ab b5 cb o s aw ws db o3 s3 a1 a2 ks) (fun W W' => Below W.heap.size W W') (fsePostA p l y av cv ab cbs b5 o s aw cw ws o3 s3 o4 s4 s5 a1 d1 a2 d2 ks) (S12.out.below (Below.refl _ _).drew) (by kernel_rfl) (fun k v W W' h _ _ => fsePostA_stab k v W W' h) ?_ ?_
      case refine_1 =>
        intro kk oo hk aa W hI hsz hfix hdep
        clear S12
        match kk, hk with
        | 0, hk =>
          cases hk
          refine .inl ⟨wanted_none rfl, fun K hK => ?_⟩
          have e6 : aa.tmps.getD 6 undef = .int .i64 1 := hfix 6 (by kernel_rfl)
          refine wp_value (v := .int .i64 1) (w' := W) ?_ (hK _ _ (by simp) hI (Below.refl _ _) rfl)
          clear hfix hdep hK hk hsz
          go_simp
        | 1, hk =>
          cases hk
          refine .inl ⟨wanted_none rfl, fun K hK => ?_⟩
          have e80 : aa.tmps.getD 80 undef = .int .i64 1 := hdep 0 _ rfl (by kernel_rfl)
          refine wp_value (v := .bool true) (w' := W) ?_ (hK _ _ (by simp) hI (Below.refl _ _) rfl)
          clear hfix hdep hK hk hsz
          go_simp
        | 2, hk =>
          cases hk
          refine .inl ⟨wanted_none rfl, fun K hK => ?_⟩
          have e81 : aa.tmps.getD 81 undef = .bool true := hdep 1 _ rfl (by kernel_rfl)
          refine wp_value (v := .bool true) (w' := W) ?_ (hK _ _ (by simp) hI (Below.refl _ _) rfl)
          clear hfix hdep hK hk hsz
          go_simp
        | 3, hk =>
          cases hk
          refine .inl ⟨?hg, fun K hK => ?_⟩
          case hg => exact wanted_is (c := true) (b := true) rfl rfl rfl (hdep 2 _ rfl (by kernel_rfl))
          have e5 : aa.tmps.getD 5 undef = .slice av b5.length cv := hfix 5 (by kernel_rfl)
          refine wp_value (v := .slice av b5.length cv) (w' := W) ?_ (hK _ _ (by simp) hI (Below.refl _ _) rfl)
          clear hfix hdep hK hk hsz
          go_simp
        | 4, hk =>
          cases hk
          refine .inl ⟨?hg, fun K hK => ?_⟩
          case hg => exact wanted_is (c := true) (b := true) rfl rfl rfl (hdep 2 _ rfl (by kernel_rfl))
          have e7 : aa.tmps.getD 7 undef = .slice ab b5.length cbs := hfix 7 (by kernel_rfl)
          refine wp_value (v := .slice ab b5.length cbs) (w' := W) ?_ (hK _ _ (by simp) hI (Below.refl _ _) rfl)
          clear hfix hdep hK hk hsz
          go_simp
        | 5, hk =>
          cases hk
          refine .inl ⟨?hg, fun K hK => ?_⟩
          case hg => exact wanted_is (c := true) (b := true) rfl rfl rfl (hdep 2 _ rfl (by kernel_rfl))
          have e83 : aa.tmps.getD 83 undef = .slice av b5.length cv := hdep 3 _ rfl (by kernel_rfl)
          have e84 : aa.tmps.getD 84 undef = .slice ab b5.length cbs := hdep 4 _ rfl (by kernel_rfl)
          have hcon := sameInts_any av ab cv cbs b5 W (by omega) hI.V hI.B
          refine wp_calls 17 #[.slice av b5.length cv, .slice ab b5.length cbs] ?_ hcon ?_
          · clear hfix hdep hK hk hsz hcon
            go_simp
            try rfl
          · rintro e W2 ⟨rfl, A⟩
            exact ⟨_, rfl, hK _ _ (by simp) (hI.below A) A rfl⟩
        | 6, hk =>
          cases hk
          refine .inl ⟨wanted_none rfl, fun K hK => ?_⟩
          have e82 : aa.tmps.getD 82 undef = .bool true := hdep 2 _ rfl (by kernel_rfl)
          have e85 : aa.tmps.getD 85 undef = .bool true := hdep 5 _ rfl (by kernel_rfl)
          refine wp_value (v := .bool true) (w' := W) ?_ (hK _ _ (by simp) hI (Below.refl _ _) rfl)
          clear hfix hdep hK hk hsz
          go_simp
        | 7, hk =>
          cases hk
          refine .inl ⟨wanted_none rfl, fun K hK => ?_⟩
          have e86 : aa.tmps.getD 86 undef = .bool true := hdep 6 _ rfl (by kernel_rfl)
          refine wp_value (v := .bool true) (w' := W) ?_ (hK _ _ (by simp) hI (Below.refl _ _) rfl)
          clear hfix hdep hK hk hsz
          go_simp
        | 8, hk =>
          cases hk
          refine .inl ⟨?hg, fun K hK => ?_⟩
          case hg => exact wanted_is (c := true) (b := true) rfl rfl rfl (hdep 7 _ rfl (by kernel_rfl))
          have e3 : aa.tmps.getD 3 undef = .pointer (some ⟨pb, 0, none⟩) := hfix 3 (by kernel_rfl)
          obtain ⟨hpl, c0, c1, c2, c3, c4⟩ := hI.P.box
          refine wp_value (v := pcV p l) (w' := W) ?_ (hK _ _ (by simp) hI (Below.refl _ _) rfl)
          clear hfix hdep hK hk hsz
          go_simp
        | 9, hk =>
          cases hk
          refine .inl ⟨?hg, fun K hK => ?_⟩
          case hg => exact wanted_is (c := true) (b := true) rfl rfl rfl (hdep 7 _ rfl (by kernel_rfl))
          have e5 : aa.tmps.getD 5 undef = .slice av b5.length cv := hfix 5 (by kernel_rfl)
          refine wp_value (v := .slice av b5.length cv) (w' := W) ?_ (hK _ _ (by simp) hI (Below.refl _ _) rfl)
          clear hfix hdep hK hk hsz
          go_simp
        | 10, hk =>
          cases hk
          refine .inl ⟨?hg, fun K hK => ?_⟩
          case hg => exact wanted_is (c := true) (b := true) rfl rfl rfl (hdep 7 _ rfl (by kernel_rfl))
          have e4 : aa.tmps.getD 4 undef = .int .i64 y := hfix 4 (by kernel_rfl)
          refine wp_value (v := .int .i64 y) (w' := W) ?_ (hK _ _ (by simp) hI (Below.refl _ _) rfl)
          clear hfix hdep hK hk hsz
          go_simp
        | 11, hk =>
          cases hk
          refine .inl ⟨?hg, fun K hK => ?_⟩
          case hg => exact wanted_is (c := true) (b := true) rfl rfl rfl (hdep 7 _ rfl (by kernel_rfl))
          have e88 : aa.tmps.getD 88 undef = pcV p l := hdep 8 _ rfl (by kernel_rfl)
          have e89 : aa.tmps.getD 89 undef = .slice av b5.length cv := hdep 9 _ rfl (by kernel_rfl)
          have e90 : aa.tmps.getD 90 undef = .int .i64 y := hdep 10 _ rfl (by kernel_rfl)
          have hcon := qCB W hI.P.inn hI.V
          refine wp_calls 13 #[pcV p l, .slice av b5.length cv, .int .i64 y] ?_ hcon ?_
          · clear hfix hdep hK hk hsz hcon
            go_simp
            try rfl
          · rintro e W2 ⟨rfl, A⟩
            exact ⟨_, rfl, hK _ _ (by simp) (hI.below A) A rfl⟩
        | 12, hk =>
          cases hk
          refine .inl ⟨?hg, fun K hK => ?_⟩
          case hg => exact wanted_is (c := true) (b := true) rfl rfl rfl (hdep 7 _ rfl (by kernel_rfl))
          have e8 : aa.tmps.getD 8 undef = .pointer (some ⟨cb, 0, none⟩) := hfix 8 (by kernel_rfl)
          obtain ⟨hpl, c0, c1⟩ := hI.C
          refine wp_value (v := .agg #[.int .i64 o, .int .i64 s]) (w' := W) ?_ (hK _ _ (by simp) hI (Below.refl _ _) rfl)
          clear hfix hdep hK hk hsz
          go_simp
        | 13, hk =>
          cases hk
          refine .inl ⟨?hg, fun K hK => ?_⟩
          case hg => exact wanted_is (c := true) (b := true) rfl rfl rfl (hdep 7 _ rfl (by kernel_rfl))
          have e91 : aa.tmps.getD 91 undef = .agg #[.int .i64 o, .int .i64 s] := hdep 11 _ rfl (by kernel_rfl)
          have e92 : aa.tmps.getD 92 undef = .agg #[.int .i64 o, .int .i64 s] := hdep 12 _ rfl (by kernel_rfl)
          refine wp_value (v := .bool true) (w' := W) ?_ (hK _ _ (by simp) hI (Below.refl _ _) rfl)
          clear hfix hdep hK hk hsz
          go_simp
        | 14, hk =>
          cases hk
          refine .inl ⟨wanted_none rfl, fun K hK => ?_⟩
          have e87 : aa.tmps.getD 87 undef = .bool true := hdep 7 _ rfl (by kernel_rfl)
          have e93 : aa.tmps.getD 93 undef = .bool true := hdep 13 _ rfl (by kernel_rfl)
          refine wp_value (v := .bool true) (w' := W) ?_ (hK _ _ (by simp) hI (Below.refl _ _) rfl)
          clear hfix hdep hK hk hsz
          go_simp
        | 15, hk =>
          cases hk
          refine .inl ⟨wanted_none rfl, fun K hK => ?_⟩
          have e94 : aa.tmps.getD 94 undef = .bool true := hdep 14 _ rfl (by kernel_rfl)
          refine wp_value (v := .bool true) (w' := W) ?_ (hK _ _ (by simp) hI (Below.refl _ _) rfl)
          clear hfix hdep hK hk hsz
          go_simp
        | 16, hk =>
          cases hk
          refine .inl ⟨?hg, fun K hK => ?_⟩
          case hg => exact wanted_is (c := true) (b := true) rfl rfl rfl (hdep 15 _ rfl (by kernel_rfl))
          have e3 : aa.tmps.getD 3 undef = .pointer (some ⟨pb, 0, none⟩) := hfix 3 (by kernel_rfl)
          obtain ⟨hpl, c0, c1, c2, c3, c4⟩ := hI.P.box
          refine wp_value (v := pcV p l) (w' := W) ?_ (hK _ _ (by simp) hI (Below.refl _ _) rfl)
          clear hfix hdep hK hk hsz
          go_simp
        | 17, hk =>
          cases hk
          refine .inl ⟨?hg, fun K hK => ?_⟩
          case hg => exact wanted_is (c := true) (b := true) rfl rfl rfl (hdep 15 _ rfl (by kernel_rfl))
          have e11 : aa.tmps.getD 11 undef = .slice aw ws.length cw := hfix 11 (by kernel_rfl)
          refine wp_value (v := .slice aw ws.length cw) (w' := W) ?_ (hK _ _ (by simp) hI (Below.refl _ _) rfl)
          clear hfix hdep hK hk hsz
          go_simp
        | 18, hk =>
          cases hk
          refine .inl ⟨?hg, fun K hK => ?_⟩
          case hg => exact wanted_is (c := true) (b := true) rfl rfl rfl (hdep 15 _ rfl (by kernel_rfl))
          have e96 : aa.tmps.getD 96 undef = pcV p l := hdep 16 _ rfl (by kernel_rfl)
          have e97 : aa.tmps.getD 97 undef = .slice aw ws.length cw := hdep 17 _ rfl (by kernel_rfl)
          have hcon := qTW W hI.P.inn hI.Wk
          refine wp_calls 18 #[pcV p l, .slice aw ws.length cw] ?_ hcon ?_
          · clear hfix hdep hK hk hsz hcon
            go_simp
            try rfl
          · rintro e W2 hq
            obtain ⟨rfl, A⟩ := hq.yes HW.out.1
            exact ⟨_, rfl, hK _ _ (by simp) (hI.below A) A rfl⟩
        | 19, hk =>
          cases hk
          refine .inl ⟨wanted_none rfl, fun K hK => ?_⟩
          have e95 : aa.tmps.getD 95 undef = .bool true := hdep 15 _ rfl (by kernel_rfl)
          have e98 : aa.tmps.getD 98 undef = .bool true := hdep 18 _ rfl (by kernel_rfl)
          refine wp_value (v := .bool true) (w' := W) ?_ (hK _ _ (by simp) hI (Below.refl _ _) rfl)
          clear hfix hdep hK hk hsz
          go_simp
        | 20, hk =>
          cases hk
          refine .inl ⟨wanted_none rfl, fun K hK => ?_⟩
          have e99 : aa.tmps.getD 99 undef = .bool true := hdep 19 _ rfl (by kernel_rfl)
          refine wp_value (v := .bool true) (w' := W) ?_ (hK _ _ (by simp) hI (Below.refl _ _) rfl)
          clear hfix hdep hK hk hsz
          go_simp
        | 21, hk =>
          cases hk
          refine .inl ⟨?hg, fun K hK => ?_⟩
          case hg => exact wanted_is (c := true) (b := true) rfl rfl rfl (hdep 20 _ rfl (by kernel_rfl))
          have e13 : aa.tmps.getD 13 undef = .pointer (some ⟨db, 0, none⟩) := hfix 13 (by kernel_rfl)
          obtain ⟨hpl, c0, c1⟩ := hI.D
          refine wp_value (v := .agg #[.int .i64 o3, .int .i64 s3]) (w' := W) ?_ (hK _ _ (by simp) hI (Below.refl _ _) rfl)
          clear hfix hdep hK hk hsz
          go_simp
        | 22, hk =>
          cases hk
          refine .inl ⟨?hg, fun K hK => ?_⟩
          case hg => exact wanted_is (c := true) (b := true) rfl rfl rfl (hdep 20 _ rfl (by kernel_rfl))
          have e3 : aa.tmps.getD 3 undef = .pointer (some ⟨pb, 0, none⟩) := hfix 3 (by kernel_rfl)
          obtain ⟨hpl, c0, c1, c2, c3, c4⟩ := hI.P.box
          refine wp_value (v := pcV p l) (w' := W) ?_ (hK _ _ (by simp) hI (Below.refl _ _) rfl)
          clear hfix hdep hK hk hsz
          go_simp
        | 23, hk =>
          cases hk
          refine .inl ⟨?hg, fun K hK => ?_⟩
          case hg => exact wanted_is (c := true) (b := true) rfl rfl rfl (hdep 20 _ rfl (by kernel_rfl))
          have e11 : aa.tmps.getD 11 undef = .slice aw ws.length cw := hfix 11 (by kernel_rfl)
          refine wp_value (v := .slice aw ws.length cw) (w' := W) ?_ (hK _ _ (by simp) hI (Below.refl _ _) rfl)
          clear hfix hdep hK hk hsz
          go_simp
        | 24, hk =>
          cases hk
          refine .inl ⟨?hg, fun K hK => ?_⟩
          case hg => exact wanted_is (c := true) (b := true) rfl rfl rfl (hdep 20 _ rfl (by kernel_rfl))
          have e4 : aa.tmps.getD 4 undef = .int .i64 y := hfix 4 (by kernel_rfl)
          refine wp_value (v := .int .i64 y) (w' := W) ?_ (hK _ _ (by simp) hI (Below.refl _ _) rfl)
          clear hfix hdep hK hk hsz
          go_simp
        | 25, hk =>
          cases hk
          refine .inl ⟨?hg, fun K hK => ?_⟩
          case hg => exact wanted_is (c := true) (b := true) rfl rfl rfl (hdep 20 _ rfl (by kernel_rfl))
          have e102 : aa.tmps.getD 102 undef = pcV p l := hdep 22 _ rfl (by kernel_rfl)
          have e103 : aa.tmps.getD 103 undef = .slice aw ws.length cw := hdep 23 _ rfl (by kernel_rfl)
          have e104 : aa.tmps.getD 104 undef = .int .i64 y := hdep 24 _ rfl (by kernel_rfl)
          have hcon := qCW W hI.P.inn hI.Wk
          refine wp_calls 13 #[pcV p l, .slice aw ws.length cw, .int .i64 y] ?_ hcon ?_
          · clear hfix hdep hK hk hsz hcon
            go_simp
            try rfl
          · rintro e W2 ⟨rfl, A⟩
            exact ⟨_, rfl, hK _ _ (by simp) (hI.below A) A rfl⟩
        | 26, hk =>
          cases hk
          refine .inl ⟨?hg, fun K hK => ?_⟩
          case hg => exact wanted_is (c := true) (b := true) rfl rfl rfl (hdep 20 _ rfl (by kernel_rfl))
          have e101 : aa.tmps.getD 101 undef = .agg #[.int .i64 o3, .int .i64 s3] := hdep 21 _ rfl (by kernel_rfl)
          have e105 : aa.tmps.getD 105 undef = .agg #[.int .i64 o4, .int .i64 s4] := hdep 25 _ rfl (by kernel_rfl)
          have hcon := qLS W
          refine wp_calls 19 #[.agg #[.int .i64 o3, .int .i64 s3], .agg #[.int .i64 o4, .int .i64 s4]] ?_ hcon ?_
          · clear hfix hdep hK hk hsz hcon
            go_simp
            try rfl
          · rintro e W2 ⟨rfl, A⟩
            exact ⟨_, rfl, hK _ _ (by simp) (hI.below A) A rfl⟩
        | 27, hk =>
          cases hk
          refine .inl ⟨?hg, fun K hK => ?_⟩
          case hg => exact wanted_is (c := true) (b := true) rfl rfl rfl (hdep 20 _ rfl (by kernel_rfl))
          have e106 : aa.tmps.getD 106 undef = .bool false := hdep 26 _ rfl (by kernel_rfl)
          refine wp_value (v := .bool true) (w' := W) ?_ (hK _ _ (by simp) hI (Below.refl _ _) rfl)
          clear hfix hdep hK hk hsz
          go_simp
        | 28, hk =>
          cases hk
          refine .inl ⟨wanted_none rfl, fun K hK => ?_⟩
          have e100 : aa.tmps.getD 100 undef = .bool true := hdep 20 _ rfl (by kernel_rfl)
          have e107 : aa.tmps.getD 107 undef = .bool true := hdep 27 _ rfl (by kernel_rfl)
          refine wp_value (v := .bool true) (w' := W) ?_ (hK _ _ (by simp) hI (Below.refl _ _) rfl)
          clear hfix hdep hK hk hsz
          go_simp
        | 29, hk =>
          cases hk
          refine .inl ⟨wanted_none rfl, fun K hK => ?_⟩
          have e108 : aa.tmps.getD 108 undef = .bool true := hdep 28 _ rfl (by kernel_rfl)
          refine wp_value (v := .bool true) (w' := W) ?_ (hK _ _ (by simp) hI (Below.refl _ _) rfl)
          clear hfix hdep hK hk hsz
          go_simp
        | 30, hk =>
          cases hk
          refine .inl ⟨?hg, fun K hK => ?_⟩
          case hg => exact wanted_is (c := true) (b := true) rfl rfl rfl (hdep 29 _ rfl (by kernel_rfl))
          have e12 : aa.tmps.getD 12 undef = .int .i64 2 := hfix 12 (by kernel_rfl)
          refine wp_value (v := .int .i64 2) (w' := W) ?_ (hK _ _ (by simp) hI (Below.refl _ _) rfl)
          clear hfix hdep hK hk hsz
          go_simp
        | 31, hk =>
          cases hk
          refine .inl ⟨?hg, fun K hK => ?_⟩
          case hg => exact wanted_is (c := true) (b := true) rfl rfl rfl (hdep 29 _ rfl (by kernel_rfl))
          have e110 : aa.tmps.getD 110 undef = .int .i64 2 := hdep 30 _ rfl (by kernel_rfl)
          refine wp_value (v := .bool true) (w' := W) ?_ (hK _ _ (by simp) hI (Below.refl _ _) rfl)
          clear hfix hdep hK hk hsz
          go_simp
        | 32, hk =>
          cases hk
          refine .inl ⟨?hg, fun K hK => ?_⟩
          case hg => exact wanted_is (c := true) (b := true) rfl rfl rfl (hdep 29 _ rfl (by kernel_rfl))
          have e111 : aa.tmps.getD 111 undef = .bool true := hdep 31 _ rfl (by kernel_rfl)
          refine wp_value (v := .bool true) (w' := W) ?_ (hK _ _ (by simp) hI (Below.refl _ _) rfl)
          clear hfix hdep hK hk hsz
          go_simp
        | 33, hk =>
          cases hk
          exact .inr ⟨(wanted_is (c := true) (b := false) rfl rfl rfl (hdep 32 _ rfl (by kernel_rfl))).trans rfl, rfl⟩
        | 34, hk =>
          cases hk
          exact .inr ⟨(wanted_is (c := true) (b := false) rfl rfl rfl (hdep 32 _ rfl (by kernel_rfl))).trans rfl, rfl⟩
        | 35, hk =>
          cases hk
          exact .inr ⟨(wanted_is (c := true) (b := false) rfl rfl rfl (hdep 32 _ rfl (by kernel_rfl))).trans rfl, rfl⟩
        | 36, hk =>
          cases hk
          refine .inl ⟨?hg, fun K hK => ?_⟩
          case hg => exact wanted_is (c := true) (b := true) rfl rfl rfl (hdep 29 _ rfl (by kernel_rfl))
          have e112 : aa.tmps.getD 112 undef = .bool true := hdep 32 _ rfl (by kernel_rfl)
          refine wp_value (v := .bool true) (w' := W) ?_ (hK _ _ (by simp) hI (Below.refl _ _) rfl)
          clear hfix hdep hK hk hsz
          go_simp
        | 37, hk =>
          cases hk
          refine .inl ⟨wanted_none rfl, fun K hK => ?_⟩
          have e109 : aa.tmps.getD 109 undef = .bool true := hdep 29 _ rfl (by kernel_rfl)
          have e116 : aa.tmps.getD 116 undef = .bool true := hdep 36 _ rfl (by kernel_rfl)
          refine wp_value (v := .bool true) (w' := W) ?_ (hK _ _ (by simp) hI (Below.refl _ _) rfl)
          clear hfix hdep hK hk hsz
          go_simp
        | 38, hk =>
          cases hk
          refine .inl ⟨wanted_none rfl, fun K hK => ?_⟩
          have e117 : aa.tmps.getD 117 undef = .bool true := hdep 37 _ rfl (by kernel_rfl)
          refine wp_value (v := .bool true) (w' := W) ?_ (hK _ _ (by simp) hI (Below.refl _ _) rfl)
          clear hfix hdep hK hk hsz
          go_simp
        | 39, hk =>
          cases hk
          refine .inl ⟨?hg, fun K hK => ?_⟩
          case hg => exact wanted_is (c := true) (b := true) rfl rfl rfl (hdep 38 _ rfl (by kernel_rfl))
          have e18 : aa.tmps.getD 18 undef = .int .i64 s5 := hfix 18 (by kernel_rfl)
          refine wp_value (v := .int .i64 s5) (w' := W) ?_ (hK _ _ (by simp) hI (Below.refl _ _) rfl)
          clear hfix hdep hK hk hsz
          go_simp
        | 40, hk =>
          cases hk
          refine .inl ⟨?hg, fun K hK => ?_⟩
          case hg => exact wanted_is (c := true) (b := true) rfl rfl rfl (hdep 38 _ rfl (by kernel_rfl))
          have e20 : aa.tmps.getD 20 undef = .int .i64 s5 := hfix 20 (by kernel_rfl)
          refine wp_value (v := .int .i64 s5) (w' := W) ?_ (hK _ _ (by simp) hI (Below.refl _ _) rfl)
          clear hfix hdep hK hk hsz
          go_simp
        | 41, hk =>
          cases hk
          refine .inl ⟨?hg, fun K hK => ?_⟩
          case hg => exact wanted_is (c := true) (b := true) rfl rfl rfl (hdep 38 _ rfl (by kernel_rfl))
          have e119 : aa.tmps.getD 119 undef = .int .i64 s5 := hdep 39 _ rfl (by kernel_rfl)
          have e120 : aa.tmps.getD 120 undef = .int .i64 s5 := hdep 40 _ rfl (by kernel_rfl)
          refine wp_value (v := .bool true) (w' := W) ?_ (hK _ _ (by simp) hI (Below.refl _ _) rfl)
          clear hfix hdep hK hk hsz
          go_simp
        | 42, hk =>
          cases hk
          refine .inl ⟨wanted_none rfl, fun K hK => ?_⟩
          have e118 : aa.tmps.getD 118 undef = .bool true := hdep 38 _ rfl (by kernel_rfl)
          have e121 : aa.tmps.getD 121 undef = .bool true := hdep 41 _ rfl (by kernel_rfl)
          refine wp_value (v := .bool true) (w' := W) ?_ (hK _ _ (by simp) hI (Below.refl _ _) rfl)
          clear hfix hdep hK hk hsz
          go_simp
        | 43, hk =>
          cases hk
          refine .inl ⟨wanted_none rfl, fun K hK => ?_⟩
          have e122 : aa.tmps.getD 122 undef = .bool true := hdep 42 _ rfl (by kernel_rfl)
          refine wp_value (v := .bool true) (w' := W) ?_ (hK _ _ (by simp) hI (Below.refl _ _) rfl)
          clear hfix hdep hK hk hsz
          go_simp
        | 44, hk =>
          cases hk
          refine .inl ⟨?hg, fun K hK => ?_⟩
          case hg => exact wanted_is (c := true) (b := true) rfl rfl rfl (hdep 43 _ rfl (by kernel_rfl))
          have e17 : aa.tmps.getD 17 undef = .slice a1 ks.length d1 := hfix 17 (by kernel_rfl)
          refine wp_value (v := .slice a1 ks.length d1) (w' := W) ?_ (hK _ _ (by simp) hI (Below.refl _ _) rfl)
          clear hfix hdep hK hk hsz
          go_simp
        | 45, hk =>
          cases hk
          refine .inl ⟨?hg, fun K hK => ?_⟩
          case hg => exact wanted_is (c := true) (b := true) rfl rfl rfl (hdep 43 _ rfl (by kernel_rfl))
          have e19 : aa.tmps.getD 19 undef = .slice a2 ks.length d2 := hfix 19 (by kernel_rfl)
          refine wp_value (v := .slice a2 ks.length d2) (w' := W) ?_ (hK _ _ (by simp) hI (Below.refl _ _) rfl)
          clear hfix hdep hK hk hsz
          go_simp
        | 46, hk =>
          cases hk
          refine .inl ⟨?hg, fun K hK => ?_⟩
          case hg => exact wanted_is (c := true) (b := true) rfl rfl rfl (hdep 43 _ rfl (by kernel_rfl))
          have e124 : aa.tmps.getD 124 undef = .slice a1 ks.length d1 := hdep 44 _ rfl (by kernel_rfl)
          have e125 : aa.tmps.getD 125 undef = .slice a2 ks.length d2 := hdep 45 _ rfl (by kernel_rfl)
          have hcon := sameInts_any a1 a2 d1 d2 ks W (by omega) hI.K1 hI.K2
          refine wp_calls 17 #[.slice a1 ks.length d1, .slice a2 ks.length d2] ?_ hcon ?_
          · clear hfix hdep hK hk hsz hcon
            go_simp
            try rfl
          · rintro e W2 ⟨rfl, A⟩
            exact ⟨_, rfl, hK _ _ (by simp) (hI.below A) A rfl⟩
        | 47, hk =>
          cases hk
          refine .inl ⟨wanted_none rfl, fun K hK => ?_⟩
          have e123 : aa.tmps.getD 123 undef = .bool true := hdep 43 _ rfl (by kernel_rfl)
          have e126 : aa.tmps.getD 126 undef = .bool true := hdep 46 _ rfl (by kernel_rfl)
          refine wp_value (v := .bool true) (w' := W) ?_ (hK _ _ (by simp) hI (Below.refl _ _) rfl)
          clear hfix hdep hK hk hsz
          go_simp
        | 48, hk =>
          cases hk
          refine .inl ⟨wanted_none rfl, fun K hK => ?_⟩
          have e127 : aa.tmps.getD 127 undef = .bool true := hdep 47 _ rfl (by kernel_rfl)
          refine wp_value (v := .bool true) (w' := W) ?_ (hK _ _ (by simp) hI (Below.refl _ _) rfl)
          clear hfix hdep hK hk hsz
          go_simp
        | k + 49, hk => cases hk
      case refine_2 =>
        intro aa W hI hd hsz hfix hpost
        have e2 : aa.tmps.getD 2 undef = .bool true := hpost 48 _ rfl
        have hd' : aa.defers = [] := hd
        have hRR : (results Try.f3 aa.tmps).run Try.prog W = .ok (.bool true) W := by
          simp [results, Try.results3, go_sem]
          simpa using e2
        clear hpost hfix hsz hd
        have hBB : bodyPost Try.prog Try.f3 (fun e w' => e = Ending.returned (Value.bool true) ∧ Below w.heap.size w w') .ret aa W := bodyPost_ret hRR hd' ⟨rfl, hI.bel⟩
        first
          | (dsimp only [Exit.then]; apply_assumption; exact wp_ret hBB)
          | (go_wp2; exact hBB)
          | (unfold Exit.then; dsimp only; apply_assumption; exact wp_ret hBB)
end Go.Proofs.Ytgaejcljabhijaa
