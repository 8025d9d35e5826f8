/- Calls and dots behind a value; chains, as the program's reader reads them. -/
import Derived.Test.YtcbbnphpkgifoaaGreatDoorRdI9
import Derived.Test.YtcbbnphpkgifoaaGreatDoorKak
import Derived.Deep.LoopGhost
namespace Go.Proofs.YtcbbnphpkgifoaaGreatDoor
open Go.RowKit
set_option maxHeartbeats 8000000
set_option maxRecDepth 100000
theorem iLvl (t : ByteArray) (w : World) : Calls Tryz.prog 293 #[.string t] w fun e w' => e = .returned (.int .i64 (lvl t : Nat)) ∧ w' = w := by
 have q1 : (t.toList == [124, 124]) = decide (t = (⟨#[124, 124]⟩ : ByteArray)) := lit_beq _ _
 have q2 : (t.toList == [38, 38]) = decide (t = (⟨#[38, 38]⟩ : ByteArray)) := lit_beq _ _
 have q3 : (t.toList == [61, 61]) = decide (t = (⟨#[61, 61]⟩ : ByteArray)) := lit_beq _ _
 have q4 : (t.toList == [60]) = decide (t = (⟨#[60]⟩ : ByteArray)) := lit_beq _ _
 have q5 : (t.toList == [43]) = decide (t = (⟨#[43]⟩ : ByteArray)) := lit_beq _ _
 have q6 : (t.toList == [45]) = decide (t = (⟨#[45]⟩ : ByteArray)) := lit_beq _ _
 have q7 : (t.toList == [42]) = decide (t = (⟨#[42]⟩ : ByteArray)) := lit_beq _ _
 by_cases h1 : t = (⟨#[124, 124]⟩ : ByteArray)
 ·subst h1
  clear q1 q2 q3 q4 q5 q6 q7
  go_enter Tryz.func293, Tryz.ntmps293
  go_wp2
  go_ret
  exact ⟨rfl, rfl⟩
 by_cases h2 : t = (⟨#[38, 38]⟩ : ByteArray)
 ·subst h2
  clear q1 q2 q3 q4 q5 q6 q7
  go_enter Tryz.func293, Tryz.ntmps293
  go_wp2
  go_ret
  exact ⟨rfl, rfl⟩
 by_cases h3 : t = (⟨#[61, 61]⟩ : ByteArray)
 ·subst h3
  clear q1 q2 q3 q4 q5 q6 q7
  go_enter Tryz.func293, Tryz.ntmps293
  go_wp2
  go_ret
  exact ⟨rfl, rfl⟩
 by_cases h4 : t = (⟨#[60]⟩ : ByteArray)
 ·subst h4
  clear q1 q2 q3 q4 q5 q6 q7
  go_enter Tryz.func293, Tryz.ntmps293
  go_wp2
  go_ret
  exact ⟨rfl, rfl⟩
 by_cases h5 : t = (⟨#[43]⟩ : ByteArray)
 ·subst h5
  clear q1 q2 q3 q4 q5 q6 q7
  go_enter Tryz.func293, Tryz.ntmps293
  go_wp2
  go_ret
  exact ⟨rfl, rfl⟩
 by_cases h6 : t = (⟨#[45]⟩ : ByteArray)
 ·subst h6
  clear q1 q2 q3 q4 q5 q6 q7
  go_enter Tryz.func293, Tryz.ntmps293
  go_wp2
  go_ret
  exact ⟨rfl, rfl⟩
 by_cases h7 : t = (⟨#[42]⟩ : ByteArray)
 ·subst h7
  clear q1 q2 q3 q4 q5 q6 q7
  go_enter Tryz.func293, Tryz.ntmps293
  go_wp2
  go_ret
  exact ⟨rfl, rfl⟩
 ·have e : lvl t = 0 := by unfold lvl; rw [if_neg h1, if_neg h2, if_neg h3, if_neg h4, if_neg h5, if_neg h6, if_neg h7]
  rw [e]
  rw [decide_eq_false h1] at q1
  rw [decide_eq_false h2] at q2
  rw [decide_eq_false h3] at q3
  rw [decide_eq_false h4] at q4
  rw [decide_eq_false h5] at q5
  rw [decide_eq_false h6] at q6
  rw [decide_eq_false h7] at q7
  clear h1 h2 h3 h4 h5 h6 h7 e
  go_enter Tryz.func293, Tryz.ntmps293
  go_wp2
  go_ret
  exact ⟨rfl, rfl⟩
section
variable {B g : Nat} {xs : List Sg} {A : Nat → Prop} {w : World} {s : Ps}
theorem iTail {o : Option (Nat × Ps)} {O : Bool → Ps → Rs Nat} (h : Rd B g xs A w s) (hX : xs.length ≤ 3000) (hA : ∀ b, A b → b < w.heap.size) (hV : Reads B g xs 260 (O true)) (hP : Reads B g xs 272 (O false)) (hr : tailP xs O s = some o) : Calls Tryz.prog 292 #[.pointer (some ⟨g, 0, none⟩)] w (PostR B g xs A w VN o) := by
 obtain ⟨i0, hi, hz0, hz1, hz2⟩ := info_parts infoI1
 have hbase := h.base
 have HF := hidOf (Fr.refl B w)
 have HB := hidOf h
 have HX := hidOf hr
 clear h hr
 go_enter Tryz.func292, Tryz.ntmps292
 go_wp2_with fail
 rcases bnd_some HX.out with ⟨h1, rfl⟩ | ⟨k0, s1, h1, hr1⟩
 ·refine (iBase HB.out hX (fun b hb => Nat.lt_of_lt_of_le (hA b hb) HF.out.size) hV hP h1).mono ?_
  rintro e wf ⟨hF, pl, rfl⟩
  exact ⟨rfl, HF.out.trans hF, pl, rfl⟩
 refine (iBase HB.out hX (fun b hb => Nat.lt_of_lt_of_le (hA b hb) HF.out.size) hV hP h1).mono ?_
 rintro e w1 ⟨⟨rfl, hk1⟩, R1, F1⟩
 have FF1 := HF.out.trans F1
 clear HF HX
 have HF := hidOf FF1
 have HB2 := hidOf R1
 have HX := hidOf hr1
 clear HB
 have HB := HB2
 have HK := hidOf hk1
 clear HB2 FF1 R1 F1 h1 hr1 hk1
 have hk0 := HK.out
 go_wp2
 go_loopg [3] (lim xs) (fun f v wr => ∃ (k : Nat) (q : Ps), v = .int .i64 k ∧ k < q.ns.length ∧ Rd B g xs A wr q ∧ Fr B w wr ∧ Hid (tailL xs O f k q = some o))
 case atStart => exact ⟨k0, s1, rfl, hk0, HB.out, HF.out, HX⟩
 case round =>
  obtain ⟨k, q, rfl, hk, R, F, HX2⟩ := hrel
  clear HF HB HX
  have HF := hidOf F
  have HB := hidOf R
  have HX := HX2
  clear F R HX2 hk0
  cases gk with
  | zero => exact absurd HX.out (by simp [tailL])
  | succ f =>
   have hx := HX.out
   unfold tailL at hx
   clear HX
   have HX := hidOf hx
   clear hx
   go_wp2_with fail
   by_cases ht : txt xs q.p = (⟨#[40]⟩ : ByteArray)
   ·have hx := HX.out
    rw [if_pos ht] at hx
    clear HX
    have HX := hidOf hx
    clear hx
    have qT := iIs_any HB.out (⟨#[40]⟩ : ByteArray)
    rw [decide_eq_true ht] at qT
    clear ht
    refine (qT).mono ?_
    rintro e w11 ⟨rfl, B11⟩
    have R11 := HB.out.below B11
    have FF11 := HF.out.trans (Fr.ofB (B := B) B11 HB.out.base)
    clear HF HB
    have HF := hidOf FF11
    have HB := hidOf R11
    clear FF11 R11 B11
    go_wp2_with fail
    rcases bnd_some HX.out with ⟨h12, rfl⟩ | ⟨k2, s12, h12, hr12⟩
    ·refine (iCall HB.out hX (fun b hb => Nat.lt_of_lt_of_le (hA b hb) HF.out.size) hV h12).mono ?_
     rintro e wf ⟨hF, pl, rfl⟩
     exact ⟨rfl, HF.out.trans hF, pl, rfl⟩
    refine (iCall HB.out hX (fun b hb => Nat.lt_of_lt_of_le (hA b hb) HF.out.size) hV h12).mono ?_
    rintro e w12 ⟨⟨rfl, hk12⟩, R12, F12⟩
    have FF12 := HF.out.trans F12
    clear HF HX
    have HF := hidOf FF12
    have HB2 := hidOf R12
    have HX := hidOf hr12
    clear HB
    have HB := HB2
    have HK := hidOf hk12
    clear HB2 FF12 R12 F12 h12 hr12 hk12
    have hk2 := HK.out
    go_wp2
    go_roundg f
    case measure => omega
    case rel => exact ⟨k2, s12, rfl, hk2, HB.out, HF.out, HX⟩
   ·have hx := HX.out
    rw [if_neg ht] at hx
    clear HX
    have HX := hidOf hx
    clear hx
    have qT := iIs_any HB.out (⟨#[40]⟩ : ByteArray)
    rw [decide_eq_false ht] at qT
    clear ht
    refine (qT).mono ?_
    rintro e w11 ⟨rfl, B11⟩
    have R11 := HB.out.below B11
    have FF11 := HF.out.trans (Fr.ofB (B := B) B11 HB.out.base)
    clear HF HB
    have HF := hidOf FF11
    have HB := hidOf R11
    clear FF11 R11 B11
    go_wp2_with fail
    by_cases ht : txt xs q.p = (⟨#[46]⟩ : ByteArray)
    ·have hx := HX.out
     rw [if_pos ht] at hx
     clear HX
     have HX := hidOf hx
     clear hx
     have qT := iTakeY HB.out hX (lit_ne _ _) ht
     clear ht
     refine qT.mono ?_
     rintro e w12 ⟨rfl, R12, F12⟩
     have FF12 := HF.out.trans F12
     clear qT HF HB
     have HF := hidOf FF12
     have HB := hidOf R12
     clear FF12 R12 F12
     go_wp2_with fail
     rcases bnd_some HX.out with ⟨h13, rfl⟩ | ⟨t, s13, h13, hr13⟩
     ·refine (iName HB.out hX h13).mono ?_
      rintro e wf ⟨hF, pl, rfl⟩
      exact ⟨rfl, HF.out.trans hF, pl, rfl⟩
     refine (iName HB.out hX h13).mono ?_
     rintro e w13 ⟨rfl, R13, F13⟩
     have FF13 := HF.out.trans F13
     clear HF HX
     have HF := hidOf FF13
     have HB2 := hidOf R13
     have HX := hidOf hr13
     clear HB
     have HB := HB2
     clear HB2 FF13 R13 F13 h13 hr13
     go_wp2_with fail
     have B14 : Below w13.heap.size w13 (w13.alloc (.cells #[.int .i64 (k : Int)] tI)) := (Below.refl _ _).alloc (Nat.le_refl _) _
     have R14 : Rd B g xs (And1 A (.slice (some ⟨w13.heap.size, 0, none⟩) 1 1)) (w13.alloc (.cells #[.int .i64 (k : Int)] tI)) s13 := (HB.out.avoid (A' := And1 A (.slice (some ⟨w13.heap.size, 0, none⟩) 1 1)) (fun k hk => hk.imp_right (fun e => by injection e with e; show w13.heap.size ≤ k; exact Nat.le_of_eq e))).below B14
     have o14 : (w13.alloc (.cells #[.int .i64 (k : Int)] tI)).ownsRow w.heap.size tI 1 (.slice (some ⟨w13.heap.size, 0, none⟩) 1 1) 1 (intVals [(k : Int)]) := World.ownsRow_lit w13 #[.int .i64 (k : Int)] 1 HF.out.size (by decide) rfl
     have FF14 := HF.out.trans (Fr.ofB (B := B) B14 HB.out.base)
     clear HF HB
     have HF := hidOf FF14
     have HB := hidOf R14
     have HP := hidOf o14
     clear FF14 R14 o14 B14
     rcases bnd_some HX.out with ⟨h15, rfl⟩ | ⟨k3, s15, h15, hr15⟩
     ·refine (iAdd 6 t [(k : Int)] (some ⟨w13.heap.size, 0, none⟩) 1 (HB.out.avoid (fun k hk => .inl (.inl hk))) (ownsRow_base HP.out hbase) (fun b hb hb2 => by have h7 := (HP.out.lt b hb).1; have h8 := hA b hb2; omega) h15).mono ?_
      rintro e wf ⟨hF, pl, rfl⟩
      exact ⟨rfl, HF.out.trans hF, pl, rfl⟩
     refine (iAdd 6 t [(k : Int)] (some ⟨w13.heap.size, 0, none⟩) 1 (HB.out.avoid (fun k hk => .inl (.inl hk))) (ownsRow_base HP.out hbase) (fun b hb hb2 => by have h7 := (HP.out.lt b hb).1; have h8 := hA b hb2; omega) h15).mono ?_
     rintro e w15 ⟨⟨rfl, hk15⟩, R15, F15⟩
     have FF15 := HF.out.trans F15
     clear HF HX
     have HF := hidOf FF15
     have HB2 := hidOf R15
     have HX := hidOf hr15
     clear HB
     have HB := HB2
     have HK := hidOf hk15
     clear HB2 FF15 R15 F15 h15 hr15 hk15
     have hk3 := HK.out
     clear HP
     go_wp2
     go_roundg f
     case measure => omega
     case rel => exact ⟨k3, s15, rfl, hk3, HB.out, HF.out, HX⟩
    ·have hx := HX.out
     rw [if_neg ht] at hx
     clear HX
     have HX := hidOf hx
     clear hx
     have qT := iTakeN HB.out ht
     clear ht
     refine (qT).mono ?_
     rintro e w12 ⟨rfl, B12⟩
     have R12 := HB.out.below B12
     have FF12 := HF.out.trans (Fr.ofB (B := B) B12 HB.out.base)
     clear HF HB
     have HF := hidOf FF12
     have HB := hidOf R12
     clear FF12 R12 B12
     obtain rfl : some (k, q) = o := by
      have := HX.out
      injection this
     clear HX
     go_wp2
     go_ret
     exact ⟨⟨rfl, hk⟩, HB.out, HF.out⟩
end
set_option maxHeartbeats 8000000
set_option maxRecDepth 100000
def ReadsAt (B g : Nat) (xs : List Sg) (K : Nat) (c : Int) (O : Ps → Rs Nat) : Prop := ∀ (A : Nat → Prop) (W : World) (s : Ps) (o : Option (Nat × Ps)), (∀ b, A b → b < W.heap.size) → Rd B g xs A W s → O s = some o → Calls Tryz.prog K #[.pointer (some ⟨g, 0, none⟩), .int .i64 c] W (PostR B g xs A W VN o)
theorem bnd_assoc {α β γ : Type} (x : Rs α) (f : α → Ps → Rs β) (k : β → Ps → Rs γ) : bnd (bnd x f) k = bnd x fun a s => bnd (f a s) k := by
 match x with
 | none => rfl
 | some none => rfl
 | some (some (_, _)) => rfl
theorem iLvlB (t : ByteArray) (w : World) : Calls Tryz.prog 293 #[.string t] w fun e w' => e = .returned (.int .i64 (lvl t : Nat)) ∧ Below w.heap.size w w' := (iLvl t w).mono fun _ _ h => ⟨h.1, h.2 ▸ Below.refl _ _⟩
section
variable {B g : Nat} {xs : List Sg} {A : Nat → Prop} {w : World} {s : Ps}
theorem iFrom {o : Option (Nat × Ps)} {nx : Ps → Rs Nat} {first : Nat} {lv : Int} (h : Rd B g xs A w s) (hX : xs.length ≤ 3000) (hA : ∀ b, A b → b < w.heap.size) (hl : 1 ≤ lv ∧ lv ≤ 6) (hN : ReadsAt B g xs 283 (lv + 1) nx) (hm : txt xs s.p ≠ ByteArray.empty) (hr : fromL xs nx (txt xs s.p) (lim xs) [(first : Int)] s = some o) : Calls Tryz.prog 294 #[.pointer (some ⟨g, 0, none⟩), .int .i64 (first : Int), .int .i64 lv] w (PostR B g xs A w VN o) := by
 obtain ⟨i0, hi, hz0, hz1, hz2⟩ := info_parts infoI1
 have hbase := h.base
 have HF := hidOf (Fr.refl B w)
 have HB := hidOf h
 have HX := hidOf hr
 clear h hr
 go_enter Tryz.func294, Tryz.ntmps294
 go_wp2_with fail
 refine (iNext_any HB.out).mono ?_
 rintro e w1 ⟨⟨pl1, rfl⟩, B1⟩
 have R1 := HB.out.below B1
 have FF1 := HF.out.trans (Fr.ofB (B := B) B1 HB.out.base)
 clear HF HB
 have HF := hidOf FF1
 have HB := hidOf R1
 clear FF1 R1 B1
 have q := fSg1 (knd xs s.p) (txt xs s.p) pl1 (blk xs s.p)
 have B2 : Below w1.heap.size w1 (w1.alloc (.cells #[.int .i64 (first : Int)] tI)) := (Below.refl _ _).alloc (Nat.le_refl _) _
 have R2 : Rd B g xs (And1 A (.slice (some ⟨w1.heap.size, 0, none⟩) 1 1)) (w1.alloc (.cells #[.int .i64 (first : Int)] tI)) s := (HB.out.avoid (A' := And1 A (.slice (some ⟨w1.heap.size, 0, none⟩) 1 1)) (fun k hk => hk.imp_right (fun e => by injection e with e; show w1.heap.size ≤ k; exact Nat.le_of_eq e))).below B2
 have o2 : (w1.alloc (.cells #[.int .i64 (first : Int)] tI)).ownsRow w.heap.size tI 1 (.slice (some ⟨w1.heap.size, 0, none⟩) 1 1) 1 (intVals [(first : Int)]) := World.ownsRow_lit w1 #[.int .i64 (first : Int)] 1 HF.out.size (by decide) rfl
 have FF2 := HF.out.trans (Fr.ofB (B := B) B2 HB.out.base)
 clear HF HB
 have HF := hidOf FF2
 have HB := hidOf R2
 have HP := hidOf o2
 clear FF2 R2 o2 B2
 obtain ⟨v0, hv0⟩ : ∃ v0, v0 = Value.slice (some ⟨w1.heap.size, 0, none⟩) 1 1 := ⟨_, rfl⟩
 have hlv := hl
 go_wp2
 rw [← hv0]
 rw [← hv0] at HP HB
 clear hv0 q
 go_loopg [8] (lim xs) (fun f v wr => ∃ (ks : List Int) (q : Ps), f + ks.length = lim xs + 1 ∧ wr.ownsRow w.heap.size tI 1 v ks.length (intVals ks) ∧ Rd B g xs (And1 A v) wr q ∧ Fr B w wr ∧ Hid (fromL xs nx (txt xs s.p) f ks q = some o))
 case atStart => exact ⟨[(first : Int)], s, rfl, HP.out, HB.out, HF.out, HX⟩
 case round =>
  obtain ⟨ks, q, hf, P, R, F, HX2⟩ := hrel
  clear HF HB HX HP
  obtain ⟨ao, cc, rfl⟩ := owns_slice P
  have HF := hidOf F
  have HB := hidOf R
  have HP := hidOf P
  have HX := HX2
  clear F R P HX2
  have hL : lim xs ≤ 3001 := by unfold lim; omega
  cases gk with
  | zero => exact absurd HX.out (by simp [fromL])
  | succ f =>
   have hx := HX.out
   unfold fromL at hx
   clear HX
   have HX := hidOf hx
   clear hx
   go_wp2_with fail
   by_cases ht : txt xs q.p = txt xs s.p
   ·have hx := HX.out
    rw [if_pos ht] at hx
    clear HX
    have HX := hidOf hx
    clear hx
    have qT := iTakeY HB.out hX hm ht
    clear ht
    refine qT.mono ?_
    rintro e w11 ⟨rfl, R11, F11⟩
    have FF11 := HF.out.trans F11
    have o11 := F11.ints HP.out
    clear qT HF HB HP
    have HF := hidOf FF11
    have HB := hidOf R11
    have HP := hidOf o11
    clear FF11 R11 F11 o11
    go_wp2_with fail
    rcases bnd_some HX.out with ⟨h12, rfl⟩ | ⟨k2, s12, h12, hr12⟩
    ·refine (hN _ _ _ _ (And1.lt hA HF.out.size HP.out) HB.out h12).mono ?_
     rintro e wf ⟨hF, pl, rfl⟩
     exact ⟨rfl, HF.out.trans hF, pl, rfl⟩
    refine (hN _ _ _ _ (And1.lt hA HF.out.size HP.out) HB.out h12).mono ?_
    rintro e w12 ⟨⟨rfl, hk12⟩, R12, F12⟩
    have o12 := F12.ints HP.out
    have FF12 := HF.out.trans F12
    clear HF HX HP
    have HF := hidOf FF12
    have HB2 := hidOf R12
    have HX := hidOf hr12
    clear HB
    have HB := HB2
    have HP := hidOf o12
    have HK := hidOf hk12
    clear HB2 FF12 R12 F12 h12 hr12 o12 hk12
    have hs13 := HF.out.size
    go_wp2_with (at_builtin; refine wpList_append_own2 rfl _ _ 57 rfl w.heap.size 3 i0 _ 1 8 Tryz.underlying57 hi hz0 hz1 hz2 rfl (by decide) (.slice ao ks.length cc) (ks.length) (intVals ks) rfl (HP.out.alloc _) ⟨w12.heap.size, 0, none⟩ 1 1 [.int .i64 (k2 : Int)] rfl rfl (cell_one_new _ _ _) (by simp [Value.oneCell']) (by unfold maxLen; omega) (by omega) (by simp; omega) ?_; intro v' w13 hown' hgrow5 hpl5)
    have B13 : Below w12.heap.size w12 (w12.alloc (.cells #[.int .i64 (k2 : Int)] tI)) := (Below.refl _ _).alloc (Nat.le_refl _) _
    have FF13 := (HF.out.trans (Fr.ofB (B := B) B13 HB.out.base)).growI hbase hgrow5 (fun b hb => (HP.out.lt b hb).1)
    have R13 := (HB.out.below B13).growI (A' := And1 A v') (HP.out.alloc _) hgrow5 (fun b hb => .inr hb) (fun b hb => by
     rcases hb with hb | hb
     ·exact .inl (.inl hb)
     ·rcases hpl5 b hb with h6 | h6
      ·exact .inl (.inr h6)
      ·exact .inr h6)
    have o13 := own_app (ks := ks) (k := (k2 : Int)) hown' rfl
    clear hown' hgrow5 hpl5 HF HB HP hs13 B13
    obtain ⟨ao13, cc13, rfl⟩ := owns_slice o13
    have HF := hidOf FF13
    have HB := hidOf R13
    have HP := hidOf o13
    clear FF13 R13 o13
    go_roundg f
    case measure => omega
    case rel => exact ⟨ks ++ [(k2 : Int)], s12, by simp; omega, HP.out, HB.out, HF.out, HX⟩
   ·have hx := HX.out
    rw [if_neg ht] at hx
    clear HX
    have HX := hidOf hx
    clear hx
    have qT := iTakeN HB.out ht
    clear ht
    refine (qT).mono ?_
    rintro e w11 ⟨rfl, B11⟩
    have R11 := HB.out.below B11
    have FF11 := HF.out.trans (Fr.ofB (B := B) B11 HB.out.base)
    have o11 := owns_below HP.out B11
    clear HF HB HP
    have HF := hidOf FF11
    have HB := hidOf R11
    have HP := hidOf o11
    clear FF11 R11 B11 o11
    go_wp2_with fail
    refine (iAdd 7 (txt xs s.p) ks (ao) cc (HB.out.avoid (fun k hk => .inl (.inl hk))) (ownsRow_base HP.out hbase) (fun b hb hb2 => by have h7 := (HP.out.lt b hb).1; have h8 := hA b hb2; omega) HX.out).mono ?_
    intro e we H
    have H2 := H.into HF.out
    clear H
    rcases o with _ | ⟨k9, s9⟩
    ·obtain ⟨hF, pl, rfl⟩ := H2
     exact ⟨rfl, hF, pl, rfl⟩
    ·obtain ⟨⟨rfl, hk9⟩, H⟩ := H2
     have HH := hidOf H
     clear H
     clear HF HB HX
     go_wp2
     go_ret
     exact ⟨⟨rfl, hk9⟩, HH.out⟩
theorem iChain {O : Bool → Ps → Rs Nat} (hX : xs.length ≤ 3000) (hV : Reads B g xs 260 (O true)) (hP : Reads B g xs 272 (O false)) : ∀ (j : Nat), j ≤ 6 → ReadsAt B g xs 283 (7 - (j : Int)) (chainP xs O j) := by
 intro j
 induction j with
 | zero =>
  intro _ A w s o hA h hr
  have hr2 : tailP xs O s = some o := hr
  clear hr
  have hr := hr2
  clear hr2
  rw [show (7 : Int) - ((0 : Nat) : Int) = 7 by decide]
  have hbase := h.base
  have HF := hidOf (Fr.refl B w)
  have HB := hidOf h
  have HX := hidOf hr
  clear h hr
  go_enter Tryz.func283, Tryz.ntmps283
  go_wp2_with fail
  refine (iTail HB.out hX (fun b hb => Nat.lt_of_lt_of_le (hA b hb) HF.out.size) hV hP HX.out).mono ?_
  intro e we H
  have H2 := H.into HF.out
  clear H
  rcases o with _ | ⟨k9, s9⟩
  ·obtain ⟨hF, pl, rfl⟩ := H2
   exact ⟨rfl, hF, pl, rfl⟩
  ·obtain ⟨⟨rfl, hk9⟩, H⟩ := H2
   have HH := hidOf H
   clear H
   clear HF HB HX
   go_wp2
   go_ret
   exact ⟨⟨rfl, hk9⟩, HH.out⟩
 | succ j ih =>
  intro hj A w s o hA h hr
  have hr2 : (bnd (chainP xs O j s) fun v s1 => chL xs (chainP xs O j) (6 - j) (lim xs) v s1) = some o := hr
  clear hr
  have hr := hr2
  clear hr2
  have hN := ih (by omega)
  obtain ⟨lv, hlv⟩ : ∃ lv : Int, lv = 7 - ((j + 1 : Nat) : Int) := ⟨_, rfl⟩
  rw [← hlv]
  rw [show (7 : Int) - (j : Int) = lv + 1 by rw [hlv]; omega] at hN
  have hl1 : 1 ≤ lv := by omega
  have hl2 : lv ≤ 6 := by omega
  have HL := hidOf (show lv = ((6 - j : Nat) : Int) by rw [hlv]; omega)
  have HJ := hidOf hj
  clear hlv ih hj
  have hbase := h.base
  have HF := hidOf (Fr.refl B w)
  have HB := hidOf h
  have HX := hidOf hr
  clear h hr
  go_enter Tryz.func283, Tryz.ntmps283
  go_wp2_with fail
  rcases bnd_some HX.out with ⟨h1, rfl⟩ | ⟨k0, s1, h1, hr1⟩
  ·refine (hN _ _ _ _ (fun b hb => Nat.lt_of_lt_of_le (hA b hb) HF.out.size) HB.out h1).mono ?_
   rintro e wf ⟨hF, pl, rfl⟩
   exact ⟨rfl, HF.out.trans hF, pl, rfl⟩
  refine (hN _ _ _ _ (fun b hb => Nat.lt_of_lt_of_le (hA b hb) HF.out.size) HB.out h1).mono ?_
  rintro e w1 ⟨⟨rfl, hk1⟩, R1, F1⟩
  have FF1 := HF.out.trans F1
  clear HF HX
  have HF := hidOf FF1
  have HB2 := hidOf R1
  have HX := hidOf hr1
  clear HB
  have HB := HB2
  have HK := hidOf hk1
  clear HB2 FF1 R1 F1 h1 hr1 hk1
  have hk0 := HK.out
  go_wp2
  go_loopg [5] (lim xs) (fun f v wr => ∃ (k : Nat) (q : Ps), v = .int .i64 k ∧ k < q.ns.length ∧ Rd B g xs A wr q ∧ Fr B w wr ∧ Hid (chL xs (chainP xs O j) (6 - j) f k q = some o))
  case atStart => exact ⟨k0, s1, rfl, hk0, HB.out, HF.out, HX⟩
  case round =>
   obtain ⟨k, q, rfl, hk, R, F, HX2⟩ := hrel
   clear HF HB HX
   have HF := hidOf F
   have HB := hidOf R
   have HX := HX2
   clear F R HX2 hk0
   cases gk with
   | zero => exact absurd HX.out (by simp [chL])
   | succ f =>
    have hx := HX.out
    unfold chL at hx
    clear HX
    have HX := hidOf hx
    clear hx
    go_wp2_with fail
    refine (iNext_any HB.out).mono ?_
    rintro e w11 ⟨⟨pl11, rfl⟩, B11⟩
    have R11 := HB.out.below B11
    have FF11 := HF.out.trans (Fr.ofB (B := B) B11 HB.out.base)
    clear HF HB
    have HF := hidOf FF11
    have HB := hidOf R11
    clear FF11 R11 B11
    have q := fSg1 (knd xs q.p) (txt xs q.p) pl11 (blk xs q.p)
    go_wp2_with fail
    clear q
    have qL := iLvlB (txt xs q.p) w11
    by_cases ht : lvl (txt xs q.p) = 6 - j
    ·have hx := HX.out
     rw [if_pos ht] at hx
     clear HX
     have HX := hidOf hx
     clear hx
     have hq : (((lvl (txt xs q.p) : Nat) : Int) == lv) = true := by rw [ht, HL.out]; simp
     have HT := hidOf ht
     clear ht
     refine (qL).mono ?_
     rintro e w12 ⟨rfl, B12⟩
     have R12 := HB.out.below B12
     have FF12 := HF.out.trans (Fr.ofB (B := B) B12 HB.out.base)
     clear HF HB
     have HF := hidOf FF12
     have HB := hidOf R12
     clear FF12 R12 B12
     clear qL
     go_wp2_with fail
     have hm := lvl_empty HT.out (by have := HJ.out; omega)
     rcases bnd_some HX.out with ⟨h13, rfl⟩ | ⟨k2, s13, h13, hr13⟩
     ·refine (iFrom HB.out hX (fun b hb => Nat.lt_of_lt_of_le (hA b hb) HF.out.size) ⟨hl1, hl2⟩ hN hm h13).mono ?_
      rintro e wf ⟨hF, pl, rfl⟩
      exact ⟨rfl, HF.out.trans hF, pl, rfl⟩
     refine (iFrom HB.out hX (fun b hb => Nat.lt_of_lt_of_le (hA b hb) HF.out.size) ⟨hl1, hl2⟩ hN hm h13).mono ?_
     rintro e w13 ⟨⟨rfl, hk13⟩, R13, F13⟩
     have FF13 := HF.out.trans F13
     clear HF HX
     have HF := hidOf FF13
     have HB2 := hidOf R13
     have HX := hidOf hr13
     clear HB
     have HB := HB2
     have HK := hidOf hk13
     clear HB2 FF13 R13 F13 h13 hr13 hk13
     have hk2 := HK.out
     go_wp2
     go_roundg f
     case measure => omega
     case rel => exact ⟨k2, s13, rfl, hk2, HB.out, HF.out, HX⟩
    ·have hx := HX.out
     rw [if_neg ht] at hx
     clear HX
     have HX := hidOf hx
     clear hx
     have hq : (((lvl (txt xs q.p) : Nat) : Int) == lv) = false := by rw [beq_eq_false_iff_ne, HL.out]; intro e; exact ht (by omega)
     clear ht
     refine (qL).mono ?_
     rintro e w12 ⟨rfl, B12⟩
     have R12 := HB.out.below B12
     have FF12 := HF.out.trans (Fr.ofB (B := B) B12 HB.out.base)
     clear HF HB
     have HF := hidOf FF12
     have HB := hidOf R12
     clear FF12 R12 B12
     clear qL
     obtain rfl : some (k, q) = o := by
      have := HX.out
      injection this
     clear HX
     go_wp2
     go_ret
     exact ⟨⟨rfl, hk⟩, HB.out, HF.out⟩
end
end Go.Proofs.YtcbbnphpkgifoaaGreatDoor
