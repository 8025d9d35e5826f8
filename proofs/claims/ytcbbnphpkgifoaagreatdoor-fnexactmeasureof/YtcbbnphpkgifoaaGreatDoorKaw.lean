/- Picks and values, as the program's reader reads them. -/
import Derived.Test.YtcbbnphpkgifoaaGreatDoorKav
import Derived.Test.YtcbbnphpkgifoaaGreatDoorKaa
import Derived.Deep.RegionHeld3
import Derived.Test.YtcbbnphpkgifoaaGreatDoorKas
namespace Go.Proofs.YtcbbnphpkgifoaaGreatDoor
open Go.RowKit
set_option maxHeartbeats 8000000
set_option maxRecDepth 100000
section
variable {B g : Nat} {xs : List Sg} {A : Nat → Prop} {w : World} {s : Ps}
theorem iPick {o : Option (Nat × Ps)} {O : Bool → Ps → Rs Nat} (h : Rd B g xs A w s) (hX : xs.length ≤ 3000) (hA : ∀ b, A b → b < w.heap.size) (hV : Reads B g xs 260 (O true)) (hP : Reads B g xs 272 (O false)) (hS : ∀ b, Same (O b)) (hr : pickP xs O s = some o) : Calls Tryz.prog 272 #[.pointer (some ⟨g, 0, none⟩)] w (PostR B g xs A w VN o) := by
 obtain ⟨i0, hi, hz0, hz1, hz2⟩ := info_parts infoI1
 have qC := iChain (B := B) (g := g) hX hV hP 6 (by omega)
 rw [show (7 : Int) - ((6 : Nat) : Int) = 1 by decide] at qC
 unfold pickP at hr
 have hbase := h.base
 have hs0 := h.base
 by_cases hb : 20 < s.d + 1
 ·rw [if_pos hb] at hr
  obtain rfl : none = o := by injection hr
  have qB := iBegin (o := none) h (by rw [if_pos hb])
  clear hr h
  go_enter Tryz.func272, Tryz.ntmps272
  go_wp2_with fail
  refine qB.mono ?_
  rintro e wf ⟨hF, pl, rfl⟩
  exact ⟨rfl, hF, pl, rfl⟩
 ·rw [if_neg hb] at hr
  have qB := iBegin (o := some ((), ⟨s.p, s.d + 1, s.ns⟩)) h (by rw [if_neg hb])
  have HX := hidOf hr
  clear hr h hb
  go_enter Tryz.func272, Tryz.ntmps272
  go_wp2_with fail
  refine qB.mono ?_
  rintro e w0 ⟨rfl, R0, F0⟩
  have HF := hidOf F0
  have HB := hidOf R0
  clear qB R0 F0
  go_wp2_with fail
  rcases bnd_some HX.out with ⟨h1, rfl⟩ | ⟨k, s1, h1, hr1⟩
  ·refine (qC _ _ _ _ (fun b hb => Nat.lt_of_lt_of_le (hA b hb) HF.out.size) HB.out h1).mono ?_
   rintro e wf ⟨hF, pl, rfl⟩
   exact ⟨rfl, HF.out.trans hF, pl, rfl⟩
  refine (qC _ _ _ _ (fun b hb => Nat.lt_of_lt_of_le (hA b hb) HF.out.size) HB.out h1).mono ?_
  rintro e w1 ⟨⟨rfl, hk1⟩, R1, F1⟩
  have FF1 := HF.out.trans F1
  clear HF HX
  have HF := hidOf FF1
  have HB2 := hidOf R1
  have HX := hidOf hr1
  clear HB
  have HB := HB2
  have HK := hidOf hk1
  have HD1 := hidOf (dp_chain hS 6 (s.d + 1) _ rfl _ _ h1)
  clear HB2 FF1 R1 F1 h1 hr1 hk1
  have hkk := HK.out
  go_wp2_with fail
  by_cases ht : txt xs s1.p = (⟨#[63]⟩ : ByteArray)
  ·have hx := HX.out
   rw [if_pos ht] at hx
   clear HX
   have HX := hidOf hx
   clear hx
   have qT := iTakeY HB.out hX (lit_ne _ _) ht
   clear ht
   refine qT.mono ?_
   rintro e w2 ⟨rfl, R2, F2⟩
   have FF2 := HF.out.trans F2
   clear qT HF HB
   have HF := hidOf FF2
   have HB := hidOf R2
   clear FF2 R2 F2
   go_wp2_with fail
   rcases bnd_some HX.out with ⟨h3, rfl⟩ | ⟨ky, s3, h3, hr3⟩
   ·refine (hP _ _ _ _ (fun b hb => Nat.lt_of_lt_of_le (hA b hb) HF.out.size) HB.out h3).mono ?_
    rintro e wf ⟨hF, pl, rfl⟩
    exact ⟨rfl, HF.out.trans hF, pl, rfl⟩
   refine (hP _ _ _ _ (fun b hb => Nat.lt_of_lt_of_le (hA b hb) HF.out.size) HB.out h3).mono ?_
   rintro e w3 ⟨⟨rfl, hk3⟩, R3, F3⟩
   have FF3 := HF.out.trans F3
   clear HF HX
   have HF := hidOf FF3
   have HB2 := hidOf R3
   have HX := hidOf hr3
   clear HB
   have HB := HB2
   have HK := hidOf hk3
   have HD3 := hidOf (hS false _ _ _ h3)
   clear HB2 FF3 R3 F3 h3 hr3 hk3
   go_wp2_with fail
   rcases bnd_some HX.out with ⟨h4, rfl⟩ | ⟨u, s4, h4, hr4⟩
   ·refine (iWant HB.out hX (lit_ne _ _) h4).mono ?_
    rintro e wf ⟨hF, pl, rfl⟩
    exact ⟨rfl, HF.out.trans hF, pl, rfl⟩
   refine (iWant HB.out hX (lit_ne _ _) h4).mono ?_
   rintro e w4 ⟨rfl, R4, F4⟩
   have FF4 := HF.out.trans F4
   clear HF HX
   have HF := hidOf FF4
   have HB2 := hidOf R4
   have HX := hidOf hr4
   clear HB
   have HB := HB2
   have HD4 := hidOf (dp_want rfl _ _ h4)
   clear HB2 FF4 R4 F4 h4 hr4
   go_wp2_with fail
   rcases bnd_some HX.out with ⟨h5, rfl⟩ | ⟨kn, s5, h5, hr5⟩
   ·refine (hP _ _ _ _ (fun b hb => Nat.lt_of_lt_of_le (hA b hb) HF.out.size) HB.out h5).mono ?_
    rintro e wf ⟨hF, pl, rfl⟩
    exact ⟨rfl, HF.out.trans hF, pl, rfl⟩
   refine (hP _ _ _ _ (fun b hb => Nat.lt_of_lt_of_le (hA b hb) HF.out.size) HB.out h5).mono ?_
   rintro e w5 ⟨⟨rfl, hk5⟩, R5, F5⟩
   have FF5 := HF.out.trans F5
   clear HF HX
   have HF := hidOf FF5
   have HB2 := hidOf R5
   have HX := hidOf hr5
   clear HB
   have HB := HB2
   have HK := hidOf hk5
   have HD5 := hidOf (hS false _ _ _ h5)
   clear HB2 FF5 R5 F5 h5 hr5 hk5
   go_wp2_with fail
   have B6 : Below w5.heap.size w5 (w5.alloc (.cells #[.int .i64 (k : Int), .int .i64 (ky : Int), .int .i64 (kn : Int)] tI)) := (Below.refl _ _).alloc (Nat.le_refl _) _
   have R6 : Rd B g xs (And1 A (.slice (some ⟨w5.heap.size, 0, none⟩) 3 3)) (w5.alloc (.cells #[.int .i64 (k : Int), .int .i64 (ky : Int), .int .i64 (kn : Int)] tI)) s5 := (HB.out.avoid (A' := And1 A (.slice (some ⟨w5.heap.size, 0, none⟩) 3 3)) (fun k hk => hk.imp_right (fun e => by injection e with e; show w5.heap.size ≤ k; exact Nat.le_of_eq e))).below B6
   have o6 : (w5.alloc (.cells #[.int .i64 (k : Int), .int .i64 (ky : Int), .int .i64 (kn : Int)] tI)).ownsRow w.heap.size tI 1 (.slice (some ⟨w5.heap.size, 0, none⟩) 3 3) 3 (intVals [(k : Int), (ky : Int), (kn : Int)]) := World.ownsRow_lit w5 #[.int .i64 (k : Int), .int .i64 (ky : Int), .int .i64 (kn : Int)] 3 HF.out.size (by decide) rfl
   have FF6 := HF.out.trans (Fr.ofB (B := B) B6 HB.out.base)
   clear HF HB
   have HF := hidOf FF6
   have HB := hidOf R6
   have HP := hidOf o6
   clear FF6 R6 o6 B6
   rcases bnd_some HX.out with ⟨h7, rfl⟩ | ⟨kz, s7, h7, hr7⟩
   ·refine (iAdd 8 ByteArray.empty [(k : Int), (ky : Int), (kn : Int)] (some ⟨w5.heap.size, 0, none⟩) 3 (HB.out.avoid (fun k hk => .inl (.inl hk))) (ownsRow_base HP.out hbase) (fun b hb hb2 => by have h7 := (HP.out.lt b hb).1; have h8 := hA b hb2; omega) h7).mono ?_
    rintro e wf ⟨hF, pl, rfl⟩
    exact ⟨rfl, HF.out.trans hF, pl, rfl⟩
   refine (iAdd 8 ByteArray.empty [(k : Int), (ky : Int), (kn : Int)] (some ⟨w5.heap.size, 0, none⟩) 3 (HB.out.avoid (fun k hk => .inl (.inl hk))) (ownsRow_base HP.out hbase) (fun b hb hb2 => by have h7 := (HP.out.lt b hb).1; have h8 := hA b hb2; omega) h7).mono ?_
   rintro e w7 ⟨⟨rfl, hk7⟩, R7, F7⟩
   have FF7 := HF.out.trans F7
   clear HF HX
   have HF := hidOf FF7
   have HB2 := hidOf R7
   have HX := hidOf hr7
   clear HB
   have HB := HB2
   have HK := hidOf hk7
   have HD7 := hidOf (dp_add rfl _ _ h7)
   clear HB2 FF7 R7 F7 h7 hr7 hk7
   have hkz := HK.out
   clear HP
   obtain rfl : some (kz, (⟨s7.p, s7.d - 1, s7.ns⟩ : Ps)) = o := by
    have := HX.out
    injection this
   clear HX
   have HE := hidOf (show s7.d = s.d + 1 by
    have a1 := HD1.out
    have a2 := HD3.out
    have a3 := HD4.out
    have a4 := HD5.out
    have a5 := HD7.out
    simp only [Ps.next] at a2
    omega)
   go_wp2_with fail
   have hpos : 0 < s7.d := by have := HE.out; omega
   refine (iEnd HB.out hpos).mono ?_
   rintro e we ⟨rfl, RE, FE⟩
   have HZ := hidOf (HF.out.trans FE)
   have HY := hidOf RE
   clear RE FE HF HB hpos
   go_wp2
   go_ret
   exact ⟨⟨rfl, hkz⟩, HY.out, HZ.out⟩
  ·have hx := HX.out
   rw [if_neg ht] at hx
   clear HX
   have HX := hidOf hx
   clear hx
   have qT := iTakeN HB.out ht
   clear ht
   refine (qT).mono ?_
   rintro e w2 ⟨rfl, B2⟩
   have R2 := HB.out.below B2
   have FF2 := HF.out.trans (Fr.ofB (B := B) B2 HB.out.base)
   clear HF HB
   have HF := hidOf FF2
   have HB := hidOf R2
   clear FF2 R2 B2
   obtain rfl : some (k, (⟨s1.p, s1.d - 1, s1.ns⟩ : Ps)) = o := by
    have := HX.out
    injection this
   clear HX
   go_wp2_with fail
   have hpos : 0 < s1.d := by have := HD1.out; omega
   refine (iEnd HB.out hpos).mono ?_
   rintro e we ⟨rfl, RE, FE⟩
   have HZ := hidOf (HF.out.trans FE)
   have HY := hidOf RE
   clear RE FE HF HB hpos
   go_wp2
   go_ret
   exact ⟨⟨rfl, hkk⟩, HY.out, HZ.out⟩
theorem iValue {o : Option (Nat × Ps)} {O : Bool → Ps → Rs Nat} (h : Rd B g xs A w s) (hX : xs.length ≤ 3000) (hA : ∀ b, A b → b < w.heap.size) (hV : Reads B g xs 260 (O true)) (hP : Reads B g xs 272 (O false)) (hS : ∀ b, Same (O b)) (hr : valueP xs O s = some o) : Calls Tryz.prog 260 #[.pointer (some ⟨g, 0, none⟩)] w (PostR B g xs A w VN o) := by
 obtain ⟨i0, hi, hz0, hz1, hz2⟩ := info_parts infoI1
 have hbase := h.base
 have HF := hidOf (Fr.refl B w)
 have HB := hidOf h
 have HX := hidOf hr
 clear h hr
 go_enter Tryz.func260, Tryz.ntmps260
 go_wp2_with fail
 rcases bnd_some HX.out with ⟨h1, rfl⟩ | ⟨k, s1, h1, hr1⟩
 ·refine (iPick HB.out hX (fun b hb => Nat.lt_of_lt_of_le (hA b hb) HF.out.size) hV hP hS h1).mono ?_
  rintro e wf ⟨hF, pl, rfl⟩
  exact ⟨rfl, HF.out.trans hF, pl, rfl⟩
 refine (iPick HB.out hX (fun b hb => Nat.lt_of_lt_of_le (hA b hb) HF.out.size) hV hP hS h1).mono ?_
 rintro e w1 ⟨⟨rfl, hk1⟩, R1, F1⟩
 have FF1 := HF.out.trans F1
 clear HF HX
 have HF := hidOf FF1
 have HB2 := hidOf R1
 have HX := hidOf hr1
 clear HB
 have HB := HB2
 have HK := hidOf hk1
 clear HB2 FF1 R1 F1 h1 hr1 hk1
 have hk0 := HK.out
 have B2 : Below w1.heap.size w1 (w1.alloc (.cells #[.int .i64 (k : Int)] tI)) := (Below.refl _ _).alloc (Nat.le_refl _) _
 have R2 : Rd B g xs (And1 A (.slice (some ⟨w1.heap.size, 0, none⟩) 1 1)) (w1.alloc (.cells #[.int .i64 (k : Int)] tI)) s1 := (HB.out.avoid (A' := And1 A (.slice (some ⟨w1.heap.size, 0, none⟩) 1 1)) (fun k hk => hk.imp_right (fun e => by injection e with e; show w1.heap.size ≤ k; exact Nat.le_of_eq e))).below B2
 have o2 : (w1.alloc (.cells #[.int .i64 (k : Int)] tI)).ownsRow w.heap.size tI 1 (.slice (some ⟨w1.heap.size, 0, none⟩) 1 1) 1 (intVals [(k : Int)]) := World.ownsRow_lit w1 #[.int .i64 (k : Int)] 1 HF.out.size (by decide) rfl
 have FF2 := HF.out.trans (Fr.ofB (B := B) B2 HB.out.base)
 clear HF HB
 have HF := hidOf FF2
 have HB := hidOf R2
 have HP := hidOf o2
 clear FF2 R2 o2 B2
 obtain ⟨v0, hv0⟩ : ∃ v0, v0 = Value.slice (some ⟨w1.heap.size, 0, none⟩) 1 1 := ⟨_, rfl⟩
 go_wp2
 rw [← hv0]
 rw [← hv0] at HP HB
 clear hv0
 go_loopg [4] (lim xs) (fun f v wr => ∃ (ks : List Int) (q : Ps), f + ks.length = lim xs + 1 ∧ 1 ≤ ks.length ∧ (ks.length = 1 → k < q.ns.length) ∧ wr.ownsRow w.heap.size tI 1 v ks.length (intVals ks) ∧ Rd B g xs (And1 A v) wr q ∧ Fr B w wr ∧ Hid ((bnd (casL xs O f ks q) fun ks s2 => if ks.length = 1 then yes k s2 else addP 10 ByteArray.empty ks s2) = some o))
 case atStart => exact ⟨[(k : Int)], s1, rfl, Nat.le_refl _, fun _ => hk0, HP.out, HB.out, HF.out, HX⟩
 case round =>
  obtain ⟨ks, q, hf, h1, hkq, P, R, F, HX2⟩ := hrel
  clear HF HB HX HP hk0 HK
  obtain ⟨ao, cc, rfl⟩ := owns_slice P
  have HF := hidOf F
  have HB := hidOf R
  have HP := hidOf P
  have HX := HX2
  have HQ := hidOf hkq
  clear F R P HX2 hkq
  have hL : lim xs ≤ 3001 := by unfold lim; omega
  cases gk with
  | zero => exact absurd HX.out (by simp [casL, bnd])
  | succ f =>
   have hx := HX.out
   unfold casL at hx
   clear HX
   have HX := hidOf hx
   clear hx
   go_wp2_with fail
   by_cases ht : txt xs q.p = (⟨#[46, 46]⟩ : ByteArray)
   ·have hx := HX.out
    rw [if_pos ht] at hx
    clear HX
    have HX := hidOf hx
    clear hx
    have qT := iTakeY HB.out hX (lit_ne _ _) ht
    clear ht
    refine qT.mono ?_
    rintro e w11 ⟨rfl, R11, F11⟩
    have FF11 := HF.out.trans F11
    have o11 := F11.ints HP.out
    clear qT HF HB HP
    have HF := hidOf FF11
    have HB := hidOf R11
    have HP := hidOf o11
    clear FF11 R11 F11 o11
    have hx := HX.out
    simp only [bnd_assoc] at hx
    clear HX HQ
    have HX := hidOf hx
    clear hx
    go_wp2_with fail
    rcases bnd_some HX.out with ⟨h12, rfl⟩ | ⟨kc, s12, h12, hr12⟩
    ·refine (iNode HB.out hX h12).mono ?_
     rintro e wf ⟨hF, pl, rfl⟩
     exact ⟨rfl, HF.out.trans hF, pl, rfl⟩
    refine (iNode HB.out hX h12).mono ?_
    rintro e w12 ⟨⟨rfl, hk12⟩, R12, F12⟩
    have o12 := F12.ints HP.out
    have FF12 := HF.out.trans F12
    clear HF HX HP
    have HF := hidOf FF12
    have HB2 := hidOf R12
    have HX := hidOf hr12
    clear HB
    have HB := HB2
    have HP := hidOf o12
    have HK := hidOf hk12
    clear HB2 FF12 R12 F12 h12 hr12 o12 hk12
    go_wp2_with fail
    rcases bnd_some HX.out with ⟨h13, rfl⟩ | ⟨k2, s13, h13, hr13⟩
    ·refine (iCall HB.out hX (And1.lt hA HF.out.size HP.out) hV h13).mono ?_
     rintro e wf ⟨hF, pl, rfl⟩
     exact ⟨rfl, HF.out.trans hF, pl, rfl⟩
    refine (iCall HB.out hX (And1.lt hA HF.out.size HP.out) hV h13).mono ?_
    rintro e w13 ⟨⟨rfl, hk13⟩, R13, F13⟩
    have o13 := F13.ints HP.out
    have FF13 := HF.out.trans F13
    clear HF HX HP
    have HF := hidOf FF13
    have HB2 := hidOf R13
    have HX := hidOf hr13
    clear HB
    have HB := HB2
    have HP := hidOf o13
    have HK := hidOf hk13
    clear HB2 FF13 R13 F13 h13 hr13 o13 hk13
    have hs14 := HF.out.size
    go_wp2_with (at_builtin; refine wpList_append_own2 rfl _ _ 57 rfl w.heap.size 3 i0 _ 1 8 Tryz.underlying57 hi hz0 hz1 hz2 rfl (by decide) (.slice ao ks.length cc) (ks.length) (intVals ks) rfl (HP.out.alloc _) ⟨w13.heap.size, 0, none⟩ 1 1 [.int .i64 (k2 : Int)] rfl rfl (cell_one_new _ _ _) (by simp [Value.oneCell']) (by unfold maxLen; omega) (by omega) (by simp; omega) ?_; intro v' w14 hown' hgrow5 hpl5)
    have B14 : Below w13.heap.size w13 (w13.alloc (.cells #[.int .i64 (k2 : Int)] tI)) := (Below.refl _ _).alloc (Nat.le_refl _) _
    have FF14 := (HF.out.trans (Fr.ofB (B := B) B14 HB.out.base)).growI hbase hgrow5 (fun b hb => (HP.out.lt b hb).1)
    have R14 := (HB.out.below B14).growI (A' := And1 A v') (HP.out.alloc _) hgrow5 (fun b hb => .inr hb) (fun b hb => by
     rcases hb with hb | hb
     ·exact .inl (.inl hb)
     ·rcases hpl5 b hb with h6 | h6
      ·exact .inl (.inr h6)
      ·exact .inr h6)
    have o14 := own_app (ks := ks) (k := (k2 : Int)) hown' rfl
    clear hown' hgrow5 hpl5 HF HB HP hs14 B14
    obtain ⟨ao14, cc14, rfl⟩ := owns_slice o14
    have HF := hidOf FF14
    have HB := hidOf R14
    have HP := hidOf o14
    clear FF14 R14 o14
    go_roundg f
    case measure => omega
    case rel => exact ⟨ks ++ [(k2 : Int)], s13, by simp; omega, by simp, fun e => (by rw [List.length_append] at e; simp only [List.length_cons, List.length_nil] at e; omega), HP.out, HB.out, HF.out, HX⟩
   ·have hx := HX.out
    rw [if_neg ht] at hx
    clear HX
    have HX := hidOf hx
    clear hx
    have qT := iTakeN HB.out ht
    clear ht
    refine (qT).mono ?_
    rintro e w11 ⟨rfl, B11⟩
    have R11 := HB.out.below B11
    have FF11 := HF.out.trans (Fr.ofB (B := B) B11 HB.out.base)
    have o11 := owns_below HP.out B11
    clear HF HB HP
    have HF := hidOf FF11
    have HB := hidOf R11
    have HP := hidOf o11
    clear FF11 R11 B11 o11
    have hx := HX.out
    rw [bnd_yes] at hx
    clear HX
    have HX := hidOf hx
    clear hx
    by_cases ht : ks.length = 1
    ·have hx := HX.out
     rw [if_pos ht] at hx
     clear HX
     have HX := hidOf hx
     clear hx
     obtain rfl : some (k, q) = o := by
      have := HX.out
      injection this
     clear HX
     have hq := HQ.out ht
     have hc : ((ks.length : Int) == 1) = true := by rw [ht]; rfl
     have HT := hidOf ht
     clear ht HQ
     go_wp2
     go_ret
     exact ⟨⟨rfl, hq⟩, HB.out.avoid (fun k hk => .inl (.inl hk)), HF.out⟩
    ·have hx := HX.out
     rw [if_neg ht] at hx
     clear HX
     have HX := hidOf hx
     clear hx
     have hc : ((ks.length : Int) == 1) = false := by rw [beq_eq_false_iff_ne]; omega
     clear ht HQ
     go_wp2_with fail
     refine (iAdd 10 ByteArray.empty ks (ao) cc (HB.out.avoid (fun k hk => .inl (.inl hk))) (ownsRow_base HP.out hbase) (fun b hb hb2 => by have h7 := (HP.out.lt b hb).1; have h8 := hA b hb2; omega) HX.out).mono ?_
     intro e we H
     have H2 := H.into HF.out
     clear H
     rcases o with _ | ⟨k9, s9⟩
     ·obtain ⟨hF, pl, rfl⟩ := H2
      exact ⟨rfl, hF, pl, rfl⟩
     ·obtain ⟨⟨rfl, hk9⟩, H⟩ := H2
      have HH := hidOf H
      clear H
      clear HF HB HX
      go_wp2
      go_ret
      exact ⟨⟨rfl, hk9⟩, HH.out⟩
theorem vp_reads (hX : xs.length ≤ 3000) : ∀ (n : Nat), Reads B g xs 260 (vpF xs n true) ∧ Reads B g xs 272 (vpF xs n false)
 | 0 => ⟨(fun _ _ _ _ _ _ hr => by cases hr), (fun _ _ _ _ _ _ hr => by cases hr)⟩
 | n + 1 => ⟨fun _ _ _ _ hA h hr => iValue h hX hA (vp_reads hX n).1 (vp_reads hX n).2 (dp_vp n) hr, fun _ _ _ _ hA h hr => iPick h hX hA (vp_reads hX n).1 (vp_reads hX n).2 (dp_vp n) hr⟩
theorem val_reads (hX : xs.length ≤ 3000) : Reads B g xs 260 (valP xs) := (vp_reads hX (lim xs)).1
end
theorem bcell {W w1 : World} (hb : Below W.heap.size W w1) : (∀ b o, b < W.heap.size → w1.cell? ⟨b, o, none⟩ = W.cell? ⟨b, o, none⟩) ∧ (∀ b o, b < W.heap.size → w1.frozen? ⟨b, o, none⟩ = W.frozen? ⟨b, o, none⟩) :=
 ⟨fun b o h => hb.cell (p := ⟨b, o, none⟩) h, fun b o h => hb.frozen (p := ⟨b, o, none⟩) h⟩
def stPost (g : Nat) (k0 : Int) (u0 : ByteArray) (b0 : Bool) : Nat → Value → World → Prop
 | 0 => fun v _ => v = .pointer (some ⟨g, 0, none⟩)
 | 1 => fun v _ => ∃ pl : Int, v = .agg #[.int .i64 k0, .string u0, .int .i64 pl, .bool b0]
 | 2 => fun v _ => v = .bool false
 | 3 => fun v _ => v = .bool false
 | 17 => fun v _ => v = .bool false
 | 18 => fun v _ => v = .bool false
 | _ => fun _ _ => True
theorem stPost_stab (g : Nat) (k0 : Int) (u0 : ByteArray) (b0 : Bool) (k : Nat) (v : Value) (W W' : World) (h : stPost g k0 u0 b0 k v W) : stPost g k0 u0 b0 k v W' := by
 unfold stPost at h ⊢
 split at h <;> first | exact h | trivial
theorem arr21 (t : Array Value) (h : t.size = 21) : ∃ x0 x1 x2 x3 x4 x5 x6 x7 x8 x9 x10 x11 x12 x13 x14 x15 x16 x17 x18 x19 x20, t = #[x0, x1, x2, x3, x4, x5, x6, x7, x8, x9, x10, x11, x12, x13, x14, x15, x16, x17, x18, x19, x20] := by
 obtain ⟨l⟩ := t
 match l, h with
 | x0 :: x1 :: x2 :: x3 :: x4 :: x5 :: x6 :: x7 :: x8 :: x9 :: x10 :: x11 :: x12 :: x13 :: x14 :: x15 :: x16 :: x17 :: x18 :: x19 :: x20 :: [], _ => exact ⟨_, _, _, _, _, _, _, _, _, _, _, _, _, _, _, _, _, _, _, _, _, rfl⟩
section
variable {B g : Nat} {xs : List Sg} {A : Nat → Prop} {w : World} {s : Ps}
set_option maxHeartbeats 8000000 in
set_option maxRecDepth 100000 in
theorem iSets (h : Rd B g xs A w s) (hX : xs.length ≤ 3000) : Calls Tryz.prog 287 #[.pointer (some ⟨g, 0, none⟩)] w fun e w' => e = .returned (.bool (isNm xs s.p && decide (txt xs (s.p + 1) = (⟨#[61]⟩ : ByteArray)))) ∧ Below w.heap.size w w' := by
 have hp := h.pos
 by_cases hn : isNm xs s.p = true
 ·have hl := isNm_lt hn
  obtain ⟨b2, sc2, pl2, hb2, C0, C1, D0, D1, D2, D3⟩ := h.toRdW.sign (s.p + 1) (by omega)
  have hg := h.lt
  have qX := iNext_any h.drew
  have qN := fun (pl : Int) W => iNmSg (knd xs s.p) (txt xs s.p) pl (blk xs s.p) W
  rw [show ((knd xs s.p == 1) && !kw (txt xs s.p)) = true from hn] at qN
  obtain ⟨k0, hk0⟩ : ∃ k, k = knd xs s.p := ⟨_, rfl⟩
  obtain ⟨u0, hu0⟩ : ∃ u, u = txt xs s.p := ⟨_, rfl⟩
  obtain ⟨b0, hb0⟩ : ∃ b, b = blk xs s.p := ⟨_, rfl⟩
  obtain ⟨u1, hu1⟩ : ∃ u, u = txt xs (s.p + 1) := ⟨_, rfl⟩
  rw [← hk0, ← hu0, ← hb0] at qN qX
  rw [← hu1] at D1
  have HU := hidOf hu1
  have HD := hidOf h
  clear hk0 hu0 hb0 hu1 D0 D2 D3 h
  obtain ⟨m, hm⟩ : ∃ m, m = s.p + 1 := ⟨_, rfl⟩
  rw [← hm] at D1
  have hA2 : (0 : Int) ≤ (m : Int) := by omega
  obtain ⟨nn, hnn⟩ : ∃ nn, nn = xs.length + 1 := ⟨_, rfl⟩
  rw [← hnn] at C0
  have hB2 : (m : Int) < (nn : Int) := by omega
  have hw : IntKind.i64.wrap ((s.p : Int) + 1) = (m : Int) := (IntWalk.i64_in _ ⟨by omega, by omega⟩).trans (by omega)
  clear hm hnn
  rw [hn, ← HU.out]
  have q61 : (u1.toList == [61]) = decide (u1 = (⟨#[61]⟩ : ByteArray)) := lit_beq _ _
  clear hn
  go_enter Tryz.func287, Tryz.ntmps287
  go_wp2
  go_region_held3 (fun W => (W.cell? ⟨g, 0, none⟩ = some (.slice (some ⟨b2, 0, none⟩) nn sc2) ∧ W.cell? ⟨g, 1, none⟩ = some (.int .i64 s.p)) ∧ W.cell? ⟨b2, m * 4 + 1, none⟩ = some (.string u1)) (first | trivial | go_keep)
   (first | (go_at_call 197; refine qX.mono ?_; rintro e w1 ⟨⟨pl, rfl⟩, B1⟩; have E1 := (Below.refl w.heap.size w).drew.trans B1; have hc1 := (bcell E1).1) | (go_at_call 259; refine (qN _ _).mono ?_; rintro e w2 ⟨rfl, B2⟩; have E2 := E1.trans (B2.mono E1.size); have hc2 := (bcell E2).1))
  go_wp2
  go_ret
  exact ⟨rfl, E2⟩
 ·rw [show isNm xs s.p = false from Bool.eq_false_iff.2 hn, Bool.false_and]
  obtain ⟨b2, sc2, pl2, hb2, C0, C1, D0, D1, D2, D3⟩ := h.toRdW.sign (s.p) (by omega)
  have hg := h.lt
  have qX := fun (W : World) (hW : Below w.heap.size w W) => iNext_any (h.below hW)
  have qN := fun (pl : Int) W => iNmSg (knd xs s.p) (txt xs s.p) pl (blk xs s.p) W
  rw [show ((knd xs s.p == 1) && !kw (txt xs s.p)) = false from (Bool.eq_false_iff.2 hn)] at qN
  obtain ⟨k0, hk0⟩ : ∃ k, k = knd xs s.p := ⟨_, rfl⟩
  obtain ⟨u0, hu0⟩ : ∃ u, u = txt xs s.p := ⟨_, rfl⟩
  obtain ⟨b0, hb0⟩ : ∃ b, b = blk xs s.p := ⟨_, rfl⟩
  obtain ⟨u1, hu1⟩ : ∃ u, u = txt xs (s.p) := ⟨_, rfl⟩
  rw [← hk0, ← hu0, ← hb0] at qN qX
  rw [← hu1] at D1
  have HU := hidOf hu1
  have HD := hidOf h
  clear hk0 hu0 hb0 hu1 D0 D2 D3 h
  obtain ⟨m, hm⟩ : ∃ m, m = s.p := ⟨_, rfl⟩
  rw [← hm] at D1
  have hA2 : (0 : Int) ≤ (m : Int) := by omega
  obtain ⟨nn, hnn⟩ : ∃ nn, nn = xs.length + 1 := ⟨_, rfl⟩
  rw [← hnn] at C0
  have hB2 : (m : Int) < (nn : Int) := by omega
  clear hm hnn
  clear hn
  go_enter Tryz.func287, Tryz.ntmps287
  go_wp2
  refine wp_region_guards (by kernel_rfl) (fun W => Below w.heap.size w W) (fun _ _ => True) (stPost g k0 u0 b0) ((Below.refl w.heap.size w).drew) (by kernel_rfl) (fun k v W W' h _ _ => stPost_stab g k0 u0 b0 k v W W' h) ?_ ?_
  case refine_1 =>
   intro kk oo hk aa W hI hsz hfix hdep
   match kk, hk with
   | 0, hk =>
    cases hk
    refine .inl ⟨wanted_none rfl, fun K hK => ?_⟩
    have e0 : aa.tmps.getD 0 undef = .pointer (some ⟨g, 0, none⟩) := hfix 0 (by kernel_rfl)
    refine wp_value (v := .pointer (some ⟨g, 0, none⟩)) (w' := W) ?_ (hK _ _ (by simp) hI trivial rfl)
    clear hfix hdep hK hk hsz hI
    go_simp
   | 1, hk =>
    cases hk
    refine .inl ⟨wanted_none rfl, fun K hK => ?_⟩
    have e3 : aa.tmps.getD 3 undef = .pointer (some ⟨g, 0, none⟩) := hdep 0 _ rfl (by kernel_rfl)
    have hcon := qX W hI
    refine wp_calls 197 #[.pointer (some ⟨g, 0, none⟩)] ?_ hcon ?_
    ·clear hfix hdep hK hk hsz hcon
     go_simp
     try rfl
    ·rintro e W2 ⟨⟨pl, rfl⟩, A⟩
     exact ⟨_, rfl, hK _ _ (by simp) (hI.trans (A.mono hI.size)) trivial ⟨pl, rfl⟩⟩
   | 2, hk =>
    cases hk
    refine .inl ⟨wanted_none rfl, fun K hK => ?_⟩
    obtain ⟨pl, e4⟩ : ∃ pl : Int, aa.tmps.getD 4 undef = .agg #[.int .i64 k0, .string u0, .int .i64 pl, .bool b0] := hdep 1 _ rfl (by kernel_rfl)
    have hcon := qN pl W
    refine wp_calls 259 #[.agg #[.int .i64 k0, .string u0, .int .i64 pl, .bool b0]] ?_ hcon ?_
    ·clear hfix hdep hK hk hsz hcon
     go_simp
     try rfl
    ·rintro e W2 ⟨rfl, A⟩
     exact ⟨_, rfl, hK _ _ (by simp) (hI.trans (A.mono hI.size)) trivial rfl⟩
   | 3, hk =>
    cases hk
    refine .inl ⟨wanted_none rfl, fun K hK => ?_⟩
    have e5 : aa.tmps.getD 5 undef = .bool false := hdep 2 _ rfl (by kernel_rfl)
    refine wp_value (v := .bool false) (w' := W) ?_ (hK _ _ (by simp) hI trivial rfl)
    clear hfix hdep hK hk hsz hI
    go_simp
   | 4, hk =>
    cases hk
    exact .inr ⟨(wanted_is (c := false) (b := true) rfl rfl rfl (hdep 3 _ rfl (by kernel_rfl))).trans rfl, trivial⟩
   | 5, hk =>
    cases hk
    exact .inr ⟨(wanted_is (c := false) (b := true) rfl rfl rfl (hdep 3 _ rfl (by kernel_rfl))).trans rfl, trivial⟩
   | 6, hk =>
    cases hk
    exact .inr ⟨(wanted_is (c := false) (b := true) rfl rfl rfl (hdep 3 _ rfl (by kernel_rfl))).trans rfl, trivial⟩
   | 7, hk =>
    cases hk
    exact .inr ⟨(wanted_is (c := false) (b := true) rfl rfl rfl (hdep 3 _ rfl (by kernel_rfl))).trans rfl, trivial⟩
   | 8, hk =>
    cases hk
    exact .inr ⟨(wanted_is (c := false) (b := true) rfl rfl rfl (hdep 3 _ rfl (by kernel_rfl))).trans rfl, trivial⟩
   | 9, hk =>
    cases hk
    exact .inr ⟨(wanted_is (c := false) (b := true) rfl rfl rfl (hdep 3 _ rfl (by kernel_rfl))).trans rfl, trivial⟩
   | 10, hk =>
    cases hk
    exact .inr ⟨(wanted_is (c := false) (b := true) rfl rfl rfl (hdep 3 _ rfl (by kernel_rfl))).trans rfl, trivial⟩
   | 11, hk =>
    cases hk
    exact .inr ⟨(wanted_is (c := false) (b := true) rfl rfl rfl (hdep 3 _ rfl (by kernel_rfl))).trans rfl, trivial⟩
   | 12, hk =>
    cases hk
    exact .inr ⟨(wanted_is (c := false) (b := true) rfl rfl rfl (hdep 3 _ rfl (by kernel_rfl))).trans rfl, trivial⟩
   | 13, hk =>
    cases hk
    exact .inr ⟨(wanted_is (c := false) (b := true) rfl rfl rfl (hdep 3 _ rfl (by kernel_rfl))).trans rfl, trivial⟩
   | 14, hk =>
    cases hk
    exact .inr ⟨(wanted_is (c := false) (b := true) rfl rfl rfl (hdep 3 _ rfl (by kernel_rfl))).trans rfl, trivial⟩
   | 15, hk =>
    cases hk
    exact .inr ⟨(wanted_is (c := false) (b := true) rfl rfl rfl (hdep 3 _ rfl (by kernel_rfl))).trans rfl, trivial⟩
   | 16, hk =>
    cases hk
    exact .inr ⟨(wanted_is (c := false) (b := true) rfl rfl rfl (hdep 3 _ rfl (by kernel_rfl))).trans rfl, trivial⟩
   | 17, hk =>
    cases hk
    refine .inl ⟨wanted_none rfl, fun K hK => ?_⟩
    have e6 : aa.tmps.getD 6 undef = .bool false := hdep 3 _ rfl (by kernel_rfl)
    refine wp_value (v := .bool false) (w' := W) ?_ (hK _ _ (by simp) hI trivial rfl)
    clear hfix hdep hK hk hsz hI
    go_simp
   | 18, hk =>
    cases hk
    refine .inl ⟨wanted_none rfl, fun K hK => ?_⟩
    have e20 : aa.tmps.getD 20 undef = .bool false := hdep 17 _ rfl (by kernel_rfl)
    refine wp_value (v := .bool false) (w' := W) ?_ (hK _ _ (by simp) hI trivial rfl)
    clear hfix hdep hK hk hsz hI
    go_simp
   | k + 19, hk => cases hk
  case refine_2 =>
   intro aa W hI hd hsz hfix hpost
   have e2 : aa.tmps.getD 2 undef = .bool false := hpost 18 _ rfl
   clear hfix hpost
   obtain ⟨tm, df⟩ := aa
   obtain ⟨x0, x1, x2, x3, x4, x5, x6, x7, x8, x9, x10, x11, x12, x13, x14, x15, x16, x17, x18, x19, x20, rfl⟩ := arr21 tm hsz
   have hdf : df = [] := hd
   subst hdf
   have f2 : x2 = .bool false := e2
   subst f2
   clear e2 hsz hd
   have HI := hidOf hI
   clear hI
   go_wp2
   go_ret
   exact ⟨rfl, HI.out⟩
end
end Go.Proofs.YtcbbnphpkgifoaaGreatDoor
