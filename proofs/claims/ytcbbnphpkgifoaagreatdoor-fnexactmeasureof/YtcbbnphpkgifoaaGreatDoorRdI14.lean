/- Statements and members, as the program's reader reads them. -/
import Derived.Test.YtcbbnphpkgifoaaGreatDoorKaw
namespace Go.Proofs.YtcbbnphpkgifoaaGreatDoor
open Go.RowKit
set_option maxHeartbeats 8000000
set_option maxRecDepth 100000
theorem want_ns {xs : List Sg} {t : ByteArray} {s s' : Ps} {u : Unit} (h : wantP xs t s = some (some (u, s'))) : s'.ns = s.ns := by
 unfold wantP at h
 split at h
 ·simp only [Option.some.injEq, Prod.mk.injEq] at h
  rw [← h.2]
  rfl
 ·simp at h
section
variable {B g : Nat} {xs : List Sg} {A : Nat → Prop} {w : World} {s : Ps}
theorem iHold {o : Option (Nat × Ps)} (h : Rd B g xs A w s) (hX : xs.length ≤ 3000) (hA : ∀ b, A b → b < w.heap.size) (hr : holdP xs s = some o) : Calls Tryz.prog 236 #[.pointer (some ⟨g, 0, none⟩)] w (PostR B g xs A w VN o) := by
 obtain ⟨i0, hi, hz0, hz1, hz2⟩ := info_parts infoI1
 have hbase := h.base
 have HF := hidOf (Fr.refl B w)
 have HB := hidOf h
 have HX := hidOf hr
 clear h hr
 go_enter Tryz.func236, Tryz.ntmps236
 go_wp2_with fail
 rcases bnd_some HX.out with ⟨h1, rfl⟩ | ⟨t, s1, h1, hr1⟩
 ·refine (iName HB.out hX h1).mono ?_
  rintro e wf ⟨hF, pl, rfl⟩
  exact ⟨rfl, HF.out.trans hF, pl, rfl⟩
 refine (iName HB.out hX h1).mono ?_
 rintro e w1 ⟨rfl, R1, F1⟩
 have FF1 := HF.out.trans F1
 clear HF HX
 have HF := hidOf FF1
 have HB2 := hidOf R1
 have HX := hidOf hr1
 clear HB
 have HB := HB2
 clear HB2 FF1 R1 F1 h1 hr1
 have B2 : Below w1.heap.size w1 (w1.alloc (.cells #[] tI)) := (Below.refl _ _).alloc (Nat.le_refl _) _
 have R2 : Rd B g xs (And1 A (.slice (some ⟨w1.heap.size, 0, none⟩) 0 0)) (w1.alloc (.cells #[] tI)) s1 := (HB.out.avoid (A' := And1 A (.slice (some ⟨w1.heap.size, 0, none⟩) 0 0)) (fun k hk => hk.imp_right (fun e => by injection e with e; show w1.heap.size ≤ k; exact Nat.le_of_eq e))).below B2
 have o2 : (w1.alloc (.cells #[] tI)).ownsRow w.heap.size tI 1 (.slice (some ⟨w1.heap.size, 0, none⟩) 0 0) 0 [] := World.ownsRow_made w1 #[] 0 HF.out.size (by decide) rfl
 have FF2 := HF.out.trans (Fr.ofB (B := B) B2 HB.out.base)
 clear HF HB
 have HF := hidOf FF2
 have HB := hidOf R2
 have HP := hidOf o2
 clear FF2 R2 o2 B2
 go_wp2_with fail
 by_cases ht : txt xs s1.p = (⟨#[61]⟩ : ByteArray)
 ·have hx := HX.out
  rw [if_pos ht] at hx
  clear HX
  have HX := hidOf hx
  clear hx
  have qT := iTakeY HB.out hX (lit_ne _ _) ht
  clear ht
  refine qT.mono ?_
  rintro e w3 ⟨rfl, R3, F3⟩
  have FF3 := HF.out.trans F3
  have o3 := F3.ints HP.out
  clear qT HF HB HP
  have HF := hidOf FF3
  have HB := hidOf R3
  have HP := hidOf o3
  clear FF3 R3 F3 o3
  go_wp2_with fail
  rcases bnd_some HX.out with ⟨h4, rfl⟩ | ⟨v, s4, h4, hr4⟩
  ·refine (val_reads hX _ _ _ _ (And1.lt hA HF.out.size HP.out) HB.out h4).mono ?_
   rintro e wf ⟨hF, pl, rfl⟩
   exact ⟨rfl, HF.out.trans hF, pl, rfl⟩
  refine (val_reads hX _ _ _ _ (And1.lt hA HF.out.size HP.out) HB.out h4).mono ?_
  rintro e w4 ⟨⟨rfl, hk4⟩, R4, F4⟩
  have o4 := F4.ints HP.out
  have FF4 := HF.out.trans F4
  clear HF HX HP
  have HF := hidOf FF4
  have HB2 := hidOf R4
  have HX := hidOf hr4
  clear HB
  have HB := HB2
  have HP := hidOf o4
  have HK := hidOf hk4
  clear HB2 FF4 R4 F4 h4 hr4 o4 hk4
  have hs5 := HF.out.size
  go_wp2_with (at_builtin; refine wpList_append_own2 rfl _ _ 57 rfl w.heap.size 3 i0 _ 1 8 Tryz.underlying57 hi hz0 hz1 hz2 rfl (by decide) (.slice (some ⟨w1.heap.size, 0, none⟩) 0 0) (0) (intVals ([] : List Int)) rfl (HP.out.alloc _) ⟨w4.heap.size, 0, none⟩ 1 1 [.int .i64 (v : Int)] rfl rfl (cell_one_new _ _ _) (by simp [Value.oneCell']) (by unfold maxLen; omega) (by omega) (by simp; omega) ?_; intro v' w5 hown' hgrow5 hpl5)
  have B5 : Below w4.heap.size w4 (w4.alloc (.cells #[.int .i64 (v : Int)] tI)) := (Below.refl _ _).alloc (Nat.le_refl _) _
  have FF5 := (HF.out.trans (Fr.ofB (B := B) B5 HB.out.base)).growI hbase hgrow5 (fun b hb => (HP.out.lt b hb).1)
  have R5 := (HB.out.below B5).growI (A' := And1 A v') (HP.out.alloc _) hgrow5 (fun b hb => .inr hb) (fun b hb => by
   rcases hb with hb | hb
   ·exact .inl (.inl hb)
   ·rcases hpl5 b hb with h6 | h6
    ·exact .inl (.inr h6)
    ·exact .inr h6)
  have o5 := own_app (ks := ([] : List Int)) (k := (v : Int)) hown' rfl
  clear hown' hgrow5 hpl5 HF HB HP hs5 B5
  obtain ⟨ao5, cc5, rfl⟩ := owns_slice o5
  have HF := hidOf FF5
  have HB := hidOf R5
  have HP := hidOf o5
  clear FF5 R5 o5
  rcases bnd_some HX.out with ⟨h6, rfl⟩ | ⟨u, s6, h6, hr6⟩
  ·refine (iWant HB.out hX (lit_ne _ _) h6).mono ?_
   rintro e wf ⟨hF, pl, rfl⟩
   exact ⟨rfl, HF.out.trans hF, pl, rfl⟩
  refine (iWant HB.out hX (lit_ne _ _) h6).mono ?_
  rintro e w6 ⟨rfl, R6, F6⟩
  have o6 := F6.ints HP.out
  have FF6 := HF.out.trans F6
  clear HF HX HP
  have HF := hidOf FF6
  have HB2 := hidOf R6
  have HX := hidOf hr6
  clear HB
  have HB := HB2
  have HP := hidOf o6
  clear HB2 FF6 R6 F6 h6 hr6 o6
  go_wp2_with fail
  refine (iAdd 12 t (([] : List Int) ++ [(v : Int)]) (ao5) cc5 (HB.out.avoid (fun k hk => .inl (.inl hk))) (ownsRow_base HP.out hbase) (fun b hb hb2 => by have h7 := (HP.out.lt b hb).1; have h8 := hA b hb2; omega) HX.out).mono ?_
  intro e we H
  have H2 := H.into HF.out
  clear H
  rcases o with _ | ⟨k9, s9⟩
  ·obtain ⟨hF, pl, rfl⟩ := H2
   exact ⟨rfl, hF, pl, rfl⟩
  ·obtain ⟨⟨rfl, hk9⟩, H⟩ := H2
   have HH := hidOf H
   clear H
   clear HF HB HX
   go_wp2
   go_ret
   exact ⟨⟨rfl, hk9⟩, HH.out⟩
 ·have hx := HX.out
  rw [if_neg ht] at hx
  clear HX
  have HX := hidOf hx
  clear hx
  have qT := iTakeN HB.out ht
  clear ht
  refine (qT).mono ?_
  rintro e w3 ⟨rfl, B3⟩
  have R3 := HB.out.below B3
  have FF3 := HF.out.trans (Fr.ofB (B := B) B3 HB.out.base)
  have o3 := owns_below HP.out B3
  clear HF HB HP
  have HF := hidOf FF3
  have HB := hidOf R3
  have HP := hidOf o3
  clear FF3 R3 B3 o3
  go_wp2_with fail
  rcases bnd_some HX.out with ⟨h4, rfl⟩ | ⟨u, s4, h4, hr4⟩
  ·refine (iWant HB.out hX (lit_ne _ _) h4).mono ?_
   rintro e wf ⟨hF, pl, rfl⟩
   exact ⟨rfl, HF.out.trans hF, pl, rfl⟩
  refine (iWant HB.out hX (lit_ne _ _) h4).mono ?_
  rintro e w4 ⟨rfl, R4, F4⟩
  have o4 := F4.ints HP.out
  have FF4 := HF.out.trans F4
  clear HF HX HP
  have HF := hidOf FF4
  have HB2 := hidOf R4
  have HX := hidOf hr4
  clear HB
  have HB := HB2
  have HP := hidOf o4
  clear HB2 FF4 R4 F4 h4 hr4 o4
  go_wp2_with fail
  refine (iAdd 12 t ([] : List Int) (some ⟨w1.heap.size, 0, none⟩) 0 (HB.out.avoid (fun k hk => .inl (.inl hk))) (ownsRow_base HP.out hbase) (fun b hb hb2 => by have h7 := (HP.out.lt b hb).1; have h8 := hA b hb2; omega) HX.out).mono ?_
  intro e we H
  have H2 := H.into HF.out
  clear H
  rcases o with _ | ⟨k9, s9⟩
  ·obtain ⟨hF, pl, rfl⟩ := H2
   exact ⟨rfl, hF, pl, rfl⟩
  ·obtain ⟨⟨rfl, hk9⟩, H⟩ := H2
   have HH := hidOf H
   clear H
   clear HF HB HX
   go_wp2
   go_ret
   exact ⟨⟨rfl, hk9⟩, HH.out⟩
theorem iCond {o : Option (Nat × Ps)} (h : Rd B g xs A w s) (hX : xs.length ≤ 3000) (hA : ∀ b, A b → b < w.heap.size) (hr : condP xs s = some o) : Calls Tryz.prog 295 #[.pointer (some ⟨g, 0, none⟩)] w (PostR B g xs A w VN o) := by
 obtain ⟨i0, hi, hz0, hz1, hz2⟩ := info_parts infoI1
 have hbase := h.base
 have HF := hidOf (Fr.refl B w)
 have HB := hidOf h
 have HX := hidOf hr
 clear h hr
 go_enter Tryz.func295, Tryz.ntmps295
 go_wp2_with fail
 rcases bnd_some HX.out with ⟨h1, rfl⟩ | ⟨u, s1, h1, hr1⟩
 ·refine (iWant HB.out hX (lit_ne _ _) h1).mono ?_
  rintro e wf ⟨hF, pl, rfl⟩
  exact ⟨rfl, HF.out.trans hF, pl, rfl⟩
 refine (iWant HB.out hX (lit_ne _ _) h1).mono ?_
 rintro e w1 ⟨rfl, R1, F1⟩
 have FF1 := HF.out.trans F1
 clear HF HX
 have HF := hidOf FF1
 have HB2 := hidOf R1
 have HX := hidOf hr1
 clear HB
 have HB := HB2
 clear HB2 FF1 R1 F1 h1 hr1
 go_wp2_with fail
 rcases bnd_some HX.out with ⟨h2, rfl⟩ | ⟨v, s2, h2, hr2⟩
 ·refine (val_reads hX _ _ _ _ (fun b hb => Nat.lt_of_lt_of_le (hA b hb) HF.out.size) HB.out h2).mono ?_
  rintro e wf ⟨hF, pl, rfl⟩
  exact ⟨rfl, HF.out.trans hF, pl, rfl⟩
 refine (val_reads hX _ _ _ _ (fun b hb => Nat.lt_of_lt_of_le (hA b hb) HF.out.size) HB.out h2).mono ?_
 rintro e w2 ⟨⟨rfl, hk2⟩, R2, F2⟩
 have FF2 := HF.out.trans F2
 clear HF HX
 have HF := hidOf FF2
 have HB2 := hidOf R2
 have HX := hidOf hr2
 clear HB
 have HB := HB2
 have HK := hidOf hk2
 clear HB2 FF2 R2 F2 h2 hr2 hk2
 go_wp2_with fail
 have HKv := HK
 rcases bnd_some HX.out with ⟨h3, rfl⟩ | ⟨u2, s3, h3, hr3⟩
 ·refine (iWant HB.out hX (lit_ne _ _) h3).mono ?_
  rintro e wf ⟨hF, pl, rfl⟩
  exact ⟨rfl, HF.out.trans hF, pl, rfl⟩
 refine (iWant HB.out hX (lit_ne _ _) h3).mono ?_
 rintro e w3 ⟨rfl, R3, F3⟩
 have FF3 := HF.out.trans F3
 clear HF HX
 have HF := hidOf FF3
 have HB2 := hidOf R3
 have HX := hidOf hr3
 clear HB
 have HB := HB2
 have HW := hidOf (want_ns h3)
 clear HB2 FF3 R3 F3 h3 hr3
 obtain rfl : some (v, s3) = o := by
  have := HX.out
  injection this
 clear HX
 have hk9 : v < s3.ns.length := by rw [HW.out]; exact HKv.out
 clear HW HK HKv
 go_wp2
 go_ret
 exact ⟨⟨rfl, hk9⟩, HB.out, HF.out⟩
theorem iAnsw {o : Option (Nat × Ps)} (h : Rd B g xs A w s) (hX : xs.length ≤ 3000) (hA : ∀ b, A b → b < w.heap.size) (hr : answP xs s = some o) : Calls Tryz.prog 284 #[.pointer (some ⟨g, 0, none⟩)] w (PostR B g xs A w VN o) := by
 obtain ⟨i0, hi, hz0, hz1, hz2⟩ := info_parts infoI1
 have hbase := h.base
 have HF := hidOf (Fr.refl B w)
 have HB := hidOf h
 have HX := hidOf hr
 clear h hr
 go_enter Tryz.func284, Tryz.ntmps284
 have B1 : Below w.heap.size w (w.alloc (.cells #[] tI)) := (Below.refl _ _).alloc (Nat.le_refl _) _
 have R1 : Rd B g xs (And1 A (.slice (some ⟨w.heap.size, 0, none⟩) 0 0)) (w.alloc (.cells #[] tI)) s := (HB.out.avoid (A' := And1 A (.slice (some ⟨w.heap.size, 0, none⟩) 0 0)) (fun k hk => hk.imp_right (fun e => by injection e with e; show w.heap.size ≤ k; exact Nat.le_of_eq e))).below B1
 have o1 : (w.alloc (.cells #[] tI)).ownsRow w.heap.size tI 1 (.slice (some ⟨w.heap.size, 0, none⟩) 0 0) 0 [] := World.ownsRow_made w #[] 0 HF.out.size (by decide) rfl
 have FF1 := HF.out.trans (Fr.ofB (B := B) B1 HB.out.base)
 clear HF HB
 have HF := hidOf FF1
 have HB := hidOf R1
 have HP := hidOf o1
 clear FF1 R1 o1 B1
 go_wp2_with fail
 have hx := HX.out
 unfold answP at hx
 clear HX
 have HX := hidOf hx
 clear hx
 by_cases ht : txt xs s.p = (⟨#[59]⟩ : ByteArray)
 ·have hx := HX.out
  rw [if_pos ht] at hx
  clear HX
  have HX := hidOf hx
  clear hx
  have qT := iIs_any HB.out (⟨#[59]⟩ : ByteArray)
  rw [decide_eq_true ht] at qT
  clear ht
  refine (qT).mono ?_
  rintro e w2 ⟨rfl, B2⟩
  have R2 := HB.out.below B2
  have FF2 := HF.out.trans (Fr.ofB (B := B) B2 HB.out.base)
  have o2 := owns_below HP.out B2
  clear HF HB HP
  have HF := hidOf FF2
  have HB := hidOf R2
  have HP := hidOf o2
  clear FF2 R2 B2 o2
  go_wp2_with fail
  rcases bnd_some HX.out with ⟨h3, rfl⟩ | ⟨u, s3, h3, hr3⟩
  ·refine (iWant HB.out hX (lit_ne _ _) h3).mono ?_
   rintro e wf ⟨hF, pl, rfl⟩
   exact ⟨rfl, HF.out.trans hF, pl, rfl⟩
  refine (iWant HB.out hX (lit_ne _ _) h3).mono ?_
  rintro e w3 ⟨rfl, R3, F3⟩
  have o3 := F3.ints HP.out
  have FF3 := HF.out.trans F3
  clear HF HX HP
  have HF := hidOf FF3
  have HB2 := hidOf R3
  have HX := hidOf hr3
  clear HB
  have HB := HB2
  have HP := hidOf o3
  clear HB2 FF3 R3 F3 h3 hr3 o3
  go_wp2_with fail
  refine (iAdd 15 ByteArray.empty ([] : List Int) (some ⟨w.heap.size, 0, none⟩) 0 (HB.out.avoid (fun k hk => .inl (.inl hk))) (ownsRow_base HP.out hbase) (fun b hb hb2 => by have h7 := (HP.out.lt b hb).1; have h8 := hA b hb2; omega) HX.out).mono ?_
  intro e we H
  have H2 := H.into HF.out
  clear H
  rcases o with _ | ⟨k9, s9⟩
  ·obtain ⟨hF, pl, rfl⟩ := H2
   exact ⟨rfl, hF, pl, rfl⟩
  ·obtain ⟨⟨rfl, hk9⟩, H⟩ := H2
   have HH := hidOf H
   clear H
   clear HF HB HX
   go_wp2
   go_ret
   exact ⟨⟨rfl, hk9⟩, HH.out⟩
 ·have hx := HX.out
  rw [if_neg ht] at hx
  clear HX
  have HX := hidOf hx
  clear hx
  have qT := iIs_any HB.out (⟨#[59]⟩ : ByteArray)
  rw [decide_eq_false ht] at qT
  clear ht
  refine (qT).mono ?_
  rintro e w2 ⟨rfl, B2⟩
  have R2 := HB.out.below B2
  have FF2 := HF.out.trans (Fr.ofB (B := B) B2 HB.out.base)
  have o2 := owns_below HP.out B2
  clear HF HB HP
  have HF := hidOf FF2
  have HB := hidOf R2
  have HP := hidOf o2
  clear FF2 R2 B2 o2
  go_wp2_with fail
  rcases bnd_some HX.out with ⟨h3, rfl⟩ | ⟨v, s3, h3, hr3⟩
  ·refine (val_reads hX _ _ _ _ (And1.lt hA HF.out.size HP.out) HB.out h3).mono ?_
   rintro e wf ⟨hF, pl, rfl⟩
   exact ⟨rfl, HF.out.trans hF, pl, rfl⟩
  refine (val_reads hX _ _ _ _ (And1.lt hA HF.out.size HP.out) HB.out h3).mono ?_
  rintro e w3 ⟨⟨rfl, hk3⟩, R3, F3⟩
  have o3 := F3.ints HP.out
  have FF3 := HF.out.trans F3
  clear HF HX HP
  have HF := hidOf FF3
  have HB2 := hidOf R3
  have HX := hidOf hr3
  clear HB
  have HB := HB2
  have HP := hidOf o3
  have HK := hidOf hk3
  clear HB2 FF3 R3 F3 h3 hr3 o3 hk3
  have hs4 := HF.out.size
  go_wp2_with (at_builtin; refine wpList_append_own2 rfl _ _ 57 rfl w.heap.size 3 i0 _ 1 8 Tryz.underlying57 hi hz0 hz1 hz2 rfl (by decide) (.slice (some ⟨w.heap.size, 0, none⟩) 0 0) (0) (intVals ([] : List Int)) rfl (HP.out.alloc _) ⟨w3.heap.size, 0, none⟩ 1 1 [.int .i64 (v : Int)] rfl rfl (cell_one_new _ _ _) (by simp [Value.oneCell']) (by unfold maxLen; omega) (by omega) (by simp; omega) ?_; intro v' w4 hown' hgrow5 hpl5)
  have B4 : Below w3.heap.size w3 (w3.alloc (.cells #[.int .i64 (v : Int)] tI)) := (Below.refl _ _).alloc (Nat.le_refl _) _
  have FF4 := (HF.out.trans (Fr.ofB (B := B) B4 HB.out.base)).growI hbase hgrow5 (fun b hb => (HP.out.lt b hb).1)
  have R4 := (HB.out.below B4).growI (A' := And1 A v') (HP.out.alloc _) hgrow5 (fun b hb => .inr hb) (fun b hb => by
   rcases hb with hb | hb
   ·exact .inl (.inl hb)
   ·rcases hpl5 b hb with h6 | h6
    ·exact .inl (.inr h6)
    ·exact .inr h6)
  have o4 := own_app (ks := ([] : List Int)) (k := (v : Int)) hown' rfl
  clear hown' hgrow5 hpl5 HF HB HP hs4 B4
  obtain ⟨ao4, cc4, rfl⟩ := owns_slice o4
  have HF := hidOf FF4
  have HB := hidOf R4
  have HP := hidOf o4
  clear FF4 R4 o4
  rcases bnd_some HX.out with ⟨h5, rfl⟩ | ⟨u, s5, h5, hr5⟩
  ·refine (iWant HB.out hX (lit_ne _ _) h5).mono ?_
   rintro e wf ⟨hF, pl, rfl⟩
   exact ⟨rfl, HF.out.trans hF, pl, rfl⟩
  refine (iWant HB.out hX (lit_ne _ _) h5).mono ?_
  rintro e w5 ⟨rfl, R5, F5⟩
  have o5 := F5.ints HP.out
  have FF5 := HF.out.trans F5
  clear HF HX HP
  have HF := hidOf FF5
  have HB2 := hidOf R5
  have HX := hidOf hr5
  clear HB
  have HB := HB2
  have HP := hidOf o5
  clear HB2 FF5 R5 F5 h5 hr5 o5
  go_wp2_with fail
  refine (iAdd 15 ByteArray.empty (([] : List Int) ++ [(v : Int)]) (ao4) cc4 (HB.out.avoid (fun k hk => .inl (.inl hk))) (ownsRow_base HP.out hbase) (fun b hb hb2 => by have h7 := (HP.out.lt b hb).1; have h8 := hA b hb2; omega) HX.out).mono ?_
  intro e we H
  have H2 := H.into HF.out
  clear H
  rcases o with _ | ⟨k9, s9⟩
  ·obtain ⟨hF, pl, rfl⟩ := H2
   exact ⟨rfl, hF, pl, rfl⟩
  ·obtain ⟨⟨rfl, hk9⟩, H⟩ := H2
   have HH := hidOf H
   clear H
   clear HF HB HX
   go_wp2
   go_ret
   exact ⟨⟨rfl, hk9⟩, HH.out⟩
theorem iSett {o : Option (Nat × Ps)} (h : Rd B g xs A w s) (hX : xs.length ≤ 3000) (hA : ∀ b, A b → b < w.heap.size) (hr : settP xs s = some o) : Calls Tryz.prog 288 #[.pointer (some ⟨g, 0, none⟩)] w (PostR B g xs A w VN o) := by
 obtain ⟨i0, hi, hz0, hz1, hz2⟩ := info_parts infoI1
 have hbase := h.base
 have HF := hidOf (Fr.refl B w)
 have HB := hidOf h
 have HX := hidOf hr
 clear h hr
 go_enter Tryz.func288, Tryz.ntmps288
 go_wp2_with fail
 rcases bnd_some HX.out with ⟨h1, rfl⟩ | ⟨t, s1, h1, hr1⟩
 ·refine (iName HB.out hX h1).mono ?_
  rintro e wf ⟨hF, pl, rfl⟩
  exact ⟨rfl, HF.out.trans hF, pl, rfl⟩
 refine (iName HB.out hX h1).mono ?_
 rintro e w1 ⟨rfl, R1, F1⟩
 have FF1 := HF.out.trans F1
 clear HF HX
 have HF := hidOf FF1
 have HB2 := hidOf R1
 have HX := hidOf hr1
 clear HB
 have HB := HB2
 clear HB2 FF1 R1 F1 h1 hr1
 go_wp2_with fail
 rcases bnd_some HX.out with ⟨h2, rfl⟩ | ⟨u, s2, h2, hr2⟩
 ·refine (iWant HB.out hX (lit_ne _ _) h2).mono ?_
  rintro e wf ⟨hF, pl, rfl⟩
  exact ⟨rfl, HF.out.trans hF, pl, rfl⟩
 refine (iWant HB.out hX (lit_ne _ _) h2).mono ?_
 rintro e w2 ⟨rfl, R2, F2⟩
 have FF2 := HF.out.trans F2
 clear HF HX
 have HF := hidOf FF2
 have HB2 := hidOf R2
 have HX := hidOf hr2
 clear HB
 have HB := HB2
 clear HB2 FF2 R2 F2 h2 hr2
 go_wp2_with fail
 rcases bnd_some HX.out with ⟨h3, rfl⟩ | ⟨v, s3, h3, hr3⟩
 ·refine (val_reads hX _ _ _ _ (fun b hb => Nat.lt_of_lt_of_le (hA b hb) HF.out.size) HB.out h3).mono ?_
  rintro e wf ⟨hF, pl, rfl⟩
  exact ⟨rfl, HF.out.trans hF, pl, rfl⟩
 refine (val_reads hX _ _ _ _ (fun b hb => Nat.lt_of_lt_of_le (hA b hb) HF.out.size) HB.out h3).mono ?_
 rintro e w3 ⟨⟨rfl, hk3⟩, R3, F3⟩
 have FF3 := HF.out.trans F3
 clear HF HX
 have HF := hidOf FF3
 have HB2 := hidOf R3
 have HX := hidOf hr3
 clear HB
 have HB := HB2
 have HK := hidOf hk3
 clear HB2 FF3 R3 F3 h3 hr3 hk3
 go_wp2_with fail
 rcases bnd_some HX.out with ⟨h4, rfl⟩ | ⟨u2, s4, h4, hr4⟩
 ·refine (iWant HB.out hX (lit_ne _ _) h4).mono ?_
  rintro e wf ⟨hF, pl, rfl⟩
  exact ⟨rfl, HF.out.trans hF, pl, rfl⟩
 refine (iWant HB.out hX (lit_ne _ _) h4).mono ?_
 rintro e w4 ⟨rfl, R4, F4⟩
 have FF4 := HF.out.trans F4
 clear HF HX
 have HF := hidOf FF4
 have HB2 := hidOf R4
 have HX := hidOf hr4
 clear HB
 have HB := HB2
 clear HB2 FF4 R4 F4 h4 hr4
 go_wp2_with fail
 have B5 : Below w4.heap.size w4 (w4.alloc (.cells #[.int .i64 (v : Int)] tI)) := (Below.refl _ _).alloc (Nat.le_refl _) _
 have R5 : Rd B g xs (And1 A (.slice (some ⟨w4.heap.size, 0, none⟩) 1 1)) (w4.alloc (.cells #[.int .i64 (v : Int)] tI)) s4 := (HB.out.avoid (A' := And1 A (.slice (some ⟨w4.heap.size, 0, none⟩) 1 1)) (fun k hk => hk.imp_right (fun e => by injection e with e; show w4.heap.size ≤ k; exact Nat.le_of_eq e))).below B5
 have o5 : (w4.alloc (.cells #[.int .i64 (v : Int)] tI)).ownsRow w.heap.size tI 1 (.slice (some ⟨w4.heap.size, 0, none⟩) 1 1) 1 (intVals [(v : Int)]) := World.ownsRow_lit w4 #[.int .i64 (v : Int)] 1 HF.out.size (by decide) rfl
 have FF5 := HF.out.trans (Fr.ofB (B := B) B5 HB.out.base)
 clear HF HB
 have HF := hidOf FF5
 have HB := hidOf R5
 have HP := hidOf o5
 clear FF5 R5 o5 B5
 refine (iAdd 13 t [(v : Int)] (some ⟨w4.heap.size, 0, none⟩) 1 (HB.out.avoid (fun k hk => .inl (.inl hk))) (ownsRow_base HP.out hbase) (fun b hb hb2 => by have h7 := (HP.out.lt b hb).1; have h8 := hA b hb2; omega) HX.out).mono ?_
 intro e we H
 have H2 := H.into HF.out
 clear H
 rcases o with _ | ⟨k9, s9⟩
 ·obtain ⟨hF, pl, rfl⟩ := H2
  exact ⟨rfl, hF, pl, rfl⟩
 ·obtain ⟨⟨rfl, hk9⟩, H⟩ := H2
  have HH := hidOf H
  clear H
  clear HF HB HX
  go_wp2
  go_ret
  exact ⟨⟨rfl, hk9⟩, HH.out⟩
theorem iBlock {o : Option (Nat × Ps)} {st : Ps → Rs Nat} (h : Rd B g xs A w s) (hX : xs.length ≤ 3000) (hA : ∀ b, A b → b < w.heap.size) (hS : Same st) (hst : Reads B g xs 277 st) (hr : blockP xs st s = some o) : Calls Tryz.prog 262 #[.pointer (some ⟨g, 0, none⟩)] w (PostR B g xs A w VN o) := by
 obtain ⟨i0, hi, hz0, hz1, hz2⟩ := info_parts infoI1
 have hmf : ∀ (fn : Fn) (first cap : Array Value) (w : World), (Instr.makeFunc fn first cap).run Tryz.prog w = .ok (.func fn first cap) w := fun _ _ _ _ => rfl
 unfold blockP at hr
 have hbase := h.base
 by_cases hb : 20 < s.d + 1
 ·rw [if_pos hb] at hr
  obtain rfl : none = o := by injection hr
  have qB := iBegin (o := none) h (by rw [if_pos hb])
  clear hr h
  go_enter Tryz.func262, Tryz.ntmps262
  go_wp2_with fail
  refine qB.mono ?_
  rintro e wf ⟨hF, pl, rfl⟩
  exact ⟨rfl, hF, pl, rfl⟩
 ·rw [if_neg hb] at hr
  have qB := iBegin (o := some ((), ⟨s.p, s.d + 1, s.ns⟩)) h (by rw [if_neg hb])
  have HX := hidOf hr
  clear hr h hb
  go_enter Tryz.func262, Tryz.ntmps262
  go_wp2_with fail
  refine qB.mono ?_
  rintro e w0 ⟨rfl, R0, F0⟩
  have HF := hidOf F0
  have HB := hidOf R0
  clear qB R0 F0
  go_wp2_with fail
  rcases bnd_some HX.out with ⟨h1, rfl⟩ | ⟨u, s1, h1, hr1⟩
  ·refine (iWant HB.out hX (lit_ne _ _) h1).mono ?_
   rintro e wf ⟨hF, pl, rfl⟩
   exact ⟨rfl, HF.out.trans hF, pl, rfl⟩
  refine (iWant HB.out hX (lit_ne _ _) h1).mono ?_
  rintro e w1 ⟨rfl, R1, F1⟩
  have FF1 := HF.out.trans F1
  clear HF HX
  have HF := hidOf FF1
  have HB2 := hidOf R1
  have HX := hidOf hr1
  clear HB
  have HB := HB2
  have HD1 := hidOf (dp_want rfl _ _ h1)
  clear HB2 FF1 R1 F1 h1 hr1
  go_wp2_with fail
  rcases bnd_some HX.out with ⟨h2, rfl⟩ | ⟨ks, s2, h2, hr2⟩
  ·refine (iBodyS HB.out hX (fun b hb => Nat.lt_of_lt_of_le (hA b hb) HF.out.size) hst h2).mono ?_
   rintro e wf ⟨hF, pl, rfl⟩
   exact ⟨rfl, HF.out.trans hF, pl, rfl⟩
  refine (iBodyS HB.out hX (fun b hb => Nat.lt_of_lt_of_le (hA b hb) HF.out.size) hst h2).mono ?_
  rintro e w2 ⟨⟨la2, lc2, rfl, lo2, lr2, lf2⟩, R2, F2⟩
  have o2 := ownsRow_base lo2 HF.out.size
  have FF2 := HF.out.trans F2
  clear HF HX
  have HF := hidOf FF2
  have HB2 := hidOf lr2
  have HX := hidOf hr2
  clear HB
  have HB := HB2
  have HP := hidOf o2
  have HD2 := hidOf (dp_body hS _ _ _ rfl _ _ h2)
  clear HB2 FF2 R2 F2 h2 hr2 o2 lo2 lr2
  go_wp2_with fail
  rcases bnd_some HX.out with ⟨h3, rfl⟩ | ⟨u2, s3, h3, hr3⟩
  ·refine (iWant HB.out hX (lit_ne _ _) h3).mono ?_
   rintro e wf ⟨hF, pl, rfl⟩
   exact ⟨rfl, HF.out.trans hF, pl, rfl⟩
  refine (iWant HB.out hX (lit_ne _ _) h3).mono ?_
  rintro e w3 ⟨rfl, R3, F3⟩
  have o3 := F3.ints HP.out
  have FF3 := HF.out.trans F3
  clear HF HX HP
  have HF := hidOf FF3
  have HB2 := hidOf R3
  have HX := hidOf hr3
  clear HB
  have HB := HB2
  have HP := hidOf o3
  have HD3 := hidOf (dp_want rfl _ _ h3)
  clear HB2 FF3 R3 F3 h3 hr3 o3
  go_wp2_with fail
  have hpos : 0 < s3.d := by
   have a1 : s1.d = s.d + 1 := HD1.out
   have a2 := HD2.out
   have a3 := HD3.out
   omega
  refine (iEnd HB.out hpos).mono ?_
  rintro e w4 ⟨rfl, R4, F4⟩
  have o4 := F4.ints HP.out
  have F5 := HF.out.trans F4
  clear HF HB HP HD1 HD2 HD3 hpos F4
  have HF := hidOf F5
  have HB := hidOf R4
  have HP := hidOf o4
  clear F5 R4 o4
  go_wp2_with fail
  refine (iAdd 18 ByteArray.empty ks (la2) lc2 (HB.out.avoid (fun k hk => .inl (.inl hk))) (ownsRow_base HP.out hbase) (fun b hb hb2 => by have h7 := (HP.out.lt b hb).1; have h8 := hA b hb2; omega) HX.out).mono ?_
  intro e we H
  have H2 := H.into HF.out
  clear H
  rcases o with _ | ⟨k9, s9⟩
  ·obtain ⟨hF, pl, rfl⟩ := H2
   exact ⟨rfl, hF, pl, rfl⟩
  ·obtain ⟨⟨rfl, hk9⟩, H⟩ := H2
   have HH := hidOf H
   clear H
   clear HF HB HX
   go_wp2
   go_ret
   exact ⟨⟨rfl, hk9⟩, HH.out⟩
theorem iChoi {o : Option (Nat × Ps)} {st : Ps → Rs Nat} (h : Rd B g xs A w s) (hX : xs.length ≤ 3000) (hA : ∀ b, A b → b < w.heap.size) (hS : Same st) (hst : Reads B g xs 277 st) (hr : choiP xs st s = some o) : Calls Tryz.prog 285 #[.pointer (some ⟨g, 0, none⟩)] w (PostR B g xs A w VN o) := by
 obtain ⟨i0, hi, hz0, hz1, hz2⟩ := info_parts infoI1
 have hbase := h.base
 have HF := hidOf (Fr.refl B w)
 have HB := hidOf h
 have HX := hidOf hr
 clear h hr
 go_enter Tryz.func285, Tryz.ntmps285
 go_wp2_with fail
 rcases bnd_some HX.out with ⟨h1, rfl⟩ | ⟨v, s1, h1, hr1⟩
 ·refine (iCond HB.out hX (fun b hb => Nat.lt_of_lt_of_le (hA b hb) HF.out.size) h1).mono ?_
  rintro e wf ⟨hF, pl, rfl⟩
  exact ⟨rfl, HF.out.trans hF, pl, rfl⟩
 refine (iCond HB.out hX (fun b hb => Nat.lt_of_lt_of_le (hA b hb) HF.out.size) h1).mono ?_
 rintro e w1 ⟨⟨rfl, hk1⟩, R1, F1⟩
 have FF1 := HF.out.trans F1
 clear HF HX
 have HF := hidOf FF1
 have HB2 := hidOf R1
 have HX := hidOf hr1
 clear HB
 have HB := HB2
 have HK := hidOf hk1
 clear HB2 FF1 R1 F1 h1 hr1 hk1
 have B2 : Below w1.heap.size w1 (w1.alloc (.cells #[.int .i64 (v : Int)] tI)) := (Below.refl _ _).alloc (Nat.le_refl _) _
 have R2 : Rd B g xs (And1 A (.slice (some ⟨w1.heap.size, 0, none⟩) 1 1)) (w1.alloc (.cells #[.int .i64 (v : Int)] tI)) s1 := (HB.out.avoid (A' := And1 A (.slice (some ⟨w1.heap.size, 0, none⟩) 1 1)) (fun k hk => hk.imp_right (fun e => by injection e with e; show w1.heap.size ≤ k; exact Nat.le_of_eq e))).below B2
 have o2 : (w1.alloc (.cells #[.int .i64 (v : Int)] tI)).ownsRow w.heap.size tI 1 (.slice (some ⟨w1.heap.size, 0, none⟩) 1 1) 1 (intVals [(v : Int)]) := World.ownsRow_lit w1 #[.int .i64 (v : Int)] 1 HF.out.size (by decide) rfl
 have FF2 := HF.out.trans (Fr.ofB (B := B) B2 HB.out.base)
 clear HF HB
 have HF := hidOf FF2
 have HB := hidOf R2
 have HP := hidOf o2
 clear FF2 R2 o2 B2
 go_wp2_with fail
 rcases bnd_some HX.out with ⟨h3, rfl⟩ | ⟨b, s3, h3, hr3⟩
 ·refine (iBlock HB.out hX (And1.lt hA HF.out.size HP.out) hS hst h3).mono ?_
  rintro e wf ⟨hF, pl, rfl⟩
  exact ⟨rfl, HF.out.trans hF, pl, rfl⟩
 refine (iBlock HB.out hX (And1.lt hA HF.out.size HP.out) hS hst h3).mono ?_
 rintro e w3 ⟨⟨rfl, hk3⟩, R3, F3⟩
 have o3 := F3.ints HP.out
 have FF3 := HF.out.trans F3
 clear HF HX HP
 have HF := hidOf FF3
 have HB2 := hidOf R3
 have HX := hidOf hr3
 clear HB
 have HB := HB2
 have HP := hidOf o3
 have HK := hidOf hk3
 clear HB2 FF3 R3 F3 h3 hr3 o3 hk3
 have hs4 := HF.out.size
 go_wp2_with (at_builtin; refine wpList_append_own2 rfl _ _ 57 rfl w.heap.size 3 i0 _ 1 8 Tryz.underlying57 hi hz0 hz1 hz2 rfl (by decide) (.slice (some ⟨w1.heap.size, 0, none⟩) 1 1) (1) (intVals [(v : Int)]) rfl (HP.out.alloc _) ⟨w3.heap.size, 0, none⟩ 1 1 [.int .i64 (b : Int)] rfl rfl (cell_one_new _ _ _) (by simp [Value.oneCell']) (by unfold maxLen; omega) (by omega) (by simp; omega) ?_; intro v' w4 hown' hgrow5 hpl5)
 have B4 : Below w3.heap.size w3 (w3.alloc (.cells #[.int .i64 (b : Int)] tI)) := (Below.refl _ _).alloc (Nat.le_refl _) _
 have FF4 := (HF.out.trans (Fr.ofB (B := B) B4 HB.out.base)).growI hbase hgrow5 (fun b hb => (HP.out.lt b hb).1)
 have R4 := (HB.out.below B4).growI (A' := And1 A v') (HP.out.alloc _) hgrow5 (fun b hb => .inr hb) (fun b hb => by
  rcases hb with hb | hb
  ·exact .inl (.inl hb)
  ·rcases hpl5 b hb with h6 | h6
   ·exact .inl (.inr h6)
   ·exact .inr h6)
 have o4 := own_app (ks := [(v : Int)]) (k := (b : Int)) hown' rfl
 clear hown' hgrow5 hpl5 HF HB HP hs4 B4
 obtain ⟨ao4, cc4, rfl⟩ := owns_slice o4
 have HF := hidOf FF4
 have HB := hidOf R4
 have HP := hidOf o4
 clear FF4 R4 o4
 by_cases ht : txt xs s3.p = (⟨#[101, 108, 115, 101]⟩ : ByteArray)
 ·have hx := HX.out
  rw [if_pos ht] at hx
  clear HX
  have HX := hidOf hx
  clear hx
  have qT := iTakeY HB.out hX (lit_ne _ _) ht
  clear ht
  refine qT.mono ?_
  rintro e w5 ⟨rfl, R5, F5⟩
  have FF5 := HF.out.trans F5
  have o5 := F5.ints HP.out
  clear qT HF HB HP
  have HF := hidOf FF5
  have HB := hidOf R5
  have HP := hidOf o5
  clear FF5 R5 F5 o5
  go_wp2_with fail
  rcases bnd_some HX.out with ⟨h6, rfl⟩ | ⟨c, s6, h6, hr6⟩
  ·refine (iBlock HB.out hX (And1.lt hA HF.out.size HP.out) hS hst h6).mono ?_
   rintro e wf ⟨hF, pl, rfl⟩
   exact ⟨rfl, HF.out.trans hF, pl, rfl⟩
  refine (iBlock HB.out hX (And1.lt hA HF.out.size HP.out) hS hst h6).mono ?_
  rintro e w6 ⟨⟨rfl, hk6⟩, R6, F6⟩
  have o6 := F6.ints HP.out
  have FF6 := HF.out.trans F6
  clear HF HX HP
  have HF := hidOf FF6
  have HB2 := hidOf R6
  have HX := hidOf hr6
  clear HB
  have HB := HB2
  have HP := hidOf o6
  have HK := hidOf hk6
  clear HB2 FF6 R6 F6 h6 hr6 o6 hk6
  have hs7 := HF.out.size
  have hfw : ([(v : Int)] ++ [(b : Int)]).length ≤ 2 := Nat.le_refl _
  go_wp2_with (at_builtin; refine wpList_append_own2 rfl _ _ 57 rfl w.heap.size 3 i0 _ 1 8 Tryz.underlying57 hi hz0 hz1 hz2 rfl (by decide) (.slice ao4 ([(v : Int)] ++ [(b : Int)]).length cc4) (([(v : Int)] ++ [(b : Int)]).length) (intVals ([(v : Int)] ++ [(b : Int)])) rfl (HP.out.alloc _) ⟨w6.heap.size, 0, none⟩ 1 1 [.int .i64 (c : Int)] rfl rfl (cell_one_new _ _ _) (by simp [Value.oneCell']) (by unfold maxLen; omega) (by omega) (by simp; omega) ?_; intro v' w7 hown' hgrow5 hpl5)
  have B7 : Below w6.heap.size w6 (w6.alloc (.cells #[.int .i64 (c : Int)] tI)) := (Below.refl _ _).alloc (Nat.le_refl _) _
  have FF7 := (HF.out.trans (Fr.ofB (B := B) B7 HB.out.base)).growI hbase hgrow5 (fun b hb => (HP.out.lt b hb).1)
  have R7 := (HB.out.below B7).growI (A' := And1 A v') (HP.out.alloc _) hgrow5 (fun b hb => .inr hb) (fun b hb => by
   rcases hb with hb | hb
   ·exact .inl (.inl hb)
   ·rcases hpl5 b hb with h6 | h6
    ·exact .inl (.inr h6)
    ·exact .inr h6)
  have o7 := own_app (ks := ([(v : Int)] ++ [(b : Int)])) (k := (c : Int)) hown' rfl
  clear hown' hgrow5 hpl5 HF HB HP hs7 B7
  obtain ⟨ao7, cc7, rfl⟩ := owns_slice o7
  have HF := hidOf FF7
  have HB := hidOf R7
  have HP := hidOf o7
  clear FF7 R7 o7
  refine (iAdd 16 ByteArray.empty (([(v : Int)] ++ [(b : Int)]) ++ [(c : Int)]) (ao7) cc7 (HB.out.avoid (fun k hk => .inl (.inl hk))) (ownsRow_base HP.out hbase) (fun b hb hb2 => by have h7 := (HP.out.lt b hb).1; have h8 := hA b hb2; omega) HX.out).mono ?_
  intro e we H
  have H2 := H.into HF.out
  clear H
  rcases o with _ | ⟨k9, s9⟩
  ·obtain ⟨hF, pl, rfl⟩ := H2
   exact ⟨rfl, hF, pl, rfl⟩
  ·obtain ⟨⟨rfl, hk9⟩, H⟩ := H2
   have HH := hidOf H
   clear H
   clear HF HB HX
   go_wp2
   go_ret
   exact ⟨⟨rfl, hk9⟩, HH.out⟩
 ·have hx := HX.out
  rw [if_neg ht] at hx
  clear HX
  have HX := hidOf hx
  clear hx
  have qT := iTakeN HB.out ht
  clear ht
  refine (qT).mono ?_
  rintro e w5 ⟨rfl, B5⟩
  have R5 := HB.out.below B5
  have FF5 := HF.out.trans (Fr.ofB (B := B) B5 HB.out.base)
  have o5 := owns_below HP.out B5
  clear HF HB HP
  have HF := hidOf FF5
  have HB := hidOf R5
  have HP := hidOf o5
  clear FF5 R5 B5 o5
  go_wp2_with fail
  refine (iAdd 16 ByteArray.empty ([(v : Int)] ++ [(b : Int)]) (ao4) cc4 (HB.out.avoid (fun k hk => .inl (.inl hk))) (ownsRow_base HP.out hbase) (fun b hb hb2 => by have h7 := (HP.out.lt b hb).1; have h8 := hA b hb2; omega) HX.out).mono ?_
  intro e we H
  have H2 := H.into HF.out
  clear H
  rcases o with _ | ⟨k9, s9⟩
  ·obtain ⟨hF, pl, rfl⟩ := H2
   exact ⟨rfl, hF, pl, rfl⟩
  ·obtain ⟨⟨rfl, hk9⟩, H⟩ := H2
   have HH := hidOf H
   clear H
   clear HF HB HX
   go_wp2
   go_ret
   exact ⟨⟨rfl, hk9⟩, HH.out⟩
theorem iLoop {o : Option (Nat × Ps)} {st : Ps → Rs Nat} (h : Rd B g xs A w s) (hX : xs.length ≤ 3000) (hA : ∀ b, A b → b < w.heap.size) (hS : Same st) (hst : Reads B g xs 277 st) (hr : loopP xs st s = some o) : Calls Tryz.prog 286 #[.pointer (some ⟨g, 0, none⟩)] w (PostR B g xs A w VN o) := by
 obtain ⟨i0, hi, hz0, hz1, hz2⟩ := info_parts infoI1
 have hbase := h.base
 have HF := hidOf (Fr.refl B w)
 have HB := hidOf h
 have HX := hidOf hr
 clear h hr
 go_enter Tryz.func286, Tryz.ntmps286
 go_wp2_with fail
 rcases bnd_some HX.out with ⟨h1, rfl⟩ | ⟨v, s1, h1, hr1⟩
 ·refine (iCond HB.out hX (fun b hb => Nat.lt_of_lt_of_le (hA b hb) HF.out.size) h1).mono ?_
  rintro e wf ⟨hF, pl, rfl⟩
  exact ⟨rfl, HF.out.trans hF, pl, rfl⟩
 refine (iCond HB.out hX (fun b hb => Nat.lt_of_lt_of_le (hA b hb) HF.out.size) h1).mono ?_
 rintro e w1 ⟨⟨rfl, hk1⟩, R1, F1⟩
 have FF1 := HF.out.trans F1
 clear HF HX
 have HF := hidOf FF1
 have HB2 := hidOf R1
 have HX := hidOf hr1
 clear HB
 have HB := HB2
 have HK := hidOf hk1
 clear HB2 FF1 R1 F1 h1 hr1 hk1
 go_wp2_with fail
 rcases bnd_some HX.out with ⟨h2, rfl⟩ | ⟨b, s2, h2, hr2⟩
 ·refine (iBlock HB.out hX (fun b hb => Nat.lt_of_lt_of_le (hA b hb) HF.out.size) hS hst h2).mono ?_
  rintro e wf ⟨hF, pl, rfl⟩
  exact ⟨rfl, HF.out.trans hF, pl, rfl⟩
 refine (iBlock HB.out hX (fun b hb => Nat.lt_of_lt_of_le (hA b hb) HF.out.size) hS hst h2).mono ?_
 rintro e w2 ⟨⟨rfl, hk2⟩, R2, F2⟩
 have FF2 := HF.out.trans F2
 clear HF HX
 have HF := hidOf FF2
 have HB2 := hidOf R2
 have HX := hidOf hr2
 clear HB
 have HB := HB2
 have HK := hidOf hk2
 clear HB2 FF2 R2 F2 h2 hr2 hk2
 go_wp2_with fail
 have B3 : Below w2.heap.size w2 (w2.alloc (.cells #[.int .i64 (v : Int), .int .i64 (b : Int)] tI)) := (Below.refl _ _).alloc (Nat.le_refl _) _
 have R3 : Rd B g xs (And1 A (.slice (some ⟨w2.heap.size, 0, none⟩) 2 2)) (w2.alloc (.cells #[.int .i64 (v : Int), .int .i64 (b : Int)] tI)) s2 := (HB.out.avoid (A' := And1 A (.slice (some ⟨w2.heap.size, 0, none⟩) 2 2)) (fun k hk => hk.imp_right (fun e => by injection e with e; show w2.heap.size ≤ k; exact Nat.le_of_eq e))).below B3
 have o3 : (w2.alloc (.cells #[.int .i64 (v : Int), .int .i64 (b : Int)] tI)).ownsRow w.heap.size tI 1 (.slice (some ⟨w2.heap.size, 0, none⟩) 2 2) 2 (intVals [(v : Int), (b : Int)]) := World.ownsRow_lit w2 #[.int .i64 (v : Int), .int .i64 (b : Int)] 2 HF.out.size (by decide) rfl
 have FF3 := HF.out.trans (Fr.ofB (B := B) B3 HB.out.base)
 clear HF HB
 have HF := hidOf FF3
 have HB := hidOf R3
 have HP := hidOf o3
 clear FF3 R3 o3 B3
 refine (iAdd 17 ByteArray.empty [(v : Int), (b : Int)] (some ⟨w2.heap.size, 0, none⟩) 2 (HB.out.avoid (fun k hk => .inl (.inl hk))) (ownsRow_base HP.out hbase) (fun b hb hb2 => by have h7 := (HP.out.lt b hb).1; have h8 := hA b hb2; omega) HX.out).mono ?_
 intro e we H
 have H2 := H.into HF.out
 clear H
 rcases o with _ | ⟨k9, s9⟩
 ·obtain ⟨hF, pl, rfl⟩ := H2
  exact ⟨rfl, hF, pl, rfl⟩
 ·obtain ⟨⟨rfl, hk9⟩, H⟩ := H2
  have HH := hidOf H
  clear H
  clear HF HB HX
  go_wp2
  go_ret
  exact ⟨⟨rfl, hk9⟩, HH.out⟩
theorem iStep {o : Option (Nat × Ps)} {st : Ps → Rs Nat} (h : Rd B g xs A w s) (hX : xs.length ≤ 3000) (hA : ∀ b, A b → b < w.heap.size) (hS : Same st) (hst : Reads B g xs 277 st) (hr : stepP xs st s = some o) : Calls Tryz.prog 277 #[.pointer (some ⟨g, 0, none⟩)] w (PostR B g xs A w VN o) := by
 obtain ⟨i0, hi, hz0, hz1, hz2⟩ := info_parts infoI1
 have hbase := h.base
 have HF := hidOf (Fr.refl B w)
 have HB := hidOf h
 have HX := hidOf hr
 clear h hr
 go_enter Tryz.func277, Tryz.ntmps277
 go_wp2_with fail
 have hx := HX.out
 unfold stepP at hx
 clear HX
 have HX := hidOf hx
 clear hx
 refine (iNext_any HB.out).mono ?_
 rintro e w1 ⟨⟨pl1, rfl⟩, B1⟩
 have R1 := HB.out.below B1
 have FF1 := HF.out.trans (Fr.ofB (B := B) B1 HB.out.base)
 clear HF HB
 have HF := hidOf FF1
 have HB := hidOf R1
 clear FF1 R1 B1
 have q := fSg0 (knd xs s.p) (txt xs s.p) pl1 (blk xs s.p)
 by_cases ht : knd xs s.p = 5
 ·have hx := HX.out
  rw [if_pos ht] at hx
  clear HX
  have HX := hidOf hx
  clear hx
  have hq : (knd xs s.p == 5) = true := by rw [ht]; rfl
  have HT := hidOf ht
  clear ht
  go_wp2_with fail
  clear q hq
  refine (iLeaf 19 HB.out hX (knd_lt HT.out (by decide)) HX.out).mono ?_
  intro e we H
  have H2 := H.into HF.out
  clear H
  rcases o with _ | ⟨k9, s9⟩
  ·obtain ⟨hF, pl, rfl⟩ := H2
   exact ⟨rfl, hF, pl, rfl⟩
  ·obtain ⟨⟨rfl, hk9⟩, H⟩ := H2
   have HH := hidOf H
   clear H
   clear HF HB HX
   go_wp2
   go_ret
   exact ⟨⟨rfl, hk9⟩, HH.out⟩
 ·have hx := HX.out
  rw [if_neg ht] at hx
  clear HX
  have HX := hidOf hx
  clear hx
  have hq : (knd xs s.p == 5) = false := by rw [beq_eq_false_iff_ne]; exact ht
  go_wp2_with fail
  clear q hq ht
  by_cases ht : txt xs s.p = (⟨#[118, 97, 114]⟩ : ByteArray)
  ·have hx := HX.out
   rw [if_pos ht] at hx
   clear HX
   have HX := hidOf hx
   clear hx
   have qT := iTakeY HB.out hX (lit_ne _ _) ht
   clear ht
   refine qT.mono ?_
   rintro e w2 ⟨rfl, R2, F2⟩
   have FF2 := HF.out.trans F2
   clear qT HF HB
   have HF := hidOf FF2
   have HB := hidOf R2
   clear FF2 R2 F2
   go_wp2_with fail
   refine (iHold HB.out hX (fun b hb => Nat.lt_of_lt_of_le (hA b hb) HF.out.size) HX.out).mono ?_
   intro e we H
   have H2 := H.into HF.out
   clear H
   rcases o with _ | ⟨k9, s9⟩
   ·obtain ⟨hF, pl, rfl⟩ := H2
    exact ⟨rfl, hF, pl, rfl⟩
   ·obtain ⟨⟨rfl, hk9⟩, H⟩ := H2
    have HH := hidOf H
    clear H
    clear HF HB HX
    go_wp2
    go_ret
    exact ⟨⟨rfl, hk9⟩, HH.out⟩
  ·have hx := HX.out
   rw [if_neg ht] at hx
   clear HX
   have HX := hidOf hx
   clear hx
   have qT := iTakeN HB.out ht
   clear ht
   refine (qT).mono ?_
   rintro e w2 ⟨rfl, B2⟩
   have R2 := HB.out.below B2
   have FF2 := HF.out.trans (Fr.ofB (B := B) B2 HB.out.base)
   clear HF HB
   have HF := hidOf FF2
   have HB := hidOf R2
   clear FF2 R2 B2
   go_wp2_with fail
   by_cases ht : txt xs s.p = (⟨#[114, 101, 116, 117, 114, 110]⟩ : ByteArray)
   ·have hx := HX.out
    rw [if_pos ht] at hx
    clear HX
    have HX := hidOf hx
    clear hx
    have qT := iTakeY HB.out hX (lit_ne _ _) ht
    clear ht
    refine qT.mono ?_
    rintro e w3 ⟨rfl, R3, F3⟩
    have FF3 := HF.out.trans F3
    clear qT HF HB
    have HF := hidOf FF3
    have HB := hidOf R3
    clear FF3 R3 F3
    go_wp2_with fail
    refine (iAnsw HB.out hX (fun b hb => Nat.lt_of_lt_of_le (hA b hb) HF.out.size) HX.out).mono ?_
    intro e we H
    have H2 := H.into HF.out
    clear H
    rcases o with _ | ⟨k9, s9⟩
    ·obtain ⟨hF, pl, rfl⟩ := H2
     exact ⟨rfl, hF, pl, rfl⟩
    ·obtain ⟨⟨rfl, hk9⟩, H⟩ := H2
     have HH := hidOf H
     clear H
     clear HF HB HX
     go_wp2
     go_ret
     exact ⟨⟨rfl, hk9⟩, HH.out⟩
   ·have hx := HX.out
    rw [if_neg ht] at hx
    clear HX
    have HX := hidOf hx
    clear hx
    have qT := iTakeN HB.out ht
    clear ht
    refine (qT).mono ?_
    rintro e w3 ⟨rfl, B3⟩
    have R3 := HB.out.below B3
    have FF3 := HF.out.trans (Fr.ofB (B := B) B3 HB.out.base)
    clear HF HB
    have HF := hidOf FF3
    have HB := hidOf R3
    clear FF3 R3 B3
    go_wp2_with fail
    by_cases ht : txt xs s.p = (⟨#[105, 102]⟩ : ByteArray)
    ·have hx := HX.out
     rw [if_pos ht] at hx
     clear HX
     have HX := hidOf hx
     clear hx
     have qT := iTakeY HB.out hX (lit_ne _ _) ht
     clear ht
     refine qT.mono ?_
     rintro e w4 ⟨rfl, R4, F4⟩
     have FF4 := HF.out.trans F4
     clear qT HF HB
     have HF := hidOf FF4
     have HB := hidOf R4
     clear FF4 R4 F4
     go_wp2_with fail
     refine (iChoi HB.out hX (fun b hb => Nat.lt_of_lt_of_le (hA b hb) HF.out.size) hS hst HX.out).mono ?_
     intro e we H
     have H2 := H.into HF.out
     clear H
     rcases o with _ | ⟨k9, s9⟩
     ·obtain ⟨hF, pl, rfl⟩ := H2
      exact ⟨rfl, hF, pl, rfl⟩
     ·obtain ⟨⟨rfl, hk9⟩, H⟩ := H2
      have HH := hidOf H
      clear H
      clear HF HB HX
      go_wp2
      go_ret
      exact ⟨⟨rfl, hk9⟩, HH.out⟩
    ·have hx := HX.out
     rw [if_neg ht] at hx
     clear HX
     have HX := hidOf hx
     clear hx
     have qT := iTakeN HB.out ht
     clear ht
     refine (qT).mono ?_
     rintro e w4 ⟨rfl, B4⟩
     have R4 := HB.out.below B4
     have FF4 := HF.out.trans (Fr.ofB (B := B) B4 HB.out.base)
     clear HF HB
     have HF := hidOf FF4
     have HB := hidOf R4
     clear FF4 R4 B4
     go_wp2_with fail
     by_cases ht : txt xs s.p = (⟨#[119, 104, 105, 108, 101]⟩ : ByteArray)
     ·have hx := HX.out
      rw [if_pos ht] at hx
      clear HX
      have HX := hidOf hx
      clear hx
      have qT := iTakeY HB.out hX (lit_ne _ _) ht
      clear ht
      refine qT.mono ?_
      rintro e w5 ⟨rfl, R5, F5⟩
      have FF5 := HF.out.trans F5
      clear qT HF HB
      have HF := hidOf FF5
      have HB := hidOf R5
      clear FF5 R5 F5
      go_wp2_with fail
      refine (iLoop HB.out hX (fun b hb => Nat.lt_of_lt_of_le (hA b hb) HF.out.size) hS hst HX.out).mono ?_
      intro e we H
      have H2 := H.into HF.out
      clear H
      rcases o with _ | ⟨k9, s9⟩
      ·obtain ⟨hF, pl, rfl⟩ := H2
       exact ⟨rfl, hF, pl, rfl⟩
      ·obtain ⟨⟨rfl, hk9⟩, H⟩ := H2
       have HH := hidOf H
       clear H
       clear HF HB HX
       go_wp2
       go_ret
       exact ⟨⟨rfl, hk9⟩, HH.out⟩
     ·have hx := HX.out
      rw [if_neg ht] at hx
      clear HX
      have HX := hidOf hx
      clear hx
      have qT := iTakeN HB.out ht
      clear ht
      refine (qT).mono ?_
      rintro e w5 ⟨rfl, B5⟩
      have R5 := HB.out.below B5
      have FF5 := HF.out.trans (Fr.ofB (B := B) B5 HB.out.base)
      clear HF HB
      have HF := hidOf FF5
      have HB := hidOf R5
      clear FF5 R5 B5
      go_wp2_with fail
      have qS := iSets HB.out hX
      by_cases ht : (isNm xs s.p && decide (txt xs (s.p + 1) = (⟨#[61]⟩ : ByteArray))) = true
      ·have hx := HX.out
       rw [if_pos ht] at hx
       clear HX
       have HX := hidOf hx
       clear hx
       rw [ht] at qS
       refine (qS).mono ?_
       rintro e w6 ⟨rfl, B6⟩
       have R6 := HB.out.below B6
       have FF6 := HF.out.trans (Fr.ofB (B := B) B6 HB.out.base)
       clear HF HB
       have HF := hidOf FF6
       have HB := hidOf R6
       clear FF6 R6 B6
       clear qS ht
       go_wp2_with fail
       refine (iSett HB.out hX (fun b hb => Nat.lt_of_lt_of_le (hA b hb) HF.out.size) HX.out).mono ?_
       intro e we H
       have H2 := H.into HF.out
       clear H
       rcases o with _ | ⟨k9, s9⟩
       ·obtain ⟨hF, pl, rfl⟩ := H2
        exact ⟨rfl, hF, pl, rfl⟩
       ·obtain ⟨⟨rfl, hk9⟩, H⟩ := H2
        have HH := hidOf H
        clear H
        clear HF HB HX
        go_wp2
        go_ret
        exact ⟨⟨rfl, hk9⟩, HH.out⟩
      ·have hx := HX.out
       rw [if_neg ht] at hx
       clear HX
       have HX := hidOf hx
       clear hx
       rw [show (isNm xs s.p && decide (txt xs (s.p + 1) = (⟨#[61]⟩ : ByteArray))) = false from Bool.eq_false_iff.2 ht] at qS
       refine (qS).mono ?_
       rintro e w6 ⟨rfl, B6⟩
       have R6 := HB.out.below B6
       have FF6 := HF.out.trans (Fr.ofB (B := B) B6 HB.out.base)
       clear HF HB
       have HF := hidOf FF6
       have HB := hidOf R6
       clear FF6 R6 B6
       clear qS ht
       go_wp2_with fail
       rcases bnd_some HX.out with ⟨h7, rfl⟩ | ⟨v, s7, h7, hr7⟩
       ·refine (val_reads hX _ _ _ _ (fun b hb => Nat.lt_of_lt_of_le (hA b hb) HF.out.size) HB.out h7).mono ?_
        rintro e wf ⟨hF, pl, rfl⟩
        exact ⟨rfl, HF.out.trans hF, pl, rfl⟩
       refine (val_reads hX _ _ _ _ (fun b hb => Nat.lt_of_lt_of_le (hA b hb) HF.out.size) HB.out h7).mono ?_
       rintro e w7 ⟨⟨rfl, hk7⟩, R7, F7⟩
       have FF7 := HF.out.trans F7
       clear HF HX
       have HF := hidOf FF7
       have HB2 := hidOf R7
       have HX := hidOf hr7
       clear HB
       have HB := HB2
       have HK := hidOf hk7
       clear HB2 FF7 R7 F7 h7 hr7 hk7
       go_wp2_with fail
       rcases bnd_some HX.out with ⟨h8, rfl⟩ | ⟨u, s8, h8, hr8⟩
       ·refine (iWant HB.out hX (lit_ne _ _) h8).mono ?_
        rintro e wf ⟨hF, pl, rfl⟩
        exact ⟨rfl, HF.out.trans hF, pl, rfl⟩
       refine (iWant HB.out hX (lit_ne _ _) h8).mono ?_
       rintro e w8 ⟨rfl, R8, F8⟩
       have FF8 := HF.out.trans F8
       clear HF HX
       have HF := hidOf FF8
       have HB2 := hidOf R8
       have HX := hidOf hr8
       clear HB
       have HB := HB2
       clear HB2 FF8 R8 F8 h8 hr8
       go_wp2_with fail
       have B9 : Below w8.heap.size w8 (w8.alloc (.cells #[.int .i64 (v : Int)] tI)) := (Below.refl _ _).alloc (Nat.le_refl _) _
       have R9 : Rd B g xs (And1 A (.slice (some ⟨w8.heap.size, 0, none⟩) 1 1)) (w8.alloc (.cells #[.int .i64 (v : Int)] tI)) s8 := (HB.out.avoid (A' := And1 A (.slice (some ⟨w8.heap.size, 0, none⟩) 1 1)) (fun k hk => hk.imp_right (fun e => by injection e with e; show w8.heap.size ≤ k; exact Nat.le_of_eq e))).below B9
       have o9 : (w8.alloc (.cells #[.int .i64 (v : Int)] tI)).ownsRow w.heap.size tI 1 (.slice (some ⟨w8.heap.size, 0, none⟩) 1 1) 1 (intVals [(v : Int)]) := World.ownsRow_lit w8 #[.int .i64 (v : Int)] 1 HF.out.size (by decide) rfl
       have FF9 := HF.out.trans (Fr.ofB (B := B) B9 HB.out.base)
       clear HF HB
       have HF := hidOf FF9
       have HB := hidOf R9
       have HP := hidOf o9
       clear FF9 R9 o9 B9
       refine (iAdd 14 ByteArray.empty [(v : Int)] (some ⟨w8.heap.size, 0, none⟩) 1 (HB.out.avoid (fun k hk => .inl (.inl hk))) (ownsRow_base HP.out hbase) (fun b hb hb2 => by have h7 := (HP.out.lt b hb).1; have h8 := hA b hb2; omega) HX.out).mono ?_
       intro e we H
       have H2 := H.into HF.out
       clear H
       rcases o with _ | ⟨k9, s9⟩
       ·obtain ⟨hF, pl, rfl⟩ := H2
        exact ⟨rfl, hF, pl, rfl⟩
       ·obtain ⟨⟨rfl, hk9⟩, H⟩ := H2
        have HH := hidOf H
        clear H
        clear HF HB HX
        go_wp2
        go_ret
        exact ⟨⟨rfl, hk9⟩, HH.out⟩
theorem st_reads (hX : xs.length ≤ 3000) : ∀ (n : Nat), Reads B g xs 277 (stF xs n)
 | 0 => (fun _ _ _ _ _ _ hr => by cases hr)
 | n + 1 => fun _ _ _ _ hA h hr => iStep h hX hA (dp_st n) (st_reads hX n) hr
theorem iBlk {o : Option (Nat × Ps)} (h : Rd B g xs A w s) (hX : xs.length ≤ 3000) (hA : ∀ b, A b → b < w.heap.size) (hr : blkP xs s = some o) : Calls Tryz.prog 262 #[.pointer (some ⟨g, 0, none⟩)] w (PostR B g xs A w VN o) := iBlock h hX hA (dp_st _) (st_reads hX _) hr
theorem iMeth {o : Option (Nat × Ps)} (h : Rd B g xs A w s) (hX : xs.length ≤ 3000) (hA : ∀ b, A b → b < w.heap.size) (hr : methP xs s = some o) : Calls Tryz.prog 237 #[.pointer (some ⟨g, 0, none⟩)] w (PostR B g xs A w VN o) := by
 obtain ⟨i0, hi, hz0, hz1, hz2⟩ := info_parts infoI1
 have hbase := h.base
 have HF := hidOf (Fr.refl B w)
 have HB := hidOf h
 have HX := hidOf hr
 clear h hr
 go_enter Tryz.func237, Tryz.ntmps237
 go_wp2_with fail
 rcases bnd_some HX.out with ⟨h1, rfl⟩ | ⟨t, s1, h1, hr1⟩
 ·refine (iName HB.out hX h1).mono ?_
  rintro e wf ⟨hF, pl, rfl⟩
  exact ⟨rfl, HF.out.trans hF, pl, rfl⟩
 refine (iName HB.out hX h1).mono ?_
 rintro e w1 ⟨rfl, R1, F1⟩
 have FF1 := HF.out.trans F1
 clear HF HX
 have HF := hidOf FF1
 have HB2 := hidOf R1
 have HX := hidOf hr1
 clear HB
 have HB := HB2
 clear HB2 FF1 R1 F1 h1 hr1
 go_wp2_with fail
 rcases bnd_some HX.out with ⟨h2, rfl⟩ | ⟨ks, s2, h2, hr2⟩
 ·refine (iNames HB.out hX (fun b hb => Nat.lt_of_lt_of_le (hA b hb) HF.out.size) h2).mono ?_
  rintro e wf ⟨hF, pl, rfl⟩
  exact ⟨rfl, HF.out.trans hF, pl, rfl⟩
 refine (iNames HB.out hX (fun b hb => Nat.lt_of_lt_of_le (hA b hb) HF.out.size) h2).mono ?_
 rintro e w2 ⟨⟨la2, lc2, rfl, lo2, lr2, lf2⟩, R2, F2⟩
 have o2 := ownsRow_base lo2 HF.out.size
 have FF2 := HF.out.trans F2
 clear HF HX
 have HF := hidOf FF2
 have HB2 := hidOf lr2
 have HX := hidOf hr2
 clear HB
 have HB := HB2
 have HP := hidOf o2
 clear HB2 FF2 R2 F2 h2 hr2 o2 lo2 lr2
 go_wp2_with fail
 rcases bnd_some HX.out with ⟨h3, rfl⟩ | ⟨b, s3, h3, hr3⟩
 ·refine (iBlk HB.out hX (And1.lt hA HF.out.size HP.out) h3).mono ?_
  rintro e wf ⟨hF, pl, rfl⟩
  exact ⟨rfl, HF.out.trans hF, pl, rfl⟩
 refine (iBlk HB.out hX (And1.lt hA HF.out.size HP.out) h3).mono ?_
 rintro e w3 ⟨⟨rfl, hk3⟩, R3, F3⟩
 have o3 := F3.ints HP.out
 have FF3 := HF.out.trans F3
 clear HF HX HP
 have HF := hidOf FF3
 have HB2 := hidOf R3
 have HX := hidOf hr3
 clear HB
 have HB := HB2
 have HP := hidOf o3
 have HK := hidOf hk3
 clear HB2 FF3 R3 F3 h3 hr3 o3 hk3
 have hs4 := HF.out.size
 go_wp2_with (at_builtin; refine wpList_append_own2 rfl _ _ 57 rfl w.heap.size 3 i0 _ 1 8 Tryz.underlying57 hi hz0 hz1 hz2 rfl (by decide) (.slice la2 ks.length lc2) (ks.length) (intVals ks) rfl (HP.out.alloc _) ⟨w3.heap.size, 0, none⟩ 1 1 [.int .i64 (b : Int)] rfl rfl (cell_one_new _ _ _) (by simp [Value.oneCell']) (by unfold maxLen; omega) (by omega) (by simp; omega) ?_; intro v' w4 hown' hgrow5 hpl5)
 have B4 : Below w3.heap.size w3 (w3.alloc (.cells #[.int .i64 (b : Int)] tI)) := (Below.refl _ _).alloc (Nat.le_refl _) _
 have FF4 := (HF.out.trans (Fr.ofB (B := B) B4 HB.out.base)).growI hbase hgrow5 (fun b hb => (HP.out.lt b hb).1)
 have R4 := (HB.out.below B4).growI (A' := And1 A v') (HP.out.alloc _) hgrow5 (fun b hb => .inr hb) (fun b hb => by
  rcases hb with hb | hb
  ·exact .inl (.inl hb)
  ·rcases hpl5 b hb with h6 | h6
   ·exact .inl (.inr h6)
   ·exact .inr h6)
 have o4 := own_app (ks := ks) (k := (b : Int)) hown' rfl
 clear hown' hgrow5 hpl5 HF HB HP hs4 B4
 obtain ⟨ao4, cc4, rfl⟩ := owns_slice o4
 have HF := hidOf FF4
 have HB := hidOf R4
 have HP := hidOf o4
 clear FF4 R4 o4
 refine (iAdd 20 t (ks ++ [(b : Int)]) (ao4) cc4 (HB.out.avoid (fun k hk => .inl (.inl hk))) (ownsRow_base HP.out hbase) (fun b hb hb2 => by have h7 := (HP.out.lt b hb).1; have h8 := hA b hb2; omega) HX.out).mono ?_
 intro e we H
 have H2 := H.into HF.out
 clear H
 rcases o with _ | ⟨k9, s9⟩
 ·obtain ⟨hF, pl, rfl⟩ := H2
  exact ⟨rfl, hF, pl, rfl⟩
 ·obtain ⟨⟨rfl, hk9⟩, H⟩ := H2
  have HH := hidOf H
  clear H
  clear HF HB HX
  go_wp2
  go_ret
  exact ⟨⟨rfl, hk9⟩, HH.out⟩
theorem iMemb {o : Option (Nat × Ps)} (h : Rd B g xs A w s) (hX : xs.length ≤ 3000) (hA : ∀ b, A b → b < w.heap.size) (hr : membP xs s = some o) : Calls Tryz.prog 200 #[.pointer (some ⟨g, 0, none⟩)] w (PostR B g xs A w VN o) := by
 obtain ⟨i0, hi, hz0, hz1, hz2⟩ := info_parts infoI1
 have hbase := h.base
 have HF := hidOf (Fr.refl B w)
 have HB := hidOf h
 have HX := hidOf hr
 clear h hr
 go_enter Tryz.func200, Tryz.ntmps200
 go_wp2_with fail
 have hx := HX.out
 unfold membP at hx
 clear HX
 have HX := hidOf hx
 clear hx
 refine (iNext_any HB.out).mono ?_
 rintro e w1 ⟨⟨pl1, rfl⟩, B1⟩
 have R1 := HB.out.below B1
 have FF1 := HF.out.trans (Fr.ofB (B := B) B1 HB.out.base)
 clear HF HB
 have HF := hidOf FF1
 have HB := hidOf R1
 clear FF1 R1 B1
 have q := fSg0 (knd xs s.p) (txt xs s.p) pl1 (blk xs s.p)
 by_cases ht : knd xs s.p = 5
 ·have hx := HX.out
  rw [if_pos ht] at hx
  clear HX
  have HX := hidOf hx
  clear hx
  have hq : (knd xs s.p == 5) = true := by rw [ht]; rfl
  have HT := hidOf ht
  clear ht
  go_wp2_with fail
  clear q hq
  refine (iLeaf 19 HB.out hX (knd_lt HT.out (by decide)) HX.out).mono ?_
  intro e we H
  have H2 := H.into HF.out
  clear H
  rcases o with _ | ⟨k9, s9⟩
  ·obtain ⟨hF, pl, rfl⟩ := H2
   exact ⟨rfl, hF, pl, rfl⟩
  ·obtain ⟨⟨rfl, hk9⟩, H⟩ := H2
   have HH := hidOf H
   clear H
   clear HF HB HX
   go_wp2
   go_ret
   exact ⟨⟨rfl, hk9⟩, HH.out⟩
 ·have hx := HX.out
  rw [if_neg ht] at hx
  clear HX
  have HX := hidOf hx
  clear hx
  have hq : (knd xs s.p == 5) = false := by rw [beq_eq_false_iff_ne]; exact ht
  go_wp2_with fail
  clear q hq ht
  by_cases ht : txt xs s.p = (⟨#[118, 97, 114]⟩ : ByteArray)
  ·have hx := HX.out
   rw [if_pos ht] at hx
   clear HX
   have HX := hidOf hx
   clear hx
   have qT := iTakeY HB.out hX (lit_ne _ _) ht
   clear ht
   refine qT.mono ?_
   rintro e w2 ⟨rfl, R2, F2⟩
   have FF2 := HF.out.trans F2
   clear qT HF HB
   have HF := hidOf FF2
   have HB := hidOf R2
   clear FF2 R2 F2
   go_wp2_with fail
   refine (iHold HB.out hX (fun b hb => Nat.lt_of_lt_of_le (hA b hb) HF.out.size) HX.out).mono ?_
   intro e we H
   have H2 := H.into HF.out
   clear H
   rcases o with _ | ⟨k9, s9⟩
   ·obtain ⟨hF, pl, rfl⟩ := H2
    exact ⟨rfl, hF, pl, rfl⟩
   ·obtain ⟨⟨rfl, hk9⟩, H⟩ := H2
    have HH := hidOf H
    clear H
    clear HF HB HX
    go_wp2
    go_ret
    exact ⟨⟨rfl, hk9⟩, HH.out⟩
  ·have hx := HX.out
   rw [if_neg ht] at hx
   clear HX
   have HX := hidOf hx
   clear hx
   have qT := iTakeN HB.out ht
   clear ht
   refine (qT).mono ?_
   rintro e w2 ⟨rfl, B2⟩
   have R2 := HB.out.below B2
   have FF2 := HF.out.trans (Fr.ofB (B := B) B2 HB.out.base)
   clear HF HB
   have HF := hidOf FF2
   have HB := hidOf R2
   clear FF2 R2 B2
   go_wp2_with fail
   refine (iMeth HB.out hX (fun b hb => Nat.lt_of_lt_of_le (hA b hb) HF.out.size) HX.out).mono ?_
   intro e we H
   have H2 := H.into HF.out
   clear H
   rcases o with _ | ⟨k9, s9⟩
   ·obtain ⟨hF, pl, rfl⟩ := H2
    exact ⟨rfl, hF, pl, rfl⟩
   ·obtain ⟨⟨rfl, hk9⟩, H⟩ := H2
    have HH := hidOf H
    clear H
    clear HF HB HX
    go_wp2
    go_ret
    exact ⟨⟨rfl, hk9⟩, HH.out⟩
theorem memb_reads (hX : xs.length ≤ 3000) : Reads B g xs 200 (membP xs) := fun _ _ _ _ hA h hr => iMemb h hX hA hr
theorem iClas {o : Option (Nat × Ps)} (h : Rd B g xs A w s) (hX : xs.length ≤ 3000) (hA : ∀ b, A b → b < w.heap.size) (hr : clasP xs s = some o) : Calls Tryz.prog 199 #[.pointer (some ⟨g, 0, none⟩)] w (PostR B g xs A w VN o) := by
 obtain ⟨i0, hi, hz0, hz1, hz2⟩ := info_parts infoI1
 have hmf : ∀ (fn : Fn) (first cap : Array Value) (w : World), (Instr.makeFunc fn first cap).run Tryz.prog w = .ok (.func fn first cap) w := fun _ _ _ _ => rfl
 have hbase := h.base
 have HF := hidOf (Fr.refl B w)
 have HB := hidOf h
 have HX := hidOf hr
 clear h hr
 go_enter Tryz.func199, Tryz.ntmps199
 go_wp2_with fail
 rcases bnd_some HX.out with ⟨h1, rfl⟩ | ⟨t, s1, h1, hr1⟩
 ·refine (iName HB.out hX h1).mono ?_
  rintro e wf ⟨hF, pl, rfl⟩
  exact ⟨rfl, HF.out.trans hF, pl, rfl⟩
 refine (iName HB.out hX h1).mono ?_
 rintro e w1 ⟨rfl, R1, F1⟩
 have FF1 := HF.out.trans F1
 clear HF HX
 have HF := hidOf FF1
 have HB2 := hidOf R1
 have HX := hidOf hr1
 clear HB
 have HB := HB2
 clear HB2 FF1 R1 F1 h1 hr1
 go_wp2_with fail
 rcases bnd_some HX.out with ⟨h2, rfl⟩ | ⟨u, s2, h2, hr2⟩
 ·refine (iWant HB.out hX (lit_ne _ _) h2).mono ?_
  rintro e wf ⟨hF, pl, rfl⟩
  exact ⟨rfl, HF.out.trans hF, pl, rfl⟩
 refine (iWant HB.out hX (lit_ne _ _) h2).mono ?_
 rintro e w2 ⟨rfl, R2, F2⟩
 have FF2 := HF.out.trans F2
 clear HF HX
 have HF := hidOf FF2
 have HB2 := hidOf R2
 have HX := hidOf hr2
 clear HB
 have HB := HB2
 clear HB2 FF2 R2 F2 h2 hr2
 go_wp2_with fail
 rcases bnd_some HX.out with ⟨h3, rfl⟩ | ⟨ks, s3, h3, hr3⟩
 ·refine (iBodyM HB.out hX (fun b hb => Nat.lt_of_lt_of_le (hA b hb) HF.out.size) (memb_reads hX) h3).mono ?_
  rintro e wf ⟨hF, pl, rfl⟩
  exact ⟨rfl, HF.out.trans hF, pl, rfl⟩
 refine (iBodyM HB.out hX (fun b hb => Nat.lt_of_lt_of_le (hA b hb) HF.out.size) (memb_reads hX) h3).mono ?_
 rintro e w3 ⟨⟨la3, lc3, rfl, lo3, lr3, lf3⟩, R3, F3⟩
 have o3 := ownsRow_base lo3 HF.out.size
 have FF3 := HF.out.trans F3
 clear HF HX
 have HF := hidOf FF3
 have HB2 := hidOf lr3
 have HX := hidOf hr3
 clear HB
 have HB := HB2
 have HP := hidOf o3
 clear HB2 FF3 R3 F3 h3 hr3 o3 lo3 lr3
 go_wp2_with fail
 rcases bnd_some HX.out with ⟨h4, rfl⟩ | ⟨u2, s4, h4, hr4⟩
 ·refine (iWant HB.out hX (lit_ne _ _) h4).mono ?_
  rintro e wf ⟨hF, pl, rfl⟩
  exact ⟨rfl, HF.out.trans hF, pl, rfl⟩
 refine (iWant HB.out hX (lit_ne _ _) h4).mono ?_
 rintro e w4 ⟨rfl, R4, F4⟩
 have o4 := F4.ints HP.out
 have FF4 := HF.out.trans F4
 clear HF HX HP
 have HF := hidOf FF4
 have HB2 := hidOf R4
 have HX := hidOf hr4
 clear HB
 have HB := HB2
 have HP := hidOf o4
 clear HB2 FF4 R4 F4 h4 hr4 o4
 go_wp2_with fail
 refine (iAdd 21 t ks (la3) lc3 (HB.out.avoid (fun k hk => .inl (.inl hk))) (ownsRow_base HP.out hbase) (fun b hb hb2 => by have h7 := (HP.out.lt b hb).1; have h8 := hA b hb2; omega) HX.out).mono ?_
 intro e we H
 have H2 := H.into HF.out
 clear H
 rcases o with _ | ⟨k9, s9⟩
 ·obtain ⟨hF, pl, rfl⟩ := H2
  exact ⟨rfl, hF, pl, rfl⟩
 ·obtain ⟨⟨rfl, hk9⟩, H⟩ := H2
  have HH := hidOf H
  clear H
  clear HF HB HX
  go_wp2
  go_ret
  exact ⟨⟨rfl, hk9⟩, HH.out⟩
theorem iFmem {o : Option (Nat × Ps)} (h : Rd B g xs A w s) (hX : xs.length ≤ 3000) (hA : ∀ b, A b → b < w.heap.size) (hr : fmemP xs s = some o) : Calls Tryz.prog 156 #[.pointer (some ⟨g, 0, none⟩)] w (PostR B g xs A w VN o) := by
 obtain ⟨i0, hi, hz0, hz1, hz2⟩ := info_parts infoI1
 have hbase := h.base
 have HF := hidOf (Fr.refl B w)
 have HB := hidOf h
 have HX := hidOf hr
 clear h hr
 go_enter Tryz.func156, Tryz.ntmps156
 go_wp2_with fail
 have hx := HX.out
 unfold fmemP at hx
 clear HX
 have HX := hidOf hx
 clear hx
 by_cases ht : txt xs s.p = (⟨#[99, 108, 97, 115, 115]⟩ : ByteArray)
 ·have hx := HX.out
  rw [if_pos ht] at hx
  clear HX
  have HX := hidOf hx
  clear hx
  have qT := iTakeY HB.out hX (lit_ne _ _) ht
  clear ht
  refine qT.mono ?_
  rintro e w1 ⟨rfl, R1, F1⟩
  have FF1 := HF.out.trans F1
  clear qT HF HB
  have HF := hidOf FF1
  have HB := hidOf R1
  clear FF1 R1 F1
  go_wp2_with fail
  refine (iClas HB.out hX (fun b hb => Nat.lt_of_lt_of_le (hA b hb) HF.out.size) HX.out).mono ?_
  intro e we H
  have H2 := H.into HF.out
  clear H
  rcases o with _ | ⟨k9, s9⟩
  ·obtain ⟨hF, pl, rfl⟩ := H2
   exact ⟨rfl, hF, pl, rfl⟩
  ·obtain ⟨⟨rfl, hk9⟩, H⟩ := H2
   have HH := hidOf H
   clear H
   clear HF HB HX
   go_wp2
   go_ret
   exact ⟨⟨rfl, hk9⟩, HH.out⟩
 ·have hx := HX.out
  rw [if_neg ht] at hx
  clear HX
  have HX := hidOf hx
  clear hx
  have qT := iTakeN HB.out ht
  clear ht
  refine (qT).mono ?_
  rintro e w1 ⟨rfl, B1⟩
  have R1 := HB.out.below B1
  have FF1 := HF.out.trans (Fr.ofB (B := B) B1 HB.out.base)
  clear HF HB
  have HF := hidOf FF1
  have HB := hidOf R1
  clear FF1 R1 B1
  go_wp2_with fail
  refine (iMemb HB.out hX (fun b hb => Nat.lt_of_lt_of_le (hA b hb) HF.out.size) HX.out).mono ?_
  intro e we H
  have H2 := H.into HF.out
  clear H
  rcases o with _ | ⟨k9, s9⟩
  ·obtain ⟨hF, pl, rfl⟩ := H2
   exact ⟨rfl, hF, pl, rfl⟩
  ·obtain ⟨⟨rfl, hk9⟩, H⟩ := H2
   have HH := hidOf H
   clear H
   clear HF HB HX
   go_wp2
   go_ret
   exact ⟨⟨rfl, hk9⟩, HH.out⟩
theorem fmem_reads (hX : xs.length ≤ 3000) : Reads B g xs 156 (fmemP xs) := fun _ _ _ _ hA h hr => iFmem h hX hA hr
theorem iFile {o : Option (Nat × Ps)} (h : Rd B g xs A w s) (hX : xs.length ≤ 3000) (hA : ∀ b, A b → b < w.heap.size) (hr : (bnd (bodyP xs (fmemP xs) ByteArray.empty (lim xs) [] s) fun ks s => addP 22 ByteArray.empty ks s) = some o) : Calls Tryz.prog 106 #[.pointer (some ⟨g, 0, none⟩)] w (PostR B g xs A w (fun k s e _ => e = .returned (.tuple #[]) ∧ k < s.ns.length) o) := by
 obtain ⟨i0, hi, hz0, hz1, hz2⟩ := info_parts infoI1
 have hmf : ∀ (fn : Fn) (first cap : Array Value) (w : World), (Instr.makeFunc fn first cap).run Tryz.prog w = .ok (.func fn first cap) w := fun _ _ _ _ => rfl
 have hbase := h.base
 have HF := hidOf (Fr.refl B w)
 have HB := hidOf h
 have HX := hidOf hr
 clear h hr
 go_enter Tryz.func106, Tryz.ntmps106
 go_wp2_with fail
 rcases bnd_some HX.out with ⟨h1, rfl⟩ | ⟨ks, s1, h1, hr1⟩
 ·refine (iBodyF HB.out hX (fun b hb => Nat.lt_of_lt_of_le (hA b hb) HF.out.size) (fmem_reads hX) h1).mono ?_
  rintro e wf ⟨hF, pl, rfl⟩
  exact ⟨rfl, HF.out.trans hF, pl, rfl⟩
 refine (iBodyF HB.out hX (fun b hb => Nat.lt_of_lt_of_le (hA b hb) HF.out.size) (fmem_reads hX) h1).mono ?_
 rintro e w1 ⟨⟨la1, lc1, rfl, lo1, lr1, lf1⟩, R1, F1⟩
 have o1 := ownsRow_base lo1 HF.out.size
 have FF1 := HF.out.trans F1
 clear HF HX
 have HF := hidOf FF1
 have HB2 := hidOf lr1
 have HX := hidOf hr1
 clear HB
 have HB := HB2
 have HP := hidOf o1
 clear HB2 FF1 R1 F1 h1 hr1 o1 lo1 lr1
 go_wp2_with fail
 refine (iAdd 22 ByteArray.empty ks (la1) lc1 (HB.out.avoid (fun k hk => .inl (.inl hk))) (ownsRow_base HP.out hbase) (fun b hb hb2 => by have h7 := (HP.out.lt b hb).1; have h8 := hA b hb2; omega) HX.out).mono ?_
 intro e we H
 have H2 := H.into HF.out
 clear H
 rcases o with _ | ⟨k9, s9⟩
 ·obtain ⟨hF, pl, rfl⟩ := H2
  exact ⟨rfl, hF, pl, rfl⟩
 ·obtain ⟨⟨rfl, hk9⟩, H⟩ := H2
  have HH := hidOf H
  clear H HF HB HX HP
  go_wp2
  go_end0
  exact ⟨⟨rfl, hk9⟩, HH.out⟩
end
end Go.Proofs.YtcbbnphpkgifoaaGreatDoor
