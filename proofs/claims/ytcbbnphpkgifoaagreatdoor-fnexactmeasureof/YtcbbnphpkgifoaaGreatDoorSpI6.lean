/- What stands in brackets, variables: the specification's reader. -/
import Derived.Test.YtcbbnphpkgifoaaGreatDoorKaj
namespace Go.Proofs.YtcbbnphpkgifoaaGreatDoor
open Go.RowKit
set_option maxHeartbeats 8000000
set_option maxRecDepth 100000
def markL : List ByteArray := [(⟨#[40]⟩ : ByteArray), (⟨#[41]⟩ : ByteArray), (⟨#[91]⟩ : ByteArray), (⟨#[93]⟩ : ByteArray), (⟨#[123]⟩ : ByteArray), (⟨#[125]⟩ : ByteArray), (⟨#[44]⟩ : ByteArray), (⟨#[59]⟩ : ByteArray), (⟨#[61]⟩ : ByteArray), (⟨#[61, 62]⟩ : ByteArray), (⟨#[63]⟩ : ByteArray), (⟨#[58]⟩ : ByteArray), (⟨#[46]⟩ : ByteArray), (⟨#[46, 46]⟩ : ByteArray), (⟨#[124, 124]⟩ : ByteArray), (⟨#[38, 38]⟩ : ByteArray), (⟨#[61, 61]⟩ : ByteArray), (⟨#[60]⟩ : ByteArray), (⟨#[43]⟩ : ByteArray), (⟨#[45]⟩ : ByteArray), (⟨#[42]⟩ : ByteArray)]
def Marks (xs : List Sg) : Prop := ∀ u, markL.contains u = true → MarkT xs u
theorem text_name (xs : List Sg) : textP xs 1 = nameP xs := by
 funext s
 unfold textP nameP
 have e : kdP xs (some s) 1 = isNm xs s.p := by
  show ((knd xs s.p == 1) && (!((1 : Int) == 1) || !kw (txt xs s.p))) = _
  rw [show ((1 : Int) == 1) = true from rfl]
  rfl
 rw [e]
section
variable {B g : Nat} {xs : List Sg} {A : Nat → Prop} {w : World} {t : Option Ps}
theorem sName {o : Option (ByteArray × Ps)} (h : SR B g xs A w t) (hX : xs.length ≤ 3000) (hr : Told (nameP xs) t o) : Calls Tryz.prog 93 #[.pointer (some ⟨g, 0, none⟩), .int .i64 1] w (PostS B g xs A w VTs o) := sText 1 (.inl rfl) h hX (by rw [text_name]; exact hr)
theorem sHeld {o : Option (Nat × Ps)} (h : SR B g xs A w t) (hX : xs.length ≤ 3000) (hM : Marks xs) (hA : ∀ b, A b → b < w.heap.size) (hV : ReadsS B g xs 139 (valP xs)) (hr : Told (condP xs) t o) : Calls Tryz.prog 182 #[.pointer (some ⟨g, 0, none⟩)] w (PostS B g xs A w VNs o) := by
 obtain ⟨i0, hi, hz0, hz1, hz2⟩ := info_parts infoI1
 have hbase := h.base
 have HF := hidOf (Fr.refl B w)
 match t, h, hr with
 | none, h, hr =>
  obtain rfl : o = none := hr
  have HS := hidOf h
  clear h hr
  go_enter Tryz.func182, Tryz.ntmps182
  go_wp2_with fail
  refine (sWants (o := none) HS.out hX (hM (⟨#[40]⟩ : ByteArray) (by decide)) rfl).mono ?_
  rintro e w1 ⟨rfl, S1, F1⟩
  have FF1 := HF.out.trans F1
  clear HF HS
  have HF := hidOf FF1
  have HS := hidOf S1
  clear FF1 S1 F1
  go_wp2_with fail
  refine (hV _ _ _ none (fun b hb => Nat.lt_of_lt_of_le (hA b hb) HF.out.size) HS.out rfl).mono ?_
  rintro e w2 ⟨⟨vx, rfl, -⟩, S2, F2⟩
  have FF2 := HF.out.trans F2
  clear HF HS
  have HF := hidOf FF2
  have HS := hidOf S2
  clear FF2 S2 F2
  go_wp2_with fail
  refine (sWants (o := none) HS.out hX (hM (⟨#[41]⟩ : ByteArray) (by decide)) rfl).mono ?_
  rintro e w3 ⟨rfl, S3, F3⟩
  have FF3 := HF.out.trans F3
  clear HF HS
  have HF := hidOf FF3
  have HS := hidOf S3
  clear FF3 S3 F3
  go_wp2
  go_ret
  exact ⟨⟨_, rfl, fun a ha => by cases ha⟩, HS.out, HF.out⟩
 | some s, h, hr =>
  have HX := hidOf (show (condP xs) s = some o from hr)
  have HS := hidOf h
  clear h hr
  go_enter Tryz.func182, Tryz.ntmps182
  go_wp2_with fail
  rcases bnd_some HX.out with ⟨h1, rfl⟩ | ⟨u, s1, h1, hr1⟩
  ·refine (sWants (o := none) HS.out hX (hM (⟨#[40]⟩ : ByteArray) (by decide)) h1).mono ?_
   rintro e w1 ⟨rfl, S1, F1⟩
   clear HX h1
   have FF1 := HF.out.trans F1
   clear HF HS
   have HF := hidOf FF1
   have HS := hidOf S1
   clear FF1 S1 F1
   go_wp2_with fail
   refine (hV _ _ _ none (fun b hb => Nat.lt_of_lt_of_le (hA b hb) HF.out.size) HS.out rfl).mono ?_
   rintro e w2 ⟨⟨vx, rfl, -⟩, S2, F2⟩
   have FF2 := HF.out.trans F2
   clear HF HS
   have HF := hidOf FF2
   have HS := hidOf S2
   clear FF2 S2 F2
   go_wp2_with fail
   refine (sWants (o := none) HS.out hX (hM (⟨#[41]⟩ : ByteArray) (by decide)) rfl).mono ?_
   rintro e w3 ⟨rfl, S3, F3⟩
   have FF3 := HF.out.trans F3
   clear HF HS
   have HF := hidOf FF3
   have HS := hidOf S3
   clear FF3 S3 F3
   go_wp2
   go_ret
   exact ⟨⟨_, rfl, fun a ha => by cases ha⟩, HS.out, HF.out⟩
  ·refine (sWants (o := (some (u, s1))) HS.out hX (hM (⟨#[40]⟩ : ByteArray) (by decide)) h1).mono ?_
   rintro e w1 ⟨rfl, S1, F1⟩
   clear HX
   have HX := hidOf hr1
   clear h1 hr1
   have FF1 := HF.out.trans F1
   clear HF HS
   have HF := hidOf FF1
   have HS := hidOf S1
   clear FF1 S1 F1
   go_wp2_with fail
   rcases bnd_some HX.out with ⟨h2, rfl⟩ | ⟨v, s2, h2, hr2⟩
   ·refine (hV _ _ _ none (fun b hb => Nat.lt_of_lt_of_le (hA b hb) HF.out.size) HS.out h2).mono ?_
    rintro e w2 ⟨⟨vx, rfl, -⟩, S2, F2⟩
    clear HX h2
    have FF2 := HF.out.trans F2
    clear HF HS
    have HF := hidOf FF2
    have HS := hidOf S2
    clear FF2 S2 F2
    go_wp2_with fail
    refine (sWants (o := none) HS.out hX (hM (⟨#[41]⟩ : ByteArray) (by decide)) rfl).mono ?_
    rintro e w3 ⟨rfl, S3, F3⟩
    have FF3 := HF.out.trans F3
    clear HF HS
    have HF := hidOf FF3
    have HS := hidOf S3
    clear FF3 S3 F3
    go_wp2
    go_ret
    exact ⟨⟨_, rfl, fun a ha => by cases ha⟩, HS.out, HF.out⟩
   ·refine (hV _ _ _ (some (v, s2)) (fun b hb => Nat.lt_of_lt_of_le (hA b hb) HF.out.size) HS.out h2).mono ?_
    rintro e w2 ⟨⟨vx, rfl, hvx⟩, S2, F2⟩
    obtain rfl : vx = ((v : Nat) : Int) := hvx v rfl
    clear HX
    have HX := hidOf hr2
    clear h2 hr2 hvx
    have FF2 := HF.out.trans F2
    clear HF HS
    have HF := hidOf FF2
    have HS := hidOf S2
    clear FF2 S2 F2
    go_wp2_with fail
    rcases bnd_some HX.out with ⟨h3, rfl⟩ | ⟨u2, s3, h3, hr3⟩
    ·refine (sWants (o := none) HS.out hX (hM (⟨#[41]⟩ : ByteArray) (by decide)) h3).mono ?_
     rintro e w3 ⟨rfl, S3, F3⟩
     clear HX h3
     have FF3 := HF.out.trans F3
     clear HF HS
     have HF := hidOf FF3
     have HS := hidOf S3
     clear FF3 S3 F3
     go_wp2
     go_ret
     exact ⟨⟨_, rfl, fun a ha => by cases ha⟩, HS.out, HF.out⟩
    ·refine (sWants (o := (some (u2, s3))) HS.out hX (hM (⟨#[41]⟩ : ByteArray) (by decide)) h3).mono ?_
     rintro e w3 ⟨rfl, S3, F3⟩
     clear HX
     have HX := hidOf hr3
     clear h3 hr3
     have FF3 := HF.out.trans F3
     clear HF HS
     have HF := hidOf FF3
     have HS := hidOf S3
     clear FF3 S3 F3
     obtain rfl : some (v, s3) = o := by
      have := HX.out
      injection this
     clear HX
     go_wp2
     go_ret
     exact ⟨⟨_, rfl, fun a ha => by injection ha with ha; rw [← ha]⟩, HS.out, HF.out⟩
theorem sVar {o : Option (Nat × Ps)} (h : SR B g xs A w t) (hX : xs.length ≤ 3000) (hM : Marks xs) (hA : ∀ b, A b → b < w.heap.size) (hV : ReadsS B g xs 139 (valP xs)) (hr : Told (holdP xs) t o) : Calls Tryz.prog 95 #[.pointer (some ⟨g, 0, none⟩)] w (PostS B g xs A w VNs o) := by
 obtain ⟨i0, hi, hz0, hz1, hz2⟩ := info_parts infoI1
 have hbase := h.base
 have HF := hidOf (Fr.refl B w)
 match t, h, hr with
 | none, h, hr =>
  obtain rfl : o = none := hr
  have HS := hidOf h
  clear h hr
  go_enter Tryz.func95, Tryz.ntmps95
  go_wp2_with fail
  refine (sName (o := none) HS.out hX rfl).mono ?_
  rintro e w1 ⟨⟨nmx, rfl, -⟩, S1, F1⟩
  have FF1 := HF.out.trans F1
  clear HF HS
  have HF := hidOf FF1
  have HS := hidOf S1
  clear FF1 S1 F1
  have B2 : Below w1.heap.size w1 (w1.alloc (.cells #[] tI)) := (Below.refl _ _).alloc (Nat.le_refl _) _
  have R2 : SR B g xs (And1 A (.slice (some ⟨w1.heap.size, 0, none⟩) 0 0)) (w1.alloc (.cells #[] tI)) none := (SR.avoid (A' := And1 A (.slice (some ⟨w1.heap.size, 0, none⟩) 0 0)) (t := none) HS.out (fun k hk => hk.imp_right (fun e => by injection e with e; show w1.heap.size ≤ k; exact Nat.le_of_eq e))).below B2
  have o2 : (w1.alloc (.cells #[] tI)).ownsRow w.heap.size tI 1 (.slice (some ⟨w1.heap.size, 0, none⟩) 0 0) 0 (intVals ([] : List Int)) := World.ownsRow_lit w1 #[] 0 HF.out.size (by decide) rfl
  have FF2 := HF.out.trans (Fr.ofB (B := B) B2 (SR.base (t := none) HS.out))
  clear HF HS
  have HF := hidOf FF2
  have HS := hidOf R2
  have HP := hidOf o2
  clear FF2 R2 o2 B2
  go_wp2_with fail
  refine (sMarkN HS.out rfl).mono ?_
  rintro e w3 ⟨rfl, B3⟩
  have S3 := SR.below (t := none) HS.out B3
  have FF3 := HF.out.trans (Fr.ofB (B := B) B3 (SR.base (t := none) HS.out))
  have o3 := owns_below HP.out B3
  clear HF HS HP
  have HF := hidOf FF3
  have HS := hidOf S3
  have HP := hidOf o3
  clear FF3 S3 B3 o3
  go_wp2_with fail
  refine (sWants (o := none) HS.out hX (hM (⟨#[59]⟩ : ByteArray) (by decide)) rfl).mono ?_
  rintro e w4 ⟨rfl, S4, F4⟩
  have o4 := F4.ints HP.out
  have FF4 := HF.out.trans F4
  clear HF HS HP
  have HF := hidOf FF4
  have HS := hidOf S4
  have HP := hidOf o4
  clear FF4 S4 F4 o4
  go_wp2_with fail
  refine (sPut (o := none) 12 nmx ([] : List Int) (some ⟨w1.heap.size, 0, none⟩) 0 (SR.avoid (t := none) HS.out (fun k hk => .inl (.inl hk))) (ownsRow_base HP.out hbase) (fun b hb hb2 => by have h7 := (HP.out.lt b hb).1; have h8 := hA b hb2; omega) rfl).mono ?_
  rintro e we ⟨⟨k9, rfl, hk9⟩, S9, F9⟩
  have HH := hidOf (show PostS B g xs A w VNs _ (.returned (.int .i64 k9)) we from ⟨⟨k9, rfl, hk9⟩, S9, HF.out.trans F9⟩)
  clear S9 F9 HF HS
  go_wp2
  go_ret
  exact HH.out
 | some s, h, hr =>
  have HX := hidOf (show (holdP xs) s = some o from hr)
  have HS := hidOf h
  clear h hr
  go_enter Tryz.func95, Tryz.ntmps95
  go_wp2_with fail
  rcases bnd_some HX.out with ⟨h1, rfl⟩ | ⟨nm, s1, h1, hr1⟩
  ·refine (sName (o := none) HS.out hX h1).mono ?_
   rintro e w1 ⟨⟨nmx, rfl, -⟩, S1, F1⟩
   clear HX h1
   have FF1 := HF.out.trans F1
   clear HF HS
   have HF := hidOf FF1
   have HS := hidOf S1
   clear FF1 S1 F1
   have B2 : Below w1.heap.size w1 (w1.alloc (.cells #[] tI)) := (Below.refl _ _).alloc (Nat.le_refl _) _
   have R2 : SR B g xs (And1 A (.slice (some ⟨w1.heap.size, 0, none⟩) 0 0)) (w1.alloc (.cells #[] tI)) none := (SR.avoid (A' := And1 A (.slice (some ⟨w1.heap.size, 0, none⟩) 0 0)) (t := none) HS.out (fun k hk => hk.imp_right (fun e => by injection e with e; show w1.heap.size ≤ k; exact Nat.le_of_eq e))).below B2
   have o2 : (w1.alloc (.cells #[] tI)).ownsRow w.heap.size tI 1 (.slice (some ⟨w1.heap.size, 0, none⟩) 0 0) 0 (intVals ([] : List Int)) := World.ownsRow_lit w1 #[] 0 HF.out.size (by decide) rfl
   have FF2 := HF.out.trans (Fr.ofB (B := B) B2 (SR.base (t := none) HS.out))
   clear HF HS
   have HF := hidOf FF2
   have HS := hidOf R2
   have HP := hidOf o2
   clear FF2 R2 o2 B2
   go_wp2_with fail
   refine (sMarkN HS.out rfl).mono ?_
   rintro e w3 ⟨rfl, B3⟩
   have S3 := SR.below (t := none) HS.out B3
   have FF3 := HF.out.trans (Fr.ofB (B := B) B3 (SR.base (t := none) HS.out))
   have o3 := owns_below HP.out B3
   clear HF HS HP
   have HF := hidOf FF3
   have HS := hidOf S3
   have HP := hidOf o3
   clear FF3 S3 B3 o3
   go_wp2_with fail
   refine (sWants (o := none) HS.out hX (hM (⟨#[59]⟩ : ByteArray) (by decide)) rfl).mono ?_
   rintro e w4 ⟨rfl, S4, F4⟩
   have o4 := F4.ints HP.out
   have FF4 := HF.out.trans F4
   clear HF HS HP
   have HF := hidOf FF4
   have HS := hidOf S4
   have HP := hidOf o4
   clear FF4 S4 F4 o4
   go_wp2_with fail
   refine (sPut (o := none) 12 nmx ([] : List Int) (some ⟨w1.heap.size, 0, none⟩) 0 (SR.avoid (t := none) HS.out (fun k hk => .inl (.inl hk))) (ownsRow_base HP.out hbase) (fun b hb hb2 => by have h7 := (HP.out.lt b hb).1; have h8 := hA b hb2; omega) rfl).mono ?_
   rintro e we ⟨⟨k9, rfl, hk9⟩, S9, F9⟩
   have HH := hidOf (show PostS B g xs A w VNs _ (.returned (.int .i64 k9)) we from ⟨⟨k9, rfl, hk9⟩, S9, HF.out.trans F9⟩)
   clear S9 F9 HF HS
   go_wp2
   go_ret
   exact HH.out
  ·refine (sName (o := (some (nm, s1))) HS.out hX h1).mono ?_
   rintro e w1 ⟨⟨nmx, rfl, hnmx⟩, S1, F1⟩
   obtain rfl : nmx = nm := hnmx nm rfl
   clear HX
   have HX := hidOf hr1
   clear h1 hr1 hnmx
   have FF1 := HF.out.trans F1
   clear HF HS
   have HF := hidOf FF1
   have HS := hidOf S1
   clear FF1 S1 F1
   have B2 : Below w1.heap.size w1 (w1.alloc (.cells #[] tI)) := (Below.refl _ _).alloc (Nat.le_refl _) _
   have R2 : SR B g xs (And1 A (.slice (some ⟨w1.heap.size, 0, none⟩) 0 0)) (w1.alloc (.cells #[] tI)) (some s1) := (SR.avoid (A' := And1 A (.slice (some ⟨w1.heap.size, 0, none⟩) 0 0)) (t := (some s1)) HS.out (fun k hk => hk.imp_right (fun e => by injection e with e; show w1.heap.size ≤ k; exact Nat.le_of_eq e))).below B2
   have o2 : (w1.alloc (.cells #[] tI)).ownsRow w.heap.size tI 1 (.slice (some ⟨w1.heap.size, 0, none⟩) 0 0) 0 (intVals ([] : List Int)) := World.ownsRow_lit w1 #[] 0 HF.out.size (by decide) rfl
   have FF2 := HF.out.trans (Fr.ofB (B := B) B2 (SR.base (t := (some s1)) HS.out))
   clear HF HS
   have HF := hidOf FF2
   have HS := hidOf R2
   have HP := hidOf o2
   clear FF2 R2 o2 B2
   go_wp2_with fail
   by_cases ht : txt xs s1.p = (⟨#[61]⟩ : ByteArray)
   ·have hx := HX.out
    rw [if_pos ht] at hx
    clear HX
    have HX := hidOf hx
    clear hx
    refine (sMarkY (s := s1) HS.out hX (by rw [isP_mark (hM (⟨#[61]⟩ : ByteArray) (by decide))]; exact decide_eq_true ht)).mono ?_
    clear ht
    rintro e w3 ⟨rfl, S3, F3⟩
    have o3 := F3.ints HP.out
    have FF3 := HF.out.trans F3
    clear HF HS HP
    have HF := hidOf FF3
    have HS := hidOf S3
    have HP := hidOf o3
    clear FF3 S3 F3 o3
    go_wp2_with fail
    rcases bnd_some HX.out with ⟨h4, rfl⟩ | ⟨v, s4, h4, hr4⟩
    ·refine (hV _ _ _ none (And1.lt hA HF.out.size HP.out) HS.out h4).mono ?_
     rintro e w4 ⟨⟨vx, rfl, -⟩, S4, F4⟩
     clear HX h4
     have o4 := F4.ints HP.out
     have FF4 := HF.out.trans F4
     clear HF HS HP
     have HF := hidOf FF4
     have HS := hidOf S4
     have HP := hidOf o4
     clear FF4 S4 F4 o4
     have hs5 := HF.out.size
     go_wp2_with (at_builtin; refine wpList_append_own2 rfl _ _ 57 rfl w.heap.size 3 i0 _ 1 8 Tryz.underlying57 hi hz0 hz1 hz2 rfl (by decide) (.slice (some ⟨w1.heap.size, 0, none⟩) 0 0) (0) (intVals ([] : List Int)) rfl (HP.out.alloc _) ⟨w4.heap.size, 0, none⟩ 1 1 [.int .i64 vx] rfl rfl (cell_one_new _ _ _) (by simp [Value.oneCell']) (by unfold maxLen; omega) (by omega) (by simp; omega) ?_; intro v' w5 hown' hgrow5 hpl5)
     have B5 : Below w4.heap.size w4 (w4.alloc (.cells #[.int .i64 vx] tI)) := (Below.refl _ _).alloc (Nat.le_refl _) _
     have FF5 := (HF.out.trans (Fr.ofB (B := B) B5 (SR.base (t := none) HS.out))).growI hbase hgrow5 (fun b hb => (HP.out.lt b hb).1)
     have R5 := (SR.below (t := none) HS.out B5).growI (A' := And1 A v') (HP.out.alloc _) hgrow5 (fun b hb => .inr hb) (fun b hb => by
      rcases hb with hb | hb
      ·exact .inl (.inl hb)
      ·rcases hpl5 b hb with h6 | h6
       ·exact .inl (.inr h6)
       ·exact .inr h6)
     have o5 := own_app (ks := ([] : List Int)) (k := vx) hown' rfl
     clear hown' hgrow5 hpl5 HF HS HP hs5 B5
     obtain ⟨ao5, cc5, rfl⟩ := owns_slice o5
     have HF := hidOf FF5
     have HS := hidOf R5
     have HP := hidOf o5
     clear FF5 R5 o5
     refine (sWants (o := none) HS.out hX (hM (⟨#[59]⟩ : ByteArray) (by decide)) rfl).mono ?_
     rintro e w6 ⟨rfl, S6, F6⟩
     have o6 := F6.ints HP.out
     have FF6 := HF.out.trans F6
     clear HF HS HP
     have HF := hidOf FF6
     have HS := hidOf S6
     have HP := hidOf o6
     clear FF6 S6 F6 o6
     go_wp2_with fail
     refine (sPut (o := none) 12 nmx (([] : List Int) ++ [vx]) (ao5) cc5 (SR.avoid (t := none) HS.out (fun k hk => .inl (.inl hk))) (ownsRow_base HP.out hbase) (fun b hb hb2 => by have h7 := (HP.out.lt b hb).1; have h8 := hA b hb2; omega) rfl).mono ?_
     rintro e we ⟨⟨k9, rfl, hk9⟩, S9, F9⟩
     have HH := hidOf (show PostS B g xs A w VNs _ (.returned (.int .i64 k9)) we from ⟨⟨k9, rfl, hk9⟩, S9, HF.out.trans F9⟩)
     clear S9 F9 HF HS
     go_wp2
     go_ret
     exact HH.out
    ·refine (hV _ _ _ (some (v, s4)) (And1.lt hA HF.out.size HP.out) HS.out h4).mono ?_
     rintro e w4 ⟨⟨vx, rfl, hvx⟩, S4, F4⟩
     obtain rfl : vx = ((v : Nat) : Int) := hvx v rfl
     clear HX
     have HX := hidOf hr4
     clear h4 hr4 hvx
     have o4 := F4.ints HP.out
     have FF4 := HF.out.trans F4
     clear HF HS HP
     have HF := hidOf FF4
     have HS := hidOf S4
     have HP := hidOf o4
     clear FF4 S4 F4 o4
     have hs5 := HF.out.size
     go_wp2_with (at_builtin; refine wpList_append_own2 rfl _ _ 57 rfl w.heap.size 3 i0 _ 1 8 Tryz.underlying57 hi hz0 hz1 hz2 rfl (by decide) (.slice (some ⟨w1.heap.size, 0, none⟩) 0 0) (0) (intVals ([] : List Int)) rfl (HP.out.alloc _) ⟨w4.heap.size, 0, none⟩ 1 1 [.int .i64 ((v : Nat) : Int)] rfl rfl (cell_one_new _ _ _) (by simp [Value.oneCell']) (by unfold maxLen; omega) (by omega) (by simp; omega) ?_; intro v' w5 hown' hgrow5 hpl5)
     have B5 : Below w4.heap.size w4 (w4.alloc (.cells #[.int .i64 ((v : Nat) : Int)] tI)) := (Below.refl _ _).alloc (Nat.le_refl _) _
     have FF5 := (HF.out.trans (Fr.ofB (B := B) B5 (SR.base (t := (some s4)) HS.out))).growI hbase hgrow5 (fun b hb => (HP.out.lt b hb).1)
     have R5 := (SR.below (t := (some s4)) HS.out B5).growI (A' := And1 A v') (HP.out.alloc _) hgrow5 (fun b hb => .inr hb) (fun b hb => by
      rcases hb with hb | hb
      ·exact .inl (.inl hb)
      ·rcases hpl5 b hb with h6 | h6
       ·exact .inl (.inr h6)
       ·exact .inr h6)
     have o5 := own_app (ks := ([] : List Int)) (k := ((v : Nat) : Int)) hown' rfl
     clear hown' hgrow5 hpl5 HF HS HP hs5 B5
     obtain ⟨ao5, cc5, rfl⟩ := owns_slice o5
     have HF := hidOf FF5
     have HS := hidOf R5
     have HP := hidOf o5
     clear FF5 R5 o5
     rcases bnd_some HX.out with ⟨h6, rfl⟩ | ⟨u, s6, h6, hr6⟩
     ·refine (sWants (o := none) HS.out hX (hM (⟨#[59]⟩ : ByteArray) (by decide)) h6).mono ?_
      rintro e w6 ⟨rfl, S6, F6⟩
      clear HX h6
      have o6 := F6.ints HP.out
      have FF6 := HF.out.trans F6
      clear HF HS HP
      have HF := hidOf FF6
      have HS := hidOf S6
      have HP := hidOf o6
      clear FF6 S6 F6 o6
      go_wp2_with fail
      refine (sPut (o := none) 12 nmx (([] : List Int) ++ [((v : Nat) : Int)]) (ao5) cc5 (SR.avoid (t := none) HS.out (fun k hk => .inl (.inl hk))) (ownsRow_base HP.out hbase) (fun b hb hb2 => by have h7 := (HP.out.lt b hb).1; have h8 := hA b hb2; omega) rfl).mono ?_
      rintro e we ⟨⟨k9, rfl, hk9⟩, S9, F9⟩
      have HH := hidOf (show PostS B g xs A w VNs _ (.returned (.int .i64 k9)) we from ⟨⟨k9, rfl, hk9⟩, S9, HF.out.trans F9⟩)
      clear S9 F9 HF HS
      go_wp2
      go_ret
      exact HH.out
     ·refine (sWants (o := (some (u, s6))) HS.out hX (hM (⟨#[59]⟩ : ByteArray) (by decide)) h6).mono ?_
      rintro e w6 ⟨rfl, S6, F6⟩
      clear HX
      have HX := hidOf hr6
      clear h6 hr6
      have o6 := F6.ints HP.out
      have FF6 := HF.out.trans F6
      clear HF HS HP
      have HF := hidOf FF6
      have HS := hidOf S6
      have HP := hidOf o6
      clear FF6 S6 F6 o6
      go_wp2_with fail
      refine (sPut (o := o) 12 nmx (([] : List Int) ++ [((v : Nat) : Int)]) (ao5) cc5 (SR.avoid (t := some s6) HS.out (fun k hk => .inl (.inl hk))) (ownsRow_base HP.out hbase) (fun b hb hb2 => by have h7 := (HP.out.lt b hb).1; have h8 := hA b hb2; omega) HX.out).mono ?_
      rintro e we ⟨⟨k9, rfl, hk9⟩, S9, F9⟩
      have HH := hidOf (show PostS B g xs A w VNs _ (.returned (.int .i64 k9)) we from ⟨⟨k9, rfl, hk9⟩, S9, HF.out.trans F9⟩)
      clear S9 F9 HF HS
      go_wp2
      go_ret
      exact HH.out
   ·have hx := HX.out
    rw [if_neg ht] at hx
    clear HX
    have HX := hidOf hx
    clear hx
    refine (sMarkN HS.out (by rw [show _ = some s1 from rfl, isP_mark (hM (⟨#[61]⟩ : ByteArray) (by decide))]; exact decide_eq_false ht)).mono ?_
    rintro e w3 ⟨rfl, B3⟩
    have S3 := SR.below (t := some s1) HS.out B3
    have FF3 := HF.out.trans (Fr.ofB (B := B) B3 (SR.base (t := some s1) HS.out))
    have o3 := owns_below HP.out B3
    clear HF HS HP
    have HF := hidOf FF3
    have HS := hidOf S3
    have HP := hidOf o3
    clear FF3 S3 B3 o3
    clear ht
    go_wp2_with fail
    rcases bnd_some HX.out with ⟨h4, rfl⟩ | ⟨u, s4, h4, hr4⟩
    ·refine (sWants (o := none) HS.out hX (hM (⟨#[59]⟩ : ByteArray) (by decide)) h4).mono ?_
     rintro e w4 ⟨rfl, S4, F4⟩
     clear HX h4
     have o4 := F4.ints HP.out
     have FF4 := HF.out.trans F4
     clear HF HS HP
     have HF := hidOf FF4
     have HS := hidOf S4
     have HP := hidOf o4
     clear FF4 S4 F4 o4
     go_wp2_with fail
     refine (sPut (o := none) 12 nmx ([] : List Int) (some ⟨w1.heap.size, 0, none⟩) 0 (SR.avoid (t := none) HS.out (fun k hk => .inl (.inl hk))) (ownsRow_base HP.out hbase) (fun b hb hb2 => by have h7 := (HP.out.lt b hb).1; have h8 := hA b hb2; omega) rfl).mono ?_
     rintro e we ⟨⟨k9, rfl, hk9⟩, S9, F9⟩
     have HH := hidOf (show PostS B g xs A w VNs _ (.returned (.int .i64 k9)) we from ⟨⟨k9, rfl, hk9⟩, S9, HF.out.trans F9⟩)
     clear S9 F9 HF HS
     go_wp2
     go_ret
     exact HH.out
    ·refine (sWants (o := (some (u, s4))) HS.out hX (hM (⟨#[59]⟩ : ByteArray) (by decide)) h4).mono ?_
     rintro e w4 ⟨rfl, S4, F4⟩
     clear HX
     have HX := hidOf hr4
     clear h4 hr4
     have o4 := F4.ints HP.out
     have FF4 := HF.out.trans F4
     clear HF HS HP
     have HF := hidOf FF4
     have HS := hidOf S4
     have HP := hidOf o4
     clear FF4 S4 F4 o4
     go_wp2_with fail
     refine (sPut (o := o) 12 nmx ([] : List Int) (some ⟨w1.heap.size, 0, none⟩) 0 (SR.avoid (t := some s4) HS.out (fun k hk => .inl (.inl hk))) (ownsRow_base HP.out hbase) (fun b hb hb2 => by have h7 := (HP.out.lt b hb).1; have h8 := hA b hb2; omega) HX.out).mono ?_
     rintro e we ⟨⟨k9, rfl, hk9⟩, S9, F9⟩
     have HH := hidOf (show PostS B g xs A w VNs _ (.returned (.int .i64 k9)) we from ⟨⟨k9, rfl, hk9⟩, S9, HF.out.trans F9⟩)
     clear S9 F9 HF HS
     go_wp2
     go_ret
     exact HH.out
end
end Go.Proofs.YtcbbnphpkgifoaaGreatDoor
