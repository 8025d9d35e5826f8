/- What a value begins with: the specification's reader. -/
import Derived.Test.YtcbbnphpkgifoaaGreatDoorKam
namespace Go.Proofs.YtcbbnphpkgifoaaGreatDoor
open Go.RowKit
theorem kd1_yes {xs : List Sg} {s : Ps} (h : isNm xs s.p = true) : kdP xs (some s) 1 = true := by
 show ((knd xs s.p == 1) && (!((1 : Int) == 1) || !kw (txt xs s.p))) = true
 rw [show ((1 : Int) == 1) = true from rfl]
 exact h
theorem kd1_no {xs : List Sg} {s : Ps} (h : ¬ isNm xs s.p = true) : kdP xs (some s) 1 = false := by
 rw [Bool.not_eq_true] at h
 show ((knd xs s.p == 1) && (!((1 : Int) == 1) || !kw (txt xs s.p))) = false
 rw [show ((1 : Int) == 1) = true from rfl]
 exact h
theorem kd0_yes {xs : List Sg} {s : Ps} {k : Int} (h : knd xs s.p = k) (hk : (k == 1) = false := by rfl) : kdP xs (some s) k = true := by
 show ((knd xs s.p == k) && (!(k == 1) || !kw (txt xs s.p))) = true
 rw [h, hk]
 simp
theorem kd0_no {xs : List Sg} {s : Ps} {k : Int} (h : ¬ knd xs s.p = k) : kdP xs (some s) k = false := by
 show ((knd xs s.p == k) && (!(k == 1) || !kw (txt xs s.p))) = false
 rw [show (knd xs s.p == k) = false from by rw [beq_eq_false_iff_ne]; exact h]
 rfl
theorem text_yes {xs : List Sg} {s : Ps} {k : Int} (h : kdP xs (some s) k = true) : Told (textP xs k) (some s) (some (txt xs s.p, s.next)) := by
 show textP xs k s = _
 unfold textP
 rw [if_pos h]
section
variable {B g : Nat} {xs : List Sg} {A : Nat → Prop} {w : World} {t : Option Ps}
set_option maxHeartbeats 16000000 in
set_option maxRecDepth 100000 in
theorem sBase {n0 : Nat} {o : Option (Nat × Ps)} (h : SR B g xs A w t) (hX : xs.length ≤ 3000) (hM : Marks xs) (hA : ∀ b, A b → b < w.heap.size) (hV : ReadsS B g xs 139 (vpF xs n0 true)) (hP : ReadsS B g xs 180 (vpF xs n0 false)) (hr : Told (baseP xs (vpF xs n0)) t o) : Calls Tryz.prog 266 #[.pointer (some ⟨g, 0, none⟩)] w (PostS B g xs A w VNs o) := by
 obtain ⟨i0, hi, hz0, hz1, hz2⟩ := info_parts infoI1
 have hbase := h.base
 have HF := hidOf (Fr.refl B w)
 match t, h, hr with
 | none, h, hr =>
  obtain rfl : o = none := hr
  obtain ⟨s1, h1, hd1⟩ := h
  obtain ⟨sa, sc, na, nc, -, -, c2, -, -, -⟩ := h1.cells
  have HS := hidOf (show SR B g xs A w none from ⟨s1, h1, hd1⟩)
  clear h1 hd1 hr
  go_enter Tryz.func266, Tryz.ntmps266
  go_wp2
  go_ret
  exact ⟨⟨_, rfl, fun a ha => by cases ha⟩, HS.out, Fr.refl _ _⟩
 | some s, h, hr =>
  have hr2 : baseP xs (vpF xs n0) s = some o := hr
  have HR0 := hidOf hr2
  unfold baseP at hr2
  have HX := hidOf hr2
  obtain ⟨sa, sc, na, nc, -, -, c2, -, -, -⟩ := h.1.cells
  have HS := hidOf h
  clear h hr hr2
  go_enter Tryz.func266, Tryz.ntmps266
  go_wp2_with fail
  clear c2
  by_cases hc : isNm xs s.p = true
  ·have qK := sKind (t := some s) HS.out 1 (.inl rfl)
   rw [show kdP xs (some s) 1 = true from kd1_yes hc] at qK
   have hx := HX.out
   rw [if_pos hc] at hx
   clear HX
   have HX := hidOf hx
   clear hx
   refine qK.mono ?_
   clear qK
   rintro e w1 ⟨rfl, m1, hm1⟩
   have B1 : Below w.heap.size w w1 := by rw [hm1]; exact drewN_below _ _
   clear hm1
   have S1 := SR.below (t := (some s)) HS.out B1
   have FF1 := HF.out.trans (Fr.ofB (B := B) B1 (SR.base (t := (some s)) HS.out))
   clear HF HS
   have HF := hidOf FF1
   have HS := hidOf S1
   clear FF1 S1 B1
   have HC := hidOf hc
   clear hc
   go_wp2_with fail
   have qT := sText (o := some (txt xs s.p, s.next)) (t := some s) 1 (.inl rfl) HS.out hX (text_yes (kd1_yes HC.out))
   have hx : addP 1 (txt xs s.p) [] s.next = some o := HX.out
   clear HX
   have HX := hidOf hx
   clear hx
   refine qT.mono ?_
   clear qT
   rintro e w2 ⟨⟨tx, rfl, htx⟩, S2, F2⟩
   obtain rfl : tx = txt xs s.p := htx _ rfl
   clear htx
   have FF2 := HF.out.trans F2
   clear HF HS
   have HF := hidOf FF2
   have HS := hidOf S2
   clear FF2 S2 F2
   obtain ⟨ux, hux⟩ : ∃ ux, ux = (txt xs s.p) := ⟨_, rfl⟩
   rw [← hux] at HX ⊢
   clear hux
   have B3 : Below w2.heap.size w2 (w2.alloc (.cells #[] tI)) := (Below.refl _ _).alloc (Nat.le_refl _) _
   have R3 : SR B g xs (And1 A (.slice (some ⟨w2.heap.size, 0, none⟩) 0 0)) (w2.alloc (.cells #[] tI)) (some s.next) := (SR.avoid (A' := And1 A (.slice (some ⟨w2.heap.size, 0, none⟩) 0 0)) (t := (some s.next)) HS.out (fun k hk => hk.imp_right (fun e => by injection e with e; show w2.heap.size ≤ k; exact Nat.le_of_eq e))).below B3
   have o3 : (w2.alloc (.cells #[] tI)).ownsRow w.heap.size tI 1 (.slice (some ⟨w2.heap.size, 0, none⟩) 0 0) 0 (intVals ([] : List Int)) := World.ownsRow_lit w2 #[] 0 HF.out.size (by decide) rfl
   have FF3 := HF.out.trans (Fr.ofB (B := B) B3 (SR.base (t := (some s.next)) HS.out))
   clear HF HS
   have HF := hidOf FF3
   have HS := hidOf R3
   have HP := hidOf o3
   clear FF3 R3 o3 B3
   go_wp2_with fail
   refine (sPut (o := o) 1 ux ([] : List Int) (some ⟨w2.heap.size, 0, none⟩) 0 (SR.avoid (t := some s.next) HS.out (fun k hk => .inl (.inl hk))) (ownsRow_base HP.out hbase) (fun b hb hb2 => by have h7 := (HP.out.lt b hb).1; have h8 := hA b hb2; omega) HX.out).mono ?_
   rintro e we ⟨⟨k9, rfl, hk9⟩, S9, F9⟩
   have HH := hidOf (show PostS B g xs A w VNs _ (.returned (.int .i64 k9)) we from ⟨⟨k9, rfl, hk9⟩, S9, HF.out.trans F9⟩)
   clear S9 F9 HF HS
   go_wp2
   go_ret
   exact HH.out
  ·have qK := sKind (t := some s) HS.out 1 (.inl rfl)
   rw [show kdP xs (some s) 1 = false from kd1_no hc] at qK
   have hx := HX.out
   rw [if_neg hc] at hx
   clear HX
   have HX := hidOf hx
   clear hx
   refine qK.mono ?_
   clear qK
   rintro e w1 ⟨rfl, m1, hm1⟩
   have B1 : Below w.heap.size w w1 := by rw [hm1]; exact drewN_below _ _
   clear hm1
   have S1 := SR.below (t := (some s)) HS.out B1
   have FF1 := HF.out.trans (Fr.ofB (B := B) B1 (SR.base (t := (some s)) HS.out))
   clear HF HS
   have HF := hidOf FF1
   have HS := hidOf S1
   clear FF1 S1 B1
   clear hc
   go_wp2_with fail
   by_cases hc : knd xs s.p = 2
   ·have qK := sKind (t := some s) HS.out 2 (.inr (.inl rfl))
    rw [show kdP xs (some s) 2 = true from kd0_yes hc] at qK
    have hx := HX.out
    rw [if_pos hc] at hx
    clear HX
    have HX := hidOf hx
    clear hx
    refine qK.mono ?_
    clear qK
    rintro e w2 ⟨rfl, m2, hm2⟩
    have B2 : Below w1.heap.size w1 w2 := by rw [hm2]; exact drewN_below _ _
    clear hm2
    have S2 := SR.below (t := (some s)) HS.out B2
    have FF2 := HF.out.trans (Fr.ofB (B := B) B2 (SR.base (t := (some s)) HS.out))
    clear HF HS
    have HF := hidOf FF2
    have HS := hidOf S2
    clear FF2 S2 B2
    have HC := hidOf hc
    clear hc
    go_wp2_with fail
    have qT := sText (o := some (txt xs s.p, s.next)) (t := some s) 2 (.inr (.inl rfl)) HS.out hX (text_yes (kd0_yes HC.out))
    have hx : addP 2 (txt xs s.p) [] s.next = some o := HX.out
    clear HX
    have HX := hidOf hx
    clear hx
    refine qT.mono ?_
    clear qT
    rintro e w3 ⟨⟨tx, rfl, htx⟩, S3, F3⟩
    obtain rfl : tx = txt xs s.p := htx _ rfl
    clear htx
    have FF3 := HF.out.trans F3
    clear HF HS
    have HF := hidOf FF3
    have HS := hidOf S3
    clear FF3 S3 F3
    obtain ⟨ux, hux⟩ : ∃ ux, ux = (txt xs s.p) := ⟨_, rfl⟩
    rw [← hux] at HX ⊢
    clear hux
    have B4 : Below w3.heap.size w3 (w3.alloc (.cells #[] tI)) := (Below.refl _ _).alloc (Nat.le_refl _) _
    have R4 : SR B g xs (And1 A (.slice (some ⟨w3.heap.size, 0, none⟩) 0 0)) (w3.alloc (.cells #[] tI)) (some s.next) := (SR.avoid (A' := And1 A (.slice (some ⟨w3.heap.size, 0, none⟩) 0 0)) (t := (some s.next)) HS.out (fun k hk => hk.imp_right (fun e => by injection e with e; show w3.heap.size ≤ k; exact Nat.le_of_eq e))).below B4
    have o4 : (w3.alloc (.cells #[] tI)).ownsRow w.heap.size tI 1 (.slice (some ⟨w3.heap.size, 0, none⟩) 0 0) 0 (intVals ([] : List Int)) := World.ownsRow_lit w3 #[] 0 HF.out.size (by decide) rfl
    have FF4 := HF.out.trans (Fr.ofB (B := B) B4 (SR.base (t := (some s.next)) HS.out))
    clear HF HS
    have HF := hidOf FF4
    have HS := hidOf R4
    have HP := hidOf o4
    clear FF4 R4 o4 B4
    go_wp2_with fail
    refine (sPut (o := o) 2 ux ([] : List Int) (some ⟨w3.heap.size, 0, none⟩) 0 (SR.avoid (t := some s.next) HS.out (fun k hk => .inl (.inl hk))) (ownsRow_base HP.out hbase) (fun b hb hb2 => by have h7 := (HP.out.lt b hb).1; have h8 := hA b hb2; omega) HX.out).mono ?_
    rintro e we ⟨⟨k9, rfl, hk9⟩, S9, F9⟩
    have HH := hidOf (show PostS B g xs A w VNs _ (.returned (.int .i64 k9)) we from ⟨⟨k9, rfl, hk9⟩, S9, HF.out.trans F9⟩)
    clear S9 F9 HF HS
    go_wp2
    go_ret
    exact HH.out
   ·have qK := sKind (t := some s) HS.out 2 (.inr (.inl rfl))
    rw [show kdP xs (some s) 2 = false from kd0_no hc] at qK
    have hx := HX.out
    rw [if_neg hc] at hx
    clear HX
    have HX := hidOf hx
    clear hx
    refine qK.mono ?_
    clear qK
    rintro e w2 ⟨rfl, m2, hm2⟩
    have B2 : Below w1.heap.size w1 w2 := by rw [hm2]; exact drewN_below _ _
    clear hm2
    have S2 := SR.below (t := (some s)) HS.out B2
    have FF2 := HF.out.trans (Fr.ofB (B := B) B2 (SR.base (t := (some s)) HS.out))
    clear HF HS
    have HF := hidOf FF2
    have HS := hidOf S2
    clear FF2 S2 B2
    clear hc
    go_wp2_with fail
    by_cases hc : knd xs s.p = 3
    ·have qK := sKind (t := some s) HS.out 3 (.inr (.inr (.inl rfl)))
     rw [show kdP xs (some s) 3 = true from kd0_yes hc] at qK
     have hx := HX.out
     rw [if_pos hc] at hx
     clear HX
     have HX := hidOf hx
     clear hx
     refine qK.mono ?_
     clear qK
     rintro e w3 ⟨rfl, m3, hm3⟩
     have B3 : Below w2.heap.size w2 w3 := by rw [hm3]; exact drewN_below _ _
     clear hm3
     have S3 := SR.below (t := (some s)) HS.out B3
     have FF3 := HF.out.trans (Fr.ofB (B := B) B3 (SR.base (t := (some s)) HS.out))
     clear HF HS
     have HF := hidOf FF3
     have HS := hidOf S3
     clear FF3 S3 B3
     have HC := hidOf hc
     clear hc
     go_wp2_with fail
     have qT := sText (o := some (txt xs s.p, s.next)) (t := some s) 3 (.inr (.inr (.inl rfl))) HS.out hX (text_yes (kd0_yes HC.out))
     have hx : addP 3 (txt xs s.p) [] s.next = some o := HX.out
     clear HX
     have HX := hidOf hx
     clear hx
     refine qT.mono ?_
     clear qT
     rintro e w4 ⟨⟨tx, rfl, htx⟩, S4, F4⟩
     obtain rfl : tx = txt xs s.p := htx _ rfl
     clear htx
     have FF4 := HF.out.trans F4
     clear HF HS
     have HF := hidOf FF4
     have HS := hidOf S4
     clear FF4 S4 F4
     obtain ⟨ux, hux⟩ : ∃ ux, ux = (txt xs s.p) := ⟨_, rfl⟩
     rw [← hux] at HX ⊢
     clear hux
     have B5 : Below w4.heap.size w4 (w4.alloc (.cells #[] tI)) := (Below.refl _ _).alloc (Nat.le_refl _) _
     have R5 : SR B g xs (And1 A (.slice (some ⟨w4.heap.size, 0, none⟩) 0 0)) (w4.alloc (.cells #[] tI)) (some s.next) := (SR.avoid (A' := And1 A (.slice (some ⟨w4.heap.size, 0, none⟩) 0 0)) (t := (some s.next)) HS.out (fun k hk => hk.imp_right (fun e => by injection e with e; show w4.heap.size ≤ k; exact Nat.le_of_eq e))).below B5
     have o5 : (w4.alloc (.cells #[] tI)).ownsRow w.heap.size tI 1 (.slice (some ⟨w4.heap.size, 0, none⟩) 0 0) 0 (intVals ([] : List Int)) := World.ownsRow_lit w4 #[] 0 HF.out.size (by decide) rfl
     have FF5 := HF.out.trans (Fr.ofB (B := B) B5 (SR.base (t := (some s.next)) HS.out))
     clear HF HS
     have HF := hidOf FF5
     have HS := hidOf R5
     have HP := hidOf o5
     clear FF5 R5 o5 B5
     go_wp2_with fail
     refine (sPut (o := o) 3 ux ([] : List Int) (some ⟨w4.heap.size, 0, none⟩) 0 (SR.avoid (t := some s.next) HS.out (fun k hk => .inl (.inl hk))) (ownsRow_base HP.out hbase) (fun b hb hb2 => by have h7 := (HP.out.lt b hb).1; have h8 := hA b hb2; omega) HX.out).mono ?_
     rintro e we ⟨⟨k9, rfl, hk9⟩, S9, F9⟩
     have HH := hidOf (show PostS B g xs A w VNs _ (.returned (.int .i64 k9)) we from ⟨⟨k9, rfl, hk9⟩, S9, HF.out.trans F9⟩)
     clear S9 F9 HF HS
     go_wp2
     go_ret
     exact HH.out
    ·have qK := sKind (t := some s) HS.out 3 (.inr (.inr (.inl rfl)))
     rw [show kdP xs (some s) 3 = false from kd0_no hc] at qK
     have hx := HX.out
     rw [if_neg hc] at hx
     clear HX
     have HX := hidOf hx
     clear hx
     refine qK.mono ?_
     clear qK
     rintro e w3 ⟨rfl, m3, hm3⟩
     have B3 : Below w2.heap.size w2 w3 := by rw [hm3]; exact drewN_below _ _
     clear hm3
     have S3 := SR.below (t := (some s)) HS.out B3
     have FF3 := HF.out.trans (Fr.ofB (B := B) B3 (SR.base (t := (some s)) HS.out))
     clear HF HS
     have HF := hidOf FF3
     have HS := hidOf S3
     clear FF3 S3 B3
     clear hc
     go_wp2_with fail
     by_cases ht : txt xs s.p = (⟨#[91]⟩ : ByteArray)
     ·have hx := HX.out
      rw [if_pos ht] at hx
      clear HX
      have HX := hidOf hx
      clear hx
      refine (sMarkY (s := s) HS.out hX (by rw [isP_mark (hM (⟨#[91]⟩ : ByteArray) (by decide))]; exact decide_eq_true ht)).mono ?_
      clear ht
      rintro e w4 ⟨rfl, S4, F4⟩
      have FF4 := HF.out.trans F4
      clear HF HS
      have HF := hidOf FF4
      have HS := hidOf S4
      clear FF4 S4 F4
      have B5 : Below w4.heap.size w4 (w4.alloc (.cells #[] tI)) := (Below.refl _ _).alloc (Nat.le_refl _) _
      have R5 : SR B g xs (And1 A (.slice (some ⟨w4.heap.size, 0, none⟩) 0 0)) (w4.alloc (.cells #[] tI)) (some s.next) := (SR.avoid (A' := And1 A (.slice (some ⟨w4.heap.size, 0, none⟩) 0 0)) (t := (some s.next)) HS.out (fun k hk => hk.imp_right (fun e => by injection e with e; show w4.heap.size ≤ k; exact Nat.le_of_eq e))).below B5
      have o5 : (w4.alloc (.cells #[] tI)).ownsRow w.heap.size tI 1 (.slice (some ⟨w4.heap.size, 0, none⟩) 0 0) 0 (intVals ([] : List Int)) := World.ownsRow_lit w4 #[] 0 HF.out.size (by decide) rfl
      have FF5 := HF.out.trans (Fr.ofB (B := B) B5 (SR.base (t := (some s.next)) HS.out))
      clear HF HS
      have HF := hidOf FF5
      have HS := hidOf R5
      have HP := hidOf o5
      clear FF5 R5 o5 B5
      go_wp2_with fail
      rcases bnd_some HX.out with ⟨h6, rfl⟩ | ⟨l6, s6, h6, hr6⟩
      ·refine (sValues (w0 := w) (ks0 := ([] : List Int)) (o := none) (t := some s.next) hX (hM (⟨#[93]⟩ : ByteArray) (by decide)) (hM (⟨#[44]⟩ : ByteArray) (by decide)) HF.out hbase hA HP.out (by show (([] : List Int) : List Int).length ≤ 900; decide) HS.out hV h6).mono ?_
       rintro e w6 ⟨a6, c6, ks6, rfl, o6, S6, F6, hl6, -⟩
       clear HX h6
       clear HF HS HP
       have HF := hidOf F6
       have HS := hidOf S6
       have HP := hidOf o6
       clear F6 S6 o6
       go_wp2_with fail
       refine (sPut (o := none) 4 ByteArray.empty ks6 (a6) c6 (SR.avoid (t := none) HS.out (fun k hk => .inl (.inl hk))) (ownsRow_base HP.out hbase) (fun b hb hb2 => by have h7 := (HP.out.lt b hb).1; have h8 := hA b hb2; omega) rfl).mono ?_
       rintro e we ⟨⟨k9, rfl, hk9⟩, S9, F9⟩
       have HH := hidOf (show PostS B g xs A w VNs _ (.returned (.int .i64 k9)) we from ⟨⟨k9, rfl, hk9⟩, S9, HF.out.trans F9⟩)
       clear S9 F9 HF HS
       go_wp2
       go_ret
       exact HH.out
      ·refine (sValues (w0 := w) (ks0 := ([] : List Int)) (o := some (l6, s6)) (t := some s.next) hX (hM (⟨#[93]⟩ : ByteArray) (by decide)) (hM (⟨#[44]⟩ : ByteArray) (by decide)) HF.out hbase hA HP.out (by show (([] : List Int) : List Int).length ≤ 900; decide) HS.out hV h6).mono ?_
       rintro e w6 ⟨a6, c6, ks6, rfl, o6, S6, F6, hl6, hk6⟩
       obtain rfl : ks6 = l6 := hk6 l6 s6 rfl
       clear HX
       have HX := hidOf hr6
       clear h6 hr6 hk6
       clear HF HS HP
       have HF := hidOf F6
       have HS := hidOf S6
       have HP := hidOf o6
       clear F6 S6 o6
       go_wp2_with fail
       refine (sPut (o := o) 4 ByteArray.empty ks6 (a6) c6 (SR.avoid (t := some s6) HS.out (fun k hk => .inl (.inl hk))) (ownsRow_base HP.out hbase) (fun b hb hb2 => by have h7 := (HP.out.lt b hb).1; have h8 := hA b hb2; omega) HX.out).mono ?_
       rintro e we ⟨⟨k9, rfl, hk9⟩, S9, F9⟩
       have HH := hidOf (show PostS B g xs A w VNs _ (.returned (.int .i64 k9)) we from ⟨⟨k9, rfl, hk9⟩, S9, HF.out.trans F9⟩)
       clear S9 F9 HF HS
       go_wp2
       go_ret
       exact HH.out
     ·have hx := HX.out
      rw [if_neg ht] at hx
      clear HX
      have HX := hidOf hx
      clear hx
      refine (sMarkN (t := some s) HS.out (by rw [isP_mark (hM (⟨#[91]⟩ : ByteArray) (by decide))]; exact decide_eq_false ht)).mono ?_
      rintro e w4 ⟨rfl, B4⟩
      have S4 := SR.below (t := some s) HS.out B4
      have FF4 := HF.out.trans (Fr.ofB (B := B) B4 (SR.base (t := some s) HS.out))
      clear HF HS
      have HF := hidOf FF4
      have HS := hidOf S4
      clear FF4 S4 B4
      clear ht
      go_wp2_with fail
      have qA := sArrow (s := s) HS.out hX hM
      rcases arw_cases (xs := xs) (hM (⟨#[41]⟩ : ByteArray) (by decide)) s.p with hcase | ⟨hcase, hno, htp, j, hpath⟩
      ·rw [hcase] at qA
       clear hcase
       by_cases hc : arrB xs s.p = true
       ·have hx := HX.out
        rw [if_pos hc] at hx
        clear HX
        have HX := hidOf hx
        clear hx
        rw [hc] at qA
        refine qA.mono ?_
        clear qA hc
        rintro e w5 ⟨rfl, B5⟩
        have S5 := SR.below (t := (some s)) HS.out B5
        have FF5 := HF.out.trans (Fr.ofB (B := B) B5 (SR.base (t := (some s)) HS.out))
        clear HF HS
        have HF := hidOf FF5
        have HS := hidOf S5
        clear FF5 S5 B5
        have hx : bnd (namesP xs s) (fun ks s1 => bnd (wantP xs (⟨#[61, 62]⟩ : ByteArray) s1) fun _ s2 => bnd (vpF xs n0 false s2) fun k s3 => addP 9 ByteArray.empty (ks ++ [(k : Int)]) s3) = some o := HX.out
        clear HX
        have HX := hidOf hx
        clear hx
        go_wp2_with fail
        rcases bnd_some HX.out with ⟨h6, rfl⟩ | ⟨l6, s6, h6, hr6⟩
        ·refine (sNames (o := none) (t := some s) HS.out hX hM (fun b hb => Nat.lt_of_lt_of_le (hA b hb) HF.out.size) h6).mono ?_
         rintro e w6 ⟨a6, c6, ks6, rfl, o6, S6, F6, hl6, -⟩
         clear HX h6
         have o6 := ownsRow_base o6 HF.out.size
         have F6 := HF.out.trans F6
         clear HF HS
         have HF := hidOf F6
         have HS := hidOf S6
         have HP := hidOf o6
         clear F6 S6 o6
         go_wp2_with fail
         refine (sWants (o := none) HS.out hX (hM (⟨#[61, 62]⟩ : ByteArray) (by decide)) rfl).mono ?_
         rintro e w7 ⟨rfl, S7, F7⟩
         have o7 := F7.ints HP.out
         have FF7 := HF.out.trans F7
         clear HF HS HP
         have HF := hidOf FF7
         have HS := hidOf S7
         have HP := hidOf o7
         clear FF7 S7 F7 o7
         go_wp2_with fail
         refine (hP _ _ _ none (And1.lt hA HF.out.size HP.out) HS.out rfl).mono ?_
         rintro e w8 ⟨⟨kpx, rfl, -⟩, S8, F8⟩
         have o8 := F8.ints HP.out
         have FF8 := HF.out.trans F8
         clear HF HS HP
         have HF := hidOf FF8
         have HS := hidOf S8
         have HP := hidOf o8
         clear FF8 S8 F8 o8
         have hs9 := HF.out.size
         go_wp2_with (at_builtin; refine wpList_append_own2 rfl _ _ 57 rfl w.heap.size 3 i0 _ 1 8 Tryz.underlying57 hi hz0 hz1 hz2 rfl (by decide) (.slice a6 ks6.length c6) (ks6.length) (intVals ks6) rfl (HP.out.alloc _) ⟨w8.heap.size, 0, none⟩ 1 1 [.int .i64 kpx] rfl rfl (cell_one_new _ _ _) (by simp [Value.oneCell']) (by unfold maxLen; omega) (by omega) (by simp; omega) ?_; intro v' w9 hown' hgrow5 hpl5)
         have B9 : Below w8.heap.size w8 (w8.alloc (.cells #[.int .i64 kpx] tI)) := (Below.refl _ _).alloc (Nat.le_refl _) _
         have FF9 := (HF.out.trans (Fr.ofB (B := B) B9 (SR.base (t := none) HS.out))).growI hbase hgrow5 (fun b hb => (HP.out.lt b hb).1)
         have R9 := (SR.below (t := none) HS.out B9).growI (A' := And1 A v') (HP.out.alloc _) hgrow5 (fun b hb => .inr hb) (fun b hb => by
          rcases hb with hb | hb
          ·exact .inl (.inl hb)
          ·rcases hpl5 b hb with h6 | h6
           ·exact .inl (.inr h6)
           ·exact .inr h6)
         have o9 := own_app (ks := ks6) (k := kpx) hown' rfl
         clear hown' hgrow5 hpl5 HF HS HP hs9 B9
         obtain ⟨ao9, cc9, rfl⟩ := owns_slice o9
         have HF := hidOf FF9
         have HS := hidOf R9
         have HP := hidOf o9
         clear FF9 R9 o9
         refine (sPut (o := none) 9 ByteArray.empty (ks6 ++ [kpx]) (ao9) cc9 (SR.avoid (t := none) HS.out (fun k hk => .inl (.inl hk))) (ownsRow_base HP.out hbase) (fun b hb hb2 => by have h7 := (HP.out.lt b hb).1; have h8 := hA b hb2; omega) rfl).mono ?_
         rintro e we ⟨⟨k9, rfl, hk9⟩, S9, F9⟩
         have HH := hidOf (show PostS B g xs A w VNs _ (.returned (.int .i64 k9)) we from ⟨⟨k9, rfl, hk9⟩, S9, HF.out.trans F9⟩)
         clear S9 F9 HF HS
         go_wp2
         go_ret
         exact HH.out
        ·refine (sNames (o := some (l6, s6)) (t := some s) HS.out hX hM (fun b hb => Nat.lt_of_lt_of_le (hA b hb) HF.out.size) h6).mono ?_
         rintro e w6 ⟨a6, c6, ks6, rfl, o6, S6, F6, hl6, hk6⟩
         obtain rfl : ks6 = l6 := hk6 l6 s6 rfl
         clear HX
         have HX := hidOf hr6
         clear h6 hr6 hk6
         have o6 := ownsRow_base o6 HF.out.size
         have F6 := HF.out.trans F6
         clear HF HS
         have HF := hidOf F6
         have HS := hidOf S6
         have HP := hidOf o6
         clear F6 S6 o6
         go_wp2_with fail
         rcases bnd_some HX.out with ⟨h7, rfl⟩ | ⟨u, s7, h7, hr7⟩
         ·refine (sWants (o := none) HS.out hX (hM (⟨#[61, 62]⟩ : ByteArray) (by decide)) h7).mono ?_
          rintro e w7 ⟨rfl, S7, F7⟩
          clear HX h7
          have o7 := F7.ints HP.out
          have FF7 := HF.out.trans F7
          clear HF HS HP
          have HF := hidOf FF7
          have HS := hidOf S7
          have HP := hidOf o7
          clear FF7 S7 F7 o7
          go_wp2_with fail
          refine (hP _ _ _ none (And1.lt hA HF.out.size HP.out) HS.out rfl).mono ?_
          rintro e w8 ⟨⟨kpx, rfl, -⟩, S8, F8⟩
          have o8 := F8.ints HP.out
          have FF8 := HF.out.trans F8
          clear HF HS HP
          have HF := hidOf FF8
          have HS := hidOf S8
          have HP := hidOf o8
          clear FF8 S8 F8 o8
          have hs9 := HF.out.size
          go_wp2_with (at_builtin; refine wpList_append_own2 rfl _ _ 57 rfl w.heap.size 3 i0 _ 1 8 Tryz.underlying57 hi hz0 hz1 hz2 rfl (by decide) (.slice a6 ks6.length c6) (ks6.length) (intVals ks6) rfl (HP.out.alloc _) ⟨w8.heap.size, 0, none⟩ 1 1 [.int .i64 kpx] rfl rfl (cell_one_new _ _ _) (by simp [Value.oneCell']) (by unfold maxLen; omega) (by omega) (by simp; omega) ?_; intro v' w9 hown' hgrow5 hpl5)
          have B9 : Below w8.heap.size w8 (w8.alloc (.cells #[.int .i64 kpx] tI)) := (Below.refl _ _).alloc (Nat.le_refl _) _
          have FF9 := (HF.out.trans (Fr.ofB (B := B) B9 (SR.base (t := none) HS.out))).growI hbase hgrow5 (fun b hb => (HP.out.lt b hb).1)
          have R9 := (SR.below (t := none) HS.out B9).growI (A' := And1 A v') (HP.out.alloc _) hgrow5 (fun b hb => .inr hb) (fun b hb => by
           rcases hb with hb | hb
           ·exact .inl (.inl hb)
           ·rcases hpl5 b hb with h6 | h6
            ·exact .inl (.inr h6)
            ·exact .inr h6)
          have o9 := own_app (ks := ks6) (k := kpx) hown' rfl
          clear hown' hgrow5 hpl5 HF HS HP hs9 B9
          obtain ⟨ao9, cc9, rfl⟩ := owns_slice o9
          have HF := hidOf FF9
          have HS := hidOf R9
          have HP := hidOf o9
          clear FF9 R9 o9
          refine (sPut (o := none) 9 ByteArray.empty (ks6 ++ [kpx]) (ao9) cc9 (SR.avoid (t := none) HS.out (fun k hk => .inl (.inl hk))) (ownsRow_base HP.out hbase) (fun b hb hb2 => by have h7 := (HP.out.lt b hb).1; have h8 := hA b hb2; omega) rfl).mono ?_
          rintro e we ⟨⟨k9, rfl, hk9⟩, S9, F9⟩
          have HH := hidOf (show PostS B g xs A w VNs _ (.returned (.int .i64 k9)) we from ⟨⟨k9, rfl, hk9⟩, S9, HF.out.trans F9⟩)
          clear S9 F9 HF HS
          go_wp2
          go_ret
          exact HH.out
         ·refine (sWants (o := (some (u, s7))) HS.out hX (hM (⟨#[61, 62]⟩ : ByteArray) (by decide)) h7).mono ?_
          rintro e w7 ⟨rfl, S7, F7⟩
          clear HX
          have HX := hidOf hr7
          clear h7 hr7
          have o7 := F7.ints HP.out
          have FF7 := HF.out.trans F7
          clear HF HS HP
          have HF := hidOf FF7
          have HS := hidOf S7
          have HP := hidOf o7
          clear FF7 S7 F7 o7
          go_wp2_with fail
          rcases bnd_some HX.out with ⟨h8, rfl⟩ | ⟨kp, s8, h8, hr8⟩
          ·refine (hP _ _ _ none (And1.lt hA HF.out.size HP.out) HS.out h8).mono ?_
           rintro e w8 ⟨⟨kpx, rfl, -⟩, S8, F8⟩
           clear HX h8
           have o8 := F8.ints HP.out
           have FF8 := HF.out.trans F8
           clear HF HS HP
           have HF := hidOf FF8
           have HS := hidOf S8
           have HP := hidOf o8
           clear FF8 S8 F8 o8
           have hs9 := HF.out.size
           go_wp2_with (at_builtin; refine wpList_append_own2 rfl _ _ 57 rfl w.heap.size 3 i0 _ 1 8 Tryz.underlying57 hi hz0 hz1 hz2 rfl (by decide) (.slice a6 ks6.length c6) (ks6.length) (intVals ks6) rfl (HP.out.alloc _) ⟨w8.heap.size, 0, none⟩ 1 1 [.int .i64 kpx] rfl rfl (cell_one_new _ _ _) (by simp [Value.oneCell']) (by unfold maxLen; omega) (by omega) (by simp; omega) ?_; intro v' w9 hown' hgrow5 hpl5)
           have B9 : Below w8.heap.size w8 (w8.alloc (.cells #[.int .i64 kpx] tI)) := (Below.refl _ _).alloc (Nat.le_refl _) _
           have FF9 := (HF.out.trans (Fr.ofB (B := B) B9 (SR.base (t := none) HS.out))).growI hbase hgrow5 (fun b hb => (HP.out.lt b hb).1)
           have R9 := (SR.below (t := none) HS.out B9).growI (A' := And1 A v') (HP.out.alloc _) hgrow5 (fun b hb => .inr hb) (fun b hb => by
            rcases hb with hb | hb
            ·exact .inl (.inl hb)
            ·rcases hpl5 b hb with h6 | h6
             ·exact .inl (.inr h6)
             ·exact .inr h6)
           have o9 := own_app (ks := ks6) (k := kpx) hown' rfl
           clear hown' hgrow5 hpl5 HF HS HP hs9 B9
           obtain ⟨ao9, cc9, rfl⟩ := owns_slice o9
           have HF := hidOf FF9
           have HS := hidOf R9
           have HP := hidOf o9
           clear FF9 R9 o9
           refine (sPut (o := none) 9 ByteArray.empty (ks6 ++ [kpx]) (ao9) cc9 (SR.avoid (t := none) HS.out (fun k hk => .inl (.inl hk))) (ownsRow_base HP.out hbase) (fun b hb hb2 => by have h7 := (HP.out.lt b hb).1; have h8 := hA b hb2; omega) rfl).mono ?_
           rintro e we ⟨⟨k9, rfl, hk9⟩, S9, F9⟩
           have HH := hidOf (show PostS B g xs A w VNs _ (.returned (.int .i64 k9)) we from ⟨⟨k9, rfl, hk9⟩, S9, HF.out.trans F9⟩)
           clear S9 F9 HF HS
           go_wp2
           go_ret
           exact HH.out
          ·refine (hP _ _ _ (some (kp, s8)) (And1.lt hA HF.out.size HP.out) HS.out h8).mono ?_
           rintro e w8 ⟨⟨kpx, rfl, hkpx⟩, S8, F8⟩
           obtain rfl : kpx = ((kp : Nat) : Int) := hkpx kp rfl
           clear HX
           have HX := hidOf hr8
           clear h8 hr8 hkpx
           have o8 := F8.ints HP.out
           have FF8 := HF.out.trans F8
           clear HF HS HP
           have HF := hidOf FF8
           have HS := hidOf S8
           have HP := hidOf o8
           clear FF8 S8 F8 o8
           have hs9 := HF.out.size
           go_wp2_with (at_builtin; refine wpList_append_own2 rfl _ _ 57 rfl w.heap.size 3 i0 _ 1 8 Tryz.underlying57 hi hz0 hz1 hz2 rfl (by decide) (.slice a6 ks6.length c6) (ks6.length) (intVals ks6) rfl (HP.out.alloc _) ⟨w8.heap.size, 0, none⟩ 1 1 [.int .i64 ((kp : Nat) : Int)] rfl rfl (cell_one_new _ _ _) (by simp [Value.oneCell']) (by unfold maxLen; omega) (by omega) (by simp; omega) ?_; intro v' w9 hown' hgrow5 hpl5)
           have B9 : Below w8.heap.size w8 (w8.alloc (.cells #[.int .i64 ((kp : Nat) : Int)] tI)) := (Below.refl _ _).alloc (Nat.le_refl _) _
           have FF9 := (HF.out.trans (Fr.ofB (B := B) B9 (SR.base (t := (some s8)) HS.out))).growI hbase hgrow5 (fun b hb => (HP.out.lt b hb).1)
           have R9 := (SR.below (t := (some s8)) HS.out B9).growI (A' := And1 A v') (HP.out.alloc _) hgrow5 (fun b hb => .inr hb) (fun b hb => by
            rcases hb with hb | hb
            ·exact .inl (.inl hb)
            ·rcases hpl5 b hb with h6 | h6
             ·exact .inl (.inr h6)
             ·exact .inr h6)
           have o9 := own_app (ks := ks6) (k := ((kp : Nat) : Int)) hown' rfl
           clear hown' hgrow5 hpl5 HF HS HP hs9 B9
           obtain ⟨ao9, cc9, rfl⟩ := owns_slice o9
           have HF := hidOf FF9
           have HS := hidOf R9
           have HP := hidOf o9
           clear FF9 R9 o9
           refine (sPut (o := o) 9 ByteArray.empty (ks6 ++ [((kp : Nat) : Int)]) (ao9) cc9 (SR.avoid (t := some s8) HS.out (fun k hk => .inl (.inl hk))) (ownsRow_base HP.out hbase) (fun b hb hb2 => by have h7 := (HP.out.lt b hb).1; have h8 := hA b hb2; omega) HX.out).mono ?_
           rintro e we ⟨⟨k9, rfl, hk9⟩, S9, F9⟩
           have HH := hidOf (show PostS B g xs A w VNs _ (.returned (.int .i64 k9)) we from ⟨⟨k9, rfl, hk9⟩, S9, HF.out.trans F9⟩)
           clear S9 F9 HF HS
           go_wp2
           go_ret
           exact HH.out
       ·have hx := HX.out
        rw [if_neg hc] at hx
        clear HX
        have HX := hidOf hx
        clear hx
        rw [show arrB xs s.p = false by simpa using hc] at qA
        refine qA.mono ?_
        clear qA hc
        rintro e w5 ⟨rfl, B5⟩
        have S5 := SR.below (t := (some s)) HS.out B5
        have FF5 := HF.out.trans (Fr.ofB (B := B) B5 (SR.base (t := (some s)) HS.out))
        clear HF HS
        have HF := hidOf FF5
        have HS := hidOf S5
        clear FF5 S5 B5
        go_wp2_with fail
        by_cases ht : txt xs s.p = (⟨#[40]⟩ : ByteArray)
        ·have hx := HX.out
         rw [if_pos ht] at hx
         clear HX
         have HX := hidOf hx
         clear hx
         refine (sWants (o := some ((), s.next)) (t := some s) HS.out hX (hM (⟨#[40]⟩ : ByteArray) (by decide)) (show wantP xs (⟨#[40]⟩ : ByteArray) s = _ by unfold wantP; rw [if_pos ht])).mono ?_
         clear ht
         rintro e w6 ⟨rfl, S6, F6⟩
         have FF6 := HF.out.trans F6
         clear HF HS
         have HF := hidOf FF6
         have HS := hidOf S6
         clear FF6 S6 F6
         obtain ⟨sa, sc, na, nc, -, -, c2, -, -, -⟩ := (show SR B g xs A w6 (some s.next) from HS.out).1.cells
         go_wp2_with fail
         clear c2
         rcases bnd_some HX.out with ⟨h7, rfl⟩ | ⟨kv, s7, h7, hr7⟩
         ·refine (hV _ _ _ none (fun b hb => Nat.lt_of_lt_of_le (hA b hb) HF.out.size) HS.out h7).mono ?_
          rintro e w7 ⟨⟨kvx, rfl, -⟩, S7, F7⟩
          clear HX h7
          have FF7 := HF.out.trans F7
          clear HF HS
          have HF := hidOf FF7
          have HS := hidOf S7
          clear FF7 S7 F7
          go_wp2_with fail
          refine (sWants (o := none) HS.out hX (hM (⟨#[41]⟩ : ByteArray) (by decide)) rfl).mono ?_
          rintro e w8 ⟨rfl, S8, F8⟩
          have FF8 := HF.out.trans F8
          clear HF HS
          have HF := hidOf FF8
          have HS := hidOf S8
          clear FF8 S8 F8
          have B9 : Below w8.heap.size w8 (w8.alloc (.cells #[.int .i64 kvx] tI)) := (Below.refl _ _).alloc (Nat.le_refl _) _
          have R9 : SR B g xs (And1 A (.slice (some ⟨w8.heap.size, 0, none⟩) 1 1)) (w8.alloc (.cells #[.int .i64 kvx] tI)) none := (SR.avoid (A' := And1 A (.slice (some ⟨w8.heap.size, 0, none⟩) 1 1)) (t := none) HS.out (fun k hk => hk.imp_right (fun e => by injection e with e; show w8.heap.size ≤ k; exact Nat.le_of_eq e))).below B9
          have o9 : (w8.alloc (.cells #[.int .i64 kvx] tI)).ownsRow w.heap.size tI 1 (.slice (some ⟨w8.heap.size, 0, none⟩) 1 1) 1 (intVals [kvx]) := World.ownsRow_lit w8 #[.int .i64 kvx] 1 HF.out.size (by decide) rfl
          have FF9 := HF.out.trans (Fr.ofB (B := B) B9 (SR.base (t := none) HS.out))
          clear HF HS
          have HF := hidOf FF9
          have HS := hidOf R9
          have HP := hidOf o9
          clear FF9 R9 o9 B9
          go_wp2_with fail
          refine (sPut (o := none) 11 ByteArray.empty [kvx] (some ⟨w8.heap.size, 0, none⟩) 1 (SR.avoid (t := none) HS.out (fun k hk => .inl (.inl hk))) (ownsRow_base HP.out hbase) (fun b hb hb2 => by have h7 := (HP.out.lt b hb).1; have h8 := hA b hb2; omega) rfl).mono ?_
          rintro e we ⟨⟨k9, rfl, hk9⟩, S9, F9⟩
          have HH := hidOf (show PostS B g xs A w VNs _ (.returned (.int .i64 k9)) we from ⟨⟨k9, rfl, hk9⟩, S9, HF.out.trans F9⟩)
          clear S9 F9 HF HS
          go_wp2
          go_ret
          exact HH.out
         ·refine (hV _ _ _ (some (kv, s7)) (fun b hb => Nat.lt_of_lt_of_le (hA b hb) HF.out.size) HS.out h7).mono ?_
          rintro e w7 ⟨⟨kvx, rfl, hkvx⟩, S7, F7⟩
          obtain rfl : kvx = ((kv : Nat) : Int) := hkvx kv rfl
          clear HX
          have HX := hidOf hr7
          clear h7 hr7 hkvx
          have FF7 := HF.out.trans F7
          clear HF HS
          have HF := hidOf FF7
          have HS := hidOf S7
          clear FF7 S7 F7
          go_wp2_with fail
          rcases bnd_some HX.out with ⟨h8, rfl⟩ | ⟨u2, s8, h8, hr8⟩
          ·refine (sWants (o := none) HS.out hX (hM (⟨#[41]⟩ : ByteArray) (by decide)) h8).mono ?_
           rintro e w8 ⟨rfl, S8, F8⟩
           clear HX h8
           have FF8 := HF.out.trans F8
           clear HF HS
           have HF := hidOf FF8
           have HS := hidOf S8
           clear FF8 S8 F8
           have B9 : Below w8.heap.size w8 (w8.alloc (.cells #[.int .i64 ((kv : Nat) : Int)] tI)) := (Below.refl _ _).alloc (Nat.le_refl _) _
           have R9 : SR B g xs (And1 A (.slice (some ⟨w8.heap.size, 0, none⟩) 1 1)) (w8.alloc (.cells #[.int .i64 ((kv : Nat) : Int)] tI)) none := (SR.avoid (A' := And1 A (.slice (some ⟨w8.heap.size, 0, none⟩) 1 1)) (t := none) HS.out (fun k hk => hk.imp_right (fun e => by injection e with e; show w8.heap.size ≤ k; exact Nat.le_of_eq e))).below B9
           have o9 : (w8.alloc (.cells #[.int .i64 ((kv : Nat) : Int)] tI)).ownsRow w.heap.size tI 1 (.slice (some ⟨w8.heap.size, 0, none⟩) 1 1) 1 (intVals [((kv : Nat) : Int)]) := World.ownsRow_lit w8 #[.int .i64 ((kv : Nat) : Int)] 1 HF.out.size (by decide) rfl
           have FF9 := HF.out.trans (Fr.ofB (B := B) B9 (SR.base (t := none) HS.out))
           clear HF HS
           have HF := hidOf FF9
           have HS := hidOf R9
           have HP := hidOf o9
           clear FF9 R9 o9 B9
           go_wp2_with fail
           refine (sPut (o := none) 11 ByteArray.empty [((kv : Nat) : Int)] (some ⟨w8.heap.size, 0, none⟩) 1 (SR.avoid (t := none) HS.out (fun k hk => .inl (.inl hk))) (ownsRow_base HP.out hbase) (fun b hb hb2 => by have h7 := (HP.out.lt b hb).1; have h8 := hA b hb2; omega) rfl).mono ?_
           rintro e we ⟨⟨k9, rfl, hk9⟩, S9, F9⟩
           have HH := hidOf (show PostS B g xs A w VNs _ (.returned (.int .i64 k9)) we from ⟨⟨k9, rfl, hk9⟩, S9, HF.out.trans F9⟩)
           clear S9 F9 HF HS
           go_wp2
           go_ret
           exact HH.out
          ·refine (sWants (o := (some (u2, s8))) HS.out hX (hM (⟨#[41]⟩ : ByteArray) (by decide)) h8).mono ?_
           rintro e w8 ⟨rfl, S8, F8⟩
           clear HX
           have HX := hidOf hr8
           clear h8 hr8
           have FF8 := HF.out.trans F8
           clear HF HS
           have HF := hidOf FF8
           have HS := hidOf S8
           clear FF8 S8 F8
           have B9 : Below w8.heap.size w8 (w8.alloc (.cells #[.int .i64 ((kv : Nat) : Int)] tI)) := (Below.refl _ _).alloc (Nat.le_refl _) _
           have R9 : SR B g xs (And1 A (.slice (some ⟨w8.heap.size, 0, none⟩) 1 1)) (w8.alloc (.cells #[.int .i64 ((kv : Nat) : Int)] tI)) (some s8) := (SR.avoid (A' := And1 A (.slice (some ⟨w8.heap.size, 0, none⟩) 1 1)) (t := (some s8)) HS.out (fun k hk => hk.imp_right (fun e => by injection e with e; show w8.heap.size ≤ k; exact Nat.le_of_eq e))).below B9
           have o9 : (w8.alloc (.cells #[.int .i64 ((kv : Nat) : Int)] tI)).ownsRow w.heap.size tI 1 (.slice (some ⟨w8.heap.size, 0, none⟩) 1 1) 1 (intVals [((kv : Nat) : Int)]) := World.ownsRow_lit w8 #[.int .i64 ((kv : Nat) : Int)] 1 HF.out.size (by decide) rfl
           have FF9 := HF.out.trans (Fr.ofB (B := B) B9 (SR.base (t := (some s8)) HS.out))
           clear HF HS
           have HF := hidOf FF9
           have HS := hidOf R9
           have HP := hidOf o9
           clear FF9 R9 o9 B9
           go_wp2_with fail
           refine (sPut (o := o) 11 ByteArray.empty [((kv : Nat) : Int)] (some ⟨w8.heap.size, 0, none⟩) 1 (SR.avoid (t := some s8) HS.out (fun k hk => .inl (.inl hk))) (ownsRow_base HP.out hbase) (fun b hb hb2 => by have h7 := (HP.out.lt b hb).1; have h8 := hA b hb2; omega) HX.out).mono ?_
           rintro e we ⟨⟨k9, rfl, hk9⟩, S9, F9⟩
           have HH := hidOf (show PostS B g xs A w VNs _ (.returned (.int .i64 k9)) we from ⟨⟨k9, rfl, hk9⟩, S9, HF.out.trans F9⟩)
           clear S9 F9 HF HS
           go_wp2
           go_ret
           exact HH.out
        ·have hx := HX.out
         rw [if_neg ht] at hx
         clear HX
         have HX := hidOf hx
         clear hx
         obtain rfl : none = o := by
          have := HX.out
          injection this
         refine (sWants (o := none) (t := some s) HS.out hX (hM (⟨#[40]⟩ : ByteArray) (by decide)) (show wantP xs (⟨#[40]⟩ : ByteArray) s = _ by unfold wantP; rw [if_neg ht])).mono ?_
         clear ht HX
         rintro e w6 ⟨rfl, S6, F6⟩
         have FF6 := HF.out.trans F6
         clear HF HS
         have HF := hidOf FF6
         have HS := hidOf S6
         clear FF6 S6 F6
         obtain ⟨s9, h9, hd9⟩ := (show SR B g xs A w6 none from HS.out)
         obtain ⟨sa, sc, na, nc, -, -, c2, -, -, -⟩ := h9.cells
         clear h9 hd9
         go_wp2
         go_ret
         exact ⟨⟨_, rfl, fun a ha => by cases ha⟩, HS.out, HF.out⟩
      ·obtain rfl : o = none := base_path (hM (⟨#[91]⟩ : ByteArray) (by decide)) (hM (⟨#[40]⟩ : ByteArray) (by decide)) htp hno hpath HR0.out
       have hnm : namesP xs s = some none := by
        cases hq : namesP xs s with
        | none => exact absurd hq (fin_names (xs := xs) (s := s)).told
        | some o9 => rw [names_path (hM (⟨#[41]⟩ : ByteArray) (by decide)) hpath hq]
       rw [hcase] at qA
       clear HX HR0
       refine qA.mono ?_
       clear qA hcase
       rintro e w5 ⟨rfl, B5⟩
       have S5 := SR.below (t := (some s)) HS.out B5
       have FF5 := HF.out.trans (Fr.ofB (B := B) B5 (SR.base (t := (some s)) HS.out))
       clear HF HS
       have HF := hidOf FF5
       have HS := hidOf S5
       clear FF5 S5 B5
       go_wp2_with fail
       refine (sNames (o := none) (t := some s) HS.out hX hM (fun b hb => Nat.lt_of_lt_of_le (hA b hb) HF.out.size) hnm).mono ?_
       rintro e w6 ⟨a6, c6, ks6, rfl, o6, S6, F6, hl6, -⟩
       have o6 := ownsRow_base o6 HF.out.size
       have F6 := HF.out.trans F6
       clear HF HS hnm
       have HF := hidOf F6
       have HS := hidOf S6
       have HP := hidOf o6
       clear F6 S6 o6
       go_wp2_with fail
       refine (sWants (o := none) HS.out hX (hM (⟨#[61, 62]⟩ : ByteArray) (by decide)) rfl).mono ?_
       rintro e w7 ⟨rfl, S7, F7⟩
       have o7 := F7.ints HP.out
       have FF7 := HF.out.trans F7
       clear HF HS HP
       have HF := hidOf FF7
       have HS := hidOf S7
       have HP := hidOf o7
       clear FF7 S7 F7 o7
       go_wp2_with fail
       refine (hP _ _ _ none (And1.lt hA HF.out.size HP.out) HS.out rfl).mono ?_
       rintro e w8 ⟨⟨kpx, rfl, -⟩, S8, F8⟩
       have o8 := F8.ints HP.out
       have FF8 := HF.out.trans F8
       clear HF HS HP
       have HF := hidOf FF8
       have HS := hidOf S8
       have HP := hidOf o8
       clear FF8 S8 F8 o8
       have hs9 := HF.out.size
       go_wp2_with (at_builtin; refine wpList_append_own2 rfl _ _ 57 rfl w.heap.size 3 i0 _ 1 8 Tryz.underlying57 hi hz0 hz1 hz2 rfl (by decide) (.slice a6 ks6.length c6) (ks6.length) (intVals ks6) rfl (HP.out.alloc _) ⟨w8.heap.size, 0, none⟩ 1 1 [.int .i64 kpx] rfl rfl (cell_one_new _ _ _) (by simp [Value.oneCell']) (by unfold maxLen; omega) (by omega) (by simp; omega) ?_; intro v' w9 hown' hgrow5 hpl5)
       have B9 : Below w8.heap.size w8 (w8.alloc (.cells #[.int .i64 kpx] tI)) := (Below.refl _ _).alloc (Nat.le_refl _) _
       have FF9 := (HF.out.trans (Fr.ofB (B := B) B9 (SR.base (t := none) HS.out))).growI hbase hgrow5 (fun b hb => (HP.out.lt b hb).1)
       have R9 := (SR.below (t := none) HS.out B9).growI (A' := And1 A v') (HP.out.alloc _) hgrow5 (fun b hb => .inr hb) (fun b hb => by
        rcases hb with hb | hb
        ·exact .inl (.inl hb)
        ·rcases hpl5 b hb with h6 | h6
         ·exact .inl (.inr h6)
         ·exact .inr h6)
       have o9 := own_app (ks := ks6) (k := kpx) hown' rfl
       clear hown' hgrow5 hpl5 HF HS HP hs9 B9
       obtain ⟨ao9, cc9, rfl⟩ := owns_slice o9
       have HF := hidOf FF9
       have HS := hidOf R9
       have HP := hidOf o9
       clear FF9 R9 o9
       refine (sPut (o := none) 9 ByteArray.empty (ks6 ++ [kpx]) (ao9) cc9 (SR.avoid (t := none) HS.out (fun k hk => .inl (.inl hk))) (ownsRow_base HP.out hbase) (fun b hb hb2 => by have h7 := (HP.out.lt b hb).1; have h8 := hA b hb2; omega) rfl).mono ?_
       rintro e we ⟨⟨k9, rfl, hk9⟩, S9, F9⟩
       have HH := hidOf (show PostS B g xs A w VNs _ (.returned (.int .i64 k9)) we from ⟨⟨k9, rfl, hk9⟩, S9, HF.out.trans F9⟩)
       clear S9 F9 HF HS
       go_wp2
       go_ret
       exact HH.out
end
end Go.Proofs.YtcbbnphpkgifoaaGreatDoor
