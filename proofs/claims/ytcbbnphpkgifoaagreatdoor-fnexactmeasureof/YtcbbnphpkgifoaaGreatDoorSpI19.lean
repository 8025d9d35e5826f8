/- Members and classes: the specification's reader. -/
import Derived.Test.YtcbbnphpkgifoaaGreatDoorSpI18
namespace Go.Proofs.YtcbbnphpkgifoaaGreatDoor
open Go.RowKit
set_option maxHeartbeats 8000000
set_option maxRecDepth 100000
def ReadsSB (B g : Nat) (xs : List Sg) (K : Nat) (b : Bool) (O : Ps → Rs Nat) : Prop := ∀ (A : Nat → Prop) (W : World) (t : Option Ps) (o : Option (Nat × Ps)), (∀ b, A b → b < W.heap.size) → SR B g xs A W t → Told O t o → Calls Tryz.prog K #[.pointer (some ⟨g, 0, none⟩), .bool b] W (PostS B g xs A W VNs o)
section
variable {B g : Nat} {xs : List Sg} {A : Nat → Prop} {w : World} {t : Option Ps}
theorem stR (hX : xs.length ≤ 3000) (hM : Marks xs) (hWd : Words xs) : ∀ (n : Nat), ReadsS B g xs 140 (stF xs n)
 | 0 => fun A W t o hA h hr => by
  match t, h, hr with
  | none, h, hr =>
   obtain rfl : o = none := hr
   exact sStepN h hX hM hA (val_readsS hX hM)
  | some s, h, hr => exact absurd (show (none : Rs Nat) = some o from hr) (by simp)
 | n + 1 => fun _ _ _ _ hA h hr => sStep h hX hM hWd hA (val_readsS hX hM) (fun _ _ _ _ hA h hr => sBlock h hX hM hA (stR hX hM hWd n) (dp_st n) hr) hr
theorem blkR (hX : xs.length ≤ 3000) (hM : Marks xs) (hWd : Words xs) : ReadsS B g xs 99 (blkP xs) := fun _ _ _ _ hA h hr => sBlock h hX hM hA (stR hX hM hWd (lim xs)) (dp_st (lim xs)) hr
theorem sMemb {o : Option (Nat × Ps)} (h : SR B g xs A w t) (hX : xs.length ≤ 3000) (hM : Marks xs) (hWd : Words xs) (hA : ∀ b, A b → b < w.heap.size) (hV : ReadsS B g xs 139 (valP xs)) (hBk : ReadsS B g xs 99 (blkP xs)) (hr : Told (membP xs) t o) : Calls Tryz.prog 59 #[.pointer (some ⟨g, 0, none⟩), .bool false] w (PostS B g xs A w VNs o) := by
 obtain ⟨i0, hi, hz0, hz1, hz2⟩ := info_parts infoI1
 have hbase := h.base
 have HF := hidOf (Fr.refl B w)
 match t, h, hr with
 | none, h, hr =>
  obtain rfl : o = none := hr
  have HS := hidOf h
  clear h hr
  go_enter Tryz.func59, Tryz.ntmps59
  go_wp2_with fail
  refine (sKind (t := none) HS.out 5 (.inr (.inr (.inr rfl)))).mono ?_
  rintro e w1 ⟨rfl, m1, hm1⟩
  have B1 : Below w.heap.size w w1 := by rw [hm1]; exact drewN_below _ _
  clear hm1
  have S1 := SR.below (t := none) HS.out B1
  have FF1 := HF.out.trans (Fr.ofB (B := B) B1 (SR.base (t := none) HS.out))
  clear HF HS
  have HF := hidOf FF1
  have HS := hidOf S1
  clear FF1 S1 B1
  go_wp2_with fail
  refine (sWordN (t := none) HS.out rfl).mono ?_
  rintro e w2 ⟨rfl, B2⟩
  have S2 := SR.below (t := none) HS.out B2
  have FF2 := HF.out.trans (Fr.ofB (B := B) B2 (SR.base (t := none) HS.out))
  clear HF HS
  have HF := hidOf FF2
  have HS := hidOf S2
  clear FF2 S2 B2
  go_wp2_with fail
  refine (sName (o := none) HS.out hX rfl).mono ?_
  rintro e w3 ⟨⟨nmx, rfl, -⟩, S3, F3⟩
  have FF3 := HF.out.trans F3
  clear HF HS
  have HF := hidOf FF3
  have HS := hidOf S3
  clear FF3 S3 F3
  go_wp2_with fail
  refine (sNames (o := none) (t := none) HS.out hX hM (fun b hb => Nat.lt_of_lt_of_le (hA b hb) HF.out.size) rfl).mono ?_
  rintro e w4 ⟨a4, c4, ks4, rfl, o4, S4, F4, hl4, -⟩
  have o4 := ownsRow_base o4 HF.out.size
  have F4 := HF.out.trans F4
  clear HF HS
  have HF := hidOf F4
  have HS := hidOf S4
  have HP := hidOf o4
  clear F4 S4 o4
  go_wp2_with fail
  refine (hBk _ _ _ none (And1.lt hA HF.out.size HP.out) HS.out rfl).mono ?_
  rintro e w5 ⟨⟨bx, rfl, -⟩, S5, F5⟩
  have o5 := F5.ints HP.out
  have FF5 := HF.out.trans F5
  clear HF HS HP
  have HF := hidOf FF5
  have HS := hidOf S5
  have HP := hidOf o5
  clear FF5 S5 F5 o5
  have hs6 := HF.out.size
  go_wp2_with (at_builtin; refine wpList_append_own2 rfl _ _ 57 rfl w.heap.size 3 i0 _ 1 8 Tryz.underlying57 hi hz0 hz1 hz2 rfl (by decide) (.slice a4 ks4.length c4) (ks4.length) (intVals ks4) rfl (HP.out.alloc _) ⟨w5.heap.size, 0, none⟩ 1 1 [.int .i64 bx] rfl rfl (cell_one_new _ _ _) (by simp [Value.oneCell']) (by unfold maxLen; omega) (by omega) (by simp; omega) ?_; intro v' w6 hown' hgrow5 hpl5)
  have B6 : Below w5.heap.size w5 (w5.alloc (.cells #[.int .i64 bx] tI)) := (Below.refl _ _).alloc (Nat.le_refl _) _
  have FF6 := (HF.out.trans (Fr.ofB (B := B) B6 (SR.base (t := none) HS.out))).growI hbase hgrow5 (fun b hb => (HP.out.lt b hb).1)
  have R6 := (SR.below (t := none) HS.out B6).growI (A' := And1 A v') (HP.out.alloc _) hgrow5 (fun b hb => .inr hb) (fun b hb => by
   rcases hb with hb | hb
   ·exact .inl (.inl hb)
   ·rcases hpl5 b hb with h6 | h6
    ·exact .inl (.inr h6)
    ·exact .inr h6)
  have o6 := own_app (ks := ks4) (k := bx) hown' rfl
  clear hown' hgrow5 hpl5 HF HS HP hs6 B6
  obtain ⟨ao6, cc6, rfl⟩ := owns_slice o6
  have HF := hidOf FF6
  have HS := hidOf R6
  have HP := hidOf o6
  clear FF6 R6 o6
  refine (sPut (o := none) 20 nmx (ks4 ++ [bx]) (ao6) cc6 (SR.avoid (t := none) HS.out (fun k hk => .inl (.inl hk))) (ownsRow_base HP.out hbase) (fun b hb hb2 => by have h7 := (HP.out.lt b hb).1; have h8 := hA b hb2; omega) rfl).mono ?_
  rintro e we ⟨⟨k9, rfl, hk9⟩, S9, F9⟩
  have HH := hidOf (show PostS B g xs A w VNs _ (.returned (.int .i64 k9)) we from ⟨⟨k9, rfl, hk9⟩, S9, HF.out.trans F9⟩)
  clear S9 F9 HF HS
  go_wp2
  go_ret
  exact HH.out
 | some s, h, hr =>
  have hr2 : membP xs s = some o := hr
  unfold membP at hr2
  have HX := hidOf hr2
  have HS := hidOf h
  clear h hr hr2
  go_enter Tryz.func59, Tryz.ntmps59
  go_wp2_with fail
  by_cases hc : knd xs s.p = 5
  ·have qK := sKind (t := some s) HS.out 5 (.inr (.inr (.inr rfl)))
   rw [show kdP xs (some s) 5 = true from kd0_yes hc] at qK
   have hx := HX.out
   rw [if_pos hc] at hx
   clear HX
   have HX := hidOf hx
   clear hx
   refine qK.mono ?_
   clear qK
   rintro e w1 ⟨rfl, m1, hm1⟩
   have B1 : Below w.heap.size w w1 := by rw [hm1]; exact drewN_below _ _
   clear hm1
   have S1 := SR.below (t := (some s)) HS.out B1
   have FF1 := HF.out.trans (Fr.ofB (B := B) B1 (SR.base (t := (some s)) HS.out))
   clear HF HS
   have HF := hidOf FF1
   have HS := hidOf S1
   clear FF1 S1 B1
   have HC := hidOf hc
   clear hc
   go_wp2_with fail
   have qT := sText (o := some (txt xs s.p, s.next)) (t := some s) 5 (.inr (.inr (.inr rfl))) HS.out hX (text_yes (kd0_yes HC.out))
   have hx : addP 19 (txt xs s.p) [] s.next = some o := HX.out
   clear HX
   have HX := hidOf hx
   clear hx
   refine qT.mono ?_
   clear qT
   rintro e w2 ⟨⟨tx, rfl, htx⟩, S2, F2⟩
   obtain rfl : tx = txt xs s.p := htx _ rfl
   clear htx
   have FF2 := HF.out.trans F2
   clear HF HS
   have HF := hidOf FF2
   have HS := hidOf S2
   clear FF2 S2 F2
   obtain ⟨ux, hux⟩ : ∃ ux, ux = (txt xs s.p) := ⟨_, rfl⟩
   rw [← hux] at HX ⊢
   clear hux
   have B3 : Below w2.heap.size w2 (w2.alloc (.cells #[] tI)) := (Below.refl _ _).alloc (Nat.le_refl _) _
   have R3 : SR B g xs (And1 A (.slice (some ⟨w2.heap.size, 0, none⟩) 0 0)) (w2.alloc (.cells #[] tI)) (some s.next) := (SR.avoid (A' := And1 A (.slice (some ⟨w2.heap.size, 0, none⟩) 0 0)) (t := (some s.next)) HS.out (fun k hk => hk.imp_right (fun e => by injection e with e; show w2.heap.size ≤ k; exact Nat.le_of_eq e))).below B3
   have o3 : (w2.alloc (.cells #[] tI)).ownsRow w.heap.size tI 1 (.slice (some ⟨w2.heap.size, 0, none⟩) 0 0) 0 (intVals ([] : List Int)) := World.ownsRow_lit w2 #[] 0 HF.out.size (by decide) rfl
   have FF3 := HF.out.trans (Fr.ofB (B := B) B3 (SR.base (t := (some s.next)) HS.out))
   clear HF HS
   have HF := hidOf FF3
   have HS := hidOf R3
   have HP := hidOf o3
   clear FF3 R3 o3 B3
   go_wp2_with fail
   refine (sPut (o := o) 19 ux ([] : List Int) (some ⟨w2.heap.size, 0, none⟩) 0 (SR.avoid (t := some s.next) HS.out (fun k hk => .inl (.inl hk))) (ownsRow_base HP.out hbase) (fun b hb hb2 => by have h7 := (HP.out.lt b hb).1; have h8 := hA b hb2; omega) HX.out).mono ?_
   rintro e we ⟨⟨k9, rfl, hk9⟩, S9, F9⟩
   have HH := hidOf (show PostS B g xs A w VNs _ (.returned (.int .i64 k9)) we from ⟨⟨k9, rfl, hk9⟩, S9, HF.out.trans F9⟩)
   clear S9 F9 HF HS
   go_wp2
   go_ret
   exact HH.out
  ·have qK := sKind (t := some s) HS.out 5 (.inr (.inr (.inr rfl)))
   rw [show kdP xs (some s) 5 = false from kd0_no hc] at qK
   have hx := HX.out
   rw [if_neg hc] at hx
   clear HX
   have HX := hidOf hx
   clear hx
   refine qK.mono ?_
   clear qK
   rintro e w1 ⟨rfl, m1, hm1⟩
   have B1 : Below w.heap.size w w1 := by rw [hm1]; exact drewN_below _ _
   clear hm1
   have S1 := SR.below (t := (some s)) HS.out B1
   have FF1 := HF.out.trans (Fr.ofB (B := B) B1 (SR.base (t := (some s)) HS.out))
   clear HF HS
   have HF := hidOf FF1
   have HS := hidOf S1
   clear FF1 S1 B1
   clear hc
   go_wp2_with fail
   by_cases ht : txt xs s.p = (⟨#[118, 97, 114]⟩ : ByteArray)
   ·have hx := HX.out
    rw [if_pos ht] at hx
    clear HX
    have HX := hidOf hx
    clear hx
    refine (sWordY (s := s) HS.out hX (by rw [isP_word hWd (by decide)]; exact decide_eq_true ht)).mono ?_
    clear ht
    rintro e w2 ⟨rfl, S2, F2⟩
    have FF2 := HF.out.trans F2
    clear HF HS
    have HF := hidOf FF2
    have HS := hidOf S2
    clear FF2 S2 F2
    go_wp2_with fail
    refine (sVar (o := o) HS.out hX hM (fun b hb => Nat.lt_of_lt_of_le (hA b hb) HF.out.size) hV HX.out).mono ?_
    rintro e we ⟨⟨k9, rfl, hk9⟩, S9, F9⟩
    have HH := hidOf (show PostS B g xs A w VNs _ (.returned (.int .i64 k9)) we from ⟨⟨k9, rfl, hk9⟩, S9, HF.out.trans F9⟩)
    clear S9 F9 HF HS
    go_wp2
    go_ret
    exact HH.out
   ·have hx := HX.out
    rw [if_neg ht] at hx
    clear HX
    have HX := hidOf hx
    clear hx
    refine (sWordN (t := some s) HS.out (by rw [isP_word hWd (by decide)]; exact decide_eq_false ht)).mono ?_
    rintro e w2 ⟨rfl, B2⟩
    have S2 := SR.below (t := (some s)) HS.out B2
    have FF2 := HF.out.trans (Fr.ofB (B := B) B2 (SR.base (t := (some s)) HS.out))
    clear HF HS
    have HF := hidOf FF2
    have HS := hidOf S2
    clear FF2 S2 B2
    clear ht
    go_wp2_with fail
    have hx := HX.out
    unfold methP at hx
    clear HX
    have HX := hidOf hx
    clear hx
    rcases bnd_some HX.out with ⟨h3, rfl⟩ | ⟨nm, s3, h3, hr3⟩
    ·refine (sName (o := none) HS.out hX h3).mono ?_
     rintro e w3 ⟨⟨nmx, rfl, -⟩, S3, F3⟩
     clear HX h3
     have FF3 := HF.out.trans F3
     clear HF HS
     have HF := hidOf FF3
     have HS := hidOf S3
     clear FF3 S3 F3
     go_wp2_with fail
     refine (sNames (o := none) (t := none) HS.out hX hM (fun b hb => Nat.lt_of_lt_of_le (hA b hb) HF.out.size) rfl).mono ?_
     rintro e w4 ⟨a4, c4, ks4, rfl, o4, S4, F4, hl4, -⟩
     have o4 := ownsRow_base o4 HF.out.size
     have F4 := HF.out.trans F4
     clear HF HS
     have HF := hidOf F4
     have HS := hidOf S4
     have HP := hidOf o4
     clear F4 S4 o4
     go_wp2_with fail
     refine (hBk _ _ _ none (And1.lt hA HF.out.size HP.out) HS.out rfl).mono ?_
     rintro e w5 ⟨⟨bx, rfl, -⟩, S5, F5⟩
     have o5 := F5.ints HP.out
     have FF5 := HF.out.trans F5
     clear HF HS HP
     have HF := hidOf FF5
     have HS := hidOf S5
     have HP := hidOf o5
     clear FF5 S5 F5 o5
     have hs6 := HF.out.size
     go_wp2_with (at_builtin; refine wpList_append_own2 rfl _ _ 57 rfl w.heap.size 3 i0 _ 1 8 Tryz.underlying57 hi hz0 hz1 hz2 rfl (by decide) (.slice a4 ks4.length c4) (ks4.length) (intVals ks4) rfl (HP.out.alloc _) ⟨w5.heap.size, 0, none⟩ 1 1 [.int .i64 bx] rfl rfl (cell_one_new _ _ _) (by simp [Value.oneCell']) (by unfold maxLen; omega) (by omega) (by simp; omega) ?_; intro v' w6 hown' hgrow5 hpl5)
     have B6 : Below w5.heap.size w5 (w5.alloc (.cells #[.int .i64 bx] tI)) := (Below.refl _ _).alloc (Nat.le_refl _) _
     have FF6 := (HF.out.trans (Fr.ofB (B := B) B6 (SR.base (t := none) HS.out))).growI hbase hgrow5 (fun b hb => (HP.out.lt b hb).1)
     have R6 := (SR.below (t := none) HS.out B6).growI (A' := And1 A v') (HP.out.alloc _) hgrow5 (fun b hb => .inr hb) (fun b hb => by
      rcases hb with hb | hb
      ·exact .inl (.inl hb)
      ·rcases hpl5 b hb with h6 | h6
       ·exact .inl (.inr h6)
       ·exact .inr h6)
     have o6 := own_app (ks := ks4) (k := bx) hown' rfl
     clear hown' hgrow5 hpl5 HF HS HP hs6 B6
     obtain ⟨ao6, cc6, rfl⟩ := owns_slice o6
     have HF := hidOf FF6
     have HS := hidOf R6
     have HP := hidOf o6
     clear FF6 R6 o6
     refine (sPut (o := none) 20 nmx (ks4 ++ [bx]) (ao6) cc6 (SR.avoid (t := none) HS.out (fun k hk => .inl (.inl hk))) (ownsRow_base HP.out hbase) (fun b hb hb2 => by have h7 := (HP.out.lt b hb).1; have h8 := hA b hb2; omega) rfl).mono ?_
     rintro e we ⟨⟨k9, rfl, hk9⟩, S9, F9⟩
     have HH := hidOf (show PostS B g xs A w VNs _ (.returned (.int .i64 k9)) we from ⟨⟨k9, rfl, hk9⟩, S9, HF.out.trans F9⟩)
     clear S9 F9 HF HS
     go_wp2
     go_ret
     exact HH.out
    ·refine (sName (o := (some (nm, s3))) HS.out hX h3).mono ?_
     rintro e w3 ⟨⟨nmx, rfl, hnmx⟩, S3, F3⟩
     obtain rfl : nmx = nm := hnmx nm rfl
     clear HX
     have HX := hidOf hr3
     clear h3 hr3 hnmx
     have FF3 := HF.out.trans F3
     clear HF HS
     have HF := hidOf FF3
     have HS := hidOf S3
     clear FF3 S3 F3
     go_wp2_with fail
     rcases bnd_some HX.out with ⟨h4, rfl⟩ | ⟨l4, s4, h4, hr4⟩
     ·refine (sNames (o := none) (t := some s3) HS.out hX hM (fun b hb => Nat.lt_of_lt_of_le (hA b hb) HF.out.size) h4).mono ?_
      rintro e w4 ⟨a4, c4, ks4, rfl, o4, S4, F4, hl4, -⟩
      clear HX h4
      have o4 := ownsRow_base o4 HF.out.size
      have F4 := HF.out.trans F4
      clear HF HS
      have HF := hidOf F4
      have HS := hidOf S4
      have HP := hidOf o4
      clear F4 S4 o4
      go_wp2_with fail
      refine (hBk _ _ _ none (And1.lt hA HF.out.size HP.out) HS.out rfl).mono ?_
      rintro e w5 ⟨⟨bx, rfl, -⟩, S5, F5⟩
      have o5 := F5.ints HP.out
      have FF5 := HF.out.trans F5
      clear HF HS HP
      have HF := hidOf FF5
      have HS := hidOf S5
      have HP := hidOf o5
      clear FF5 S5 F5 o5
      have hs6 := HF.out.size
      go_wp2_with (at_builtin; refine wpList_append_own2 rfl _ _ 57 rfl w.heap.size 3 i0 _ 1 8 Tryz.underlying57 hi hz0 hz1 hz2 rfl (by decide) (.slice a4 ks4.length c4) (ks4.length) (intVals ks4) rfl (HP.out.alloc _) ⟨w5.heap.size, 0, none⟩ 1 1 [.int .i64 bx] rfl rfl (cell_one_new _ _ _) (by simp [Value.oneCell']) (by unfold maxLen; omega) (by omega) (by simp; omega) ?_; intro v' w6 hown' hgrow5 hpl5)
      have B6 : Below w5.heap.size w5 (w5.alloc (.cells #[.int .i64 bx] tI)) := (Below.refl _ _).alloc (Nat.le_refl _) _
      have FF6 := (HF.out.trans (Fr.ofB (B := B) B6 (SR.base (t := none) HS.out))).growI hbase hgrow5 (fun b hb => (HP.out.lt b hb).1)
      have R6 := (SR.below (t := none) HS.out B6).growI (A' := And1 A v') (HP.out.alloc _) hgrow5 (fun b hb => .inr hb) (fun b hb => by
       rcases hb with hb | hb
       ·exact .inl (.inl hb)
       ·rcases hpl5 b hb with h6 | h6
        ·exact .inl (.inr h6)
        ·exact .inr h6)
      have o6 := own_app (ks := ks4) (k := bx) hown' rfl
      clear hown' hgrow5 hpl5 HF HS HP hs6 B6
      obtain ⟨ao6, cc6, rfl⟩ := owns_slice o6
      have HF := hidOf FF6
      have HS := hidOf R6
      have HP := hidOf o6
      clear FF6 R6 o6
      refine (sPut (o := none) 20 nmx (ks4 ++ [bx]) (ao6) cc6 (SR.avoid (t := none) HS.out (fun k hk => .inl (.inl hk))) (ownsRow_base HP.out hbase) (fun b hb hb2 => by have h7 := (HP.out.lt b hb).1; have h8 := hA b hb2; omega) rfl).mono ?_
      rintro e we ⟨⟨k9, rfl, hk9⟩, S9, F9⟩
      have HH := hidOf (show PostS B g xs A w VNs _ (.returned (.int .i64 k9)) we from ⟨⟨k9, rfl, hk9⟩, S9, HF.out.trans F9⟩)
      clear S9 F9 HF HS
      go_wp2
      go_ret
      exact HH.out
     ·refine (sNames (o := some (l4, s4)) (t := some s3) HS.out hX hM (fun b hb => Nat.lt_of_lt_of_le (hA b hb) HF.out.size) h4).mono ?_
      rintro e w4 ⟨a4, c4, ks4, rfl, o4, S4, F4, hl4, hk4⟩
      obtain rfl : ks4 = l4 := hk4 l4 s4 rfl
      clear HX
      have HX := hidOf hr4
      clear h4 hr4 hk4
      have o4 := ownsRow_base o4 HF.out.size
      have F4 := HF.out.trans F4
      clear HF HS
      have HF := hidOf F4
      have HS := hidOf S4
      have HP := hidOf o4
      clear F4 S4 o4
      go_wp2_with fail
      rcases bnd_some HX.out with ⟨h5, rfl⟩ | ⟨b, s5, h5, hr5⟩
      ·refine (hBk _ _ _ none (And1.lt hA HF.out.size HP.out) HS.out h5).mono ?_
       rintro e w5 ⟨⟨bx, rfl, -⟩, S5, F5⟩
       clear HX h5
       have o5 := F5.ints HP.out
       have FF5 := HF.out.trans F5
       clear HF HS HP
       have HF := hidOf FF5
       have HS := hidOf S5
       have HP := hidOf o5
       clear FF5 S5 F5 o5
       have hs6 := HF.out.size
       go_wp2_with (at_builtin; refine wpList_append_own2 rfl _ _ 57 rfl w.heap.size 3 i0 _ 1 8 Tryz.underlying57 hi hz0 hz1 hz2 rfl (by decide) (.slice a4 ks4.length c4) (ks4.length) (intVals ks4) rfl (HP.out.alloc _) ⟨w5.heap.size, 0, none⟩ 1 1 [.int .i64 bx] rfl rfl (cell_one_new _ _ _) (by simp [Value.oneCell']) (by unfold maxLen; omega) (by omega) (by simp; omega) ?_; intro v' w6 hown' hgrow5 hpl5)
       have B6 : Below w5.heap.size w5 (w5.alloc (.cells #[.int .i64 bx] tI)) := (Below.refl _ _).alloc (Nat.le_refl _) _
       have FF6 := (HF.out.trans (Fr.ofB (B := B) B6 (SR.base (t := none) HS.out))).growI hbase hgrow5 (fun b hb => (HP.out.lt b hb).1)
       have R6 := (SR.below (t := none) HS.out B6).growI (A' := And1 A v') (HP.out.alloc _) hgrow5 (fun b hb => .inr hb) (fun b hb => by
        rcases hb with hb | hb
        ·exact .inl (.inl hb)
        ·rcases hpl5 b hb with h6 | h6
         ·exact .inl (.inr h6)
         ·exact .inr h6)
       have o6 := own_app (ks := ks4) (k := bx) hown' rfl
       clear hown' hgrow5 hpl5 HF HS HP hs6 B6
       obtain ⟨ao6, cc6, rfl⟩ := owns_slice o6
       have HF := hidOf FF6
       have HS := hidOf R6
       have HP := hidOf o6
       clear FF6 R6 o6
       refine (sPut (o := none) 20 nmx (ks4 ++ [bx]) (ao6) cc6 (SR.avoid (t := none) HS.out (fun k hk => .inl (.inl hk))) (ownsRow_base HP.out hbase) (fun b hb hb2 => by have h7 := (HP.out.lt b hb).1; have h8 := hA b hb2; omega) rfl).mono ?_
       rintro e we ⟨⟨k9, rfl, hk9⟩, S9, F9⟩
       have HH := hidOf (show PostS B g xs A w VNs _ (.returned (.int .i64 k9)) we from ⟨⟨k9, rfl, hk9⟩, S9, HF.out.trans F9⟩)
       clear S9 F9 HF HS
       go_wp2
       go_ret
       exact HH.out
      ·refine (hBk _ _ _ (some (b, s5)) (And1.lt hA HF.out.size HP.out) HS.out h5).mono ?_
       rintro e w5 ⟨⟨bx, rfl, hbx⟩, S5, F5⟩
       obtain rfl : bx = ((b : Nat) : Int) := hbx b rfl
       clear HX
       have HX := hidOf hr5
       clear h5 hr5 hbx
       have o5 := F5.ints HP.out
       have FF5 := HF.out.trans F5
       clear HF HS HP
       have HF := hidOf FF5
       have HS := hidOf S5
       have HP := hidOf o5
       clear FF5 S5 F5 o5
       have hs6 := HF.out.size
       go_wp2_with (at_builtin; refine wpList_append_own2 rfl _ _ 57 rfl w.heap.size 3 i0 _ 1 8 Tryz.underlying57 hi hz0 hz1 hz2 rfl (by decide) (.slice a4 ks4.length c4) (ks4.length) (intVals ks4) rfl (HP.out.alloc _) ⟨w5.heap.size, 0, none⟩ 1 1 [.int .i64 ((b : Nat) : Int)] rfl rfl (cell_one_new _ _ _) (by simp [Value.oneCell']) (by unfold maxLen; omega) (by omega) (by simp; omega) ?_; intro v' w6 hown' hgrow5 hpl5)
       have B6 : Below w5.heap.size w5 (w5.alloc (.cells #[.int .i64 ((b : Nat) : Int)] tI)) := (Below.refl _ _).alloc (Nat.le_refl _) _
       have FF6 := (HF.out.trans (Fr.ofB (B := B) B6 (SR.base (t := (some s5)) HS.out))).growI hbase hgrow5 (fun b hb => (HP.out.lt b hb).1)
       have R6 := (SR.below (t := (some s5)) HS.out B6).growI (A' := And1 A v') (HP.out.alloc _) hgrow5 (fun b hb => .inr hb) (fun b hb => by
        rcases hb with hb | hb
        ·exact .inl (.inl hb)
        ·rcases hpl5 b hb with h6 | h6
         ·exact .inl (.inr h6)
         ·exact .inr h6)
       have o6 := own_app (ks := ks4) (k := ((b : Nat) : Int)) hown' rfl
       clear hown' hgrow5 hpl5 HF HS HP hs6 B6
       obtain ⟨ao6, cc6, rfl⟩ := owns_slice o6
       have HF := hidOf FF6
       have HS := hidOf R6
       have HP := hidOf o6
       clear FF6 R6 o6
       refine (sPut (o := o) 20 nmx (ks4 ++ [((b : Nat) : Int)]) (ao6) cc6 (SR.avoid (t := some s5) HS.out (fun k hk => .inl (.inl hk))) (ownsRow_base HP.out hbase) (fun b hb hb2 => by have h7 := (HP.out.lt b hb).1; have h8 := hA b hb2; omega) HX.out).mono ?_
       rintro e we ⟨⟨k9, rfl, hk9⟩, S9, F9⟩
       have HH := hidOf (show PostS B g xs A w VNs _ (.returned (.int .i64 k9)) we from ⟨⟨k9, rfl, hk9⟩, S9, HF.out.trans F9⟩)
       clear S9 F9 HF HS
       go_wp2
       go_ret
       exact HH.out
theorem sFmem {o : Option (Nat × Ps)} (h : SR B g xs A w t) (hX : xs.length ≤ 3000) (hM : Marks xs) (hWd : Words xs) (hA : ∀ b, A b → b < w.heap.size) (hV : ReadsS B g xs 139 (valP xs)) (hBk : ReadsS B g xs 99 (blkP xs)) (hMb : ReadsSB B g xs 59 false (membP xs)) (hSm : Same (membP xs)) (hr : Told (fmemP xs) t o) : Calls Tryz.prog 59 #[.pointer (some ⟨g, 0, none⟩), .bool true] w (PostS B g xs A w VNs o) := by
 obtain ⟨i0, hi, hz0, hz1, hz2⟩ := info_parts infoI1
 have hbase := h.base
 have hL : lim xs ≤ 3001 := by unfold lim; omega
 have HF := hidOf (Fr.refl B w)
 match t, h, hr with
 | none, h, hr =>
  obtain rfl : o = none := hr
  have HS := hidOf h
  clear h hr
  go_enter Tryz.func59, Tryz.ntmps59
  go_wp2_with fail
  refine (sKind (t := none) HS.out 5 (.inr (.inr (.inr rfl)))).mono ?_
  rintro e w1 ⟨rfl, m1, hm1⟩
  have B1 : Below w.heap.size w w1 := by rw [hm1]; exact drewN_below _ _
  clear hm1
  have S1 := SR.below (t := none) HS.out B1
  have FF1 := HF.out.trans (Fr.ofB (B := B) B1 (SR.base (t := none) HS.out))
  clear HF HS
  have HF := hidOf FF1
  have HS := hidOf S1
  clear FF1 S1 B1
  go_wp2_with fail
  refine (sWordN (t := none) HS.out rfl).mono ?_
  rintro e w2 ⟨rfl, B2⟩
  have S2 := SR.below (t := none) HS.out B2
  have FF2 := HF.out.trans (Fr.ofB (B := B) B2 (SR.base (t := none) HS.out))
  clear HF HS
  have HF := hidOf FF2
  have HS := hidOf S2
  clear FF2 S2 B2
  go_wp2_with fail
  refine (sWordN (t := none) HS.out rfl).mono ?_
  rintro e w3 ⟨rfl, B3⟩
  have S3 := SR.below (t := none) HS.out B3
  have FF3 := HF.out.trans (Fr.ofB (B := B) B3 (SR.base (t := none) HS.out))
  clear HF HS
  have HF := hidOf FF3
  have HS := hidOf S3
  clear FF3 S3 B3
  go_wp2_with fail
  refine (sName (o := none) HS.out hX rfl).mono ?_
  rintro e w4 ⟨⟨nmx, rfl, -⟩, S4, F4⟩
  have FF4 := HF.out.trans F4
  clear HF HS
  have HF := hidOf FF4
  have HS := hidOf S4
  clear FF4 S4 F4
  go_wp2_with fail
  refine (sNames (o := none) (t := none) HS.out hX hM (fun b hb => Nat.lt_of_lt_of_le (hA b hb) HF.out.size) rfl).mono ?_
  rintro e w5 ⟨a5, c5, ks5, rfl, o5, S5, F5, hl5, -⟩
  have o5 := ownsRow_base o5 HF.out.size
  have F5 := HF.out.trans F5
  clear HF HS
  have HF := hidOf F5
  have HS := hidOf S5
  have HP := hidOf o5
  clear F5 S5 o5
  go_wp2_with fail
  refine (hBk _ _ _ none (And1.lt hA HF.out.size HP.out) HS.out rfl).mono ?_
  rintro e w6 ⟨⟨bx, rfl, -⟩, S6, F6⟩
  have o6 := F6.ints HP.out
  have FF6 := HF.out.trans F6
  clear HF HS HP
  have HF := hidOf FF6
  have HS := hidOf S6
  have HP := hidOf o6
  clear FF6 S6 F6 o6
  have hs7 := HF.out.size
  go_wp2_with (at_builtin; refine wpList_append_own2 rfl _ _ 57 rfl w.heap.size 3 i0 _ 1 8 Tryz.underlying57 hi hz0 hz1 hz2 rfl (by decide) (.slice a5 ks5.length c5) (ks5.length) (intVals ks5) rfl (HP.out.alloc _) ⟨w6.heap.size, 0, none⟩ 1 1 [.int .i64 bx] rfl rfl (cell_one_new _ _ _) (by simp [Value.oneCell']) (by unfold maxLen; omega) (by omega) (by simp; omega) ?_; intro v' w7 hown' hgrow5 hpl5)
  have B7 : Below w6.heap.size w6 (w6.alloc (.cells #[.int .i64 bx] tI)) := (Below.refl _ _).alloc (Nat.le_refl _) _
  have FF7 := (HF.out.trans (Fr.ofB (B := B) B7 (SR.base (t := none) HS.out))).growI hbase hgrow5 (fun b hb => (HP.out.lt b hb).1)
  have R7 := (SR.below (t := none) HS.out B7).growI (A' := And1 A v') (HP.out.alloc _) hgrow5 (fun b hb => .inr hb) (fun b hb => by
   rcases hb with hb | hb
   ·exact .inl (.inl hb)
   ·rcases hpl5 b hb with h6 | h6
    ·exact .inl (.inr h6)
    ·exact .inr h6)
  have o7 := own_app (ks := ks5) (k := bx) hown' rfl
  clear hown' hgrow5 hpl5 HF HS HP hs7 B7
  obtain ⟨ao7, cc7, rfl⟩ := owns_slice o7
  have HF := hidOf FF7
  have HS := hidOf R7
  have HP := hidOf o7
  clear FF7 R7 o7
  refine (sPut (o := none) 20 nmx (ks5 ++ [bx]) (ao7) cc7 (SR.avoid (t := none) HS.out (fun k hk => .inl (.inl hk))) (ownsRow_base HP.out hbase) (fun b hb hb2 => by have h7 := (HP.out.lt b hb).1; have h8 := hA b hb2; omega) rfl).mono ?_
  rintro e we ⟨⟨k9, rfl, hk9⟩, S9, F9⟩
  have HH := hidOf (show PostS B g xs A w VNs _ (.returned (.int .i64 k9)) we from ⟨⟨k9, rfl, hk9⟩, S9, HF.out.trans F9⟩)
  clear S9 F9 HF HS
  go_wp2
  go_ret
  exact HH.out
 | some s, h, hr =>
  have hr2 : fmemP xs s = some o := hr
  unfold fmemP at hr2
  have HS := hidOf h
  clear h hr
  by_cases hc : txt xs s.p = (⟨#[99, 108, 97, 115, 115]⟩ : ByteArray)
  ·rw [if_pos hc] at hr2
   have HX := hidOf hr2
   have HC := hidOf hc
   clear hr2 hc
   go_enter Tryz.func59, Tryz.ntmps59
   go_wp2_with fail
   have qK := sKind (t := some s) HS.out 5 (.inr (.inr (.inr rfl)))
   rw [show kdP xs (some s) 5 = false from kd0_no (fun e => by have h7 := hWd (⟨#[99, 108, 97, 115, 115]⟩ : ByteArray) (by decide) s.p HC.out; omega)] at qK
   refine qK.mono ?_
   clear qK
   rintro e w1 ⟨rfl, m1, hm1⟩
   have B1 : Below w.heap.size w w1 := by rw [hm1]; exact drewN_below _ _
   clear hm1
   have S1 := SR.below (t := (some s)) HS.out B1
   have FF1 := HF.out.trans (Fr.ofB (B := B) B1 (SR.base (t := (some s)) HS.out))
   clear HF HS
   have HF := hidOf FF1
   have HS := hidOf S1
   clear FF1 S1 B1
   go_wp2_with fail
   refine (sWordN (t := some s) HS.out (by rw [isP_word hWd (by decide)]; exact decide_eq_false (by rw [HC.out]; decide))).mono ?_
   rintro e w2 ⟨rfl, B2⟩
   have S2 := SR.below (t := (some s)) HS.out B2
   have FF2 := HF.out.trans (Fr.ofB (B := B) B2 (SR.base (t := (some s)) HS.out))
   clear HF HS
   have HF := hidOf FF2
   have HS := hidOf S2
   clear FF2 S2 B2
   go_wp2_with fail
   refine (sWordY (s := s) HS.out hX (by rw [isP_word hWd (by decide)]; exact decide_eq_true (HC.out))).mono ?_
   rintro e w3 ⟨rfl, S3, F3⟩
   have FF3 := HF.out.trans F3
   clear HF HS
   have HF := hidOf FF3
   have HS := hidOf S3
   clear FF3 S3 F3
   go_wp2_with fail
   have hx := HX.out
   unfold clasP at hx
   clear HX
   have HX := hidOf hx
   clear hx
   rcases bnd_some HX.out with ⟨h4, rfl⟩ | ⟨nm, s4, h4, hr4⟩
   ·refine (sName (o := none) HS.out hX h4).mono ?_
    rintro e w4 ⟨⟨nmx, rfl, -⟩, S4, F4⟩
    clear HX h4
    have FF4 := HF.out.trans F4
    clear HF HS
    have HF := hidOf FF4
    have HS := hidOf S4
    clear FF4 S4 F4
    go_wp2_with fail
    refine (sWants (o := none) HS.out hX (hM (⟨#[123]⟩ : ByteArray) (by decide)) rfl).mono ?_
    rintro e w5 ⟨rfl, S5, F5⟩
    have FF5 := HF.out.trans F5
    clear HF HS
    have HF := hidOf FF5
    have HS := hidOf S5
    clear FF5 S5 F5
    have B6 : Below w5.heap.size w5 (w5.alloc (.cells #[] tI)) := (Below.refl _ _).alloc (Nat.le_refl _) _
    have R6 : SR B g xs (And1 A (.slice (some ⟨w5.heap.size, 0, none⟩) 0 0)) (w5.alloc (.cells #[] tI)) none := (SR.avoid (A' := And1 A (.slice (some ⟨w5.heap.size, 0, none⟩) 0 0)) (t := none) HS.out (fun k hk => hk.imp_right (fun e => by injection e with e; show w5.heap.size ≤ k; exact Nat.le_of_eq e))).below B6
    have o6 : (w5.alloc (.cells #[] tI)).ownsRow w.heap.size tI 1 (.slice (some ⟨w5.heap.size, 0, none⟩) 0 0) 0 (intVals ([] : List Int)) := World.ownsRow_lit w5 #[] 0 HF.out.size (by decide) rfl
    have FF6 := HF.out.trans (Fr.ofB (B := B) B6 (SR.base (t := none) HS.out))
    clear HF HS
    have HF := hidOf FF6
    have HS := hidOf R6
    have HP := hidOf o6
    clear FF6 R6 o6 B6
    go_wp2
    go_loopg [6] 0 (fun f kv wr => kv = .slice (some ⟨w5.heap.size, 0, none⟩) 0 0 ∧ wr = (w5.alloc (.cells #[] tI)))
    case atStart => exact ⟨rfl, rfl⟩
    case round =>
     obtain ⟨rfl, rfl⟩ := hrel
     obtain ⟨s9, h9, hd9⟩ := HS.out
     obtain ⟨sa, sc, na, nc, -, -, c2, -, -, -⟩ := h9.cells
     clear h9 hd9
     go_wp2_with fail
     refine (sPut (o := none) 21 nmx ([] : List Int) (some ⟨w5.heap.size, 0, none⟩) 0 (SR.avoid (t := none) HS.out (fun k hk => .inl (.inl hk))) (ownsRow_base HP.out hbase) (fun b hb hb2 => by have h7 := (HP.out.lt b hb).1; have h8 := hA b hb2; omega) rfl).mono ?_
     rintro e we ⟨⟨k9, rfl, hk9⟩, S9, F9⟩
     have HH := hidOf (show PostS B g xs A w VNs _ (.returned (.int .i64 k9)) we from ⟨⟨k9, rfl, hk9⟩, S9, HF.out.trans F9⟩)
     clear S9 F9 HF HS
     go_wp2
     go_ret
     exact HH.out
   ·refine (sName (o := (some (nm, s4))) HS.out hX h4).mono ?_
    rintro e w4 ⟨⟨nmx, rfl, hnmx⟩, S4, F4⟩
    obtain rfl : nmx = nm := hnmx nm rfl
    clear HX
    have HX := hidOf hr4
    clear h4 hr4 hnmx
    have FF4 := HF.out.trans F4
    clear HF HS
    have HF := hidOf FF4
    have HS := hidOf S4
    clear FF4 S4 F4
    go_wp2_with fail
    rcases bnd_some HX.out with ⟨h5, rfl⟩ | ⟨u, s5, h5, hr5⟩
    ·refine (sWants (o := none) HS.out hX (hM (⟨#[123]⟩ : ByteArray) (by decide)) h5).mono ?_
     rintro e w5 ⟨rfl, S5, F5⟩
     clear HX h5
     have FF5 := HF.out.trans F5
     clear HF HS
     have HF := hidOf FF5
     have HS := hidOf S5
     clear FF5 S5 F5
     have B6 : Below w5.heap.size w5 (w5.alloc (.cells #[] tI)) := (Below.refl _ _).alloc (Nat.le_refl _) _
     have R6 : SR B g xs (And1 A (.slice (some ⟨w5.heap.size, 0, none⟩) 0 0)) (w5.alloc (.cells #[] tI)) none := (SR.avoid (A' := And1 A (.slice (some ⟨w5.heap.size, 0, none⟩) 0 0)) (t := none) HS.out (fun k hk => hk.imp_right (fun e => by injection e with e; show w5.heap.size ≤ k; exact Nat.le_of_eq e))).below B6
     have o6 : (w5.alloc (.cells #[] tI)).ownsRow w.heap.size tI 1 (.slice (some ⟨w5.heap.size, 0, none⟩) 0 0) 0 (intVals ([] : List Int)) := World.ownsRow_lit w5 #[] 0 HF.out.size (by decide) rfl
     have FF6 := HF.out.trans (Fr.ofB (B := B) B6 (SR.base (t := none) HS.out))
     clear HF HS
     have HF := hidOf FF6
     have HS := hidOf R6
     have HP := hidOf o6
     clear FF6 R6 o6 B6
     go_wp2
     go_loopg [6] 0 (fun f kv wr => kv = .slice (some ⟨w5.heap.size, 0, none⟩) 0 0 ∧ wr = (w5.alloc (.cells #[] tI)))
     case atStart => exact ⟨rfl, rfl⟩
     case round =>
      obtain ⟨rfl, rfl⟩ := hrel
      obtain ⟨s9, h9, hd9⟩ := HS.out
      obtain ⟨sa, sc, na, nc, -, -, c2, -, -, -⟩ := h9.cells
      clear h9 hd9
      go_wp2_with fail
      refine (sPut (o := none) 21 nmx ([] : List Int) (some ⟨w5.heap.size, 0, none⟩) 0 (SR.avoid (t := none) HS.out (fun k hk => .inl (.inl hk))) (ownsRow_base HP.out hbase) (fun b hb hb2 => by have h7 := (HP.out.lt b hb).1; have h8 := hA b hb2; omega) rfl).mono ?_
      rintro e we ⟨⟨k9, rfl, hk9⟩, S9, F9⟩
      have HH := hidOf (show PostS B g xs A w VNs _ (.returned (.int .i64 k9)) we from ⟨⟨k9, rfl, hk9⟩, S9, HF.out.trans F9⟩)
      clear S9 F9 HF HS
      go_wp2
      go_ret
      exact HH.out
    ·refine (sWants (o := (some (u, s5))) HS.out hX (hM (⟨#[123]⟩ : ByteArray) (by decide)) h5).mono ?_
     rintro e w5 ⟨rfl, S5, F5⟩
     clear HX
     have HX := hidOf hr5
     clear h5 hr5
     have FF5 := HF.out.trans F5
     clear HF HS
     have HF := hidOf FF5
     have HS := hidOf S5
     clear FF5 S5 F5
     have B6 : Below w5.heap.size w5 (w5.alloc (.cells #[] tI)) := (Below.refl _ _).alloc (Nat.le_refl _) _
     have R6 : SR B g xs (And1 A (.slice (some ⟨w5.heap.size, 0, none⟩) 0 0)) (w5.alloc (.cells #[] tI)) (some s5) := (SR.avoid (A' := And1 A (.slice (some ⟨w5.heap.size, 0, none⟩) 0 0)) (t := (some s5)) HS.out (fun k hk => hk.imp_right (fun e => by injection e with e; show w5.heap.size ≤ k; exact Nat.le_of_eq e))).below B6
     have o6 : (w5.alloc (.cells #[] tI)).ownsRow w.heap.size tI 1 (.slice (some ⟨w5.heap.size, 0, none⟩) 0 0) 0 (intVals ([] : List Int)) := World.ownsRow_lit w5 #[] 0 HF.out.size (by decide) rfl
     have FF6 := HF.out.trans (Fr.ofB (B := B) B6 (SR.base (t := (some s5)) HS.out))
     clear HF HS
     have HF := hidOf FF6
     have HS := hidOf R6
     have HP := hidOf o6
     clear FF6 R6 o6 B6
     obtain ⟨d0, hd1⟩ : ∃ d0, s5.d = d0 := ⟨_, rfl⟩
     have HTB := hidOf (show ToldB xs (membP xs) (⟨#[125]⟩ : ByteArray) (fun ks s2 => bnd (wantP xs (⟨#[125]⟩ : ByteArray) s2) fun _ s3 => addP 21 nmx ks s3) d0 (lim xs) [] (some s5) o from ⟨hd1, HX.out⟩)
     obtain ⟨v0, hv0⟩ : ∃ v0, v0 = Value.slice (some ⟨w5.heap.size, 0, none⟩) 0 0 := ⟨_, rfl⟩
     rw [← hv0] at HP HS
     clear HX
     go_wp2
     rw [← hv0]
     clear hv0
     go_loopg [6] (lim xs) (fun f kv wr => ∃ (ks : List Int) (q : Option Ps), f + ks.length = lim xs ∧ wr.ownsRow w.heap.size tI 1 kv ks.length (intVals ks) ∧ SR B g xs (And1 A kv) wr q ∧ Fr B w wr ∧ Hid (ToldB xs (membP xs) (⟨#[125]⟩ : ByteArray) (fun ks s2 => bnd (wantP xs (⟨#[125]⟩ : ByteArray) s2) fun _ s3 => addP 21 nmx ks s3) d0 f ks q o))
     case atStart => exact ⟨[], some s5, by simp, HP.out, HS.out, HF.out, HTB⟩
     case round =>
      obtain ⟨ks, q, hf, P, R, Fx, HX⟩ := hrel
      clear HP HS HF HTB
      obtain ⟨ao, cc, rfl⟩ := owns_slice P
      have HP := hidOf P
      have HF := hidOf Fx
      have HS := hidOf R
      clear P R Fx
      have hkl : ks.length ≤ 3001 := by omega
      match q, HS, HX with
      | none, HS, HX =>
       obtain rfl : o = none := HX.out
       obtain ⟨s9, h9, hd9⟩ := HS.out
       obtain ⟨sa, sc, na, nc, -, -, c2, -, -, -⟩ := h9.cells
       clear h9 hd9 HX
       go_wp2_with fail
       refine (sPut (o := none) 21 nmx ks (ao) cc (SR.avoid (t := none) HS.out (fun k hk => .inl (.inl hk))) (ownsRow_base HP.out hbase) (fun b hb hb2 => by have h7 := (HP.out.lt b hb).1; have h8 := hA b hb2; omega) rfl).mono ?_
       rintro e we ⟨⟨k9, rfl, hk9⟩, S9, F9⟩
       have HH := hidOf (show PostS B g xs A w VNs _ (.returned (.int .i64 k9)) we from ⟨⟨k9, rfl, hk9⟩, S9, HF.out.trans F9⟩)
       clear S9 F9 HF HS
       go_wp2
       go_ret
       exact HH.out
      | some s1, HS, HX =>
       obtain ⟨hd0, hx⟩ : s1.d = d0 ∧ bnd (bodyP xs (membP xs) (⟨#[125]⟩ : ByteArray) gk ks s1) (fun ks s2 => bnd (wantP xs (⟨#[125]⟩ : ByteArray) s2) fun _ s3 => addP 21 nmx ks s3) = some o := HX.out
       have HD0 := hidOf hd0
       clear HX hd0
       cases gk with
       | zero => exact absurd hx (by simp [bodyP, bnd])
       | succ f =>
        rw [bodyP] at hx
        obtain ⟨sa, sc, na, nc, -, -, c2, -, -, -⟩ := HS.out.1.cells
        by_cases ht : txt xs s1.p = (⟨#[125]⟩ : ByteArray)
        ·rw [if_pos ht, bnd_yes] at hx
         have hw9 : wantP xs (⟨#[125]⟩ : ByteArray) s1 = yes () s1.next := by unfold wantP; rw [if_pos ht]
         have hx2 : addP 21 nmx ks (s1.next) = some o := by
          have h9 : bnd (wantP xs (⟨#[125]⟩ : ByteArray) s1) _ = some o := hx
          rw [hw9, bnd_yes] at h9
          exact h9
         have qY := sMarkY (s := s1) HS.out hX (by rw [isP_mark (hM (⟨#[125]⟩ : ByteArray) (by decide))]; exact decide_eq_true ht)
         have HX := hidOf hx2
         clear hx hx2 hw9 ht
         go_wp2_with fail
         refine qY.mono ?_
         rintro e w7 ⟨rfl, S7, F7⟩
         clear qY c2
         have o7 := F7.ints HP.out
         have FF7 := HF.out.trans F7
         clear HF HS HP
         have HF := hidOf FF7
         have HS := hidOf S7
         have HP := hidOf o7
         clear FF7 S7 F7 o7
         go_wp2_with fail
         refine (sPut (o := o) 21 nmx ks (ao) cc (SR.avoid (t := some s1.next) HS.out (fun k hk => .inl (.inl hk))) (ownsRow_base HP.out hbase) (fun b hb hb2 => by have h7 := (HP.out.lt b hb).1; have h8 := hA b hb2; omega) HX.out).mono ?_
         rintro e we ⟨⟨k9, rfl, hk9⟩, S9, F9⟩
         have HH := hidOf (show PostS B g xs A w VNs _ (.returned (.int .i64 k9)) we from ⟨⟨k9, rfl, hk9⟩, S9, HF.out.trans F9⟩)
         clear S9 F9 HF HS
         go_wp2
         go_ret
         exact HH.out
        ·rw [if_neg ht, bnd_asc] at hx
         have qN := sMarkN (t := some s1) (u := (⟨#[125]⟩ : ByteArray)) HS.out (by rw [isP_mark (hM (⟨#[125]⟩ : ByteArray) (by decide))]; exact decide_eq_false ht)
         have HX := hidOf hx
         clear hx ht
         go_wp2_with fail
         refine qN.mono ?_
         rintro e w7 ⟨rfl, B7⟩
         clear qN c2
         have S7 := SR.below (t := (some s1)) HS.out B7
         have FF7 := HF.out.trans (Fr.ofB (B := B) B7 (SR.base (t := (some s1)) HS.out))
         have o7 := owns_below HP.out B7
         clear HF HS HP
         have HF := hidOf FF7
         have HS := hidOf S7
         have HP := hidOf o7
         clear FF7 S7 B7 o7
         go_wp2_with fail
         refine (sBlank (t := some s1) HS.out).mono ?_
         rintro e w8 ⟨⟨bb, rfl, hbb⟩, m8, hm8⟩
         have B8 : Below w7.heap.size w7 w8 := by rw [hm8]; exact drewN_below _ _
         clear hm8
         have S8 := SR.below (t := (some s1)) HS.out B8
         have FF8 := HF.out.trans (Fr.ofB (B := B) B8 (SR.base (t := (some s1)) HS.out))
         have o8 := owns_below HP.out B8
         clear HF HS HP
         have HF := hidOf FF8
         have HS := hidOf S8
         have HP := hidOf o8
         clear FF8 S8 B8 o8
         have hbk : bb = blk xs s1.p := hbb s1 rfl
         clear hbb
         cases bb with
         | false =>
          have hbl : (blk xs s1.p && decide (0 < ks.length)) = false := by rw [← hbk]; rfl
          clear hbk
          have hx := HX.out
          simp only [hbl] at hx
          clear HX
          have HX := hidOf hx
          clear hx hbl
          go_wp2_with fail
          rcases bnd_some HX.out with ⟨h9, rfl⟩ | ⟨k, s9, h9, hr9⟩
          ·refine (hMb _ _ _ none (And1.lt hA HF.out.size HP.out) HS.out h9).mono ?_
           rintro e w9 ⟨⟨kx, rfl, -⟩, S9, F9⟩
           clear HX h9
           have o9 := F9.ints HP.out
           have FF9 := HF.out.trans F9
           clear HF HS HP
           have HF := hidOf FF9
           have HS := hidOf S9
           have HP := hidOf o9
           clear FF9 S9 F9 o9
           go_wp2_with fail
           refine (sBlankedB kx false HS.out).mono ?_
           rintro e w10 ⟨rfl, S10, F10⟩
           have o10 := F10.ints HP.out
           have FF10 := HF.out.trans F10
           clear HF HS HP
           have HF := hidOf FF10
           have HS := hidOf S10
           have HP := hidOf o10
           clear FF10 S10 F10 o10
           have hs11 := HF.out.size
           go_wp2_with (at_builtin; refine wpList_append_own2 rfl _ _ 57 rfl w.heap.size 3 i0 _ 1 8 Tryz.underlying57 hi hz0 hz1 hz2 rfl (by decide) (.slice ao ks.length cc) (ks.length) (intVals ks) rfl (HP.out.alloc _) ⟨w10.heap.size, 0, none⟩ 1 1 [.int .i64 kx] rfl rfl (cell_one_new _ _ _) (by simp [Value.oneCell']) (by unfold maxLen; omega) (by omega) (by simp; omega) ?_; intro v' w11 hown' hgrow5 hpl5)
           have B11 : Below w10.heap.size w10 (w10.alloc (.cells #[.int .i64 kx] tI)) := (Below.refl _ _).alloc (Nat.le_refl _) _
           have FF11 := (HF.out.trans (Fr.ofB (B := B) B11 (SR.base (t := none) HS.out))).growI hbase hgrow5 (fun b hb => (HP.out.lt b hb).1)
           have R11 := (SR.below (t := none) HS.out B11).growI (A' := And1 A v') (HP.out.alloc _) hgrow5 (fun b hb => .inr hb) (fun b hb => by
            rcases hb with hb | hb
            ·exact .inl (.inl hb)
            ·rcases hpl5 b hb with h6 | h6
             ·exact .inl (.inr h6)
             ·exact .inr h6)
           have o11 := own_app (ks := ks) (k := kx) hown' rfl
           clear hown' hgrow5 hpl5 HF HS HP hs11 B11
           obtain ⟨ao11, cc11, rfl⟩ := owns_slice o11
           have HF := hidOf FF11
           have HS := hidOf R11
           have HP := hidOf o11
           clear FF11 R11 o11
           have hlen : (ks ++ [kx]).length = ks.length + 1 := by simp
           have HZ := hidOf (show ∃ (ls : List Int) (q : Option Ps), f + ls.length = lim xs ∧ w11.ownsRow w.heap.size tI 1 (.slice ao11 (ks ++ [kx]).length cc11) ls.length (intVals ls) ∧ SR B g xs (And1 A (.slice ao11 (ks ++ [kx]).length cc11)) w11 q ∧ Fr B w w11 ∧ Hid (ToldB xs (membP xs) (⟨#[125]⟩ : ByteArray) (fun ks s2 => bnd (wantP xs (⟨#[125]⟩ : ByteArray) s2) fun _ s3 => addP 21 nmx ks s3) d0 f ls q none) from ⟨(ks ++ [kx]), none, by rw [hlen]; omega, HP.out, HS.out, HF.out, hidOf (show ToldB xs (membP xs) (⟨#[125]⟩ : ByteArray) (fun ks s2 => bnd (wantP xs (⟨#[125]⟩ : ByteArray) s2) fun _ s3 => addP 21 nmx ks s3) d0 f _ none none from rfl)⟩)
           have HLn := hidOf hlen
           clear HP HS HF hlen
           go_wp2
           go_roundg f
           case measure => omega
           case rel => first | exact HZ.out | (rw [HLn.out] at HZ; exact HZ.out)
          ·refine (hMb _ _ _ (some (k, s9)) (And1.lt hA HF.out.size HP.out) HS.out h9).mono ?_
           rintro e w9 ⟨⟨kx, rfl, hkx⟩, S9, F9⟩
           obtain rfl : kx = ((k : Nat) : Int) := hkx k rfl
           have HD := hidOf (hSm _ _ _ h9)
           clear HX
           have HX := hidOf hr9
           clear h9 hr9 hkx
           have o9 := F9.ints HP.out
           have FF9 := HF.out.trans F9
           clear HF HS HP
           have HF := hidOf FF9
           have HS := hidOf S9
           have HP := hidOf o9
           clear FF9 S9 F9 o9
           go_wp2_with fail
           refine (sBlankedA k false (s := s9) HS.out).mono ?_
           rintro e w10 ⟨rfl, S10, F10⟩
           have o10 := F10.ints HP.out
           have FF10 := HF.out.trans F10
           clear HF HS HP
           have HF := hidOf FF10
           have HS := hidOf S10
           have HP := hidOf o10
           clear FF10 S10 F10 o10
           have hs11 := HF.out.size
           go_wp2_with (at_builtin; refine wpList_append_own2 rfl _ _ 57 rfl w.heap.size 3 i0 _ 1 8 Tryz.underlying57 hi hz0 hz1 hz2 rfl (by decide) (.slice ao ks.length cc) (ks.length) (intVals ks) rfl (HP.out.alloc _) ⟨w10.heap.size, 0, none⟩ 1 1 [.int .i64 ((k : Nat) : Int)] rfl rfl (cell_one_new _ _ _) (by simp [Value.oneCell']) (by unfold maxLen; omega) (by omega) (by simp; omega) ?_; intro v' w11 hown' hgrow5 hpl5)
           have B11 : Below w10.heap.size w10 (w10.alloc (.cells #[.int .i64 ((k : Nat) : Int)] tI)) := (Below.refl _ _).alloc (Nat.le_refl _) _
           have FF11 := (HF.out.trans (Fr.ofB (B := B) B11 (SR.base (t := (some (setBl s9 k false))) HS.out))).growI hbase hgrow5 (fun b hb => (HP.out.lt b hb).1)
           have R11 := (SR.below (t := (some (setBl s9 k false))) HS.out B11).growI (A' := And1 A v') (HP.out.alloc _) hgrow5 (fun b hb => .inr hb) (fun b hb => by
            rcases hb with hb | hb
            ·exact .inl (.inl hb)
            ·rcases hpl5 b hb with h6 | h6
             ·exact .inl (.inr h6)
             ·exact .inr h6)
           have o11 := own_app (ks := ks) (k := ((k : Nat) : Int)) hown' rfl
           clear hown' hgrow5 hpl5 HF HS HP hs11 B11
           obtain ⟨ao11, cc11, rfl⟩ := owns_slice o11
           have HF := hidOf FF11
           have HS := hidOf R11
           have HP := hidOf o11
           clear FF11 R11 o11
           have hlen : (ks ++ [((k : Nat) : Int)]).length = ks.length + 1 := by simp
           have HZ := hidOf (show ∃ (ls : List Int) (q : Option Ps), f + ls.length = lim xs ∧ w11.ownsRow w.heap.size tI 1 (.slice ao11 (ks ++ [((k : Nat) : Int)]).length cc11) ls.length (intVals ls) ∧ SR B g xs (And1 A (.slice ao11 (ks ++ [((k : Nat) : Int)]).length cc11)) w11 q ∧ Fr B w w11 ∧ Hid (ToldB xs (membP xs) (⟨#[125]⟩ : ByteArray) (fun ks s2 => bnd (wantP xs (⟨#[125]⟩ : ByteArray) s2) fun _ s3 => addP 21 nmx ks s3) d0 f ls q o) from ⟨(ks ++ [((k : Nat) : Int)]), some (setBl s9 k false), by rw [hlen]; omega, HP.out, HS.out, HF.out, hidOf (show ToldB xs (membP xs) (⟨#[125]⟩ : ByteArray) (fun ks s2 => bnd (wantP xs (⟨#[125]⟩ : ByteArray) s2) fun _ s3 => addP 21 nmx ks s3) d0 f _ (some (setBl s9 k false)) o from ⟨(show _ = _ from HD.out).trans HD0.out, HX.out⟩)⟩)
           have HLn := hidOf hlen
           clear HP HS HF hlen
           go_wp2
           go_roundg f
           case measure => omega
           case rel => first | exact HZ.out | (rw [HLn.out] at HZ; exact HZ.out)
         | true =>
          by_cases h0k : ks.length = 0
          ·have hbl : (blk xs s1.p && decide (0 < ks.length)) = false := by rw [h0k, Bool.and_eq_false_iff]; right; decide
           have hgt : ¬ (0 : Int) < (ks.length : Int) := by omega
           have hgd : decide ((0 : Int) < (ks.length : Int)) = false := decide_eq_false hgt
           have hgn : decide (0 < ks.length) = false := decide_eq_false (by omega)
           clear hbk h0k
           have hx := HX.out
           simp only [hbl] at hx
           clear HX
           have HX := hidOf hx
           clear hx hbl
           go_wp2_with fail
           rcases bnd_some HX.out with ⟨h9, rfl⟩ | ⟨k, s9, h9, hr9⟩
           ·refine (hMb _ _ _ none (And1.lt hA HF.out.size HP.out) HS.out h9).mono ?_
            rintro e w9 ⟨⟨kx, rfl, -⟩, S9, F9⟩
            clear HX h9
            have o9 := F9.ints HP.out
            have FF9 := HF.out.trans F9
            clear HF HS HP
            have HF := hidOf FF9
            have HS := hidOf S9
            have HP := hidOf o9
            clear FF9 S9 F9 o9
            go_wp2_with fail
            refine (sBlankedB kx false HS.out).mono ?_
            rintro e w10 ⟨rfl, S10, F10⟩
            have o10 := F10.ints HP.out
            have FF10 := HF.out.trans F10
            clear HF HS HP
            have HF := hidOf FF10
            have HS := hidOf S10
            have HP := hidOf o10
            clear FF10 S10 F10 o10
            have hs11 := HF.out.size
            go_wp2_with (at_builtin; refine wpList_append_own2 rfl _ _ 57 rfl w.heap.size 3 i0 _ 1 8 Tryz.underlying57 hi hz0 hz1 hz2 rfl (by decide) (.slice ao ks.length cc) (ks.length) (intVals ks) rfl (HP.out.alloc _) ⟨w10.heap.size, 0, none⟩ 1 1 [.int .i64 kx] rfl rfl (cell_one_new _ _ _) (by simp [Value.oneCell']) (by unfold maxLen; omega) (by omega) (by simp; omega) ?_; intro v' w11 hown' hgrow5 hpl5)
            have B11 : Below w10.heap.size w10 (w10.alloc (.cells #[.int .i64 kx] tI)) := (Below.refl _ _).alloc (Nat.le_refl _) _
            have FF11 := (HF.out.trans (Fr.ofB (B := B) B11 (SR.base (t := none) HS.out))).growI hbase hgrow5 (fun b hb => (HP.out.lt b hb).1)
            have R11 := (SR.below (t := none) HS.out B11).growI (A' := And1 A v') (HP.out.alloc _) hgrow5 (fun b hb => .inr hb) (fun b hb => by
             rcases hb with hb | hb
             ·exact .inl (.inl hb)
             ·rcases hpl5 b hb with h6 | h6
              ·exact .inl (.inr h6)
              ·exact .inr h6)
            have o11 := own_app (ks := ks) (k := kx) hown' rfl
            clear hown' hgrow5 hpl5 HF HS HP hs11 B11
            obtain ⟨ao11, cc11, rfl⟩ := owns_slice o11
            have HF := hidOf FF11
            have HS := hidOf R11
            have HP := hidOf o11
            clear FF11 R11 o11
            have hlen : (ks ++ [kx]).length = ks.length + 1 := by simp
            have HZ := hidOf (show ∃ (ls : List Int) (q : Option Ps), f + ls.length = lim xs ∧ w11.ownsRow w.heap.size tI 1 (.slice ao11 (ks ++ [kx]).length cc11) ls.length (intVals ls) ∧ SR B g xs (And1 A (.slice ao11 (ks ++ [kx]).length cc11)) w11 q ∧ Fr B w w11 ∧ Hid (ToldB xs (membP xs) (⟨#[125]⟩ : ByteArray) (fun ks s2 => bnd (wantP xs (⟨#[125]⟩ : ByteArray) s2) fun _ s3 => addP 21 nmx ks s3) d0 f ls q none) from ⟨(ks ++ [kx]), none, by rw [hlen]; omega, HP.out, HS.out, HF.out, hidOf (show ToldB xs (membP xs) (⟨#[125]⟩ : ByteArray) (fun ks s2 => bnd (wantP xs (⟨#[125]⟩ : ByteArray) s2) fun _ s3 => addP 21 nmx ks s3) d0 f _ none none from rfl)⟩)
            have HLn := hidOf hlen
            clear HP HS HF hlen
            go_wp2
            go_roundg f
            case measure => omega
            case rel => first | exact HZ.out | (rw [HLn.out] at HZ; exact HZ.out)
           ·refine (hMb _ _ _ (some (k, s9)) (And1.lt hA HF.out.size HP.out) HS.out h9).mono ?_
            rintro e w9 ⟨⟨kx, rfl, hkx⟩, S9, F9⟩
            obtain rfl : kx = ((k : Nat) : Int) := hkx k rfl
            have HD := hidOf (hSm _ _ _ h9)
            clear HX
            have HX := hidOf hr9
            clear h9 hr9 hkx
            have o9 := F9.ints HP.out
            have FF9 := HF.out.trans F9
            clear HF HS HP
            have HF := hidOf FF9
            have HS := hidOf S9
            have HP := hidOf o9
            clear FF9 S9 F9 o9
            go_wp2_with fail
            refine (sBlankedA k false (s := s9) HS.out).mono ?_
            rintro e w10 ⟨rfl, S10, F10⟩
            have o10 := F10.ints HP.out
            have FF10 := HF.out.trans F10
            clear HF HS HP
            have HF := hidOf FF10
            have HS := hidOf S10
            have HP := hidOf o10
            clear FF10 S10 F10 o10
            have hs11 := HF.out.size
            go_wp2_with (at_builtin; refine wpList_append_own2 rfl _ _ 57 rfl w.heap.size 3 i0 _ 1 8 Tryz.underlying57 hi hz0 hz1 hz2 rfl (by decide) (.slice ao ks.length cc) (ks.length) (intVals ks) rfl (HP.out.alloc _) ⟨w10.heap.size, 0, none⟩ 1 1 [.int .i64 ((k : Nat) : Int)] rfl rfl (cell_one_new _ _ _) (by simp [Value.oneCell']) (by unfold maxLen; omega) (by omega) (by simp; omega) ?_; intro v' w11 hown' hgrow5 hpl5)
            have B11 : Below w10.heap.size w10 (w10.alloc (.cells #[.int .i64 ((k : Nat) : Int)] tI)) := (Below.refl _ _).alloc (Nat.le_refl _) _
            have FF11 := (HF.out.trans (Fr.ofB (B := B) B11 (SR.base (t := (some (setBl s9 k false))) HS.out))).growI hbase hgrow5 (fun b hb => (HP.out.lt b hb).1)
            have R11 := (SR.below (t := (some (setBl s9 k false))) HS.out B11).growI (A' := And1 A v') (HP.out.alloc _) hgrow5 (fun b hb => .inr hb) (fun b hb => by
             rcases hb with hb | hb
             ·exact .inl (.inl hb)
             ·rcases hpl5 b hb with h6 | h6
              ·exact .inl (.inr h6)
              ·exact .inr h6)
            have o11 := own_app (ks := ks) (k := ((k : Nat) : Int)) hown' rfl
            clear hown' hgrow5 hpl5 HF HS HP hs11 B11
            obtain ⟨ao11, cc11, rfl⟩ := owns_slice o11
            have HF := hidOf FF11
            have HS := hidOf R11
            have HP := hidOf o11
            clear FF11 R11 o11
            have hlen : (ks ++ [((k : Nat) : Int)]).length = ks.length + 1 := by simp
            have HZ := hidOf (show ∃ (ls : List Int) (q : Option Ps), f + ls.length = lim xs ∧ w11.ownsRow w.heap.size tI 1 (.slice ao11 (ks ++ [((k : Nat) : Int)]).length cc11) ls.length (intVals ls) ∧ SR B g xs (And1 A (.slice ao11 (ks ++ [((k : Nat) : Int)]).length cc11)) w11 q ∧ Fr B w w11 ∧ Hid (ToldB xs (membP xs) (⟨#[125]⟩ : ByteArray) (fun ks s2 => bnd (wantP xs (⟨#[125]⟩ : ByteArray) s2) fun _ s3 => addP 21 nmx ks s3) d0 f ls q o) from ⟨(ks ++ [((k : Nat) : Int)]), some (setBl s9 k false), by rw [hlen]; omega, HP.out, HS.out, HF.out, hidOf (show ToldB xs (membP xs) (⟨#[125]⟩ : ByteArray) (fun ks s2 => bnd (wantP xs (⟨#[125]⟩ : ByteArray) s2) fun _ s3 => addP 21 nmx ks s3) d0 f _ (some (setBl s9 k false)) o from ⟨(show _ = _ from HD.out).trans HD0.out, HX.out⟩)⟩)
            have HLn := hidOf hlen
            clear HP HS HF hlen
            go_wp2
            go_roundg f
            case measure => omega
            case rel => first | exact HZ.out | (rw [HLn.out] at HZ; exact HZ.out)
          ·have hbl : (blk xs s1.p && decide (0 < ks.length)) = true := by rw [← hbk, Bool.true_and]; exact decide_eq_true (by omega)
           have hgt : (0 : Int) < (ks.length : Int) := by omega
           have hgd : decide ((0 : Int) < (ks.length : Int)) = true := decide_eq_true hgt
           have hgn : decide (0 < ks.length) = true := decide_eq_true (by omega)
           clear hbk h0k
           have hx := HX.out
           simp only [hbl] at hx
           clear HX
           have HX := hidOf hx
           clear hx hbl
           go_wp2_with fail
           rcases bnd_some HX.out with ⟨h9, rfl⟩ | ⟨k, s9, h9, hr9⟩
           ·refine (hMb _ _ _ none (And1.lt hA HF.out.size HP.out) HS.out h9).mono ?_
            rintro e w9 ⟨⟨kx, rfl, -⟩, S9, F9⟩
            clear HX h9
            have o9 := F9.ints HP.out
            have FF9 := HF.out.trans F9
            clear HF HS HP
            have HF := hidOf FF9
            have HS := hidOf S9
            have HP := hidOf o9
            clear FF9 S9 F9 o9
            go_wp2_with fail
            refine (sBlankedB kx true HS.out).mono ?_
            rintro e w10 ⟨rfl, S10, F10⟩
            have o10 := F10.ints HP.out
            have FF10 := HF.out.trans F10
            clear HF HS HP
            have HF := hidOf FF10
            have HS := hidOf S10
            have HP := hidOf o10
            clear FF10 S10 F10 o10
            have hs11 := HF.out.size
            go_wp2_with (at_builtin; refine wpList_append_own2 rfl _ _ 57 rfl w.heap.size 3 i0 _ 1 8 Tryz.underlying57 hi hz0 hz1 hz2 rfl (by decide) (.slice ao ks.length cc) (ks.length) (intVals ks) rfl (HP.out.alloc _) ⟨w10.heap.size, 0, none⟩ 1 1 [.int .i64 kx] rfl rfl (cell_one_new _ _ _) (by simp [Value.oneCell']) (by unfold maxLen; omega) (by omega) (by simp; omega) ?_; intro v' w11 hown' hgrow5 hpl5)
            have B11 : Below w10.heap.size w10 (w10.alloc (.cells #[.int .i64 kx] tI)) := (Below.refl _ _).alloc (Nat.le_refl _) _
            have FF11 := (HF.out.trans (Fr.ofB (B := B) B11 (SR.base (t := none) HS.out))).growI hbase hgrow5 (fun b hb => (HP.out.lt b hb).1)
            have R11 := (SR.below (t := none) HS.out B11).growI (A' := And1 A v') (HP.out.alloc _) hgrow5 (fun b hb => .inr hb) (fun b hb => by
             rcases hb with hb | hb
             ·exact .inl (.inl hb)
             ·rcases hpl5 b hb with h6 | h6
              ·exact .inl (.inr h6)
              ·exact .inr h6)
            have o11 := own_app (ks := ks) (k := kx) hown' rfl
            clear hown' hgrow5 hpl5 HF HS HP hs11 B11
            obtain ⟨ao11, cc11, rfl⟩ := owns_slice o11
            have HF := hidOf FF11
            have HS := hidOf R11
            have HP := hidOf o11
            clear FF11 R11 o11
            have hlen : (ks ++ [kx]).length = ks.length + 1 := by simp
            have HZ := hidOf (show ∃ (ls : List Int) (q : Option Ps), f + ls.length = lim xs ∧ w11.ownsRow w.heap.size tI 1 (.slice ao11 (ks ++ [kx]).length cc11) ls.length (intVals ls) ∧ SR B g xs (And1 A (.slice ao11 (ks ++ [kx]).length cc11)) w11 q ∧ Fr B w w11 ∧ Hid (ToldB xs (membP xs) (⟨#[125]⟩ : ByteArray) (fun ks s2 => bnd (wantP xs (⟨#[125]⟩ : ByteArray) s2) fun _ s3 => addP 21 nmx ks s3) d0 f ls q none) from ⟨(ks ++ [kx]), none, by rw [hlen]; omega, HP.out, HS.out, HF.out, hidOf (show ToldB xs (membP xs) (⟨#[125]⟩ : ByteArray) (fun ks s2 => bnd (wantP xs (⟨#[125]⟩ : ByteArray) s2) fun _ s3 => addP 21 nmx ks s3) d0 f _ none none from rfl)⟩)
            have HLn := hidOf hlen
            clear HP HS HF hlen
            go_wp2
            go_roundg f
            case measure => omega
            case rel => first | exact HZ.out | (rw [HLn.out] at HZ; exact HZ.out)
           ·refine (hMb _ _ _ (some (k, s9)) (And1.lt hA HF.out.size HP.out) HS.out h9).mono ?_
            rintro e w9 ⟨⟨kx, rfl, hkx⟩, S9, F9⟩
            obtain rfl : kx = ((k : Nat) : Int) := hkx k rfl
            have HD := hidOf (hSm _ _ _ h9)
            clear HX
            have HX := hidOf hr9
            clear h9 hr9 hkx
            have o9 := F9.ints HP.out
            have FF9 := HF.out.trans F9
            clear HF HS HP
            have HF := hidOf FF9
            have HS := hidOf S9
            have HP := hidOf o9
            clear FF9 S9 F9 o9
            go_wp2_with fail
            refine (sBlankedA k true (s := s9) HS.out).mono ?_
            rintro e w10 ⟨rfl, S10, F10⟩
            have o10 := F10.ints HP.out
            have FF10 := HF.out.trans F10
            clear HF HS HP
            have HF := hidOf FF10
            have HS := hidOf S10
            have HP := hidOf o10
            clear FF10 S10 F10 o10
            have hs11 := HF.out.size
            go_wp2_with (at_builtin; refine wpList_append_own2 rfl _ _ 57 rfl w.heap.size 3 i0 _ 1 8 Tryz.underlying57 hi hz0 hz1 hz2 rfl (by decide) (.slice ao ks.length cc) (ks.length) (intVals ks) rfl (HP.out.alloc _) ⟨w10.heap.size, 0, none⟩ 1 1 [.int .i64 ((k : Nat) : Int)] rfl rfl (cell_one_new _ _ _) (by simp [Value.oneCell']) (by unfold maxLen; omega) (by omega) (by simp; omega) ?_; intro v' w11 hown' hgrow5 hpl5)
            have B11 : Below w10.heap.size w10 (w10.alloc (.cells #[.int .i64 ((k : Nat) : Int)] tI)) := (Below.refl _ _).alloc (Nat.le_refl _) _
            have FF11 := (HF.out.trans (Fr.ofB (B := B) B11 (SR.base (t := (some (setBl s9 k true))) HS.out))).growI hbase hgrow5 (fun b hb => (HP.out.lt b hb).1)
            have R11 := (SR.below (t := (some (setBl s9 k true))) HS.out B11).growI (A' := And1 A v') (HP.out.alloc _) hgrow5 (fun b hb => .inr hb) (fun b hb => by
             rcases hb with hb | hb
             ·exact .inl (.inl hb)
             ·rcases hpl5 b hb with h6 | h6
              ·exact .inl (.inr h6)
              ·exact .inr h6)
            have o11 := own_app (ks := ks) (k := ((k : Nat) : Int)) hown' rfl
            clear hown' hgrow5 hpl5 HF HS HP hs11 B11
            obtain ⟨ao11, cc11, rfl⟩ := owns_slice o11
            have HF := hidOf FF11
            have HS := hidOf R11
            have HP := hidOf o11
            clear FF11 R11 o11
            have hlen : (ks ++ [((k : Nat) : Int)]).length = ks.length + 1 := by simp
            have HZ := hidOf (show ∃ (ls : List Int) (q : Option Ps), f + ls.length = lim xs ∧ w11.ownsRow w.heap.size tI 1 (.slice ao11 (ks ++ [((k : Nat) : Int)]).length cc11) ls.length (intVals ls) ∧ SR B g xs (And1 A (.slice ao11 (ks ++ [((k : Nat) : Int)]).length cc11)) w11 q ∧ Fr B w w11 ∧ Hid (ToldB xs (membP xs) (⟨#[125]⟩ : ByteArray) (fun ks s2 => bnd (wantP xs (⟨#[125]⟩ : ByteArray) s2) fun _ s3 => addP 21 nmx ks s3) d0 f ls q o) from ⟨(ks ++ [((k : Nat) : Int)]), some (setBl s9 k true), by rw [hlen]; omega, HP.out, HS.out, HF.out, hidOf (show ToldB xs (membP xs) (⟨#[125]⟩ : ByteArray) (fun ks s2 => bnd (wantP xs (⟨#[125]⟩ : ByteArray) s2) fun _ s3 => addP 21 nmx ks s3) d0 f _ (some (setBl s9 k true)) o from ⟨(show _ = _ from HD.out).trans HD0.out, HX.out⟩)⟩)
            have HLn := hidOf hlen
            clear HP HS HF hlen
            go_wp2
            go_roundg f
            case measure => omega
            case rel => first | exact HZ.out | (rw [HLn.out] at HZ; exact HZ.out)
  ·rw [if_neg hc] at hr2
   unfold membP at hr2
   have HX := hidOf hr2
   have HNC := hidOf hc
   clear hr2 hc
   go_enter Tryz.func59, Tryz.ntmps59
   go_wp2_with fail
   by_cases hc : knd xs s.p = 5
   ·have qK := sKind (t := some s) HS.out 5 (.inr (.inr (.inr rfl)))
    rw [show kdP xs (some s) 5 = true from kd0_yes hc] at qK
    have hx := HX.out
    rw [if_pos hc] at hx
    clear HX
    have HX := hidOf hx
    clear hx
    refine qK.mono ?_
    clear qK
    rintro e w1 ⟨rfl, m1, hm1⟩
    have B1 : Below w.heap.size w w1 := by rw [hm1]; exact drewN_below _ _
    clear hm1
    have S1 := SR.below (t := (some s)) HS.out B1
    have FF1 := HF.out.trans (Fr.ofB (B := B) B1 (SR.base (t := (some s)) HS.out))
    clear HF HS
    have HF := hidOf FF1
    have HS := hidOf S1
    clear FF1 S1 B1
    have HC := hidOf hc
    clear hc
    go_wp2_with fail
    have qT := sText (o := some (txt xs s.p, s.next)) (t := some s) 5 (.inr (.inr (.inr rfl))) HS.out hX (text_yes (kd0_yes HC.out))
    have hx : addP 19 (txt xs s.p) [] s.next = some o := HX.out
    clear HX
    have HX := hidOf hx
    clear hx
    refine qT.mono ?_
    clear qT
    rintro e w2 ⟨⟨tx, rfl, htx⟩, S2, F2⟩
    obtain rfl : tx = txt xs s.p := htx _ rfl
    clear htx
    have FF2 := HF.out.trans F2
    clear HF HS
    have HF := hidOf FF2
    have HS := hidOf S2
    clear FF2 S2 F2
    obtain ⟨ux, hux⟩ : ∃ ux, ux = (txt xs s.p) := ⟨_, rfl⟩
    rw [← hux] at HX ⊢
    clear hux
    have B3 : Below w2.heap.size w2 (w2.alloc (.cells #[] tI)) := (Below.refl _ _).alloc (Nat.le_refl _) _
    have R3 : SR B g xs (And1 A (.slice (some ⟨w2.heap.size, 0, none⟩) 0 0)) (w2.alloc (.cells #[] tI)) (some s.next) := (SR.avoid (A' := And1 A (.slice (some ⟨w2.heap.size, 0, none⟩) 0 0)) (t := (some s.next)) HS.out (fun k hk => hk.imp_right (fun e => by injection e with e; show w2.heap.size ≤ k; exact Nat.le_of_eq e))).below B3
    have o3 : (w2.alloc (.cells #[] tI)).ownsRow w.heap.size tI 1 (.slice (some ⟨w2.heap.size, 0, none⟩) 0 0) 0 (intVals ([] : List Int)) := World.ownsRow_lit w2 #[] 0 HF.out.size (by decide) rfl
    have FF3 := HF.out.trans (Fr.ofB (B := B) B3 (SR.base (t := (some s.next)) HS.out))
    clear HF HS
    have HF := hidOf FF3
    have HS := hidOf R3
    have HP := hidOf o3
    clear FF3 R3 o3 B3
    go_wp2_with fail
    refine (sPut (o := o) 19 ux ([] : List Int) (some ⟨w2.heap.size, 0, none⟩) 0 (SR.avoid (t := some s.next) HS.out (fun k hk => .inl (.inl hk))) (ownsRow_base HP.out hbase) (fun b hb hb2 => by have h7 := (HP.out.lt b hb).1; have h8 := hA b hb2; omega) HX.out).mono ?_
    rintro e we ⟨⟨k9, rfl, hk9⟩, S9, F9⟩
    have HH := hidOf (show PostS B g xs A w VNs _ (.returned (.int .i64 k9)) we from ⟨⟨k9, rfl, hk9⟩, S9, HF.out.trans F9⟩)
    clear S9 F9 HF HS
    go_wp2
    go_ret
    exact HH.out
   ·have qK := sKind (t := some s) HS.out 5 (.inr (.inr (.inr rfl)))
    rw [show kdP xs (some s) 5 = false from kd0_no hc] at qK
    have hx := HX.out
    rw [if_neg hc] at hx
    clear HX
    have HX := hidOf hx
    clear hx
    refine qK.mono ?_
    clear qK
    rintro e w1 ⟨rfl, m1, hm1⟩
    have B1 : Below w.heap.size w w1 := by rw [hm1]; exact drewN_below _ _
    clear hm1
    have S1 := SR.below (t := (some s)) HS.out B1
    have FF1 := HF.out.trans (Fr.ofB (B := B) B1 (SR.base (t := (some s)) HS.out))
    clear HF HS
    have HF := hidOf FF1
    have HS := hidOf S1
    clear FF1 S1 B1
    clear hc
    go_wp2_with fail
    by_cases ht : txt xs s.p = (⟨#[118, 97, 114]⟩ : ByteArray)
    ·have hx := HX.out
     rw [if_pos ht] at hx
     clear HX
     have HX := hidOf hx
     clear hx
     refine (sWordY (s := s) HS.out hX (by rw [isP_word hWd (by decide)]; exact decide_eq_true ht)).mono ?_
     clear ht
     rintro e w2 ⟨rfl, S2, F2⟩
     have FF2 := HF.out.trans F2
     clear HF HS
     have HF := hidOf FF2
     have HS := hidOf S2
     clear FF2 S2 F2
     go_wp2_with fail
     refine (sVar (o := o) HS.out hX hM (fun b hb => Nat.lt_of_lt_of_le (hA b hb) HF.out.size) hV HX.out).mono ?_
     rintro e we ⟨⟨k9, rfl, hk9⟩, S9, F9⟩
     have HH := hidOf (show PostS B g xs A w VNs _ (.returned (.int .i64 k9)) we from ⟨⟨k9, rfl, hk9⟩, S9, HF.out.trans F9⟩)
     clear S9 F9 HF HS
     go_wp2
     go_ret
     exact HH.out
    ·have hx := HX.out
     rw [if_neg ht] at hx
     clear HX
     have HX := hidOf hx
     clear hx
     refine (sWordN (t := some s) HS.out (by rw [isP_word hWd (by decide)]; exact decide_eq_false ht)).mono ?_
     rintro e w2 ⟨rfl, B2⟩
     have S2 := SR.below (t := (some s)) HS.out B2
     have FF2 := HF.out.trans (Fr.ofB (B := B) B2 (SR.base (t := (some s)) HS.out))
     clear HF HS
     have HF := hidOf FF2
     have HS := hidOf S2
     clear FF2 S2 B2
     clear ht
     go_wp2_with fail
     refine (sWordN (t := some s) HS.out (by rw [isP_word hWd (by decide)]; exact decide_eq_false (HNC.out))).mono ?_
     rintro e w3 ⟨rfl, B3⟩
     have S3 := SR.below (t := (some s)) HS.out B3
     have FF3 := HF.out.trans (Fr.ofB (B := B) B3 (SR.base (t := (some s)) HS.out))
     clear HF HS
     have HF := hidOf FF3
     have HS := hidOf S3
     clear FF3 S3 B3
     go_wp2_with fail
     have hx := HX.out
     unfold methP at hx
     clear HX
     have HX := hidOf hx
     clear hx
     rcases bnd_some HX.out with ⟨h4, rfl⟩ | ⟨nm, s4, h4, hr4⟩
     ·refine (sName (o := none) HS.out hX h4).mono ?_
      rintro e w4 ⟨⟨nmx, rfl, -⟩, S4, F4⟩
      clear HX h4
      have FF4 := HF.out.trans F4
      clear HF HS
      have HF := hidOf FF4
      have HS := hidOf S4
      clear FF4 S4 F4
      go_wp2_with fail
      refine (sNames (o := none) (t := none) HS.out hX hM (fun b hb => Nat.lt_of_lt_of_le (hA b hb) HF.out.size) rfl).mono ?_
      rintro e w5 ⟨a5, c5, ks5, rfl, o5, S5, F5, hl5, -⟩
      have o5 := ownsRow_base o5 HF.out.size
      have F5 := HF.out.trans F5
      clear HF HS
      have HF := hidOf F5
      have HS := hidOf S5
      have HP := hidOf o5
      clear F5 S5 o5
      go_wp2_with fail
      refine (hBk _ _ _ none (And1.lt hA HF.out.size HP.out) HS.out rfl).mono ?_
      rintro e w6 ⟨⟨bx, rfl, -⟩, S6, F6⟩
      have o6 := F6.ints HP.out
      have FF6 := HF.out.trans F6
      clear HF HS HP
      have HF := hidOf FF6
      have HS := hidOf S6
      have HP := hidOf o6
      clear FF6 S6 F6 o6
      have hs7 := HF.out.size
      go_wp2_with (at_builtin; refine wpList_append_own2 rfl _ _ 57 rfl w.heap.size 3 i0 _ 1 8 Tryz.underlying57 hi hz0 hz1 hz2 rfl (by decide) (.slice a5 ks5.length c5) (ks5.length) (intVals ks5) rfl (HP.out.alloc _) ⟨w6.heap.size, 0, none⟩ 1 1 [.int .i64 bx] rfl rfl (cell_one_new _ _ _) (by simp [Value.oneCell']) (by unfold maxLen; omega) (by omega) (by simp; omega) ?_; intro v' w7 hown' hgrow5 hpl5)
      have B7 : Below w6.heap.size w6 (w6.alloc (.cells #[.int .i64 bx] tI)) := (Below.refl _ _).alloc (Nat.le_refl _) _
      have FF7 := (HF.out.trans (Fr.ofB (B := B) B7 (SR.base (t := none) HS.out))).growI hbase hgrow5 (fun b hb => (HP.out.lt b hb).1)
      have R7 := (SR.below (t := none) HS.out B7).growI (A' := And1 A v') (HP.out.alloc _) hgrow5 (fun b hb => .inr hb) (fun b hb => by
       rcases hb with hb | hb
       ·exact .inl (.inl hb)
       ·rcases hpl5 b hb with h6 | h6
        ·exact .inl (.inr h6)
        ·exact .inr h6)
      have o7 := own_app (ks := ks5) (k := bx) hown' rfl
      clear hown' hgrow5 hpl5 HF HS HP hs7 B7
      obtain ⟨ao7, cc7, rfl⟩ := owns_slice o7
      have HF := hidOf FF7
      have HS := hidOf R7
      have HP := hidOf o7
      clear FF7 R7 o7
      refine (sPut (o := none) 20 nmx (ks5 ++ [bx]) (ao7) cc7 (SR.avoid (t := none) HS.out (fun k hk => .inl (.inl hk))) (ownsRow_base HP.out hbase) (fun b hb hb2 => by have h7 := (HP.out.lt b hb).1; have h8 := hA b hb2; omega) rfl).mono ?_
      rintro e we ⟨⟨k9, rfl, hk9⟩, S9, F9⟩
      have HH := hidOf (show PostS B g xs A w VNs _ (.returned (.int .i64 k9)) we from ⟨⟨k9, rfl, hk9⟩, S9, HF.out.trans F9⟩)
      clear S9 F9 HF HS
      go_wp2
      go_ret
      exact HH.out
     ·refine (sName (o := (some (nm, s4))) HS.out hX h4).mono ?_
      rintro e w4 ⟨⟨nmx, rfl, hnmx⟩, S4, F4⟩
      obtain rfl : nmx = nm := hnmx nm rfl
      clear HX
      have HX := hidOf hr4
      clear h4 hr4 hnmx
      have FF4 := HF.out.trans F4
      clear HF HS
      have HF := hidOf FF4
      have HS := hidOf S4
      clear FF4 S4 F4
      go_wp2_with fail
      rcases bnd_some HX.out with ⟨h5, rfl⟩ | ⟨l5, s5, h5, hr5⟩
      ·refine (sNames (o := none) (t := some s4) HS.out hX hM (fun b hb => Nat.lt_of_lt_of_le (hA b hb) HF.out.size) h5).mono ?_
       rintro e w5 ⟨a5, c5, ks5, rfl, o5, S5, F5, hl5, -⟩
       clear HX h5
       have o5 := ownsRow_base o5 HF.out.size
       have F5 := HF.out.trans F5
       clear HF HS
       have HF := hidOf F5
       have HS := hidOf S5
       have HP := hidOf o5
       clear F5 S5 o5
       go_wp2_with fail
       refine (hBk _ _ _ none (And1.lt hA HF.out.size HP.out) HS.out rfl).mono ?_
       rintro e w6 ⟨⟨bx, rfl, -⟩, S6, F6⟩
       have o6 := F6.ints HP.out
       have FF6 := HF.out.trans F6
       clear HF HS HP
       have HF := hidOf FF6
       have HS := hidOf S6
       have HP := hidOf o6
       clear FF6 S6 F6 o6
       have hs7 := HF.out.size
       go_wp2_with (at_builtin; refine wpList_append_own2 rfl _ _ 57 rfl w.heap.size 3 i0 _ 1 8 Tryz.underlying57 hi hz0 hz1 hz2 rfl (by decide) (.slice a5 ks5.length c5) (ks5.length) (intVals ks5) rfl (HP.out.alloc _) ⟨w6.heap.size, 0, none⟩ 1 1 [.int .i64 bx] rfl rfl (cell_one_new _ _ _) (by simp [Value.oneCell']) (by unfold maxLen; omega) (by omega) (by simp; omega) ?_; intro v' w7 hown' hgrow5 hpl5)
       have B7 : Below w6.heap.size w6 (w6.alloc (.cells #[.int .i64 bx] tI)) := (Below.refl _ _).alloc (Nat.le_refl _) _
       have FF7 := (HF.out.trans (Fr.ofB (B := B) B7 (SR.base (t := none) HS.out))).growI hbase hgrow5 (fun b hb => (HP.out.lt b hb).1)
       have R7 := (SR.below (t := none) HS.out B7).growI (A' := And1 A v') (HP.out.alloc _) hgrow5 (fun b hb => .inr hb) (fun b hb => by
        rcases hb with hb | hb
        ·exact .inl (.inl hb)
        ·rcases hpl5 b hb with h6 | h6
         ·exact .inl (.inr h6)
         ·exact .inr h6)
       have o7 := own_app (ks := ks5) (k := bx) hown' rfl
       clear hown' hgrow5 hpl5 HF HS HP hs7 B7
       obtain ⟨ao7, cc7, rfl⟩ := owns_slice o7
       have HF := hidOf FF7
       have HS := hidOf R7
       have HP := hidOf o7
       clear FF7 R7 o7
       refine (sPut (o := none) 20 nmx (ks5 ++ [bx]) (ao7) cc7 (SR.avoid (t := none) HS.out (fun k hk => .inl (.inl hk))) (ownsRow_base HP.out hbase) (fun b hb hb2 => by have h7 := (HP.out.lt b hb).1; have h8 := hA b hb2; omega) rfl).mono ?_
       rintro e we ⟨⟨k9, rfl, hk9⟩, S9, F9⟩
       have HH := hidOf (show PostS B g xs A w VNs _ (.returned (.int .i64 k9)) we from ⟨⟨k9, rfl, hk9⟩, S9, HF.out.trans F9⟩)
       clear S9 F9 HF HS
       go_wp2
       go_ret
       exact HH.out
      ·refine (sNames (o := some (l5, s5)) (t := some s4) HS.out hX hM (fun b hb => Nat.lt_of_lt_of_le (hA b hb) HF.out.size) h5).mono ?_
       rintro e w5 ⟨a5, c5, ks5, rfl, o5, S5, F5, hl5, hk5⟩
       obtain rfl : ks5 = l5 := hk5 l5 s5 rfl
       clear HX
       have HX := hidOf hr5
       clear h5 hr5 hk5
       have o5 := ownsRow_base o5 HF.out.size
       have F5 := HF.out.trans F5
       clear HF HS
       have HF := hidOf F5
       have HS := hidOf S5
       have HP := hidOf o5
       clear F5 S5 o5
       go_wp2_with fail
       rcases bnd_some HX.out with ⟨h6, rfl⟩ | ⟨b, s6, h6, hr6⟩
       ·refine (hBk _ _ _ none (And1.lt hA HF.out.size HP.out) HS.out h6).mono ?_
        rintro e w6 ⟨⟨bx, rfl, -⟩, S6, F6⟩
        clear HX h6
        have o6 := F6.ints HP.out
        have FF6 := HF.out.trans F6
        clear HF HS HP
        have HF := hidOf FF6
        have HS := hidOf S6
        have HP := hidOf o6
        clear FF6 S6 F6 o6
        have hs7 := HF.out.size
        go_wp2_with (at_builtin; refine wpList_append_own2 rfl _ _ 57 rfl w.heap.size 3 i0 _ 1 8 Tryz.underlying57 hi hz0 hz1 hz2 rfl (by decide) (.slice a5 ks5.length c5) (ks5.length) (intVals ks5) rfl (HP.out.alloc _) ⟨w6.heap.size, 0, none⟩ 1 1 [.int .i64 bx] rfl rfl (cell_one_new _ _ _) (by simp [Value.oneCell']) (by unfold maxLen; omega) (by omega) (by simp; omega) ?_; intro v' w7 hown' hgrow5 hpl5)
        have B7 : Below w6.heap.size w6 (w6.alloc (.cells #[.int .i64 bx] tI)) := (Below.refl _ _).alloc (Nat.le_refl _) _
        have FF7 := (HF.out.trans (Fr.ofB (B := B) B7 (SR.base (t := none) HS.out))).growI hbase hgrow5 (fun b hb => (HP.out.lt b hb).1)
        have R7 := (SR.below (t := none) HS.out B7).growI (A' := And1 A v') (HP.out.alloc _) hgrow5 (fun b hb => .inr hb) (fun b hb => by
         rcases hb with hb | hb
         ·exact .inl (.inl hb)
         ·rcases hpl5 b hb with h6 | h6
          ·exact .inl (.inr h6)
          ·exact .inr h6)
        have o7 := own_app (ks := ks5) (k := bx) hown' rfl
        clear hown' hgrow5 hpl5 HF HS HP hs7 B7
        obtain ⟨ao7, cc7, rfl⟩ := owns_slice o7
        have HF := hidOf FF7
        have HS := hidOf R7
        have HP := hidOf o7
        clear FF7 R7 o7
        refine (sPut (o := none) 20 nmx (ks5 ++ [bx]) (ao7) cc7 (SR.avoid (t := none) HS.out (fun k hk => .inl (.inl hk))) (ownsRow_base HP.out hbase) (fun b hb hb2 => by have h7 := (HP.out.lt b hb).1; have h8 := hA b hb2; omega) rfl).mono ?_
        rintro e we ⟨⟨k9, rfl, hk9⟩, S9, F9⟩
        have HH := hidOf (show PostS B g xs A w VNs _ (.returned (.int .i64 k9)) we from ⟨⟨k9, rfl, hk9⟩, S9, HF.out.trans F9⟩)
        clear S9 F9 HF HS
        go_wp2
        go_ret
        exact HH.out
       ·refine (hBk _ _ _ (some (b, s6)) (And1.lt hA HF.out.size HP.out) HS.out h6).mono ?_
        rintro e w6 ⟨⟨bx, rfl, hbx⟩, S6, F6⟩
        obtain rfl : bx = ((b : Nat) : Int) := hbx b rfl
        clear HX
        have HX := hidOf hr6
        clear h6 hr6 hbx
        have o6 := F6.ints HP.out
        have FF6 := HF.out.trans F6
        clear HF HS HP
        have HF := hidOf FF6
        have HS := hidOf S6
        have HP := hidOf o6
        clear FF6 S6 F6 o6
        have hs7 := HF.out.size
        go_wp2_with (at_builtin; refine wpList_append_own2 rfl _ _ 57 rfl w.heap.size 3 i0 _ 1 8 Tryz.underlying57 hi hz0 hz1 hz2 rfl (by decide) (.slice a5 ks5.length c5) (ks5.length) (intVals ks5) rfl (HP.out.alloc _) ⟨w6.heap.size, 0, none⟩ 1 1 [.int .i64 ((b : Nat) : Int)] rfl rfl (cell_one_new _ _ _) (by simp [Value.oneCell']) (by unfold maxLen; omega) (by omega) (by simp; omega) ?_; intro v' w7 hown' hgrow5 hpl5)
        have B7 : Below w6.heap.size w6 (w6.alloc (.cells #[.int .i64 ((b : Nat) : Int)] tI)) := (Below.refl _ _).alloc (Nat.le_refl _) _
        have FF7 := (HF.out.trans (Fr.ofB (B := B) B7 (SR.base (t := (some s6)) HS.out))).growI hbase hgrow5 (fun b hb => (HP.out.lt b hb).1)
        have R7 := (SR.below (t := (some s6)) HS.out B7).growI (A' := And1 A v') (HP.out.alloc _) hgrow5 (fun b hb => .inr hb) (fun b hb => by
         rcases hb with hb | hb
         ·exact .inl (.inl hb)
         ·rcases hpl5 b hb with h6 | h6
          ·exact .inl (.inr h6)
          ·exact .inr h6)
        have o7 := own_app (ks := ks5) (k := ((b : Nat) : Int)) hown' rfl
        clear hown' hgrow5 hpl5 HF HS HP hs7 B7
        obtain ⟨ao7, cc7, rfl⟩ := owns_slice o7
        have HF := hidOf FF7
        have HS := hidOf R7
        have HP := hidOf o7
        clear FF7 R7 o7
        refine (sPut (o := o) 20 nmx (ks5 ++ [((b : Nat) : Int)]) (ao7) cc7 (SR.avoid (t := some s6) HS.out (fun k hk => .inl (.inl hk))) (ownsRow_base HP.out hbase) (fun b hb hb2 => by have h7 := (HP.out.lt b hb).1; have h8 := hA b hb2; omega) HX.out).mono ?_
        rintro e we ⟨⟨k9, rfl, hk9⟩, S9, F9⟩
        have HH := hidOf (show PostS B g xs A w VNs _ (.returned (.int .i64 k9)) we from ⟨⟨k9, rfl, hk9⟩, S9, HF.out.trans F9⟩)
        clear S9 F9 HF HS
        go_wp2
        go_ret
        exact HH.out
end
end Go.Proofs.YtcbbnphpkgifoaaGreatDoor
