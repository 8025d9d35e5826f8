/- Calls and dots behind a value: the specification's reader. -/
import Derived.Test.YtcbbnphpkgifoaaGreatDoorSpI7
import Derived.Test.YtcbbnphpkgifoaaGreatDoorKab
import Derived.Test.YtcbbnphpkgifoaaGreatDoorRdLib
namespace Go.Proofs.YtcbbnphpkgifoaaGreatDoor
open Go.RowKit
def ToldK (P : Nat → Ps → Rs Nat) (k : Int) (q : Option Ps) (o : Option (Nat × Ps)) : Prop :=
 match q with
 | none => o = none
 | some s => ∃ kn : Nat, k = (kn : Int) ∧ P kn s = some o
section
variable {B g : Nat} {xs : List Sg} {A : Nat → Prop} {w : World} {t : Option Ps}
set_option maxHeartbeats 8000000 in
set_option maxRecDepth 100000 in
theorem sEnd {O : Bool → Ps → Rs Nat} {o : Option (Nat × Ps)} (h : SR B g xs A w t) (hX : xs.length ≤ 3000) (hM : Marks xs) (hA : ∀ b, A b → b < w.heap.size) (hBs : ReadsS B g xs 266 (baseP xs O)) (hV : ReadsS B g xs 139 (O true)) (hr : Told (tailP xs O) t o) : Calls Tryz.prog 250 #[.pointer (some ⟨g, 0, none⟩)] w (PostS B g xs A w VNs o) := by
 have hbase := h.base
 obtain ⟨o1, hr1, hx⟩ := Told.bnd (x := baseP xs O) (f := fun k s1 => tailL xs O (lim xs) k s1) hr
 have qB := hBs A w t o1 hA h hr1
 have HX0 := hidOf hx
 clear hr hr1 hx hBs h
 go_enter Tryz.func250, Tryz.ntmps250
 go_wp2_with fail
 refine qB.mono ?_
 rintro e w1 ⟨⟨k1, rfl, hk1⟩, S1, F1⟩
 have HS := hidOf S1
 have HF := hidOf F1
 obtain ⟨q1, hq1⟩ : ∃ q1, q1 = o1.map (·.2) := ⟨_, rfl⟩
 rw [← hq1] at HS
 have HR := hidOf (show ToldK (tailL xs O (lim xs)) k1 q1 o by
  have h9 := HX0.out
  rw [hq1]
  match o1, h9, hk1 with
  | none, h9, _ => exact h9
  | some (a, _), h9, hk1 => exact ⟨a, hk1 a rfl, h9⟩)
 clear S1 F1 HX0 hq1 qB hk1
 go_wp2
 go_loopg [3] (lim xs) (fun f v wr => ∃ (k : Int) (q : Option Ps), v = .int .i64 k ∧ SR B g xs A wr q ∧ Fr B w wr ∧ Hid (ToldK (tailL xs O f) k q o))
 case atStart => exact ⟨k1, q1, rfl, HS.out, HF.out, HR⟩
 case round =>
  obtain ⟨k, q, rfl, S, F, HX⟩ := hrel
  clear HS HF HR
  have HS := hidOf S
  have HF := hidOf F
  clear S F
  match q, HS, HX with
  | none, HS, HX =>
   obtain rfl : o = none := HX.out
   obtain ⟨s1, h1, hd1⟩ := HS.out
   obtain ⟨sa, sc, na, nc, -, -, c2, -, -, -⟩ := h1.cells
   clear h1 hd1 HX
   go_wp2
   go_ret
   exact ⟨⟨k, rfl, fun a ha => by cases ha⟩, HS.out, HF.out⟩
  | some s1, HS, HX =>
   obtain ⟨kn, hkn, hx⟩ : ∃ kn : Nat, k = (kn : Int) ∧ tailL xs O gk kn s1 = some o := HX.out
   have HK := hidOf hkn
   clear HX hkn
   cases gk with
   | zero => exact absurd hx (by simp [tailL])
   | succ f =>
    obtain ⟨sa, sc, na, nc, -, -, c2, -, -, -⟩ := HS.out.1.cells
    unfold tailL at hx
    by_cases ht : txt xs s1.p = (⟨#[40]⟩ : ByteArray)
    ·rw [if_pos ht, call_as O kn s1 ht, bnd_asc, ← HK.out] at hx
     have qY := sMarkY (s := s1) HS.out hX (by rw [isP_mark (hM (⟨#[40]⟩ : ByteArray) (by decide))]; exact decide_eq_true ht)
     have HX := hidOf hx
     clear hx ht
     go_wp2_with fail
     refine qY.mono ?_
     rintro e w2 ⟨rfl, S2, F2⟩
     clear qY c2
     have FF2 := HF.out.trans F2
     clear HF HS
     have HF := hidOf FF2
     have HS := hidOf S2
     clear FF2 S2 F2
     have Bo : Below w2.heap.size w2 (w2.alloc (.cells #[.int .i64 k] tI)) := (Below.refl _ _).alloc (Nat.le_refl _) _
     have Ro : SR B g xs (And1 A (.slice (some ⟨w2.heap.size, 0, none⟩) 1 1)) (w2.alloc (.cells #[.int .i64 k] tI)) (some s1.next) := (SR.avoid (A' := And1 A (.slice (some ⟨w2.heap.size, 0, none⟩) 1 1)) (t := (some s1.next)) HS.out (fun k hk => hk.imp_right (fun e => by injection e with e; show w2.heap.size ≤ k; exact Nat.le_of_eq e))).below Bo
     have oo : (w2.alloc (.cells #[.int .i64 k] tI)).ownsRow w.heap.size tI 1 (.slice (some ⟨w2.heap.size, 0, none⟩) 1 1) 1 (intVals [k]) := World.ownsRow_lit w2 #[.int .i64 k] 1 HF.out.size (by decide) rfl
     have Fo := HF.out.trans (Fr.ofB (B := B) Bo (SR.base (t := (some s1.next)) HS.out))
     clear HF HS Bo
     have HF := hidOf Fo
     have HS := hidOf Ro
     have HP := hidOf oo
     clear Fo Ro oo
     go_wp2_with fail
     rcases bnd_some HX.out with ⟨h3, rfl⟩ | ⟨l, s3, h3, hr3⟩
     ·refine (sValues (w0 := w) (o := none) (t := some s1.next) hX (hM (⟨#[41]⟩ : ByteArray) (by decide)) (hM (⟨#[44]⟩ : ByteArray) (by decide)) HF.out hbase hA HP.out (by show (1 : Nat) ≤ 900; omega) HS.out hV h3).mono ?_
      rintro e w3 ⟨a3, c3, ks3, rfl, o3, S3, F3, hl3, -⟩
      clear HF HS HP HX h3
      have HF := hidOf F3
      have HS := hidOf S3
      have HP := hidOf o3
      clear F3 S3 o3
      go_wp2_with fail
      refine (sPut (o := none) 5 ByteArray.empty ks3 a3 c3 (SR.avoid (t := none) HS.out (fun k hk => .inl (.inl hk))) (ownsRow_base HP.out hbase) (fun b hb hb2 => by have h7 := (HP.out.lt b hb).1; have h8 := hA b hb2; omega) rfl).mono ?_
      rintro e w4 ⟨⟨k4, rfl, -⟩, S4, F4⟩
      clear HP
      have FF4 := HF.out.trans F4
      clear HF HS
      have HF := hidOf FF4
      have HS := hidOf S4
      clear FF4 S4 F4
      go_wp2
      go_roundg f
      case measure => omega
      case rel => exact ⟨k4, none, rfl, HS.out, HF.out, hidOf (show ToldK _ _ none none from rfl)⟩
     ·refine (sValues (w0 := w) (o := some (l, s3)) (t := some s1.next) hX (hM (⟨#[41]⟩ : ByteArray) (by decide)) (hM (⟨#[44]⟩ : ByteArray) (by decide)) HF.out hbase hA HP.out (by show (1 : Nat) ≤ 900; omega) HS.out hV h3).mono ?_
      rintro e w3 ⟨a3, c3, ks3, rfl, o3, S3, F3, hl3, hk3⟩
      obtain rfl : ks3 = l := hk3 l s3 rfl
      have HX2 := hidOf hr3
      clear HF HS HP HX h3 hr3 hk3
      have HF := hidOf F3
      have HS := hidOf S3
      have HP := hidOf o3
      clear F3 S3 o3
      go_wp2_with fail
      rcases bnd_some HX2.out with ⟨h4, rfl⟩ | ⟨a4, s4, h4, hr4⟩
      ·refine (sPut (o := none) 5 ByteArray.empty ks3 a3 c3 (SR.avoid (t := some s3) HS.out (fun k hk => .inl (.inl hk))) (ownsRow_base HP.out hbase) (fun b hb hb2 => by have h7 := (HP.out.lt b hb).1; have h8 := hA b hb2; omega) h4).mono ?_
       rintro e w4 ⟨⟨k4, rfl, -⟩, S4, F4⟩
       clear HP HX2 h4
       have FF4 := HF.out.trans F4
       clear HF HS
       have HF := hidOf FF4
       have HS := hidOf S4
       clear FF4 S4 F4
       go_wp2
       go_roundg f
       case measure => omega
       case rel => exact ⟨k4, none, rfl, HS.out, HF.out, hidOf (show ToldK _ _ none none from rfl)⟩
      ·refine (sPut (o := some (a4, s4)) 5 ByteArray.empty ks3 a3 c3 (SR.avoid (t := some s3) HS.out (fun k hk => .inl (.inl hk))) (ownsRow_base HP.out hbase) (fun b hb hb2 => by have h7 := (HP.out.lt b hb).1; have h8 := hA b hb2; omega) h4).mono ?_
       rintro e w4 ⟨⟨k4, rfl, hk4⟩, S4, F4⟩
       have hkk : k4 = (a4 : Int) := hk4 a4 rfl
       have HX := hidOf hr4
       have HKK := hidOf hkk
       clear HP HX2 h4 hr4 hk4 hkk
       have FF4 := HF.out.trans F4
       clear HF HS
       have HF := hidOf FF4
       have HS := hidOf S4
       clear FF4 S4 F4
       go_wp2
       go_roundg f
       case measure => omega
       case rel => exact ⟨k4, some s4, rfl, HS.out, HF.out, hidOf (show ToldK _ _ (some s4) o from ⟨a4, HKK.out, HX.out⟩)⟩
    ·rw [if_neg ht] at hx
     have qN := sMarkN (t := some s1) (u := (⟨#[40]⟩ : ByteArray)) HS.out (by rw [isP_mark (hM (⟨#[40]⟩ : ByteArray) (by decide))]; exact decide_eq_false ht)
     clear ht
     have HX := hidOf hx
     clear hx
     go_wp2_with fail
     refine qN.mono ?_
     rintro e w2 ⟨rfl, B2⟩
     have S2 := SR.below (t := some s1) HS.out B2
     have F2 := Fr.ofB (B := B) B2 (SR.base (t := some s1) HS.out)
     clear qN B2 c2
     have FF2 := HF.out.trans F2
     clear HF HS
     have HF := hidOf FF2
     have HS := hidOf S2
     clear FF2 S2 F2
     go_wp2_with fail
     by_cases ht : txt xs s1.p = (⟨#[46]⟩ : ByteArray)
     ·have hx := HX.out
      rw [if_pos ht] at hx
      have qY := sMarkY (s := s1) HS.out hX (by rw [isP_mark (hM (⟨#[46]⟩ : ByteArray) (by decide))]; exact decide_eq_true ht)
      clear HX ht
      have HX := hidOf hx
      clear hx
      refine qY.mono ?_
      rintro e w3 ⟨rfl, S3, F3⟩
      clear qY
      have FF3 := HF.out.trans F3
      clear HF HS
      have HF := hidOf FF3
      have HS := hidOf S3
      clear FF3 S3 F3
      go_wp2_with fail
      rcases bnd_some HX.out with ⟨h4, rfl⟩ | ⟨nm, s4, h4, hr4⟩
      ·refine (sName (t := some s1.next) (o := none) HS.out hX h4).mono ?_
       rintro e w4 ⟨⟨nmx, rfl, -⟩, S4, F4⟩
       clear HX h4
       have FF4 := HF.out.trans F4
       clear HF HS
       have HF := hidOf FF4
       have HS := hidOf S4
       clear FF4 S4 F4
       have Bo : Below w4.heap.size w4 (w4.alloc (.cells #[.int .i64 k] tI)) := (Below.refl _ _).alloc (Nat.le_refl _) _
       have Ro : SR B g xs (And1 A (.slice (some ⟨w4.heap.size, 0, none⟩) 1 1)) (w4.alloc (.cells #[.int .i64 k] tI)) none := (SR.avoid (A' := And1 A (.slice (some ⟨w4.heap.size, 0, none⟩) 1 1)) (t := none) HS.out (fun k hk => hk.imp_right (fun e => by injection e with e; show w4.heap.size ≤ k; exact Nat.le_of_eq e))).below Bo
       have oo : (w4.alloc (.cells #[.int .i64 k] tI)).ownsRow w.heap.size tI 1 (.slice (some ⟨w4.heap.size, 0, none⟩) 1 1) 1 (intVals [k]) := World.ownsRow_lit w4 #[.int .i64 k] 1 HF.out.size (by decide) rfl
       have Fo := HF.out.trans (Fr.ofB (B := B) Bo (SR.base (t := none) HS.out))
       clear HF HS Bo
       have HF := hidOf Fo
       have HS := hidOf Ro
       have HP := hidOf oo
       clear Fo Ro oo
       go_wp2_with fail
       refine (sPut (o := none) 6 nmx [k] _ 1 (SR.avoid (t := none) HS.out (fun k hk => .inl (.inl hk))) (ownsRow_base HP.out hbase) (fun b hb hb2 => by have h7 := (HP.out.lt b hb).1; have h8 := hA b hb2; omega) rfl).mono ?_
       rintro e w5 ⟨⟨k5, rfl, -⟩, S5, F5⟩
       clear HP
       have FF5 := HF.out.trans F5
       clear HF HS
       have HF := hidOf FF5
       have HS := hidOf S5
       clear FF5 S5 F5
       go_wp2
       go_roundg f
       case measure => omega
       case rel => exact ⟨k5, none, rfl, HS.out, HF.out, hidOf (show ToldK _ _ none none from rfl)⟩
      ·refine (sName (t := some s1.next) (o := some (nm, s4)) HS.out hX h4).mono ?_
       rintro e w4 ⟨⟨nmx, rfl, hnm⟩, S4, F4⟩
       obtain rfl : nmx = nm := hnm nm rfl
       have hr4b := hr4
       rw [← HK.out] at hr4b
       have HX2 := hidOf hr4b
       clear HX h4 hr4 hr4b hnm
       have FF4 := HF.out.trans F4
       clear HF HS
       have HF := hidOf FF4
       have HS := hidOf S4
       clear FF4 S4 F4
       have Bo : Below w4.heap.size w4 (w4.alloc (.cells #[.int .i64 k] tI)) := (Below.refl _ _).alloc (Nat.le_refl _) _
       have Ro : SR B g xs (And1 A (.slice (some ⟨w4.heap.size, 0, none⟩) 1 1)) (w4.alloc (.cells #[.int .i64 k] tI)) (some s4) := (SR.avoid (A' := And1 A (.slice (some ⟨w4.heap.size, 0, none⟩) 1 1)) (t := (some s4)) HS.out (fun k hk => hk.imp_right (fun e => by injection e with e; show w4.heap.size ≤ k; exact Nat.le_of_eq e))).below Bo
       have oo : (w4.alloc (.cells #[.int .i64 k] tI)).ownsRow w.heap.size tI 1 (.slice (some ⟨w4.heap.size, 0, none⟩) 1 1) 1 (intVals [k]) := World.ownsRow_lit w4 #[.int .i64 k] 1 HF.out.size (by decide) rfl
       have Fo := HF.out.trans (Fr.ofB (B := B) Bo (SR.base (t := (some s4)) HS.out))
       clear HF HS Bo
       have HF := hidOf Fo
       have HS := hidOf Ro
       have HP := hidOf oo
       clear Fo Ro oo
       go_wp2_with fail
       rcases bnd_some HX2.out with ⟨h5, rfl⟩ | ⟨a5, s5, h5, hr5⟩
       ·refine (sPut (o := none) 6 nmx [k] _ 1 (SR.avoid (t := some s4) HS.out (fun k hk => .inl (.inl hk))) (ownsRow_base HP.out hbase) (fun b hb hb2 => by have h7 := (HP.out.lt b hb).1; have h8 := hA b hb2; omega) h5).mono ?_
        rintro e w5 ⟨⟨k5, rfl, -⟩, S5, F5⟩
        clear HP HX2 h5
        have FF5 := HF.out.trans F5
        clear HF HS
        have HF := hidOf FF5
        have HS := hidOf S5
        clear FF5 S5 F5
        go_wp2
        go_roundg f
        case measure => omega
        case rel => exact ⟨k5, none, rfl, HS.out, HF.out, hidOf (show ToldK _ _ none none from rfl)⟩
       ·refine (sPut (o := some (a5, s5)) 6 nmx [k] _ 1 (SR.avoid (t := some s4) HS.out (fun k hk => .inl (.inl hk))) (ownsRow_base HP.out hbase) (fun b hb hb2 => by have h7 := (HP.out.lt b hb).1; have h8 := hA b hb2; omega) h5).mono ?_
        rintro e w5 ⟨⟨k5, rfl, hk5⟩, S5, F5⟩
        have hkk : k5 = (a5 : Int) := hk5 a5 rfl
        have HX := hidOf hr5
        have HKK := hidOf hkk
        clear HP HX2 h5 hr5 hk5 hkk
        have FF5 := HF.out.trans F5
        clear HF HS
        have HF := hidOf FF5
        have HS := hidOf S5
        clear FF5 S5 F5
        go_wp2
        go_roundg f
        case measure => omega
        case rel => exact ⟨k5, some s5, rfl, HS.out, HF.out, hidOf (show ToldK _ _ (some s5) o from ⟨a5, HKK.out, HX.out⟩)⟩
     ·have hx := HX.out
      rw [if_neg ht] at hx
      obtain rfl : some (kn, s1) = o := by injection hx
      have qN := sMarkN (t := some s1) (u := (⟨#[46]⟩ : ByteArray)) HS.out (by rw [isP_mark (hM (⟨#[46]⟩ : ByteArray) (by decide))]; exact decide_eq_false ht)
      clear HX hx ht
      refine qN.mono ?_
      rintro e w3 ⟨rfl, B3⟩
      have S3 := SR.below (t := some s1) HS.out B3
      have F3 := Fr.ofB (B := B) B3 (SR.base (t := some s1) HS.out)
      clear qN B3
      have FF3 := HF.out.trans F3
      clear HF HS
      have HF := hidOf FF3
      have HS := hidOf S3
      clear FF3 S3 F3
      go_wp2
      go_ret
      exact ⟨⟨k, rfl, fun a ha => by injection ha with ha; rw [← ha]; exact HK.out⟩, HS.out, HF.out⟩
end
def Dp {α : Type} (d : Nat) (r : Rs α) : Prop := ∀ a s, r = yes a s → s.d = d
section
variable {α β : Type} {xs : List Sg} {d : Nat}
theorem Dp.no : Dp (α := α) d (some none) := fun _ _ h => by simp at h
theorem Dp.out : Dp (α := α) d none := fun _ _ h => by simp at h
theorem Dp.ok {a : α} {s : Ps} (h : s.d = d) : Dp d (yes a s) := fun b t e => by simp only [Option.some.injEq, Prod.mk.injEq] at e; obtain ⟨-, rfl⟩ := e; exact h
theorem Dp.bnd {x : Rs α} {f : α → Ps → Rs β} (h : Dp d x) (hf : ∀ a s, s.d = d → Dp d (f a s)) : Dp d (bnd x f) := by
 match x, h with
 | none, _ => exact Dp.out
 | some none, _ => exact Dp.no
 | some (some (a, s)), h => exact hf a s (h a s rfl)
theorem dp_want {t : ByteArray} {s : Ps} (h : s.d = d) : Dp d (wantP xs t s) := by
 unfold wantP
 split
 ·exact Dp.ok h
 ·exact Dp.no
theorem dp_add {kind : Int} {t : ByteArray} {ks : List Int} {s : Ps} (h : s.d = d) : Dp d (addP kind t ks s) := by
 unfold addP
 split
 ·exact Dp.no
 ·exact Dp.ok h
theorem dp_name {s : Ps} (h : s.d = d) : Dp d (nameP xs s) := by
 unfold nameP
 split
 ·exact Dp.ok h
 ·exact Dp.no
theorem dp_leaf {kind : Int} {s : Ps} (h : s.d = d) : Dp d (leafP xs kind s) := dp_add (s := s.next) h
theorem dp_node {s : Ps} (h : s.d = d) : Dp d (nodeP xs s) := (dp_name h).bnd fun _ _ h1 => dp_add h1
def Same (one : Ps → Rs Nat) : Prop := ∀ s : Ps, Dp s.d (one s)
theorem dp_listed {one : Ps → Rs Nat} {en : ByteArray} (hg : Same one) : ∀ (f : Nat) (ks : List Int) (s : Ps), s.d = d → Dp d (listedP xs one en f ks s)
 | 0, _, _, _ => Dp.out
 | f + 1, ks, s, h => by
  unfold listedP
  split
  ·exact Dp.ok h
  ·refine Dp.bnd (h ▸ hg s) fun k s1 h1 => ?_
   split
   ·exact dp_listed hg f _ s1.next h1
   ·exact (dp_want h1).bnd fun _ s2 h2 => Dp.ok h2
theorem dp_names {s : Ps} (h : s.d = d) : Dp d (namesP xs s) := (dp_want h).bnd fun _ s1 h1 => dp_listed (fun _ => dp_node rfl) _ _ s1 h1
section
variable {O : Bool → Ps → Rs Nat}
theorem dp_call {c : Nat} {s : Ps} (hO : Same (O true)) (h : s.d = d) : Dp d (callP xs O c s) := (dp_want h).bnd fun _ s1 h1 => (dp_listed hO _ _ s1 h1).bnd fun _ _ h2 => dp_add h2
theorem dp_arrow {s : Ps} (hO : Same (O false)) (h : s.d = d) : Dp d (arrowP xs O s) := (dp_names h).bnd fun _ _ h1 => (dp_want h1).bnd fun _ s2 h2 => Dp.bnd (h2 ▸ hO s2) fun _ _ h3 => dp_add h3
theorem dp_base {s : Ps} (hO : ∀ b, Same (O b)) (h : s.d = d) : Dp d (baseP xs O s) := by
 unfold baseP
 split
 ·exact dp_leaf h
 split
 ·exact dp_leaf h
 split
 ·exact dp_leaf h
 split
 ·exact (dp_listed (hO true) _ _ s.next h).bnd fun _ _ h1 => dp_add h1
 split
 ·exact dp_arrow (hO false) h
 split
 ·exact Dp.bnd (show Dp d (O true s.next) from h ▸ hO true s.next) fun _ _ h1 => (dp_want h1).bnd fun _ _ h2 => dp_add h2
 ·exact Dp.no
theorem dp_tailL (hO : Same (O true)) : ∀ (f v : Nat) (s : Ps), s.d = d → Dp d (tailL xs O f v s)
 | 0, _, _, _ => Dp.out
 | f + 1, v, s, h => by
  unfold tailL
  split
  ·exact (dp_call hO h).bnd fun k s1 h1 => dp_tailL hO f k s1 h1
  split
  ·exact (dp_name (s := s.next) h).bnd fun _ _ h1 => (dp_add h1).bnd fun k s2 h2 => dp_tailL hO f k s2 h2
  ·exact Dp.ok h
theorem dp_tail {s : Ps} (hO : ∀ b, Same (O b)) (h : s.d = d) : Dp d (tailP xs O s) := (dp_base hO h).bnd fun k s1 h1 => dp_tailL (hO true) _ k s1 h1
theorem dp_from {nx : Ps → Rs Nat} {mark : ByteArray} (hn : Same nx) : ∀ (f : Nat) (ks : List Int) (s : Ps), s.d = d → Dp d (fromL xs nx mark f ks s)
 | 0, _, _, _ => Dp.out
 | f + 1, ks, s, h => by
  unfold fromL
  split
  ·exact Dp.bnd (show Dp d (nx s.next) from h ▸ hn s.next) fun k s1 h1 => dp_from hn f _ s1 h1
  ·exact dp_add h
theorem dp_chL {nx : Ps → Rs Nat} {lv : Nat} (hn : Same nx) : ∀ (f v : Nat) (s : Ps), s.d = d → Dp d (chL xs nx lv f v s)
 | 0, _, _, _ => Dp.out
 | f + 1, v, s, h => by
  unfold chL
  split
  ·exact (dp_from hn _ _ s h).bnd fun k s1 h1 => dp_chL hn f k s1 h1
  ·exact Dp.ok h
theorem dp_chain (hO : ∀ b, Same (O b)) : ∀ (j d : Nat) (s : Ps), s.d = d → Dp d (chainP xs O j s)
 | 0, _, _, h => dp_tail hO h
 | j + 1, d, s, h => (dp_chain hO j d s h).bnd fun v s1 h1 => dp_chL (fun u => dp_chain hO j u.d u rfl) _ v s1 h1
theorem dp_pick {s : Ps} (hO : ∀ b, Same (O b)) (h : s.d = d) : Dp d (pickP xs O s) := by
 unfold pickP
 split
 ·exact Dp.no
 have hc : ∀ {γ : Type} {x : Rs Nat} {f : Nat → Ps → Rs γ}, Dp (d + 1) x → (∀ a s, s.d = d + 1 → Dp d (f a s)) → Dp d (Go.Proofs.YtcbbnphpkgifoaaGreatDoor.bnd x f) := by
  intro γ x f hx hf
  match x, hx with
  | none, _ => exact Dp.out
  | some none, _ => exact Dp.no
  | some (some (a, s)), hx => exact hf a s (hx a s rfl)
 have hu : ∀ {γ : Type} {x : Rs Unit} {f : Unit → Ps → Rs γ}, Dp (d + 1) x → (∀ a s, s.d = d + 1 → Dp d (f a s)) → Dp d (Go.Proofs.YtcbbnphpkgifoaaGreatDoor.bnd x f) := by
  intro γ x f hx hf
  match x, hx with
  | none, _ => exact Dp.out
  | some none, _ => exact Dp.no
  | some (some (a, s)), hx => exact hf a s (hx a s rfl)
 refine hc (dp_chain hO 6 (d + 1) ⟨s.p, s.d + 1, s.ns⟩ (by show s.d + 1 = d + 1; omega)) fun v s1 h1 => ?_
 split
 ·refine hc (show Dp (d + 1) (O false s1.next) from h1 ▸ hO false s1.next) fun y s2 h2 => ?_
  refine hu (dp_want h2) fun _ s3 h3 => ?_
  refine hc (h3 ▸ hO false s3) fun n s4 h4 => ?_
  refine hc (dp_add h4) fun k s5 h5 => ?_
  exact Dp.ok (by show s5.d - 1 = d; omega)
 ·exact Dp.ok (by show s1.d - 1 = d; omega)
theorem dp_casL (hO : Same (O true)) : ∀ (f : Nat) (ks : List Int) (s : Ps), s.d = d → Dp d (casL xs O f ks s)
 | 0, _, _, _ => Dp.out
 | f + 1, ks, s, h => by
  unfold casL
  split
  ·exact (dp_node (s := s.next) h).bnd fun _ _ h1 => (dp_call hO h1).bnd fun k s2 h2 => dp_casL hO f _ s2 h2
  ·exact Dp.ok h
theorem dp_value {s : Ps} (hO : ∀ b, Same (O b)) (h : s.d = d) : Dp d (valueP xs O s) := by
 refine (dp_pick hO h).bnd fun v s1 h1 => (dp_casL (hO true) _ _ s1 h1).bnd fun ks s2 h2 => ?_
 split
 ·exact Dp.ok h2
 ·exact dp_add h2
end
theorem dp_vp : ∀ (n : Nat) (b : Bool), Same (vpF xs n b)
 | 0, _ => fun _ => Dp.out
 | n + 1, true => fun _ => dp_value (fun b => dp_vp n b) rfl
 | n + 1, false => fun _ => dp_pick (fun b => dp_vp n b) rfl
theorem dp_val {s : Ps} (h : s.d = d) : Dp d (valP xs s) := h ▸ dp_vp _ true s
theorem dp_body {one : Ps → Rs Nat} {en : ByteArray} (hg : Same one) : ∀ (f : Nat) (ks : List Int) (s : Ps), s.d = d → Dp d (bodyP xs one en f ks s)
 | 0, _, _, _ => Dp.out
 | f + 1, ks, s, h => by
  unfold bodyP
  split
  ·exact Dp.ok h
  ·exact Dp.bnd (h ▸ hg s) fun k s1 h1 => dp_body hg f _ (setBl s1 k _) h1
theorem dp_hold {s : Ps} (h : s.d = d) : Dp d (holdP xs s) := by
 refine (dp_name h).bnd fun t s1 h1 => ?_
 split
 ·exact (dp_val (s := s1.next) h1).bnd fun _ _ h2 => (dp_want h2).bnd fun _ _ h3 => dp_add h3
 ·exact (dp_want h1).bnd fun _ _ h3 => dp_add h3
theorem dp_cond {s : Ps} (h : s.d = d) : Dp d (condP xs s) := (dp_want h).bnd fun _ _ h1 => (dp_val h1).bnd fun _ _ h2 => (dp_want h2).bnd fun _ _ h3 => Dp.ok h3
theorem dp_block {st : Ps → Rs Nat} {s : Ps} (hg : Same st) (h : s.d = d) : Dp d (blockP xs st s) := by
 unfold blockP
 split
 ·exact Dp.no
 have hu : ∀ {δ γ : Type} {x : Rs δ} {f : δ → Ps → Rs γ}, Dp (d + 1) x → (∀ a s, s.d = d + 1 → Dp d (f a s)) → Dp d (Go.Proofs.YtcbbnphpkgifoaaGreatDoor.bnd x f) := by
  intro δ γ x f hx hf
  match x, hx with
  | none, _ => exact Dp.out
  | some none, _ => exact Dp.no
  | some (some (a, s)), hx => exact hf a s (hx a s rfl)
 refine hu (dp_want (s := ⟨s.p, s.d + 1, s.ns⟩) (by show s.d + 1 = d + 1; omega)) fun _ s1 h1 => ?_
 refine hu (dp_body hg _ _ s1 h1) fun ks s2 h2 => ?_
 refine hu (dp_want h2) fun _ s3 h3 => ?_
 exact dp_add (s := ⟨s3.p, s3.d - 1, s3.ns⟩) (by show s3.d - 1 = d; omega)
theorem dp_answ {s : Ps} (h : s.d = d) : Dp d (answP xs s) := by
 unfold answP
 split
 ·exact (dp_want h).bnd fun _ _ h1 => dp_add h1
 ·exact (dp_val h).bnd fun _ _ h1 => (dp_want h1).bnd fun _ _ h2 => dp_add h2
theorem dp_choi {st : Ps → Rs Nat} {s : Ps} (hg : Same st) (h : s.d = d) : Dp d (choiP xs st s) := by
 refine (dp_cond h).bnd fun v s1 h1 => (dp_block hg h1).bnd fun b s2 h2 => ?_
 split
 ·exact (dp_block (s := s2.next) hg h2).bnd fun _ _ h3 => dp_add h3
 ·exact dp_add h2
theorem dp_loop {st : Ps → Rs Nat} {s : Ps} (hg : Same st) (h : s.d = d) : Dp d (loopP xs st s) := (dp_cond h).bnd fun _ _ h1 => (dp_block hg h1).bnd fun _ _ h2 => dp_add h2
theorem dp_sett {s : Ps} (h : s.d = d) : Dp d (settP xs s) := (dp_name h).bnd fun _ _ h1 => (dp_want h1).bnd fun _ _ h2 => (dp_val h2).bnd fun _ _ h3 => (dp_want h3).bnd fun _ _ h4 => dp_add h4
theorem dp_step {st : Ps → Rs Nat} {s : Ps} (hg : Same st) (h : s.d = d) : Dp d (stepP xs st s) := by
 unfold stepP
 split
 ·exact dp_leaf h
 split
 ·exact dp_hold (s := s.next) h
 split
 ·exact dp_answ (s := s.next) h
 split
 ·exact dp_choi (s := s.next) hg h
 split
 ·exact dp_loop (s := s.next) hg h
 split
 ·exact dp_sett h
 ·exact (dp_val h).bnd fun _ _ h1 => (dp_want h1).bnd fun _ _ h2 => dp_add h2
theorem dp_st : ∀ (n : Nat), Same (stF xs n)
 | 0 => fun _ => Dp.out
 | n + 1 => fun _ => dp_step (dp_st n) rfl
end
end Go.Proofs.YtcbbnphpkgifoaaGreatDoor
