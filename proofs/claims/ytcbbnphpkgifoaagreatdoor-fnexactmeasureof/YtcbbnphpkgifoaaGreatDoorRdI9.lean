/- Values of the program's reader: arrows, what a value begins with. -/
import Derived.Test.YtcbbnphpkgifoaaGreatDoorKau
namespace Go.Proofs.YtcbbnphpkgifoaaGreatDoor
open Go.RowKit
set_option maxHeartbeats 8000000
set_option maxRecDepth 100000
section
variable {B g : Nat} {xs : List Sg} {A : Nat → Prop} {w : World} {s : Ps}
theorem iArr {o : Option (Nat × Ps)} {O : Bool → Ps → Rs Nat} (h : Rd B g xs A w s) (hX : xs.length ≤ 3000) (hA : ∀ b, A b → b < w.heap.size) (hP : Reads B g xs 272 (O false)) (hr : arrowP xs O s = some o) : Calls Tryz.prog 298 #[.pointer (some ⟨g, 0, none⟩)] w (PostR B g xs A w VN o) := by
 obtain ⟨i0, hi, hz0, hz1, hz2⟩ := info_parts infoI1
 have hbase := h.base
 have HF := hidOf (Fr.refl B w)
 have HB := hidOf h
 have HX := hidOf hr
 clear h hr
 go_enter Tryz.func298, Tryz.ntmps298
 go_wp2_with fail
 rcases bnd_some HX.out with ⟨h1, rfl⟩ | ⟨ks, s1, h1, hr1⟩
 ·refine (iNames HB.out hX (fun b hb => Nat.lt_of_lt_of_le (hA b hb) HF.out.size) h1).mono ?_
  rintro e wf ⟨hF, pl, rfl⟩
  exact ⟨rfl, HF.out.trans hF, pl, rfl⟩
 refine (iNames HB.out hX (fun b hb => Nat.lt_of_lt_of_le (hA b hb) HF.out.size) h1).mono ?_
 rintro e w1 ⟨⟨la1, lc1, rfl, lo1, lr1, lf1⟩, R1, F1⟩
 have o1 := ownsRow_base lo1 HF.out.size
 have FF1 := HF.out.trans F1
 clear HF HX
 have HF := hidOf FF1
 have HB2 := hidOf lr1
 have HX := hidOf hr1
 clear HB
 have HB := HB2
 have HP := hidOf o1
 clear HB2 FF1 R1 F1 h1 hr1 o1 lo1 lr1
 go_wp2_with fail
 rcases bnd_some HX.out with ⟨h2, rfl⟩ | ⟨u, s2, h2, hr2⟩
 ·refine (iWant HB.out hX (lit_ne _ _) h2).mono ?_
  rintro e wf ⟨hF, pl, rfl⟩
  exact ⟨rfl, HF.out.trans hF, pl, rfl⟩
 refine (iWant HB.out hX (lit_ne _ _) h2).mono ?_
 rintro e w2 ⟨rfl, R2, F2⟩
 have o2 := F2.ints HP.out
 have FF2 := HF.out.trans F2
 clear HF HX HP
 have HF := hidOf FF2
 have HB2 := hidOf R2
 have HX := hidOf hr2
 clear HB
 have HB := HB2
 have HP := hidOf o2
 clear HB2 FF2 R2 F2 h2 hr2 o2
 go_wp2_with fail
 rcases bnd_some HX.out with ⟨h3, rfl⟩ | ⟨k, s3, h3, hr3⟩
 ·refine (hP _ _ _ _ (And1.lt hA HF.out.size HP.out) HB.out h3).mono ?_
  rintro e wf ⟨hF, pl, rfl⟩
  exact ⟨rfl, HF.out.trans hF, pl, rfl⟩
 refine (hP _ _ _ _ (And1.lt hA HF.out.size HP.out) HB.out h3).mono ?_
 rintro e w3 ⟨⟨rfl, hk3⟩, R3, F3⟩
 have o3 := F3.ints HP.out
 have FF3 := HF.out.trans F3
 clear HF HX HP
 have HF := hidOf FF3
 have HB2 := hidOf R3
 have HX := hidOf hr3
 clear HB
 have HB := HB2
 have HP := hidOf o3
 clear HB2 FF3 R3 F3 h3 hr3 o3 hk3
 have hs4 := HF.out.size
 go_wp2_with (at_builtin; refine wpList_append_own2 rfl _ _ 57 rfl w.heap.size 3 i0 _ 1 8 Tryz.underlying57 hi hz0 hz1 hz2 rfl (by decide) (.slice la1 ks.length lc1) (ks.length) (intVals ks) rfl (HP.out.alloc _) ⟨w3.heap.size, 0, none⟩ 1 1 [.int .i64 (k : Int)] rfl rfl (cell_one_new _ _ _) (by simp [Value.oneCell']) (by unfold maxLen; omega) (by omega) (by simp; omega) ?_; intro v' w4 hown' hgrow5 hpl5)
 have B4 : Below w3.heap.size w3 (w3.alloc (.cells #[.int .i64 (k : Int)] tI)) := (Below.refl _ _).alloc (Nat.le_refl _) _
 have FF4 := (HF.out.trans (Fr.ofB (B := B) B4 HB.out.base)).growI hbase hgrow5 (fun b hb => (HP.out.lt b hb).1)
 have R4 := (HB.out.below B4).growI (A' := And1 A v') (HP.out.alloc _) hgrow5 (fun b hb => .inr hb) (fun b hb => by
  rcases hb with hb | hb
  ·exact .inl (.inl hb)
  ·rcases hpl5 b hb with h6 | h6
   ·exact .inl (.inr h6)
   ·exact .inr h6)
 have o4 := own_app (ks := ks) (k := (k : Int)) hown' rfl
 clear hown' hgrow5 hpl5 HF HB HP hs4 B4
 obtain ⟨ao4, cc4, rfl⟩ := owns_slice o4
 have HF := hidOf FF4
 have HB := hidOf R4
 have HP := hidOf o4
 clear FF4 R4 o4
 refine (iAdd 9 ByteArray.empty (ks ++ [(k : Int)]) (ao4) cc4 (HB.out.avoid (fun k hk => .inl (.inl hk))) (ownsRow_base HP.out hbase) (fun b hb hb2 => by have h7 := (HP.out.lt b hb).1; have h8 := hA b hb2; omega) HX.out).mono ?_
 intro e we H
 have H2 := H.into HF.out
 clear H
 rcases o with _ | ⟨k9, s9⟩
 ·obtain ⟨hF, pl, rfl⟩ := H2
  exact ⟨rfl, hF, pl, rfl⟩
 ·obtain ⟨⟨rfl, hk9⟩, H⟩ := H2
  have HH := hidOf H
  clear H
  clear HF HB HX
  go_wp2
  go_ret
  exact ⟨⟨rfl, hk9⟩, HH.out⟩
theorem iBase {o : Option (Nat × Ps)} {O : Bool → Ps → Rs Nat} (h : Rd B g xs A w s) (hX : xs.length ≤ 3000) (hA : ∀ b, A b → b < w.heap.size) (hV : Reads B g xs 260 (O true)) (hP : Reads B g xs 272 (O false)) (hr : baseP xs O s = some o) : Calls Tryz.prog 296 #[.pointer (some ⟨g, 0, none⟩)] w (PostR B g xs A w VN o) := by
 obtain ⟨i0, hi, hz0, hz1, hz2⟩ := info_parts infoI1
 have hmf : ∀ (fn : Fn) (first cap : Array Value) (w : World), (Instr.makeFunc fn first cap).run Tryz.prog w = .ok (.func fn first cap) w := fun _ _ _ _ => rfl
 have hbase := h.base
 have HF := hidOf (Fr.refl B w)
 have HB := hidOf h
 have HX := hidOf hr
 clear h hr
 go_enter Tryz.func296, Tryz.ntmps296
 go_wp2_with fail
 refine (iNext_any HB.out).mono ?_
 rintro e w1 ⟨⟨pl1, rfl⟩, B1⟩
 have R1 := HB.out.below B1
 have FF1 := HF.out.trans (Fr.ofB (B := B) B1 HB.out.base)
 clear HF HB
 have HF := hidOf FF1
 have HB := hidOf R1
 clear FF1 R1 B1
 go_wp2_with fail
 have qN := iNmSg (knd xs s.p) (txt xs s.p) pl1 (blk xs s.p) w1
 have hx := HX.out
 unfold baseP at hx
 clear HX
 have HX := hidOf hx
 clear hx
 by_cases ht : isNm xs s.p = true
 ·have hx := HX.out
  rw [if_pos ht] at hx
  clear HX
  have HX := hidOf hx
  clear hx
  rw [show ((knd xs s.p == 1) && !kw (txt xs s.p)) = true from ht] at qN
  refine (qN).mono ?_
  rintro e w2 ⟨rfl, B2⟩
  have R2 := HB.out.below B2
  have FF2 := HF.out.trans (Fr.ofB (B := B) B2 HB.out.base)
  clear HF HB
  have HF := hidOf FF2
  have HB := hidOf R2
  clear FF2 R2 B2
  clear qN
  go_wp2_with fail
  refine (iLeaf 1 HB.out hX (isNm_lt ht) HX.out).mono ?_
  intro e we H
  have H2 := H.into HF.out
  clear H
  rcases o with _ | ⟨k9, s9⟩
  ·obtain ⟨hF, pl, rfl⟩ := H2
   exact ⟨rfl, hF, pl, rfl⟩
  ·obtain ⟨⟨rfl, hk9⟩, H⟩ := H2
   have HH := hidOf H
   clear H
   clear HF HB HX
   go_wp2
   go_ret
   exact ⟨⟨rfl, hk9⟩, HH.out⟩
 ·have hx := HX.out
  rw [if_neg ht] at hx
  clear HX
  have HX := hidOf hx
  clear hx
  rw [show ((knd xs s.p == 1) && !kw (txt xs s.p)) = false from Bool.eq_false_iff.2 ht] at qN
  refine (qN).mono ?_
  rintro e w2 ⟨rfl, B2⟩
  have R2 := HB.out.below B2
  have FF2 := HF.out.trans (Fr.ofB (B := B) B2 HB.out.base)
  clear HF HB
  have HF := hidOf FF2
  have HB := hidOf R2
  clear FF2 R2 B2
  clear qN ht
  go_wp2_with fail
  refine (iNext_any HB.out).mono ?_
  rintro e w3 ⟨⟨pl3, rfl⟩, B3⟩
  have R3 := HB.out.below B3
  have FF3 := HF.out.trans (Fr.ofB (B := B) B3 HB.out.base)
  clear HF HB
  have HF := hidOf FF3
  have HB := hidOf R3
  clear FF3 R3 B3
  have q := fSg0 (knd xs s.p) (txt xs s.p) pl3 (blk xs s.p)
  by_cases ht : knd xs s.p = 2
  ·have hx := HX.out
   rw [if_pos ht] at hx
   clear HX
   have HX := hidOf hx
   clear hx
   have hq : (knd xs s.p == 2) = true := by rw [ht]; rfl
   have HT := hidOf ht
   clear ht
   go_wp2_with fail
   clear q hq
   refine (iLeaf 2 HB.out hX (knd_lt HT.out (by decide)) HX.out).mono ?_
   intro e we H
   have H2 := H.into HF.out
   clear H
   rcases o with _ | ⟨k9, s9⟩
   ·obtain ⟨hF, pl, rfl⟩ := H2
    exact ⟨rfl, hF, pl, rfl⟩
   ·obtain ⟨⟨rfl, hk9⟩, H⟩ := H2
    have HH := hidOf H
    clear H
    clear HF HB HX
    go_wp2
    go_ret
    exact ⟨⟨rfl, hk9⟩, HH.out⟩
  ·have hx := HX.out
   rw [if_neg ht] at hx
   clear HX
   have HX := hidOf hx
   clear hx
   have hq : (knd xs s.p == 2) = false := by rw [beq_eq_false_iff_ne]; exact ht
   go_wp2_with fail
   clear q hq ht
   refine (iNext_any HB.out).mono ?_
   rintro e w4 ⟨⟨pl4, rfl⟩, B4⟩
   have R4 := HB.out.below B4
   have FF4 := HF.out.trans (Fr.ofB (B := B) B4 HB.out.base)
   clear HF HB
   have HF := hidOf FF4
   have HB := hidOf R4
   clear FF4 R4 B4
   have q := fSg0 (knd xs s.p) (txt xs s.p) pl4 (blk xs s.p)
   by_cases ht : knd xs s.p = 3
   ·have hx := HX.out
    rw [if_pos ht] at hx
    clear HX
    have HX := hidOf hx
    clear hx
    have hq : (knd xs s.p == 3) = true := by rw [ht]; rfl
    have HT := hidOf ht
    clear ht
    go_wp2_with fail
    clear q hq
    refine (iLeaf 3 HB.out hX (knd_lt HT.out (by decide)) HX.out).mono ?_
    intro e we H
    have H2 := H.into HF.out
    clear H
    rcases o with _ | ⟨k9, s9⟩
    ·obtain ⟨hF, pl, rfl⟩ := H2
     exact ⟨rfl, hF, pl, rfl⟩
    ·obtain ⟨⟨rfl, hk9⟩, H⟩ := H2
     have HH := hidOf H
     clear H
     clear HF HB HX
     go_wp2
     go_ret
     exact ⟨⟨rfl, hk9⟩, HH.out⟩
   ·have hx := HX.out
    rw [if_neg ht] at hx
    clear HX
    have HX := hidOf hx
    clear hx
    have hq : (knd xs s.p == 3) = false := by rw [beq_eq_false_iff_ne]; exact ht
    go_wp2_with fail
    clear q hq ht
    by_cases ht : txt xs s.p = (⟨#[91]⟩ : ByteArray)
    ·have hx := HX.out
     rw [if_pos ht] at hx
     clear HX
     have HX := hidOf hx
     clear hx
     have qT := iTakeY HB.out hX (lit_ne _ _) ht
     clear ht
     refine qT.mono ?_
     rintro e w5 ⟨rfl, R5, F5⟩
     have FF5 := HF.out.trans F5
     clear qT HF HB
     have HF := hidOf FF5
     have HB := hidOf R5
     clear FF5 R5 F5
     go_wp2_with fail
     rcases bnd_some HX.out with ⟨h6, rfl⟩ | ⟨ks, s6, h6, hr6⟩
     ·refine (iListedV (lit_ne _ _) HB.out hX (fun b hb => Nat.lt_of_lt_of_le (hA b hb) HF.out.size) hV h6).mono ?_
      rintro e wf ⟨hF, pl, rfl⟩
      exact ⟨rfl, HF.out.trans hF, pl, rfl⟩
     refine (iListedV (lit_ne _ _) HB.out hX (fun b hb => Nat.lt_of_lt_of_le (hA b hb) HF.out.size) hV h6).mono ?_
     rintro e w6 ⟨⟨la6, lc6, rfl, lo6, lr6, lf6⟩, R6, F6⟩
     have o6 := ownsRow_base lo6 HF.out.size
     have FF6 := HF.out.trans F6
     clear HF HX
     have HF := hidOf FF6
     have HB2 := hidOf lr6
     have HX := hidOf hr6
     clear HB
     have HB := HB2
     have HP := hidOf o6
     clear HB2 FF6 R6 F6 h6 hr6 o6 lo6 lr6
     go_wp2_with fail
     refine (iAdd 4 ByteArray.empty ks (la6) lc6 (HB.out.avoid (fun k hk => .inl (.inl hk))) (ownsRow_base HP.out hbase) (fun b hb hb2 => by have h7 := (HP.out.lt b hb).1; have h8 := hA b hb2; omega) HX.out).mono ?_
     intro e we H
     have H2 := H.into HF.out
     clear H
     rcases o with _ | ⟨k9, s9⟩
     ·obtain ⟨hF, pl, rfl⟩ := H2
      exact ⟨rfl, hF, pl, rfl⟩
     ·obtain ⟨⟨rfl, hk9⟩, H⟩ := H2
      have HH := hidOf H
      clear H
      clear HF HB HX
      go_wp2
      go_ret
      exact ⟨⟨rfl, hk9⟩, HH.out⟩
    ·have hx := HX.out
     rw [if_neg ht] at hx
     clear HX
     have HX := hidOf hx
     clear hx
     have qT := iTakeN HB.out ht
     clear ht
     refine (qT).mono ?_
     rintro e w5 ⟨rfl, B5⟩
     have R5 := HB.out.below B5
     have FF5 := HF.out.trans (Fr.ofB (B := B) B5 HB.out.base)
     clear HF HB
     have HF := hidOf FF5
     have HB := hidOf R5
     clear FF5 R5 B5
     go_wp2_with fail
     have qA := iArrow HB.out hX
     by_cases ht : arrB xs s.p = true
     ·have hx := HX.out
      rw [if_pos ht] at hx
      clear HX
      have HX := hidOf hx
      clear hx
      rw [ht] at qA
      refine (qA).mono ?_
      rintro e w6 ⟨rfl, B6⟩
      have R6 := HB.out.below B6
      have FF6 := HF.out.trans (Fr.ofB (B := B) B6 HB.out.base)
      clear HF HB
      have HF := hidOf FF6
      have HB := hidOf R6
      clear FF6 R6 B6
      clear qA ht
      go_wp2_with fail
      refine (iArr HB.out hX (fun b hb => Nat.lt_of_lt_of_le (hA b hb) HF.out.size) hP HX.out).mono ?_
      intro e we H
      have H2 := H.into HF.out
      clear H
      rcases o with _ | ⟨k9, s9⟩
      ·obtain ⟨hF, pl, rfl⟩ := H2
       exact ⟨rfl, hF, pl, rfl⟩
      ·obtain ⟨⟨rfl, hk9⟩, H⟩ := H2
       have HH := hidOf H
       clear H
       clear HF HB HX
       go_wp2
       go_ret
       exact ⟨⟨rfl, hk9⟩, HH.out⟩
     ·have hx := HX.out
      rw [if_neg ht] at hx
      clear HX
      have HX := hidOf hx
      clear hx
      rw [show arrB xs s.p = false from Bool.eq_false_iff.2 ht] at qA
      refine (qA).mono ?_
      rintro e w6 ⟨rfl, B6⟩
      have R6 := HB.out.below B6
      have FF6 := HF.out.trans (Fr.ofB (B := B) B6 HB.out.base)
      clear HF HB
      have HF := hidOf FF6
      have HB := hidOf R6
      clear FF6 R6 B6
      clear qA ht
      go_wp2_with fail
      by_cases ht : txt xs s.p = (⟨#[40]⟩ : ByteArray)
      ·have hx := HX.out
       rw [if_pos ht] at hx
       clear HX
       have HX := hidOf hx
       clear hx
       have qT := iTakeY HB.out hX (lit_ne _ _) ht
       clear ht
       refine qT.mono ?_
       rintro e w7 ⟨rfl, R7, F7⟩
       have FF7 := HF.out.trans F7
       clear qT HF HB
       have HF := hidOf FF7
       have HB := hidOf R7
       clear FF7 R7 F7
       go_wp2_with fail
       rcases bnd_some HX.out with ⟨h8, rfl⟩ | ⟨k, s8, h8, hr8⟩
       ·refine (hV _ _ _ _ (fun b hb => Nat.lt_of_lt_of_le (hA b hb) HF.out.size) HB.out h8).mono ?_
        rintro e wf ⟨hF, pl, rfl⟩
        exact ⟨rfl, HF.out.trans hF, pl, rfl⟩
       refine (hV _ _ _ _ (fun b hb => Nat.lt_of_lt_of_le (hA b hb) HF.out.size) HB.out h8).mono ?_
       rintro e w8 ⟨⟨rfl, hk8⟩, R8, F8⟩
       have FF8 := HF.out.trans F8
       clear HF HX
       have HF := hidOf FF8
       have HB2 := hidOf R8
       have HX := hidOf hr8
       clear HB
       have HB := HB2
       clear HB2 FF8 R8 F8 h8 hr8 hk8
       go_wp2_with fail
       rcases bnd_some HX.out with ⟨h9, rfl⟩ | ⟨u, s9, h9, hr9⟩
       ·refine (iWant HB.out hX (lit_ne _ _) h9).mono ?_
        rintro e wf ⟨hF, pl, rfl⟩
        exact ⟨rfl, HF.out.trans hF, pl, rfl⟩
       refine (iWant HB.out hX (lit_ne _ _) h9).mono ?_
       rintro e w9 ⟨rfl, R9, F9⟩
       have FF9 := HF.out.trans F9
       clear HF HX
       have HF := hidOf FF9
       have HB2 := hidOf R9
       have HX := hidOf hr9
       clear HB
       have HB := HB2
       clear HB2 FF9 R9 F9 h9 hr9
       go_wp2_with fail
       have B10 : Below w9.heap.size w9 (w9.alloc (.cells #[.int .i64 (k : Int)] tI)) := (Below.refl _ _).alloc (Nat.le_refl _) _
       have R10 : Rd B g xs (And1 A (.slice (some ⟨w9.heap.size, 0, none⟩) 1 1)) (w9.alloc (.cells #[.int .i64 (k : Int)] tI)) s9 := (HB.out.avoid (A' := And1 A (.slice (some ⟨w9.heap.size, 0, none⟩) 1 1)) (fun k hk => hk.imp_right (fun e => by injection e with e; show w9.heap.size ≤ k; exact Nat.le_of_eq e))).below B10
       have o10 : (w9.alloc (.cells #[.int .i64 (k : Int)] tI)).ownsRow w.heap.size tI 1 (.slice (some ⟨w9.heap.size, 0, none⟩) 1 1) 1 (intVals [(k : Int)]) := World.ownsRow_lit w9 #[.int .i64 (k : Int)] 1 HF.out.size (by decide) rfl
       have FF10 := HF.out.trans (Fr.ofB (B := B) B10 HB.out.base)
       clear HF HB
       have HF := hidOf FF10
       have HB := hidOf R10
       have HP := hidOf o10
       clear FF10 R10 o10 B10
       refine (iAdd 11 ByteArray.empty [(k : Int)] (some ⟨w9.heap.size, 0, none⟩) 1 (HB.out.avoid (fun k hk => .inl (.inl hk))) (ownsRow_base HP.out hbase) (fun b hb hb2 => by have h7 := (HP.out.lt b hb).1; have h8 := hA b hb2; omega) HX.out).mono ?_
       intro e we H
       have H2 := H.into HF.out
       clear H
       rcases o with _ | ⟨k9, s9⟩
       ·obtain ⟨hF, pl, rfl⟩ := H2
        exact ⟨rfl, hF, pl, rfl⟩
       ·obtain ⟨⟨rfl, hk9⟩, H⟩ := H2
        have HH := hidOf H
        clear H
        clear HF HB HX
        go_wp2
        go_ret
        exact ⟨⟨rfl, hk9⟩, HH.out⟩
      ·have hx := HX.out
       rw [if_neg ht] at hx
       clear HX
       have HX := hidOf hx
       clear hx
       have qT := iTakeN HB.out ht
       clear ht
       refine (qT).mono ?_
       rintro e w7 ⟨rfl, B7⟩
       have R7 := HB.out.below B7
       have FF7 := HF.out.trans (Fr.ofB (B := B) B7 HB.out.base)
       clear HF HB
       have HF := hidOf FF7
       have HB := hidOf R7
       clear FF7 R7 B7
       go_wp2_with fail
       obtain rfl : none = o := by
        have := HX.out
        injection this
       refine (iFault_any HB.out).mono ?_
       rintro e w8 ⟨⟨pl8, rfl⟩, B8⟩
       have HH := hidOf (HF.out.trans (Fr.ofB (B := B) B8 HB.out.base))
       clear HF HB HX B8
       go_wp2
       exact ⟨rfl, HH.out, pl8, rfl⟩
end
end Go.Proofs.YtcbbnphpkgifoaaGreatDoor
