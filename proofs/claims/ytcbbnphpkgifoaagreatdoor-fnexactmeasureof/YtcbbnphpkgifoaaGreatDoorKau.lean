/- Leaves, names, calls, arrows of the program's reader. -/
import Derived.Test.YtcbbnphpkgifoaaGreatDoorRdI6
namespace Go.Proofs.YtcbbnphpkgifoaaGreatDoor
open Go.RowKit
set_option maxHeartbeats 8000000
set_option maxRecDepth 100000
section
variable {B g : Nat} {xs : List Sg} {A : Nat → Prop} {w : World} {s : Ps}
theorem iLeaf {o : Option (Nat × Ps)} (kind : Int) (h : Rd B g xs A w s) (hX : xs.length ≤ 3000) (hp : s.p < xs.length) (hr : leafP xs kind s = some o) : Calls Tryz.prog 235 #[.pointer (some ⟨g, 0, none⟩), .int .i64 kind] w (PostR B g xs A w VN o) := by
 go_enter Tryz.func235, Tryz.ntmps235
 go_wp2_with fail
 refine (iNext_any h).mono ?_
 rintro e w1 ⟨⟨pl, rfl⟩, B1⟩
 have R1 := h.below B1
 have F1 := Fr.ofB B1 h.base
 obtain ⟨k, hk⟩ : ∃ k, k = knd xs s.p := ⟨_, rfl⟩
 obtain ⟨u, hu⟩ : ∃ u, u = txt xs s.p := ⟨_, rfl⟩
 obtain ⟨b, hb⟩ : ∃ b, b = blk xs s.p := ⟨_, rfl⟩
 have hr' : addP kind u [] s.next = some o := by rw [hu]; exact hr
 rw [← hk, ← hu, ← hb]
 clear hk hu hb hr h B1
 have q := fSg1 k u pl b
 have P3 := R1.setP (s.p + 1) hp
 obtain ⟨sa, sc, na, nc, -, c1, -, -, hz⟩ := R1.cells
 have z1 := hz 1
 have hlt := R1.lt
 have e1 : ((s.p : Int) + 1) = ((s.p + 1 : Nat) : Int) := by omega
 rw [← e1] at P3
 have HP := hidOf P3
 have HF := hidOf F1
 have HR := hidOf hr'
 clear R1 P3 F1 hz hr' e1
 go_wp2_with fail
 refine (iAdd kind u [] none 0 HP.out.1 (World.ownsRow_nil _ _ _ _) (fun b hb => by cases hb) HR.out).mono ?_
 intro e we H
 have H2 := H.into (HF.out.trans HP.out.2)
 clear H
 rcases o with _ | ⟨k9, s9⟩
 ·obtain ⟨hF, pl, rfl⟩ := H2
  exact ⟨rfl, hF, pl, rfl⟩
 ·obtain ⟨⟨rfl, hk9⟩, H⟩ := H2
  have HH := hidOf H
  clear H HF HP HR
  go_wp2
  go_ret
  exact ⟨⟨rfl, hk9⟩, HH.out⟩
theorem iNode {o : Option (Nat × Ps)} (h : Rd B g xs A w s) (hX : xs.length ≤ 3000) (hr : nodeP xs s = some o) : Calls Tryz.prog 273 #[.pointer (some ⟨g, 0, none⟩)] w (PostR B g xs A w VN o) := by
 obtain ⟨i0, hi, hz0, hz1, hz2⟩ := info_parts infoI1
 have hbase := h.base
 have HF := hidOf (Fr.refl B w)
 have HB := hidOf h
 have HX := hidOf hr
 clear h hr
 go_enter Tryz.func273, Tryz.ntmps273
 go_wp2_with fail
 rcases bnd_some HX.out with ⟨h1, rfl⟩ | ⟨t, s1, h1, hr1⟩
 ·refine (iName HB.out hX h1).mono ?_
  rintro e wf ⟨hF, pl, rfl⟩
  exact ⟨rfl, HF.out.trans hF, pl, rfl⟩
 refine (iName HB.out hX h1).mono ?_
 rintro e w1 ⟨rfl, R1, F1⟩
 have FF1 := HF.out.trans F1
 clear HF HX
 have HF := hidOf FF1
 have HB2 := hidOf R1
 have HX := hidOf hr1
 clear HB
 have HB := HB2
 clear HB2 FF1 R1 F1 h1 hr1
 go_wp2_with fail
 refine (iAdd 1 t [] none 0 HB.out (World.ownsRow_nil _ _ _ _) (fun b hb => by cases hb) HX.out).mono ?_
 intro e we H
 have H2 := H.into HF.out
 clear H
 rcases o with _ | ⟨k9, s9⟩
 ·obtain ⟨hF, pl, rfl⟩ := H2
  exact ⟨rfl, hF, pl, rfl⟩
 ·obtain ⟨⟨rfl, hk9⟩, H⟩ := H2
  have HH := hidOf H
  clear H
  clear HF HB HX
  go_wp2
  go_ret
  exact ⟨⟨rfl, hk9⟩, HH.out⟩
theorem node_reads (hX : xs.length ≤ 3000) : Reads B g xs 273 (nodeP xs) := fun _ _ _ _ _ h hr => iNode h hX hr
theorem iNames {o : Option (List Int × Ps)} (h : Rd B g xs A w s) (hX : xs.length ≤ 3000) (hA : ∀ b, A b → b < w.heap.size) (hr : namesP xs s = some o) : Calls Tryz.prog 261 #[.pointer (some ⟨g, 0, none⟩)] w (PostR B g xs A w (VL B g xs A w.heap.size) o) := by
 obtain ⟨i0, hi, hz0, hz1, hz2⟩ := info_parts infoI1
 have hmf : ∀ (fn : Fn) (first cap : Array Value) (w : World), (Instr.makeFunc fn first cap).run Tryz.prog w = .ok (.func fn first cap) w := fun _ _ _ _ => rfl
 have hbase := h.base
 have HF := hidOf (Fr.refl B w)
 have HB := hidOf h
 have HX := hidOf hr
 clear h hr
 go_enter Tryz.func261, Tryz.ntmps261
 go_wp2_with fail
 rcases bnd_some HX.out with ⟨h1, rfl⟩ | ⟨u, s1, h1, hr1⟩
 ·refine (iWant HB.out hX (lit_ne _ _) h1).mono ?_
  rintro e wf ⟨hF, pl, rfl⟩
  exact ⟨rfl, HF.out.trans hF, pl, rfl⟩
 refine (iWant HB.out hX (lit_ne _ _) h1).mono ?_
 rintro e w1 ⟨rfl, R1, F1⟩
 have FF1 := HF.out.trans F1
 clear HF HX
 have HF := hidOf FF1
 have HB2 := hidOf R1
 have HX := hidOf hr1
 clear HB
 have HB := HB2
 clear HB2 FF1 R1 F1 h1 hr1
 go_wp2_with fail
 refine (iListedN (lit_ne _ _) HB.out hX (fun b hb => Nat.lt_of_lt_of_le (hA b hb) HF.out.size) (node_reads hX) HX.out).mono ?_
 intro e we H
 have H2 := H.into HF.out
 clear H
 rcases o with _ | ⟨k9, s9⟩
 ·obtain ⟨hF, pl, rfl⟩ := H2
  exact ⟨rfl, hF, pl, rfl⟩
 ·obtain ⟨⟨la9, lc9, rfl, lo9, lr9, lf9⟩, H⟩ := H2
  have HH := hidOf (show PostR B g xs A w (VL B g xs A w.heap.size) (some (k9, s9)) (.returned (.slice la9 k9.length lc9)) we from ⟨⟨la9, lc9, rfl, ownsRow_base lo9 HF.out.size, lr9, lf9⟩, H⟩)
  clear H lo9 lr9
  clear HF HB HX
  go_wp2
  go_ret
  exact HH.out
theorem iCall {o : Option (Nat × Ps)} {O : Bool → Ps → Rs Nat} {c : Nat} (h : Rd B g xs A w s) (hX : xs.length ≤ 3000) (hA : ∀ b, A b → b < w.heap.size) (hone : Reads B g xs 260 (O true)) (hr : callP xs O c s = some o) : Calls Tryz.prog 274 #[.pointer (some ⟨g, 0, none⟩), .int .i64 (c : Int)] w (PostR B g xs A w VN o) := by
 obtain ⟨i0, hi, hz0, hz1, hz2⟩ := info_parts infoI1
 have hmf : ∀ (fn : Fn) (first cap : Array Value) (w : World), (Instr.makeFunc fn first cap).run Tryz.prog w = .ok (.func fn first cap) w := fun _ _ _ _ => rfl
 have hbase := h.base
 have HF := hidOf (Fr.refl B w)
 have HB := hidOf h
 have HX := hidOf hr
 clear h hr
 go_enter Tryz.func274, Tryz.ntmps274
 go_wp2_with fail
 rcases bnd_some HX.out with ⟨h1, rfl⟩ | ⟨u, s1, h1, hr1⟩
 ·refine (iWant HB.out hX (lit_ne _ _) h1).mono ?_
  rintro e wf ⟨hF, pl, rfl⟩
  exact ⟨rfl, HF.out.trans hF, pl, rfl⟩
 refine (iWant HB.out hX (lit_ne _ _) h1).mono ?_
 rintro e w1 ⟨rfl, R1, F1⟩
 have FF1 := HF.out.trans F1
 clear HF HX
 have HF := hidOf FF1
 have HB2 := hidOf R1
 have HX := hidOf hr1
 clear HB
 have HB := HB2
 clear HB2 FF1 R1 F1 h1 hr1
 go_wp2_with fail
 rcases bnd_some HX.out with ⟨h2, rfl⟩ | ⟨ks, s2, h2, hr2⟩
 ·refine (iListedV (lit_ne _ _) HB.out hX (fun b hb => Nat.lt_of_lt_of_le (hA b hb) HF.out.size) hone h2).mono ?_
  rintro e wf ⟨hF, pl, rfl⟩
  exact ⟨rfl, HF.out.trans hF, pl, rfl⟩
 refine (iListedV (lit_ne _ _) HB.out hX (fun b hb => Nat.lt_of_lt_of_le (hA b hb) HF.out.size) hone h2).mono ?_
 rintro e w2 ⟨⟨la2, lc2, rfl, lo2, lr2, lf2⟩, R2, F2⟩
 have o2 := ownsRow_base lo2 HF.out.size
 have FF2 := HF.out.trans F2
 clear HF HX
 have HF := hidOf FF2
 have HB2 := hidOf lr2
 have HX := hidOf hr2
 clear HB
 have HB := HB2
 have HP := hidOf o2
 clear HB2 FF2 R2 F2 h2 hr2 o2 lo2 lr2
 have hs2 := HF.out.size
 have B3 : Below w2.heap.size w2 (w2.alloc (.cells #[.int .i64 (c : Int)] tI)) := (Below.refl _ _).alloc (Nat.le_refl _) _
 have R3 : Rd B g xs (And1 A (.slice (some ⟨w2.heap.size, 0, none⟩) 1 1)) (w2.alloc (.cells #[.int .i64 (c : Int)] tI)) s2 := (HB.out.avoid (A' := And1 A (.slice (some ⟨w2.heap.size, 0, none⟩) 1 1)) (fun k hk => by
  rcases hk with hk | hk
  ·exact .inl (.inl hk)
  ·injection hk with hk
   exact .inr (Nat.le_of_eq hk))).below B3
 have o3 : (w2.alloc (.cells #[.int .i64 (c : Int)] tI)).ownsRow w.heap.size tI 1 (.slice (some ⟨w2.heap.size, 0, none⟩) 1 1) 1 (intVals [(c : Int)]) := World.ownsRow_lit w2 #[.int .i64 (c : Int)] 1 hs2 (by decide) rfl
 have p3 := owns_below HP.out B3
 have F3 := HF.out.trans (Fr.ofB (B := B) B3 HB.out.base)
 clear HF HB HP
 have HF := hidOf F3
 have HB := hidOf R3
 have HP := hidOf o3
 clear F3 R3 B3 o3
 cases la2 with
 | none =>
  have e0 : ks = [] := by
   rcases p3.2 with ⟨_, e0⟩ | ⟨_, _, _, e0, _⟩
   ·exact List.length_eq_zero_iff.1 e0
   ·cases e0
  subst e0
  clear p3
  go_wp2_with fail
  refine (iAdd 5 ByteArray.empty [(c : Int)] (some ⟨w2.heap.size, 0, none⟩) 1 (HB.out.avoid (fun k hk => .inl (.inl hk))) (ownsRow_base HP.out hbase) (fun b hb hb2 => by have h7 := (HP.out.lt b hb).1; have h8 := hA b hb2; omega) HX.out).mono ?_
  intro e we H
  have H2 := H.into HF.out
  clear H
  rcases o with _ | ⟨k9, s9⟩
  ·obtain ⟨hF, pl, rfl⟩ := H2
   exact ⟨rfl, hF, pl, rfl⟩
  ·obtain ⟨⟨rfl, hk9⟩, H⟩ := H2
   have HH := hidOf H
   clear H
   clear HF HB HX
   go_wp2
   go_ret
   exact ⟨⟨rfl, hk9⟩, HH.out⟩
 | some ad =>
  obtain ⟨gb, hgb⟩ : ∃ gb, (some ad : Option Addr) = some ⟨gb, 0, none⟩ := by
   rcases p3.2 with ⟨e0, _⟩ | ⟨gb, _, _, e0, _⟩
   ·cases e0
   ·injection e0 with e0 _ _
    exact ⟨gb, e0⟩
  injection hgb with hgb
  subst hgb
  have hnews := p3.cells (g := gb) rfl
  have HN := hidOf hnews
  clear hnews
  go_wp2_with (at_builtin; refine wpList_append_own2 rfl _ _ 57 rfl w.heap.size 3 i0 _ 1 8 Tryz.underlying57 hi hz0 hz1 hz2 rfl (by decide) (.slice (some ⟨w2.heap.size, 0, none⟩) 1 1) 1 (intVals [(c : Int)]) rfl HP.out ⟨gb, 0, none⟩ ks.length lc2 (intVals ks) rfl (by rw [intVals_len]; omega) HN.out (by simp [intVals, Value.oneCell']) (by unfold maxLen; omega) (by omega) (by simp; omega) ?_; intro v' w4 hown' hgrow5 hpl5)
  have FF := HF.out.growI hbase hgrow5 (fun b hb => (HP.out.lt b hb).1)
  have R4 := HB.out.growI (A' := And1 A v') HP.out hgrow5 (fun b hb => .inr hb) (fun b hb => by
   rcases hb with hb | hb
   ·exact .inl (.inl hb)
   ·rcases hpl5 b hb with h6 | h6
    ·exact .inl (.inr h6)
    ·exact .inr h6)
  have o4 : w4.ownsRow w.heap.size tI 1 v' ((c : Int) :: ks).length (intVals ((c : Int) :: ks)) := by
   have e9 : ((c : Int) :: ks).length = 1 + ks.length := by simp; omega
   rw [e9]
   exact hown'
  clear hown' hgrow5 hpl5 HF HB HP HN p3
  obtain ⟨ao4, cc4, rfl⟩ := owns_slice o4
  have HF := hidOf FF
  have HB := hidOf R4
  have HP := hidOf o4
  clear FF R4 o4
  refine (iAdd 5 ByteArray.empty ((c : Int) :: ks) (ao4) cc4 (HB.out.avoid (fun k hk => .inl (.inl hk))) (ownsRow_base HP.out hbase) (fun b hb hb2 => by have h7 := (HP.out.lt b hb).1; have h8 := hA b hb2; omega) HX.out).mono ?_
  intro e we H
  have H2 := H.into HF.out
  clear H
  rcases o with _ | ⟨k9, s9⟩
  ·obtain ⟨hF, pl, rfl⟩ := H2
   exact ⟨rfl, hF, pl, rfl⟩
  ·obtain ⟨⟨rfl, hk9⟩, H⟩ := H2
   have HH := hidOf H
   clear H
   clear HF HB HX
   go_wp2
   go_ret
   exact ⟨⟨rfl, hk9⟩, HH.out⟩
end
section
variable {B g : Nat} {xs : List Sg} {A : Nat → Prop} {w : World} {s : Ps}
set_option maxHeartbeats 8000000 in
set_option maxRecDepth 100000 in
theorem iArrow (h : Rd B g xs A w s) (hX : xs.length ≤ 3000) : Calls Tryz.prog 297 #[.pointer (some ⟨g, 0, none⟩)] w fun e w' => e = .returned (.bool (arrB xs s.p)) ∧ Below w.heap.size w w' := by
 have qI := iIs_any h (⟨#[40]⟩ : ByteArray)
 by_cases hT : txt xs s.p = (⟨#[40]⟩ : ByteArray)
 ·rw [decide_eq_true hT] at qI
  have hl := txt_lt hT (lit_ne _ _)
  have HB := hidOf h
  clear h
  go_enter Tryz.func297, Tryz.ntmps297
  go_wp2_with fail
  refine qI.mono ?_
  rintro e w1 ⟨rfl, B1⟩
  obtain ⟨sa, sc, na, nc, -, c1, -, -, -⟩ := (HB.out.below B1).toRdW.cells
  have HB1 := hidOf B1
  clear qI B1
  go_wp2
  clear c1
  go_loopw [3] (fun v wr => ∃ (a f : Nat), v = .int .i64 a ∧ a ≤ xs.length ∧ xs.length - a < f ∧ Below w.heap.size w wr ∧ Hid (arrL xs f a = arrL xs (lim xs) (s.p + 1))) (fun v _ => xs.length + 1 - (intOf v).toNat)
  case atStart => exact ⟨s.p + 1, lim xs, by go_num, by omega, by unfold lim; omega, HB1.out, hidOf rfl⟩
  case round =>
   obtain ⟨a, f, rfl, ha, hf, hD, HE⟩ := hrel
   have HD := hidOf hD
   have HBr := hidOf (HB.out.below hD)
   clear HB HB1 hD
   have HB := HBr
   clear HBr
   have hgr := HB.out.toRdW.lt
   cases f with
   | zero => omega
   | succ f =>
    obtain ⟨b, sc1, pl, hb, c0, c1, d0, d1, d2, d3⟩ := (HB.out).toRdW.sign a ha
    have hA1 : (0 : Int) ≤ (a : Int) := by omega
    have hB1 : (a : Int) < ((xs.length + 1 : Nat) : Int) := by omega
    clear c1
    by_cases hn : isNm xs a = true
    ·have hal := isNm_lt hn
     have hn' : ((knd xs a == 1) && !kw (txt xs a)) = true := hn
     have HE2 := hidOf (show (if txt xs (a + 1) = (⟨#[44]⟩ : ByteArray) then arrL xs f (a + 2) else a + 1) = arrL xs (lim xs) (s.p + 1) by rw [← HE.out]; conv => rhs; unfold arrL; rw [if_pos hn])
     have qN := fun W => iNmSg (knd xs a) (txt xs a) pl (blk xs a) W
     rw [hn'] at qN
     obtain ⟨k0, hk0⟩ : ∃ k, k = knd xs a := ⟨_, rfl⟩
     obtain ⟨u0, hu0⟩ : ∃ u, u = txt xs a := ⟨_, rfl⟩
     obtain ⟨b0, hb0⟩ : ∃ b, b = blk xs a := ⟨_, rfl⟩
     rw [← hk0, ← hu0, ← hb0] at qN
     rw [← hk0] at d0
     rw [← hu0] at d1
     rw [← hb0] at d3
     clear hk0 hu0 hb0 hn hn' HE
     go_wp2_with fail
     refine (qN _).mono ?_
     rintro e w3 ⟨rfl, B3⟩
     have HD2 := hidOf (HD.out.trans (B3.mono HD.out.size))
     have HB2 := hidOf (HB.out.below B3)
     clear qN HD HB B3 c0 d0 d1 d2 d3 hb
     have HD := HD2
     have HB := HB2
     clear HD2 HB2
     obtain ⟨b, sc1, pl, hb, c0, c1, d0, d1, d2, d3⟩ := (HB.out).toRdW.sign (a + 1) (by omega)
     have hA1 : (0 : Int) ≤ ((a + 1 : Nat) : Int) := by omega
     have hB1 : ((a + 1 : Nat) : Int) < ((xs.length + 1 : Nat) : Int) := by omega
     clear c1 d0 d2 d3
     by_cases hc : txt xs (a + 1) = (⟨#[44]⟩ : ByteArray)
     ·have hl2 := txt_lt hc (lit_ne _ _)
      have HE := hidOf (show arrL xs f (a + 2) = arrL xs (lim xs) (s.p + 1) by rw [← HE2.out, if_pos hc])
      have q44 : ((txt xs (a + 1)).toList == [44]) = true := by rw [lit_beq]; exact decide_eq_true hc
      obtain ⟨u1, hu1⟩ : ∃ u, u = txt xs (a + 1) := ⟨_, rfl⟩
      rw [← hu1] at q44 d1
      clear hu1 hc HE2
      go_wp2
      go_roundw
      case rel => exact ⟨a + 2, f, by go_num, by omega, by omega, HD.out, HE⟩
      case measure => simp [intOf]; omega
     ·have HE := hidOf (show arrL xs (lim xs) (s.p + 1) = a + 1 by rw [← HE2.out, if_neg hc])
      have q44 : ((txt xs (a + 1)).toList == [44]) = false := by rw [lit_beq]; exact decide_eq_false hc
      clear hc HE2 c0 d1 hb
      obtain ⟨b2, sc2, pl2, hb2, C0, C1, D0, D1, D2, D3⟩ := (HB.out).toRdW.sign (a + 1) (by omega)
      have hA2 : (0 : Int) ≤ ((a + 1 : Nat) : Int) := by omega
      have hB2 : ((a + 1 : Nat) : Int) < ((xs.length + 1 : Nat) : Int) := by omega
      have hE := HE.out
      clear C1 D0 D2 D3
      by_cases h41 : txt xs (a + 1) = (⟨#[41]⟩ : ByteArray)
      ·have hl41 := txt_lt h41 (lit_ne _ _)
       obtain ⟨b3, sc3, pl3, hb3, X0, X1, Y0, Y1, Y2, Y3⟩ := (HB.out).toRdW.sign (a + 1 + 1) (by omega)
       rw [C0] at X0
       injection X0 with X0
       injection X0 with X0 _ X2
       injection X0 with X0
       injection X0 with X0
       subst X0 X2
       clear X1 Y0 Y2 Y3
       have hA3 : (0 : Int) ≤ ((a + 1 + 1 : Nat) : Int) := by omega
       have hB3 : ((a + 1 + 1 : Nat) : Int) < ((xs.length + 1 : Nat) : Int) := by omega
       have q41 : ((txt xs (a + 1)).toList == [41]) = true := by rw [lit_beq]; exact decide_eq_true h41
       have q42 : ((txt xs (a + 1 + 1)).toList == [61, 62]) = decide (txt xs (a + 1 + 1) = (⟨#[61, 62]⟩ : ByteArray)) := lit_beq _ _
       have HZ := hidOf (show decide (txt xs (a + 1 + 1) = (⟨#[61, 62]⟩ : ByteArray)) = arrB xs s.p by unfold arrB; rw [hE, decide_eq_true hT, decide_eq_true h41]; rfl)
       obtain ⟨u1, hu1⟩ : ∃ u, u = txt xs (a + 1) := ⟨_, rfl⟩
       obtain ⟨u2, hu2⟩ : ∃ u, u = txt xs (a + 1 + 1) := ⟨_, rfl⟩
       rw [← hu1] at q41 D1 q44
       rw [← hu2] at q42 Y1 HZ
       clear hu1 hu2 h41 hE
       go_wp2
       go_ret
       exact ⟨ret_bool HZ.out, HD.out⟩
      ·have q41 : ((txt xs (a + 1)).toList == [41]) = false := by rw [lit_beq]; exact decide_eq_false h41
       have HZ := hidOf (show false = arrB xs s.p by unfold arrB; rw [hE, decide_eq_false h41]; simp)
       obtain ⟨u1, hu1⟩ : ∃ u, u = txt xs (a + 1) := ⟨_, rfl⟩
       rw [← hu1] at q41 D1 q44
       clear hu1 h41 hE
       go_wp2
       go_ret
       exact ⟨ret_bool HZ.out, HD.out⟩
    ·have hn' : ((knd xs a == 1) && !kw (txt xs a)) = false := Bool.eq_false_iff.2 hn
     have HE2 := hidOf (show arrL xs (lim xs) (s.p + 1) = a by rw [← HE.out]; unfold arrL; rw [if_neg hn])
     have qN := fun W => iNmSg (knd xs a) (txt xs a) pl (blk xs a) W
     rw [hn'] at qN
     obtain ⟨k0, hk0⟩ : ∃ k, k = knd xs a := ⟨_, rfl⟩
     obtain ⟨u0, hu0⟩ : ∃ u, u = txt xs a := ⟨_, rfl⟩
     obtain ⟨b0, hb0⟩ : ∃ b, b = blk xs a := ⟨_, rfl⟩
     rw [← hk0, ← hu0, ← hb0] at qN
     rw [← hk0] at d0
     rw [← hu0] at d1
     rw [← hb0] at d3
     clear hk0 hu0 hb0 hn hn' HE
     go_wp2_with fail
     refine (qN _).mono ?_
     rintro e w3 ⟨rfl, B3⟩
     have HD2 := hidOf (HD.out.trans (B3.mono HD.out.size))
     have HB2 := hidOf (HB.out.below B3)
     clear qN HD HB B3 c0 d0 d1 d2 d3 hb
     have HD := HD2
     have HB := HB2
     clear HD2 HB2
     obtain ⟨b2, sc2, pl2, hb2, C0, C1, D0, D1, D2, D3⟩ := (HB.out).toRdW.sign (a) (by omega)
     have hA2 : (0 : Int) ≤ ((a : Nat) : Int) := by omega
     have hB2 : ((a : Nat) : Int) < ((xs.length + 1 : Nat) : Int) := by omega
     have hE := HE2.out
     clear C1 D0 D2 D3
     by_cases h41 : txt xs (a) = (⟨#[41]⟩ : ByteArray)
     ·have hl41 := txt_lt h41 (lit_ne _ _)
      obtain ⟨b3, sc3, pl3, hb3, X0, X1, Y0, Y1, Y2, Y3⟩ := (HB.out).toRdW.sign (a + 1) (by omega)
      rw [C0] at X0
      injection X0 with X0
      injection X0 with X0 _ X2
      injection X0 with X0
      injection X0 with X0
      subst X0 X2
      clear X1 Y0 Y2 Y3
      have hA3 : (0 : Int) ≤ ((a + 1 : Nat) : Int) := by omega
      have hB3 : ((a + 1 : Nat) : Int) < ((xs.length + 1 : Nat) : Int) := by omega
      have q41 : ((txt xs (a)).toList == [41]) = true := by rw [lit_beq]; exact decide_eq_true h41
      have q42 : ((txt xs (a + 1)).toList == [61, 62]) = decide (txt xs (a + 1) = (⟨#[61, 62]⟩ : ByteArray)) := lit_beq _ _
      have HZ := hidOf (show decide (txt xs (a + 1) = (⟨#[61, 62]⟩ : ByteArray)) = arrB xs s.p by unfold arrB; rw [hE, decide_eq_true hT, decide_eq_true h41]; rfl)
      obtain ⟨u1, hu1⟩ : ∃ u, u = txt xs (a) := ⟨_, rfl⟩
      obtain ⟨u2, hu2⟩ : ∃ u, u = txt xs (a + 1) := ⟨_, rfl⟩
      rw [← hu1] at q41 D1
      rw [← hu2] at q42 Y1 HZ
      clear hu1 hu2 h41 hE
      go_wp2
      go_ret
      exact ⟨ret_bool HZ.out, HD.out⟩
     ·have q41 : ((txt xs (a)).toList == [41]) = false := by rw [lit_beq]; exact decide_eq_false h41
      have HZ := hidOf (show false = arrB xs s.p by unfold arrB; rw [hE, decide_eq_false h41]; simp)
      obtain ⟨u1, hu1⟩ : ∃ u, u = txt xs (a) := ⟨_, rfl⟩
      rw [← hu1] at q41 D1
      clear hu1 h41 hE
      go_wp2
      go_ret
      exact ⟨ret_bool HZ.out, HD.out⟩
 ·rw [decide_eq_false hT] at qI
  have HZ := hidOf (show false = arrB xs s.p by unfold arrB; rw [decide_eq_false hT]; rfl)
  go_enter Tryz.func297, Tryz.ntmps297
  go_wp2_with fail
  refine qI.mono ?_
  rintro e w1 ⟨rfl, B1⟩
  clear qI h
  go_wp2
  go_ret
  exact ⟨ret_bool HZ.out, B1⟩
end
end Go.Proofs.YtcbbnphpkgifoaaGreatDoor
