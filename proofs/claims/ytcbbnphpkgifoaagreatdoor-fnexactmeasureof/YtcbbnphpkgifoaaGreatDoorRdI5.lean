/- What the program's reader lists: values or names up to a bracket; members or statements up to an end. Once for each function that is handed in. -/
import Derived.Test.YtcbbnphpkgifoaaGreatDoorKah
namespace Go.Proofs.YtcbbnphpkgifoaaGreatDoor
open Go.RowKit
set_option maxHeartbeats 8000000
set_option maxRecDepth 100000
theorem infoI1 : (Tryz.prog.info? 3).map (fun i => (i.zero, i.size, i.bytes)) = some (some (.int .i64 0), 1, 8) := by kernel_rfl
def lenV : Value → Nat
 | .slice _ n _ => n
 | _ => 0
theorem own_app {w : World} {B n : Nat} {v : Value} {ks : List Int} {k : Int} (h : w.ownsRow B tI 1 v (n + 1) (intVals ks ++ [.int .i64 k])) (hn : n = ks.length) : w.ownsRow B tI 1 v (ks ++ [k]).length (intVals (ks ++ [k])) := by
 subst hn
 have : intVals (ks ++ [k]) = intVals ks ++ [.int .i64 k] := by simp [intVals]
 rw [this, List.length_append]
 exact h
section
variable {B g : Nat} {xs : List Sg} {A : Nat → Prop} {w : World} {s : Ps}
theorem iListedV {O : Ps → Rs Nat} {en : ByteArray} {o : Option (List Int × Ps)} (he : en ≠ ByteArray.empty) (h : Rd B g xs A w s) (hX : xs.length ≤ 3000) (hA : ∀ b, A b → b < w.heap.size) (hone : Reads B g xs 260 O)
  (hr : listedP xs O en (lim xs) [] s = some o) :
  Calls Tryz.prog 275 #[.pointer (some ⟨g, 0, none⟩), .string en, .func (.func 260) #[.pointer (some ⟨g, 0, none⟩)] #[]] w (PostR B g xs A w (VL B g xs A w.heap.size) o) := by
 obtain ⟨i0, hi, hz0, hz1, hz2⟩ := info_parts infoI1
 have hL : lim xs ≤ 3001 := by unfold lim; omega
 have B0 : Below w.heap.size w (w.alloc (.cells #[] tI)) := (Below.refl _ _).alloc (Nat.le_refl _) _
 have R0 : Rd B g xs (And1 A (.slice (some ⟨w.heap.size, 0, none⟩) 0 0)) (w.alloc (.cells #[] tI)) s := (h.avoid (A' := And1 A (.slice (some ⟨w.heap.size, 0, none⟩) 0 0)) (fun k hk => hk.imp_right (fun e => by injection e with e; show w.heap.size ≤ k; exact Nat.le_of_eq e))).below B0
 have hbase := h.base
 have F0 := Fr.ofB B0 h.base
 have hown0 : (w.alloc (.cells #[] tI)).ownsRow w.heap.size tI 1 (.slice (some ⟨w.heap.size, 0, none⟩) 0 0) 0 [] := World.ownsRow_made w #[] 0 (Nat.le_refl _) (by decide) rfl
 obtain ⟨v0, hv0⟩ : ∃ v0, v0 = Value.slice (some ⟨w.heap.size, 0, none⟩) 0 0 := ⟨_, rfl⟩
 have HR := hidOf hr
 have HH := hidOf hone
 have HO := hidOf hown0
 have HR0 := hidOf R0
 have HF0 := hidOf F0
 clear hr hone hown0 R0 F0 B0 h
 go_enter Tryz.func275, Tryz.ntmps275
 go_wp2
 rw [← hv0]
 rw [← hv0] at HO HR0
 clear hv0
 go_loopw [7] (fun v wr => ∃ (f : Nat) (ks : List Int) (s1 : Ps), f + ks.length = lim xs ∧ wr.ownsRow w.heap.size tI 1 v ks.length (intVals ks) ∧ Rd B g xs (And1 A v) wr s1 ∧ Fr B w wr ∧ Hid (listedP xs O en f ks s1 = some o)) (fun v _ => lim xs - lenV v)
 case atStart => exact ⟨lim xs, [], s, rfl, HO.out, HR0.out, HF0.out, HR⟩
 case round =>
  obtain ⟨f, ks, s1, hf, ho, R1, F1, HX⟩ := hrel
  obtain ⟨ao, cc, rfl⟩ := owns_slice ho
  clear HR HO HR0 HF0
  cases f with
  | zero => exact absurd HX.out (by simp [listedP])
  | succ f =>
   by_cases ht : txt xs s1.p = en
   ·have qT := iTakeY R1 hX he ht
    obtain rfl : some (ks, s1.next) = o := by
     have := HX.out
     unfold listedP at this
     rw [if_pos ht] at this
     injection this
    have HF := hidOf F1
    have HP := hidOf ho
    clear HX ht R1 F1 ho
    go_wp2_with fail
    refine qT.mono ?_
    rintro e w2 ⟨rfl, R2, F2⟩
    have HQ := hidOf (F2.ints HP.out)
    have HS := hidOf (HF.out.trans F2)
    have HT := hidOf R2
    clear qT R2 F2
    go_wp2
    go_ret
    exact ⟨⟨_, _, rfl, HQ.out, HT.out, by omega⟩, HT.out.avoid (fun k hk => .inl (.inl hk)), HS.out⟩
   ·have qT := iTakeN R1 ht
    have hr : bnd (O s1) (fun k s1 => if txt xs s1.p = (⟨#[44]⟩ : ByteArray) then listedP xs O en f (ks ++ [(k : Int)]) s1.next else bnd (wantP xs en s1) fun _ s2 => yes (ks ++ [(k : Int)]) s2) = some o := by
     have := HX.out
     unfold listedP at this
     rw [if_neg ht] at this
     exact this
    have HX2 := hidOf hr
    have HF := hidOf F1
    have HP := hidOf ho
    have HB := hidOf R1
    clear HX ht R1 F1 ho hr
    go_wp2_with fail
    refine qT.mono ?_
    rintro e w2 ⟨rfl, B2⟩
    have R2 := HB.out.below B2
    have F2 := HF.out.trans (Fr.ofB B2 HB.out.base)
    have o2 := owns_below HP.out B2
    clear HB HF HP qT B2
    have HF := hidOf F2
    have HP := hidOf o2
    have HB := hidOf R2
    clear F2 o2 R2
    go_wp2_with fail
    rcases bnd_some HX2.out with ⟨h3, rfl⟩ | ⟨k, s3, h3, hr3⟩
    ·refine (HH.out _ _ _ _ (And1.lt hA HF.out.size HP.out) HB.out h3).mono ?_
     rintro e w3 ⟨hF, pl, rfl⟩
     exact ⟨rfl, HF.out.trans hF, pl, rfl⟩
    ·refine (HH.out _ _ _ _ (And1.lt hA HF.out.size HP.out) HB.out h3).mono ?_
     rintro e w3 ⟨⟨rfl, -⟩, R3, F3⟩
     have o3 := F3.ints HP.out
     have H3 := hidOf hr3
     have hb3 := R3.base
     have hkl : ks.length ≤ 3001 := by omega
     have F4 := HF.out.trans F3
     have hs3 := F4.size
     clear HF HP HB HX2 h3 hr3 F3
     have HF := hidOf F4
     have HB := hidOf R3
     clear F4 R3
     go_wp2_with (at_builtin; refine wpList_append_own2 rfl _ _ 57 rfl w.heap.size 3 i0 _ 1 8 Tryz.underlying57 hi hz0 hz1 hz2 rfl (by decide) (.slice ao ks.length cc) ks.length (intVals ks) rfl (o3.alloc _) ⟨w3.heap.size, 0, none⟩ 1 1 [.int .i64 k] rfl rfl (cell_one_new _ _ _) (by simp [Value.oneCell']) (by unfold maxLen; omega) (by omega) (by simp; omega) ?_; intro v' w5 hown' hgrow5 hpl5)
     have B4 : Below w3.heap.size w3 (w3.alloc (.cells #[.int .i64 k] tI)) := (Below.refl _ _).alloc (Nat.le_refl _) _
     have F5 := (HF.out.trans (Fr.ofB (B := B) B4 (by omega))).growI hbase hgrow5 (fun b hb => (o3.lt b hb).1)
     have R5 := (HB.out.below B4).growI (A' := And1 A v') (o3.alloc _) hgrow5 (fun b hb => .inr hb) (fun b hb => by
      rcases hb with hb | hb
      ·exact .inl (.inl hb)
      ·rcases hpl5 b hb with h6 | h6
       ·exact .inl (.inr h6)
       ·exact .inr h6)
     have o5 := own_app hown' rfl
     clear hown' hgrow5 hpl5 B4 o3 HF HB
     obtain ⟨ao', cc', rfl⟩ := owns_slice o5
     have HF := hidOf F5
     have HB := hidOf R5
     have HP := hidOf o5
     clear F5 R5 o5
     by_cases hc : txt xs s3.p = (⟨#[44]⟩ : ByteArray)
     ·have qC := iTakeY HB.out hX (lit_ne _ _) hc
      have hr4 := H3.out
      rw [if_pos hc] at hr4
      have H4 := hidOf hr4
      clear H3 hr4 hc
      refine qC.mono ?_
      rintro e w6 ⟨rfl, R6, F6⟩
      have o6 := F6.ints HP.out
      have F7 := HF.out.trans F6
      clear qC HP HB HF F6
      have HA := hidOf (show ∃ (f' : Nat) (ks' : List Int) (s1 : Ps), f' + ks'.length = lim xs ∧ w6.ownsRow w.heap.size tI 1 (.slice ao' (ks ++ [(k : Int)]).length cc') ks'.length (intVals ks') ∧ Rd B g xs (And1 A (.slice ao' (ks ++ [(k : Int)]).length cc')) w6 s1 ∧ Fr B w w6 ∧ Hid (listedP xs O en f' ks' s1 = some o) from ⟨f, ks ++ [(k : Int)], s3.next, by simp; omega, o6, R6, F7, H4⟩)
      rw [show (ks ++ [(k : Int)]).length = ks.length + 1 by simp] at HA
      clear o6 R6 F7 H4
      go_wp2
      go_roundw
      case rel => exact HA.out
      case measure => simp [lenV]; omega
     ·have qC := iTakeN HB.out hc
      have hr4 := H3.out
      rw [if_neg hc] at hr4
      have H4 := hidOf hr4
      clear H3 hr4 hc
      refine qC.mono ?_
      rintro e w6 ⟨rfl, B6⟩
      have R6 := HB.out.below B6
      have o6 := owns_below HP.out B6
      have F6 := HF.out.trans (Fr.ofB (B := B) B6 HB.out.base)
      clear qC HP HB HF B6
      have HF := hidOf F6
      have HB := hidOf R6
      have HP := hidOf o6
      clear F6 R6 o6
      go_wp2_with fail
      rcases bnd_some H4.out with ⟨h7, rfl⟩ | ⟨u, s7, h7, hr7⟩
      ·refine (iWant HB.out hX he h7).mono ?_
       rintro e w7 ⟨hF, pl, rfl⟩
       exact ⟨rfl, HF.out.trans hF, pl, rfl⟩
      ·obtain rfl : some (ks ++ [(k : Int)], s7) = o := by injection hr7
       refine (iWant HB.out hX he h7).mono ?_
       rintro e w7 ⟨rfl, R7, F7⟩
       have HS := hidOf (show PostR B g xs A w (VL B g xs A w.heap.size) (some (ks ++ [(k : Int)], s7)) (.returned (.slice ao' (ks ++ [(k : Int)]).length cc')) w7 from ⟨⟨_, _, rfl, F7.ints HP.out, R7, by simp; omega⟩, R7.avoid (fun k hk => .inl (.inl hk)), HF.out.trans F7⟩)
       rw [show (ks ++ [(k : Int)]).length = ks.length + 1 by simp] at HS
       clear HB HF HP R7 F7 H4 h7 hr7
       go_wp2
       go_ret
       exact HS.out
theorem iListedN {O : Ps → Rs Nat} {en : ByteArray} {o : Option (List Int × Ps)} (he : en ≠ ByteArray.empty) (h : Rd B g xs A w s) (hX : xs.length ≤ 3000) (hA : ∀ b, A b → b < w.heap.size) (hone : Reads B g xs 273 O)
  (hr : listedP xs O en (lim xs) [] s = some o) :
  Calls Tryz.prog 275 #[.pointer (some ⟨g, 0, none⟩), .string en, .func (.func 273) #[.pointer (some ⟨g, 0, none⟩)] #[]] w (PostR B g xs A w (VL B g xs A w.heap.size) o) := by
 obtain ⟨i0, hi, hz0, hz1, hz2⟩ := info_parts infoI1
 have hL : lim xs ≤ 3001 := by unfold lim; omega
 have B0 : Below w.heap.size w (w.alloc (.cells #[] tI)) := (Below.refl _ _).alloc (Nat.le_refl _) _
 have R0 : Rd B g xs (And1 A (.slice (some ⟨w.heap.size, 0, none⟩) 0 0)) (w.alloc (.cells #[] tI)) s := (h.avoid (A' := And1 A (.slice (some ⟨w.heap.size, 0, none⟩) 0 0)) (fun k hk => hk.imp_right (fun e => by injection e with e; show w.heap.size ≤ k; exact Nat.le_of_eq e))).below B0
 have hbase := h.base
 have F0 := Fr.ofB B0 h.base
 have hown0 : (w.alloc (.cells #[] tI)).ownsRow w.heap.size tI 1 (.slice (some ⟨w.heap.size, 0, none⟩) 0 0) 0 [] := World.ownsRow_made w #[] 0 (Nat.le_refl _) (by decide) rfl
 obtain ⟨v0, hv0⟩ : ∃ v0, v0 = Value.slice (some ⟨w.heap.size, 0, none⟩) 0 0 := ⟨_, rfl⟩
 have HR := hidOf hr
 have HH := hidOf hone
 have HO := hidOf hown0
 have HR0 := hidOf R0
 have HF0 := hidOf F0
 clear hr hone hown0 R0 F0 B0 h
 go_enter Tryz.func275, Tryz.ntmps275
 go_wp2
 rw [← hv0]
 rw [← hv0] at HO HR0
 clear hv0
 go_loopw [7] (fun v wr => ∃ (f : Nat) (ks : List Int) (s1 : Ps), f + ks.length = lim xs ∧ wr.ownsRow w.heap.size tI 1 v ks.length (intVals ks) ∧ Rd B g xs (And1 A v) wr s1 ∧ Fr B w wr ∧ Hid (listedP xs O en f ks s1 = some o)) (fun v _ => lim xs - lenV v)
 case atStart => exact ⟨lim xs, [], s, rfl, HO.out, HR0.out, HF0.out, HR⟩
 case round =>
  obtain ⟨f, ks, s1, hf, ho, R1, F1, HX⟩ := hrel
  obtain ⟨ao, cc, rfl⟩ := owns_slice ho
  clear HR HO HR0 HF0
  cases f with
  | zero => exact absurd HX.out (by simp [listedP])
  | succ f =>
   by_cases ht : txt xs s1.p = en
   ·have qT := iTakeY R1 hX he ht
    obtain rfl : some (ks, s1.next) = o := by
     have := HX.out
     unfold listedP at this
     rw [if_pos ht] at this
     injection this
    have HF := hidOf F1
    have HP := hidOf ho
    clear HX ht R1 F1 ho
    go_wp2_with fail
    refine qT.mono ?_
    rintro e w2 ⟨rfl, R2, F2⟩
    have HQ := hidOf (F2.ints HP.out)
    have HS := hidOf (HF.out.trans F2)
    have HT := hidOf R2
    clear qT R2 F2
    go_wp2
    go_ret
    exact ⟨⟨_, _, rfl, HQ.out, HT.out, by omega⟩, HT.out.avoid (fun k hk => .inl (.inl hk)), HS.out⟩
   ·have qT := iTakeN R1 ht
    have hr : bnd (O s1) (fun k s1 => if txt xs s1.p = (⟨#[44]⟩ : ByteArray) then listedP xs O en f (ks ++ [(k : Int)]) s1.next else bnd (wantP xs en s1) fun _ s2 => yes (ks ++ [(k : Int)]) s2) = some o := by
     have := HX.out
     unfold listedP at this
     rw [if_neg ht] at this
     exact this
    have HX2 := hidOf hr
    have HF := hidOf F1
    have HP := hidOf ho
    have HB := hidOf R1
    clear HX ht R1 F1 ho hr
    go_wp2_with fail
    refine qT.mono ?_
    rintro e w2 ⟨rfl, B2⟩
    have R2 := HB.out.below B2
    have F2 := HF.out.trans (Fr.ofB B2 HB.out.base)
    have o2 := owns_below HP.out B2
    clear HB HF HP qT B2
    have HF := hidOf F2
    have HP := hidOf o2
    have HB := hidOf R2
    clear F2 o2 R2
    go_wp2_with fail
    rcases bnd_some HX2.out with ⟨h3, rfl⟩ | ⟨k, s3, h3, hr3⟩
    ·refine (HH.out _ _ _ _ (And1.lt hA HF.out.size HP.out) HB.out h3).mono ?_
     rintro e w3 ⟨hF, pl, rfl⟩
     exact ⟨rfl, HF.out.trans hF, pl, rfl⟩
    ·refine (HH.out _ _ _ _ (And1.lt hA HF.out.size HP.out) HB.out h3).mono ?_
     rintro e w3 ⟨⟨rfl, -⟩, R3, F3⟩
     have o3 := F3.ints HP.out
     have H3 := hidOf hr3
     have hb3 := R3.base
     have hkl : ks.length ≤ 3001 := by omega
     have F4 := HF.out.trans F3
     have hs3 := F4.size
     clear HF HP HB HX2 h3 hr3 F3
     have HF := hidOf F4
     have HB := hidOf R3
     clear F4 R3
     go_wp2_with (at_builtin; refine wpList_append_own2 rfl _ _ 57 rfl w.heap.size 3 i0 _ 1 8 Tryz.underlying57 hi hz0 hz1 hz2 rfl (by decide) (.slice ao ks.length cc) ks.length (intVals ks) rfl (o3.alloc _) ⟨w3.heap.size, 0, none⟩ 1 1 [.int .i64 k] rfl rfl (cell_one_new _ _ _) (by simp [Value.oneCell']) (by unfold maxLen; omega) (by omega) (by simp; omega) ?_; intro v' w5 hown' hgrow5 hpl5)
     have B4 : Below w3.heap.size w3 (w3.alloc (.cells #[.int .i64 k] tI)) := (Below.refl _ _).alloc (Nat.le_refl _) _
     have F5 := (HF.out.trans (Fr.ofB (B := B) B4 (by omega))).growI hbase hgrow5 (fun b hb => (o3.lt b hb).1)
     have R5 := (HB.out.below B4).growI (A' := And1 A v') (o3.alloc _) hgrow5 (fun b hb => .inr hb) (fun b hb => by
      rcases hb with hb | hb
      ·exact .inl (.inl hb)
      ·rcases hpl5 b hb with h6 | h6
       ·exact .inl (.inr h6)
       ·exact .inr h6)
     have o5 := own_app hown' rfl
     clear hown' hgrow5 hpl5 B4 o3 HF HB
     obtain ⟨ao', cc', rfl⟩ := owns_slice o5
     have HF := hidOf F5
     have HB := hidOf R5
     have HP := hidOf o5
     clear F5 R5 o5
     by_cases hc : txt xs s3.p = (⟨#[44]⟩ : ByteArray)
     ·have qC := iTakeY HB.out hX (lit_ne _ _) hc
      have hr4 := H3.out
      rw [if_pos hc] at hr4
      have H4 := hidOf hr4
      clear H3 hr4 hc
      refine qC.mono ?_
      rintro e w6 ⟨rfl, R6, F6⟩
      have o6 := F6.ints HP.out
      have F7 := HF.out.trans F6
      clear qC HP HB HF F6
      have HA := hidOf (show ∃ (f' : Nat) (ks' : List Int) (s1 : Ps), f' + ks'.length = lim xs ∧ w6.ownsRow w.heap.size tI 1 (.slice ao' (ks ++ [(k : Int)]).length cc') ks'.length (intVals ks') ∧ Rd B g xs (And1 A (.slice ao' (ks ++ [(k : Int)]).length cc')) w6 s1 ∧ Fr B w w6 ∧ Hid (listedP xs O en f' ks' s1 = some o) from ⟨f, ks ++ [(k : Int)], s3.next, by simp; omega, o6, R6, F7, H4⟩)
      rw [show (ks ++ [(k : Int)]).length = ks.length + 1 by simp] at HA
      clear o6 R6 F7 H4
      go_wp2
      go_roundw
      case rel => exact HA.out
      case measure => simp [lenV]; omega
     ·have qC := iTakeN HB.out hc
      have hr4 := H3.out
      rw [if_neg hc] at hr4
      have H4 := hidOf hr4
      clear H3 hr4 hc
      refine qC.mono ?_
      rintro e w6 ⟨rfl, B6⟩
      have R6 := HB.out.below B6
      have o6 := owns_below HP.out B6
      have F6 := HF.out.trans (Fr.ofB (B := B) B6 HB.out.base)
      clear qC HP HB HF B6
      have HF := hidOf F6
      have HB := hidOf R6
      have HP := hidOf o6
      clear F6 R6 o6
      go_wp2_with fail
      rcases bnd_some H4.out with ⟨h7, rfl⟩ | ⟨u, s7, h7, hr7⟩
      ·refine (iWant HB.out hX he h7).mono ?_
       rintro e w7 ⟨hF, pl, rfl⟩
       exact ⟨rfl, HF.out.trans hF, pl, rfl⟩
      ·obtain rfl : some (ks ++ [(k : Int)], s7) = o := by injection hr7
       refine (iWant HB.out hX he h7).mono ?_
       rintro e w7 ⟨rfl, R7, F7⟩
       have HS := hidOf (show PostR B g xs A w (VL B g xs A w.heap.size) (some (ks ++ [(k : Int)], s7)) (.returned (.slice ao' (ks ++ [(k : Int)]).length cc')) w7 from ⟨⟨_, _, rfl, F7.ints HP.out, R7, by simp; omega⟩, R7.avoid (fun k hk => .inl (.inl hk)), HF.out.trans F7⟩)
       rw [show (ks ++ [(k : Int)]).length = ks.length + 1 by simp] at HS
       clear HB HF HP R7 F7 H4 h7 hr7
       go_wp2
       go_ret
       exact HS.out
end
end Go.Proofs.YtcbbnphpkgifoaaGreatDoor
