/- Members or statements up to an end, as the program's reader lists them: once for each function that is handed in. -/
import Derived.Test.YtcbbnphpkgifoaaGreatDoorRdI5
namespace Go.Proofs.YtcbbnphpkgifoaaGreatDoor
open Go.RowKit
set_option maxHeartbeats 8000000
set_option maxRecDepth 100000
section
variable {B g : Nat} {xs : List Sg} {A : Nat → Prop} {w : World} {s : Ps}
theorem iBodyS {O : Ps → Rs Nat} {en : ByteArray} {o : Option (List Int × Ps)} (h : Rd B g xs A w s) (hX : xs.length ≤ 3000) (hA : ∀ b, A b → b < w.heap.size) (hone : Reads B g xs 277 O)
  (hr : bodyP xs O en (lim xs) [] s = some o) :
  Calls Tryz.prog 155 #[.pointer (some ⟨g, 0, none⟩), .string en, .func (.func 277) #[.pointer (some ⟨g, 0, none⟩)] #[]] w (PostR B g xs A w (VL B g xs A w.heap.size) o) := by
 obtain ⟨i0, hi, hz0, hz1, hz2⟩ := info_parts infoI1
 have hL : lim xs ≤ 3001 := by unfold lim; omega
 have B0 : Below w.heap.size w (w.alloc (.cells #[] tI)) := (Below.refl _ _).alloc (Nat.le_refl _) _
 have R0 : Rd B g xs (And1 A (.slice (some ⟨w.heap.size, 0, none⟩) 0 0)) (w.alloc (.cells #[] tI)) s := (h.avoid (A' := And1 A (.slice (some ⟨w.heap.size, 0, none⟩) 0 0)) (fun k hk => hk.imp_right (fun e => by injection e with e; show w.heap.size ≤ k; exact Nat.le_of_eq e))).below B0
 have hbase := h.base
 have F0 := Fr.ofB B0 h.base
 have hown0 : (w.alloc (.cells #[] tI)).ownsRow w.heap.size tI 1 (.slice (some ⟨w.heap.size, 0, none⟩) 0 0) 0 [] := World.ownsRow_made w #[] 0 (Nat.le_refl _) (by decide) rfl
 obtain ⟨v0, hv0⟩ : ∃ v0, v0 = Value.slice (some ⟨w.heap.size, 0, none⟩) 0 0 := ⟨_, rfl⟩
 have HR := hidOf hr
 have HH := hidOf hone
 have HO := hidOf hown0
 have HR0 := hidOf R0
 have HF0 := hidOf F0
 clear hr hone hown0 R0 F0 B0 h
 go_enter Tryz.func155, Tryz.ntmps155
 go_wp2
 rw [← hv0]
 rw [← hv0] at HO HR0
 clear hv0
 go_loopw [7] (fun v wr => ∃ (f : Nat) (ks : List Int) (s1 : Ps), f + ks.length = lim xs ∧ wr.ownsRow w.heap.size tI 1 v ks.length (intVals ks) ∧ Rd B g xs (And1 A v) wr s1 ∧ Fr B w wr ∧ Hid (bodyP xs O en f ks s1 = some o)) (fun v _ => lim xs - lenV v)
 case atStart => exact ⟨lim xs, [], s, rfl, HO.out, HR0.out, HF0.out, HR⟩
 case round =>
  obtain ⟨f, ks, s1, hf, ho, R1, F1, HX⟩ := hrel
  obtain ⟨ao, cc, rfl⟩ := owns_slice ho
  clear HR HO HR0 HF0
  have qI := iIs_any R1 en
  cases f with
  | zero => exact absurd HX.out (by simp [bodyP])
  | succ f =>
   by_cases ht : txt xs s1.p = en
   ·rw [decide_eq_true ht] at qI
    obtain rfl : some (ks, s1) = o := by
     have := HX.out
     unfold bodyP at this
     rw [if_pos ht] at this
     injection this
    have HF := hidOf F1
    have HP := hidOf ho
    have HB := hidOf R1
    clear HX ht R1 F1 ho
    go_wp2_with fail
    refine qI.mono ?_
    rintro e w2 ⟨rfl, B2⟩
    have HQ := hidOf (owns_below HP.out B2)
    have HS := hidOf (HF.out.trans (Fr.ofB B2 HB.out.base))
    have HT := hidOf (HB.out.below B2)
    clear qI B2
    go_wp2
    go_ret
    exact ⟨⟨_, _, rfl, HQ.out, HT.out, by omega⟩, HT.out.avoid (fun k hk => .inl (.inl hk)), HS.out⟩
   ·rw [decide_eq_false ht] at qI
    have hr : bnd (O s1) (fun k s2 => bodyP xs O en f (ks ++ [(k : Int)]) (setBl s2 k (blk xs s1.p && decide (0 < ks.length)))) = some o := by
     have := HX.out
     unfold bodyP at this
     rw [if_neg ht] at this
     exact this
    obtain ⟨bl, hbl⟩ : ∃ bl, bl = (blk xs s1.p && decide (0 < ks.length)) := ⟨_, rfl⟩
    rw [← hbl] at hr
    have HX2 := hidOf hr
    have HBL := hidOf hbl
    have HF := hidOf F1
    have HP := hidOf ho
    have HB := hidOf R1
    clear HX ht R1 F1 ho hr hbl
    go_wp2_with fail
    refine qI.mono ?_
    rintro e w2 ⟨rfl, B2⟩
    have R2 := HB.out.below B2
    have F2 := HF.out.trans (Fr.ofB B2 HB.out.base)
    have o2 := owns_below HP.out B2
    have qN := iNext_any R2
    clear HB HF HP qI B2
    have HF := hidOf F2
    have HP := hidOf o2
    have HB := hidOf R2
    clear F2 o2 R2
    go_wp2_with fail
    refine qN.mono ?_
    rintro e w3 ⟨⟨pl, rfl⟩, B3⟩
    have R3 := HB.out.below B3
    have F3 := HF.out.trans (Fr.ofB B3 HB.out.base)
    have o3 := owns_below HP.out B3
    clear HB HF HP qN B3
    have HF := hidOf F3
    have HP := hidOf o3
    have HB := hidOf R3
    clear F3 o3 R3
    obtain ⟨k0, hk0⟩ : ∃ k, k = knd xs s1.p := ⟨_, rfl⟩
    obtain ⟨u0, hu0⟩ : ∃ u, u = txt xs s1.p := ⟨_, rfl⟩
    obtain ⟨b0, hb0⟩ : ∃ b, b = blk xs s1.p := ⟨_, rfl⟩
    rw [← hk0, ← hu0, ← hb0]
    rw [← hb0] at HBL
    clear hk0 hu0 hb0
    have q := fSg3 k0 u0 pl b0
    cases b0 with
    | false =>
     have hbq : bl = false := by rw [HBL.out]; rfl
     clear HBL
     go_wp2_with fail
     rw [← hbq]
     clear hbq
     rcases bnd_some HX2.out with ⟨h4, rfl⟩ | ⟨k, s4, h4, hr4⟩
     ·refine (HH.out _ _ _ _ (And1.lt hA HF.out.size HP.out) HB.out h4).mono ?_
      rintro e w4 ⟨hF, pl, rfl⟩
      exact ⟨rfl, HF.out.trans hF, pl, rfl⟩
     ·refine (HH.out _ _ _ _ (And1.lt hA HF.out.size HP.out) HB.out h4).mono ?_
      rintro e w4 ⟨⟨rfl, hk⟩, R4, F4⟩
      have o4 := F4.ints HP.out
      have H4 := hidOf hr4
      have hfew := R4.few
      obtain ⟨nb, nc, b1, hnb, c3, c4, z4, hset⟩ := R4.blank k hk
      have hs := hset bl
      have hkA : (0 : Int) ≤ (k : Int) := by omega
      have hkB : (k : Int) < (s4.ns.length : Int) := by omega
      have F5 := HF.out.trans (F4.trans hs.2)
      have o5 := hs.2.ints o4
      have R5 := hs.1
      have hb5 := R5.base
      have hs5 := F5.size
      have hkl : ks.length ≤ 3001 := by omega
      have e5 : (w4.setCell ⟨nb, k * 4 + 3, none⟩ (.bool bl)).heap.size = w4.heap.size := by simp
      have hX5 := cell_one_new (w4.setCell ⟨nb, k * 4 + 3, none⟩ (.bool bl)) (.int .i64 (k : Int)) 3
      rw [e5] at hX5 hs5
      have HX5 := hidOf hX5
      have HE5 := hidOf e5
      clear hX5 e5
      clear HF HP HB HX2 h4 hr4 F4 R4 o4 hset hs
      have HF := hidOf F5
      have HB := hidOf R5
      have HP := hidOf o5
      clear F5 R5 o5
      go_wp2_with (at_builtin; refine wpList_append_own2 rfl _ _ 57 rfl w.heap.size 3 i0 _ 1 8 Tryz.underlying57 hi hz0 hz1 hz2 rfl (by decide) (.slice ao ks.length cc) ks.length (intVals ks) rfl (HP.out.alloc _) ⟨w4.heap.size, 0, none⟩ 1 1 [.int .i64 k] rfl rfl HX5.out (by simp [Value.oneCell']) (by unfold maxLen; omega) (by omega) (by simp; omega) ?_; intro v' w6 hown' hgrow5 hpl5)
      have B6 : Below (w4.setCell ⟨nb, k * 4 + 3, none⟩ (.bool bl)).heap.size (w4.setCell ⟨nb, k * 4 + 3, none⟩ (.bool bl)) ((w4.setCell ⟨nb, k * 4 + 3, none⟩ (.bool bl)).alloc (.cells #[.int .i64 k] tI)) := (Below.refl _ _).alloc (Nat.le_refl _) _
      have F6 := (HF.out.trans (Fr.ofB (B := B) B6 hb5)).growI hbase hgrow5 (fun b hb => (HP.out.lt b hb).1)
      have R6 := (HB.out.below B6).growI (A' := And1 A v') (HP.out.alloc _) hgrow5 (fun b hb => .inr hb) (fun b hb => by
       rcases hb with hb | hb
       ·exact .inl (.inl hb)
       ·rcases hpl5 b hb with h6 | h6
        ·exact .inl (.inr h6)
        ·exact .inr h6)
      have o6 := own_app hown' rfl
      clear hown' hgrow5 hpl5 B6 HF HB HP
      refine ⟨⟨f, ks ++ [(k : Int)], setBl s4 k bl, by simp; omega, o6, R6, F6, H4⟩, ?_⟩
      obtain ⟨ao', cc', rfl⟩ := owns_slice o6
      simp [lenV]
      omega
    | true =>
     have hbq : bl = decide (0 < ks.length) := by rw [HBL.out]; rfl
     clear HBL
     go_wp2_with fail
     rw [← hbq]
     clear hbq
     rcases bnd_some HX2.out with ⟨h4, rfl⟩ | ⟨k, s4, h4, hr4⟩
     ·refine (HH.out _ _ _ _ (And1.lt hA HF.out.size HP.out) HB.out h4).mono ?_
      rintro e w4 ⟨hF, pl, rfl⟩
      exact ⟨rfl, HF.out.trans hF, pl, rfl⟩
     ·refine (HH.out _ _ _ _ (And1.lt hA HF.out.size HP.out) HB.out h4).mono ?_
      rintro e w4 ⟨⟨rfl, hk⟩, R4, F4⟩
      have o4 := F4.ints HP.out
      have H4 := hidOf hr4
      have hfew := R4.few
      obtain ⟨nb, nc, b1, hnb, c3, c4, z4, hset⟩ := R4.blank k hk
      have hs := hset bl
      have hkA : (0 : Int) ≤ (k : Int) := by omega
      have hkB : (k : Int) < (s4.ns.length : Int) := by omega
      have F5 := HF.out.trans (F4.trans hs.2)
      have o5 := hs.2.ints o4
      have R5 := hs.1
      have hb5 := R5.base
      have hs5 := F5.size
      have hkl : ks.length ≤ 3001 := by omega
      have e5 : (w4.setCell ⟨nb, k * 4 + 3, none⟩ (.bool bl)).heap.size = w4.heap.size := by simp
      have hX5 := cell_one_new (w4.setCell ⟨nb, k * 4 + 3, none⟩ (.bool bl)) (.int .i64 (k : Int)) 3
      rw [e5] at hX5 hs5
      have HX5 := hidOf hX5
      have HE5 := hidOf e5
      clear hX5 e5
      clear HF HP HB HX2 h4 hr4 F4 R4 o4 hset hs
      have HF := hidOf F5
      have HB := hidOf R5
      have HP := hidOf o5
      clear F5 R5 o5
      go_wp2_with (at_builtin; refine wpList_append_own2 rfl _ _ 57 rfl w.heap.size 3 i0 _ 1 8 Tryz.underlying57 hi hz0 hz1 hz2 rfl (by decide) (.slice ao ks.length cc) ks.length (intVals ks) rfl (HP.out.alloc _) ⟨w4.heap.size, 0, none⟩ 1 1 [.int .i64 k] rfl rfl HX5.out (by simp [Value.oneCell']) (by unfold maxLen; omega) (by omega) (by simp; omega) ?_; intro v' w6 hown' hgrow5 hpl5)
      have B6 : Below (w4.setCell ⟨nb, k * 4 + 3, none⟩ (.bool bl)).heap.size (w4.setCell ⟨nb, k * 4 + 3, none⟩ (.bool bl)) ((w4.setCell ⟨nb, k * 4 + 3, none⟩ (.bool bl)).alloc (.cells #[.int .i64 k] tI)) := (Below.refl _ _).alloc (Nat.le_refl _) _
      have F6 := (HF.out.trans (Fr.ofB (B := B) B6 hb5)).growI hbase hgrow5 (fun b hb => (HP.out.lt b hb).1)
      have R6 := (HB.out.below B6).growI (A' := And1 A v') (HP.out.alloc _) hgrow5 (fun b hb => .inr hb) (fun b hb => by
       rcases hb with hb | hb
       ·exact .inl (.inl hb)
       ·rcases hpl5 b hb with h6 | h6
        ·exact .inl (.inr h6)
        ·exact .inr h6)
      have o6 := own_app hown' rfl
      clear hown' hgrow5 hpl5 B6 HF HB HP
      refine ⟨⟨f, ks ++ [(k : Int)], setBl s4 k bl, by simp; omega, o6, R6, F6, H4⟩, ?_⟩
      obtain ⟨ao', cc', rfl⟩ := owns_slice o6
      simp [lenV]
      omega
theorem iBodyM {O : Ps → Rs Nat} {en : ByteArray} {o : Option (List Int × Ps)} (h : Rd B g xs A w s) (hX : xs.length ≤ 3000) (hA : ∀ b, A b → b < w.heap.size) (hone : Reads B g xs 200 O)
  (hr : bodyP xs O en (lim xs) [] s = some o) :
  Calls Tryz.prog 155 #[.pointer (some ⟨g, 0, none⟩), .string en, .func (.func 200) #[.pointer (some ⟨g, 0, none⟩)] #[]] w (PostR B g xs A w (VL B g xs A w.heap.size) o) := by
 obtain ⟨i0, hi, hz0, hz1, hz2⟩ := info_parts infoI1
 have hL : lim xs ≤ 3001 := by unfold lim; omega
 have B0 : Below w.heap.size w (w.alloc (.cells #[] tI)) := (Below.refl _ _).alloc (Nat.le_refl _) _
 have R0 : Rd B g xs (And1 A (.slice (some ⟨w.heap.size, 0, none⟩) 0 0)) (w.alloc (.cells #[] tI)) s := (h.avoid (A' := And1 A (.slice (some ⟨w.heap.size, 0, none⟩) 0 0)) (fun k hk => hk.imp_right (fun e => by injection e with e; show w.heap.size ≤ k; exact Nat.le_of_eq e))).below B0
 have hbase := h.base
 have F0 := Fr.ofB B0 h.base
 have hown0 : (w.alloc (.cells #[] tI)).ownsRow w.heap.size tI 1 (.slice (some ⟨w.heap.size, 0, none⟩) 0 0) 0 [] := World.ownsRow_made w #[] 0 (Nat.le_refl _) (by decide) rfl
 obtain ⟨v0, hv0⟩ : ∃ v0, v0 = Value.slice (some ⟨w.heap.size, 0, none⟩) 0 0 := ⟨_, rfl⟩
 have HR := hidOf hr
 have HH := hidOf hone
 have HO := hidOf hown0
 have HR0 := hidOf R0
 have HF0 := hidOf F0
 clear hr hone hown0 R0 F0 B0 h
 go_enter Tryz.func155, Tryz.ntmps155
 go_wp2
 rw [← hv0]
 rw [← hv0] at HO HR0
 clear hv0
 go_loopw [7] (fun v wr => ∃ (f : Nat) (ks : List Int) (s1 : Ps), f + ks.length = lim xs ∧ wr.ownsRow w.heap.size tI 1 v ks.length (intVals ks) ∧ Rd B g xs (And1 A v) wr s1 ∧ Fr B w wr ∧ Hid (bodyP xs O en f ks s1 = some o)) (fun v _ => lim xs - lenV v)
 case atStart => exact ⟨lim xs, [], s, rfl, HO.out, HR0.out, HF0.out, HR⟩
 case round =>
  obtain ⟨f, ks, s1, hf, ho, R1, F1, HX⟩ := hrel
  obtain ⟨ao, cc, rfl⟩ := owns_slice ho
  clear HR HO HR0 HF0
  have qI := iIs_any R1 en
  cases f with
  | zero => exact absurd HX.out (by simp [bodyP])
  | succ f =>
   by_cases ht : txt xs s1.p = en
   ·rw [decide_eq_true ht] at qI
    obtain rfl : some (ks, s1) = o := by
     have := HX.out
     unfold bodyP at this
     rw [if_pos ht] at this
     injection this
    have HF := hidOf F1
    have HP := hidOf ho
    have HB := hidOf R1
    clear HX ht R1 F1 ho
    go_wp2_with fail
    refine qI.mono ?_
    rintro e w2 ⟨rfl, B2⟩
    have HQ := hidOf (owns_below HP.out B2)
    have HS := hidOf (HF.out.trans (Fr.ofB B2 HB.out.base))
    have HT := hidOf (HB.out.below B2)
    clear qI B2
    go_wp2
    go_ret
    exact ⟨⟨_, _, rfl, HQ.out, HT.out, by omega⟩, HT.out.avoid (fun k hk => .inl (.inl hk)), HS.out⟩
   ·rw [decide_eq_false ht] at qI
    have hr : bnd (O s1) (fun k s2 => bodyP xs O en f (ks ++ [(k : Int)]) (setBl s2 k (blk xs s1.p && decide (0 < ks.length)))) = some o := by
     have := HX.out
     unfold bodyP at this
     rw [if_neg ht] at this
     exact this
    obtain ⟨bl, hbl⟩ : ∃ bl, bl = (blk xs s1.p && decide (0 < ks.length)) := ⟨_, rfl⟩
    rw [← hbl] at hr
    have HX2 := hidOf hr
    have HBL := hidOf hbl
    have HF := hidOf F1
    have HP := hidOf ho
    have HB := hidOf R1
    clear HX ht R1 F1 ho hr hbl
    go_wp2_with fail
    refine qI.mono ?_
    rintro e w2 ⟨rfl, B2⟩
    have R2 := HB.out.below B2
    have F2 := HF.out.trans (Fr.ofB B2 HB.out.base)
    have o2 := owns_below HP.out B2
    have qN := iNext_any R2
    clear HB HF HP qI B2
    have HF := hidOf F2
    have HP := hidOf o2
    have HB := hidOf R2
    clear F2 o2 R2
    go_wp2_with fail
    refine qN.mono ?_
    rintro e w3 ⟨⟨pl, rfl⟩, B3⟩
    have R3 := HB.out.below B3
    have F3 := HF.out.trans (Fr.ofB B3 HB.out.base)
    have o3 := owns_below HP.out B3
    clear HB HF HP qN B3
    have HF := hidOf F3
    have HP := hidOf o3
    have HB := hidOf R3
    clear F3 o3 R3
    obtain ⟨k0, hk0⟩ : ∃ k, k = knd xs s1.p := ⟨_, rfl⟩
    obtain ⟨u0, hu0⟩ : ∃ u, u = txt xs s1.p := ⟨_, rfl⟩
    obtain ⟨b0, hb0⟩ : ∃ b, b = blk xs s1.p := ⟨_, rfl⟩
    rw [← hk0, ← hu0, ← hb0]
    rw [← hb0] at HBL
    clear hk0 hu0 hb0
    have q := fSg3 k0 u0 pl b0
    cases b0 with
    | false =>
     have hbq : bl = false := by rw [HBL.out]; rfl
     clear HBL
     go_wp2_with fail
     rw [← hbq]
     clear hbq
     rcases bnd_some HX2.out with ⟨h4, rfl⟩ | ⟨k, s4, h4, hr4⟩
     ·refine (HH.out _ _ _ _ (And1.lt hA HF.out.size HP.out) HB.out h4).mono ?_
      rintro e w4 ⟨hF, pl, rfl⟩
      exact ⟨rfl, HF.out.trans hF, pl, rfl⟩
     ·refine (HH.out _ _ _ _ (And1.lt hA HF.out.size HP.out) HB.out h4).mono ?_
      rintro e w4 ⟨⟨rfl, hk⟩, R4, F4⟩
      have o4 := F4.ints HP.out
      have H4 := hidOf hr4
      have hfew := R4.few
      obtain ⟨nb, nc, b1, hnb, c3, c4, z4, hset⟩ := R4.blank k hk
      have hs := hset bl
      have hkA : (0 : Int) ≤ (k : Int) := by omega
      have hkB : (k : Int) < (s4.ns.length : Int) := by omega
      have F5 := HF.out.trans (F4.trans hs.2)
      have o5 := hs.2.ints o4
      have R5 := hs.1
      have hb5 := R5.base
      have hs5 := F5.size
      have hkl : ks.length ≤ 3001 := by omega
      have e5 : (w4.setCell ⟨nb, k * 4 + 3, none⟩ (.bool bl)).heap.size = w4.heap.size := by simp
      have hX5 := cell_one_new (w4.setCell ⟨nb, k * 4 + 3, none⟩ (.bool bl)) (.int .i64 (k : Int)) 3
      rw [e5] at hX5 hs5
      have HX5 := hidOf hX5
      have HE5 := hidOf e5
      clear hX5 e5
      clear HF HP HB HX2 h4 hr4 F4 R4 o4 hset hs
      have HF := hidOf F5
      have HB := hidOf R5
      have HP := hidOf o5
      clear F5 R5 o5
      go_wp2_with (at_builtin; refine wpList_append_own2 rfl _ _ 57 rfl w.heap.size 3 i0 _ 1 8 Tryz.underlying57 hi hz0 hz1 hz2 rfl (by decide) (.slice ao ks.length cc) ks.length (intVals ks) rfl (HP.out.alloc _) ⟨w4.heap.size, 0, none⟩ 1 1 [.int .i64 k] rfl rfl HX5.out (by simp [Value.oneCell']) (by unfold maxLen; omega) (by omega) (by simp; omega) ?_; intro v' w6 hown' hgrow5 hpl5)
      have B6 : Below (w4.setCell ⟨nb, k * 4 + 3, none⟩ (.bool bl)).heap.size (w4.setCell ⟨nb, k * 4 + 3, none⟩ (.bool bl)) ((w4.setCell ⟨nb, k * 4 + 3, none⟩ (.bool bl)).alloc (.cells #[.int .i64 k] tI)) := (Below.refl _ _).alloc (Nat.le_refl _) _
      have F6 := (HF.out.trans (Fr.ofB (B := B) B6 hb5)).growI hbase hgrow5 (fun b hb => (HP.out.lt b hb).1)
      have R6 := (HB.out.below B6).growI (A' := And1 A v') (HP.out.alloc _) hgrow5 (fun b hb => .inr hb) (fun b hb => by
       rcases hb with hb | hb
       ·exact .inl (.inl hb)
       ·rcases hpl5 b hb with h6 | h6
        ·exact .inl (.inr h6)
        ·exact .inr h6)
      have o6 := own_app hown' rfl
      clear hown' hgrow5 hpl5 B6 HF HB HP
      refine ⟨⟨f, ks ++ [(k : Int)], setBl s4 k bl, by simp; omega, o6, R6, F6, H4⟩, ?_⟩
      obtain ⟨ao', cc', rfl⟩ := owns_slice o6
      simp [lenV]
      omega
    | true =>
     have hbq : bl = decide (0 < ks.length) := by rw [HBL.out]; rfl
     clear HBL
     go_wp2_with fail
     rw [← hbq]
     clear hbq
     rcases bnd_some HX2.out with ⟨h4, rfl⟩ | ⟨k, s4, h4, hr4⟩
     ·refine (HH.out _ _ _ _ (And1.lt hA HF.out.size HP.out) HB.out h4).mono ?_
      rintro e w4 ⟨hF, pl, rfl⟩
      exact ⟨rfl, HF.out.trans hF, pl, rfl⟩
     ·refine (HH.out _ _ _ _ (And1.lt hA HF.out.size HP.out) HB.out h4).mono ?_
      rintro e w4 ⟨⟨rfl, hk⟩, R4, F4⟩
      have o4 := F4.ints HP.out
      have H4 := hidOf hr4
      have hfew := R4.few
      obtain ⟨nb, nc, b1, hnb, c3, c4, z4, hset⟩ := R4.blank k hk
      have hs := hset bl
      have hkA : (0 : Int) ≤ (k : Int) := by omega
      have hkB : (k : Int) < (s4.ns.length : Int) := by omega
      have F5 := HF.out.trans (F4.trans hs.2)
      have o5 := hs.2.ints o4
      have R5 := hs.1
      have hb5 := R5.base
      have hs5 := F5.size
      have hkl : ks.length ≤ 3001 := by omega
      have e5 : (w4.setCell ⟨nb, k * 4 + 3, none⟩ (.bool bl)).heap.size = w4.heap.size := by simp
      have hX5 := cell_one_new (w4.setCell ⟨nb, k * 4 + 3, none⟩ (.bool bl)) (.int .i64 (k : Int)) 3
      rw [e5] at hX5 hs5
      have HX5 := hidOf hX5
      have HE5 := hidOf e5
      clear hX5 e5
      clear HF HP HB HX2 h4 hr4 F4 R4 o4 hset hs
      have HF := hidOf F5
      have HB := hidOf R5
      have HP := hidOf o5
      clear F5 R5 o5
      go_wp2_with (at_builtin; refine wpList_append_own2 rfl _ _ 57 rfl w.heap.size 3 i0 _ 1 8 Tryz.underlying57 hi hz0 hz1 hz2 rfl (by decide) (.slice ao ks.length cc) ks.length (intVals ks) rfl (HP.out.alloc _) ⟨w4.heap.size, 0, none⟩ 1 1 [.int .i64 k] rfl rfl HX5.out (by simp [Value.oneCell']) (by unfold maxLen; omega) (by omega) (by simp; omega) ?_; intro v' w6 hown' hgrow5 hpl5)
      have B6 : Below (w4.setCell ⟨nb, k * 4 + 3, none⟩ (.bool bl)).heap.size (w4.setCell ⟨nb, k * 4 + 3, none⟩ (.bool bl)) ((w4.setCell ⟨nb, k * 4 + 3, none⟩ (.bool bl)).alloc (.cells #[.int .i64 k] tI)) := (Below.refl _ _).alloc (Nat.le_refl _) _
      have F6 := (HF.out.trans (Fr.ofB (B := B) B6 hb5)).growI hbase hgrow5 (fun b hb => (HP.out.lt b hb).1)
      have R6 := (HB.out.below B6).growI (A' := And1 A v') (HP.out.alloc _) hgrow5 (fun b hb => .inr hb) (fun b hb => by
       rcases hb with hb | hb
       ·exact .inl (.inl hb)
       ·rcases hpl5 b hb with h6 | h6
        ·exact .inl (.inr h6)
        ·exact .inr h6)
      have o6 := own_app hown' rfl
      clear hown' hgrow5 hpl5 B6 HF HB HP
      refine ⟨⟨f, ks ++ [(k : Int)], setBl s4 k bl, by simp; omega, o6, R6, F6, H4⟩, ?_⟩
      obtain ⟨ao', cc', rfl⟩ := owns_slice o6
      simp [lenV]
      omega
theorem iBodyF {O : Ps → Rs Nat} {en : ByteArray} {o : Option (List Int × Ps)} (h : Rd B g xs A w s) (hX : xs.length ≤ 3000) (hA : ∀ b, A b → b < w.heap.size) (hone : Reads B g xs 156 O)
  (hr : bodyP xs O en (lim xs) [] s = some o) :
  Calls Tryz.prog 155 #[.pointer (some ⟨g, 0, none⟩), .string en, .func (.func 156) #[.pointer (some ⟨g, 0, none⟩)] #[]] w (PostR B g xs A w (VL B g xs A w.heap.size) o) := by
 obtain ⟨i0, hi, hz0, hz1, hz2⟩ := info_parts infoI1
 have hL : lim xs ≤ 3001 := by unfold lim; omega
 have B0 : Below w.heap.size w (w.alloc (.cells #[] tI)) := (Below.refl _ _).alloc (Nat.le_refl _) _
 have R0 : Rd B g xs (And1 A (.slice (some ⟨w.heap.size, 0, none⟩) 0 0)) (w.alloc (.cells #[] tI)) s := (h.avoid (A' := And1 A (.slice (some ⟨w.heap.size, 0, none⟩) 0 0)) (fun k hk => hk.imp_right (fun e => by injection e with e; show w.heap.size ≤ k; exact Nat.le_of_eq e))).below B0
 have hbase := h.base
 have F0 := Fr.ofB B0 h.base
 have hown0 : (w.alloc (.cells #[] tI)).ownsRow w.heap.size tI 1 (.slice (some ⟨w.heap.size, 0, none⟩) 0 0) 0 [] := World.ownsRow_made w #[] 0 (Nat.le_refl _) (by decide) rfl
 obtain ⟨v0, hv0⟩ : ∃ v0, v0 = Value.slice (some ⟨w.heap.size, 0, none⟩) 0 0 := ⟨_, rfl⟩
 have HR := hidOf hr
 have HH := hidOf hone
 have HO := hidOf hown0
 have HR0 := hidOf R0
 have HF0 := hidOf F0
 clear hr hone hown0 R0 F0 B0 h
 go_enter Tryz.func155, Tryz.ntmps155
 go_wp2
 rw [← hv0]
 rw [← hv0] at HO HR0
 clear hv0
 go_loopw [7] (fun v wr => ∃ (f : Nat) (ks : List Int) (s1 : Ps), f + ks.length = lim xs ∧ wr.ownsRow w.heap.size tI 1 v ks.length (intVals ks) ∧ Rd B g xs (And1 A v) wr s1 ∧ Fr B w wr ∧ Hid (bodyP xs O en f ks s1 = some o)) (fun v _ => lim xs - lenV v)
 case atStart => exact ⟨lim xs, [], s, rfl, HO.out, HR0.out, HF0.out, HR⟩
 case round =>
  obtain ⟨f, ks, s1, hf, ho, R1, F1, HX⟩ := hrel
  obtain ⟨ao, cc, rfl⟩ := owns_slice ho
  clear HR HO HR0 HF0
  have qI := iIs_any R1 en
  cases f with
  | zero => exact absurd HX.out (by simp [bodyP])
  | succ f =>
   by_cases ht : txt xs s1.p = en
   ·rw [decide_eq_true ht] at qI
    obtain rfl : some (ks, s1) = o := by
     have := HX.out
     unfold bodyP at this
     rw [if_pos ht] at this
     injection this
    have HF := hidOf F1
    have HP := hidOf ho
    have HB := hidOf R1
    clear HX ht R1 F1 ho
    go_wp2_with fail
    refine qI.mono ?_
    rintro e w2 ⟨rfl, B2⟩
    have HQ := hidOf (owns_below HP.out B2)
    have HS := hidOf (HF.out.trans (Fr.ofB B2 HB.out.base))
    have HT := hidOf (HB.out.below B2)
    clear qI B2
    go_wp2
    go_ret
    exact ⟨⟨_, _, rfl, HQ.out, HT.out, by omega⟩, HT.out.avoid (fun k hk => .inl (.inl hk)), HS.out⟩
   ·rw [decide_eq_false ht] at qI
    have hr : bnd (O s1) (fun k s2 => bodyP xs O en f (ks ++ [(k : Int)]) (setBl s2 k (blk xs s1.p && decide (0 < ks.length)))) = some o := by
     have := HX.out
     unfold bodyP at this
     rw [if_neg ht] at this
     exact this
    obtain ⟨bl, hbl⟩ : ∃ bl, bl = (blk xs s1.p && decide (0 < ks.length)) := ⟨_, rfl⟩
    rw [← hbl] at hr
    have HX2 := hidOf hr
    have HBL := hidOf hbl
    have HF := hidOf F1
    have HP := hidOf ho
    have HB := hidOf R1
    clear HX ht R1 F1 ho hr hbl
    go_wp2_with fail
    refine qI.mono ?_
    rintro e w2 ⟨rfl, B2⟩
    have R2 := HB.out.below B2
    have F2 := HF.out.trans (Fr.ofB B2 HB.out.base)
    have o2 := owns_below HP.out B2
    have qN := iNext_any R2
    clear HB HF HP qI B2
    have HF := hidOf F2
    have HP := hidOf o2
    have HB := hidOf R2
    clear F2 o2 R2
    go_wp2_with fail
    refine qN.mono ?_
    rintro e w3 ⟨⟨pl, rfl⟩, B3⟩
    have R3 := HB.out.below B3
    have F3 := HF.out.trans (Fr.ofB B3 HB.out.base)
    have o3 := owns_below HP.out B3
    clear HB HF HP qN B3
    have HF := hidOf F3
    have HP := hidOf o3
    have HB := hidOf R3
    clear F3 o3 R3
    obtain ⟨k0, hk0⟩ : ∃ k, k = knd xs s1.p := ⟨_, rfl⟩
    obtain ⟨u0, hu0⟩ : ∃ u, u = txt xs s1.p := ⟨_, rfl⟩
    obtain ⟨b0, hb0⟩ : ∃ b, b = blk xs s1.p := ⟨_, rfl⟩
    rw [← hk0, ← hu0, ← hb0]
    rw [← hb0] at HBL
    clear hk0 hu0 hb0
    have q := fSg3 k0 u0 pl b0
    cases b0 with
    | false =>
     have hbq : bl = false := by rw [HBL.out]; rfl
     clear HBL
     go_wp2_with fail
     rw [← hbq]
     clear hbq
     rcases bnd_some HX2.out with ⟨h4, rfl⟩ | ⟨k, s4, h4, hr4⟩
     ·refine (HH.out _ _ _ _ (And1.lt hA HF.out.size HP.out) HB.out h4).mono ?_
      rintro e w4 ⟨hF, pl, rfl⟩
      exact ⟨rfl, HF.out.trans hF, pl, rfl⟩
     ·refine (HH.out _ _ _ _ (And1.lt hA HF.out.size HP.out) HB.out h4).mono ?_
      rintro e w4 ⟨⟨rfl, hk⟩, R4, F4⟩
      have o4 := F4.ints HP.out
      have H4 := hidOf hr4
      have hfew := R4.few
      obtain ⟨nb, nc, b1, hnb, c3, c4, z4, hset⟩ := R4.blank k hk
      have hs := hset bl
      have hkA : (0 : Int) ≤ (k : Int) := by omega
      have hkB : (k : Int) < (s4.ns.length : Int) := by omega
      have F5 := HF.out.trans (F4.trans hs.2)
      have o5 := hs.2.ints o4
      have R5 := hs.1
      have hb5 := R5.base
      have hs5 := F5.size
      have hkl : ks.length ≤ 3001 := by omega
      have e5 : (w4.setCell ⟨nb, k * 4 + 3, none⟩ (.bool bl)).heap.size = w4.heap.size := by simp
      have hX5 := cell_one_new (w4.setCell ⟨nb, k * 4 + 3, none⟩ (.bool bl)) (.int .i64 (k : Int)) 3
      rw [e5] at hX5 hs5
      have HX5 := hidOf hX5
      have HE5 := hidOf e5
      clear hX5 e5
      clear HF HP HB HX2 h4 hr4 F4 R4 o4 hset hs
      have HF := hidOf F5
      have HB := hidOf R5
      have HP := hidOf o5
      clear F5 R5 o5
      go_wp2_with (at_builtin; refine wpList_append_own2 rfl _ _ 57 rfl w.heap.size 3 i0 _ 1 8 Tryz.underlying57 hi hz0 hz1 hz2 rfl (by decide) (.slice ao ks.length cc) ks.length (intVals ks) rfl (HP.out.alloc _) ⟨w4.heap.size, 0, none⟩ 1 1 [.int .i64 k] rfl rfl HX5.out (by simp [Value.oneCell']) (by unfold maxLen; omega) (by omega) (by simp; omega) ?_; intro v' w6 hown' hgrow5 hpl5)
      have B6 : Below (w4.setCell ⟨nb, k * 4 + 3, none⟩ (.bool bl)).heap.size (w4.setCell ⟨nb, k * 4 + 3, none⟩ (.bool bl)) ((w4.setCell ⟨nb, k * 4 + 3, none⟩ (.bool bl)).alloc (.cells #[.int .i64 k] tI)) := (Below.refl _ _).alloc (Nat.le_refl _) _
      have F6 := (HF.out.trans (Fr.ofB (B := B) B6 hb5)).growI hbase hgrow5 (fun b hb => (HP.out.lt b hb).1)
      have R6 := (HB.out.below B6).growI (A' := And1 A v') (HP.out.alloc _) hgrow5 (fun b hb => .inr hb) (fun b hb => by
       rcases hb with hb | hb
       ·exact .inl (.inl hb)
       ·rcases hpl5 b hb with h6 | h6
        ·exact .inl (.inr h6)
        ·exact .inr h6)
      have o6 := own_app hown' rfl
      clear hown' hgrow5 hpl5 B6 HF HB HP
      refine ⟨⟨f, ks ++ [(k : Int)], setBl s4 k bl, by simp; omega, o6, R6, F6, H4⟩, ?_⟩
      obtain ⟨ao', cc', rfl⟩ := owns_slice o6
      simp [lenV]
      omega
    | true =>
     have hbq : bl = decide (0 < ks.length) := by rw [HBL.out]; rfl
     clear HBL
     go_wp2_with fail
     rw [← hbq]
     clear hbq
     rcases bnd_some HX2.out with ⟨h4, rfl⟩ | ⟨k, s4, h4, hr4⟩
     ·refine (HH.out _ _ _ _ (And1.lt hA HF.out.size HP.out) HB.out h4).mono ?_
      rintro e w4 ⟨hF, pl, rfl⟩
      exact ⟨rfl, HF.out.trans hF, pl, rfl⟩
     ·refine (HH.out _ _ _ _ (And1.lt hA HF.out.size HP.out) HB.out h4).mono ?_
      rintro e w4 ⟨⟨rfl, hk⟩, R4, F4⟩
      have o4 := F4.ints HP.out
      have H4 := hidOf hr4
      have hfew := R4.few
      obtain ⟨nb, nc, b1, hnb, c3, c4, z4, hset⟩ := R4.blank k hk
      have hs := hset bl
      have hkA : (0 : Int) ≤ (k : Int) := by omega
      have hkB : (k : Int) < (s4.ns.length : Int) := by omega
      have F5 := HF.out.trans (F4.trans hs.2)
      have o5 := hs.2.ints o4
      have R5 := hs.1
      have hb5 := R5.base
      have hs5 := F5.size
      have hkl : ks.length ≤ 3001 := by omega
      have e5 : (w4.setCell ⟨nb, k * 4 + 3, none⟩ (.bool bl)).heap.size = w4.heap.size := by simp
      have hX5 := cell_one_new (w4.setCell ⟨nb, k * 4 + 3, none⟩ (.bool bl)) (.int .i64 (k : Int)) 3
      rw [e5] at hX5 hs5
      have HX5 := hidOf hX5
      have HE5 := hidOf e5
      clear hX5 e5
      clear HF HP HB HX2 h4 hr4 F4 R4 o4 hset hs
      have HF := hidOf F5
      have HB := hidOf R5
      have HP := hidOf o5
      clear F5 R5 o5
      go_wp2_with (at_builtin; refine wpList_append_own2 rfl _ _ 57 rfl w.heap.size 3 i0 _ 1 8 Tryz.underlying57 hi hz0 hz1 hz2 rfl (by decide) (.slice ao ks.length cc) ks.length (intVals ks) rfl (HP.out.alloc _) ⟨w4.heap.size, 0, none⟩ 1 1 [.int .i64 k] rfl rfl HX5.out (by simp [Value.oneCell']) (by unfold maxLen; omega) (by omega) (by simp; omega) ?_; intro v' w6 hown' hgrow5 hpl5)
      have B6 : Below (w4.setCell ⟨nb, k * 4 + 3, none⟩ (.bool bl)).heap.size (w4.setCell ⟨nb, k * 4 + 3, none⟩ (.bool bl)) ((w4.setCell ⟨nb, k * 4 + 3, none⟩ (.bool bl)).alloc (.cells #[.int .i64 k] tI)) := (Below.refl _ _).alloc (Nat.le_refl _) _
      have F6 := (HF.out.trans (Fr.ofB (B := B) B6 hb5)).growI hbase hgrow5 (fun b hb => (HP.out.lt b hb).1)
      have R6 := (HB.out.below B6).growI (A' := And1 A v') (HP.out.alloc _) hgrow5 (fun b hb => .inr hb) (fun b hb => by
       rcases hb with hb | hb
       ·exact .inl (.inl hb)
       ·rcases hpl5 b hb with h6 | h6
        ·exact .inl (.inr h6)
        ·exact .inr h6)
      have o6 := own_app hown' rfl
      clear hown' hgrow5 hpl5 B6 HF HB HP
      refine ⟨⟨f, ks ++ [(k : Int)], setBl s4 k bl, by simp; omega, o6, R6, F6, H4⟩, ?_⟩
      obtain ⟨ao', cc', rfl⟩ := owns_slice o6
      simp [lenV]
      omega
end
end Go.Proofs.YtcbbnphpkgifoaaGreatDoor
