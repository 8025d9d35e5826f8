/- Notes held against each other: the third truth. -/
import Derived.Test.YtdlpepmdjbmmmaaGreatDoorKaz
import Derived.Test.YtdlpepmdjbmmmaaGreatDoorKai
namespace Go.Proofs.YtdlpepmdjbmmmaaGreatDoor
open Go.RowKit

theorem arr12 (t : Array Value) (h : t.size = 12) : ∃ x0 x1 x2 x3 x4 x5 x6 x7 x8 x9 x10 x11, t = #[x0, x1, x2, x3, x4, x5, x6, x7, x8, x9, x10, x11] := by
 obtain ⟨l⟩ := t
 match l, h with
 | x0 :: x1 :: x2 :: x3 :: x4 :: x5 :: x6 :: x7 :: x8 :: x9 :: x10 :: x11 :: [], _ => exact ⟨_, _, _, _, _, _, _, _, _, _, _, _, rfl⟩
/-- What each step of the third truth leaves. -/
def ntPost (B : Nat) (sa : Option Addr) (sl sc : Nat) (sb : Option Addr) (rl rc : Nat) (ns ms : List ByteArray) (bb : Bool) : Nat → Value → World → Prop
 | 0 => fun v _ => v = .pointer (some ⟨B, 0, none⟩)
 | 1 => fun v _ => v = .pointer (some ⟨B, 1, none⟩)
 | 2 => fun v _ => v = .slice sa sl sc
 | 3 => fun v X => StAt X v ns
 | 4 => fun v _ => v = .pointer (some ⟨B, 2, none⟩)
 | 5 => fun v _ => v = .pointer (some ⟨B, 3, none⟩)
 | 6 => fun v _ => v = .slice sb rl rc
 | 7 => fun v X => StAt X v ms
 | 8 => fun v _ => v = .bool bb
 | 9 => fun v _ => v = .bool bb
 | _ => fun _ _ => True
theorem ntPost_stab (B : Nat) (sa : Option Addr) (sl sc : Nat) (sb : Option Addr) (rl rc : Nat) (ns ms : List ByteArray) (bb : Bool) : ∀ k v (X X' : World), ntPost B sa sl sc sb rl rc ns ms bb k v X → Below X.heap.size X X' → ntPost B sa sl sc sb rl rc ns ms bb k v X'
 | 0, _, _, _, h, _ => h
 | 1, _, _, _, h, _ => h
 | 2, _, _, _, h, _ => h
 | 3, _, _, _, h, hb => StAt.below h hb
 | 4, _, _, _, h, _ => h
 | 5, _, _, _, h, _ => h
 | 6, _, _, _, h, _ => h
 | 7, _, _, _, h, hb => StAt.below h hb
 | 8, _, _, _, h, _ => h
 | 9, _, _, _, h, _ => h
 | _ + 10, _, _, _, _, _ => trivial

set_option maxHeartbeats 1000000 in
set_option maxRecDepth 20000 in
theorem iKNotes (t u : ByteArray) (na : Option Addr) (nl nc : Nat) (sa : Option Addr) (sl sc : Nat) (nb : Option Addr) (ml mc : Nat) (sb : Option Addr) (rl rc : Nat) (w : World) (d1 : Rdg w t na nl nc sa sl sc) (d2 : Rdg w u nb ml mc sb rl rc) :
  Calls Tryz.prog 27 #[rwV na nl nc sa sl sc nb ml mc sb rl rc] w fun e w' => e = .returned (.bool (decide (nts (sgn t).1 = nts (sgn u).1))) ∧ Below w.heap.size w w' := by
 have hb0 : Below w.heap.size w (w.alloc (.cells #[.slice na nl nc, .slice sa sl sc, .slice nb ml mc, .slice sb rl rc] 40)) := (Below.refl _ w).alloc (Nat.le_refl _) _
 obtain ⟨W, hW⟩ : ∃ W, W = w.alloc (.cells #[.slice na nl nc, .slice sa sl sc, .slice nb ml mc, .slice sb rl rc] 40) := ⟨_, rfl⟩
 have hr : W.heap[w.heap.size]? = some (.cells #[.slice na nl nc, .slice sa sl sc, .slice nb ml mc, .slice sb rl rc] 40 (0, 0)) := by rw [hW]; exact heap_alloc_new w _
 have hlt : w.heap.size < W.heap.size := (Array.getElem?_eq_some_iff.1 hr).1
 rw [← hW] at hb0
 have e1 := d1.signs.below hb0
 have e2 := d2.signs.below hb0
 have q1 : ∀ X, Below W.heap.size W X → Calls Tryz.prog 55 #[.slice sa sl sc] X fun e w' => StrsAns (nts (sgn t).1) 9 X e w' := fun X hb => iNotes_any _ (sgn t).1 X (by have := (sgn_few t).1; omega) (sgn_few t).2 (e1.below hb)
 have q2 : ∀ X, Below W.heap.size W X → Calls Tryz.prog 55 #[.slice sb rl rc] X fun e w' => StrsAns (nts (sgn u).1) 9 X e w' := fun X hb => iNotes_any _ (sgn u).1 X (by have := (sgn_few u).1; omega) (sgn_few u).2 (e2.below hb)
 have l1 : (nts (sgn t).1).length ≤ 3000 := Nat.le_trans (nts_len _) (sgn_few t).1
 have l2 : (nts (sgn u).1).length ≤ 3000 := Nat.le_trans (nts_len _) (sgn_few u).1
 obtain ⟨ns, hns⟩ : ∃ ns, ns = nts (sgn t).1 := ⟨_, rfl⟩
 obtain ⟨ms, hms⟩ : ∃ ms, ms = nts (sgn u).1 := ⟨_, rfl⟩
 rw [← hns] at q1 l1
 rw [← hms] at q2 l2
 rw [← hns, ← hms]
 have q3 : ∀ X v2 v3, StAt X v2 ns → StAt X v3 ms → Calls Tryz.prog 54 #[v2, v3] X fun e w' => e = .returned (.bool (decide (ns = ms))) ∧ ∃ q, w' = X.drewN q := fun X v2 v3 h1 h2 => iNotesEq v2 v3 ns ms X (by omega) (by omega) h1 h2
 obtain ⟨bb, hbb⟩ : ∃ bb, bb = decide (ns = ms) := ⟨_, rfl⟩
 rw [← hbb] at q3 ⊢
 have Q1 := hidOf q1
 have Q2 := hidOf q2
 have Q3 := hidOf q3
 clear hns hms hbb q1 q2 q3
 have c1 : W.cell? ⟨w.heap.size, 1, none⟩ = some (.slice sa sl sc) := cell_of_row W _ 1 _ _ _ hr
 have c3 : W.cell? ⟨w.heap.size, 3, none⟩ = some (.slice sb rl rc) := cell_of_row W _ 3 _ _ _ hr
 have hdr : Below W.heap.size W W.drew := (Below.refl _ _).drew
 clear e1 e2 d1 d2 hr
 go_enter Tryz.func27, Tryz.ntmps27
 go_wp2
 rw [← hW]
 clear hW
 refine wp_region_guards (by kernel_rfl) (fun X => Below W.heap.size W X) (fun X X' => Below X.heap.size X X') (ntPost w.heap.size sa sl sc sb rl rc ns ms bb) hdr (by kernel_rfl) (fun k v X X' h _ hb => ntPost_stab w.heap.size sa sl sc sb rl rc ns ms bb k v X X' h hb) ?_ ?_
 case refine_1 =>
  intro kk oo hk aa X hI hsz hfix hdep
  match kk, hk with
  | 0, hk =>
   cases hk
   refine .inl ⟨wanted_none rfl, fun K hK => ?_⟩
   have e1 : aa.tmps.getD 1 undef = .pointer (some ⟨w.heap.size, 0, none⟩) := hfix 1 (by kernel_rfl)
   refine wp_value (v := .pointer (some ⟨w.heap.size, 0, none⟩)) (w' := X) ?_ (hK _ _ (by simp) hI (Below.refl _ _) rfl)
   clear hfix hdep hK hk hsz
   go_simp
  | 1, hk =>
   cases hk
   refine .inl ⟨wanted_none rfl, fun K hK => ?_⟩
   have e3 : aa.tmps.getD 3 undef = .pointer (some ⟨w.heap.size, 0, none⟩) := hdep 0 _ rfl (by kernel_rfl)
   refine wp_value (v := .pointer (some ⟨w.heap.size, 1, none⟩)) (w' := X) ?_ (hK _ _ (by simp) hI (Below.refl _ _) rfl)
   clear hfix hdep hK hk hsz
   go_simp
  | 2, hk =>
   cases hk
   refine .inl ⟨wanted_none rfl, fun K hK => ?_⟩
   have e4 : aa.tmps.getD 4 undef = .pointer (some ⟨w.heap.size, 1, none⟩) := hdep 1 _ rfl (by kernel_rfl)
   have cc := (hI.cell (p := ⟨w.heap.size, 1, none⟩) hlt).trans c1
   refine wp_value (v := .slice sa sl sc) (w' := X) ?_ (hK _ _ (by simp) hI (Below.refl _ _) rfl)
   clear hfix hdep hK hk hsz
   go_simp
  | 3, hk =>
   cases hk
   refine .inl ⟨wanted_none rfl, fun K hK => ?_⟩
   have e5 : aa.tmps.getD 5 undef = .slice sa sl sc := hdep 2 _ rfl (by kernel_rfl)
   refine wp_calls 55 #[.slice sa sl sc] ?_ (Q1.out X hI) ?_
   ·clear hfix hdep hK hk hsz
    go_simp
    try rfl
   ·rintro e X2 ⟨A, v, rfl, ho⟩
    exact ⟨_, rfl, hK _ _ (by simp) (hI.trans (A.mono hI.size)) A (StAt.of_own ho)⟩
  | 4, hk =>
   cases hk
   refine .inl ⟨wanted_none rfl, fun K hK => ?_⟩
   have e1 : aa.tmps.getD 1 undef = .pointer (some ⟨w.heap.size, 0, none⟩) := hfix 1 (by kernel_rfl)
   refine wp_value (v := .pointer (some ⟨w.heap.size, 2, none⟩)) (w' := X) ?_ (hK _ _ (by simp) hI (Below.refl _ _) rfl)
   clear hfix hdep hK hk hsz
   go_simp
  | 5, hk =>
   cases hk
   refine .inl ⟨wanted_none rfl, fun K hK => ?_⟩
   have e7 : aa.tmps.getD 7 undef = .pointer (some ⟨w.heap.size, 2, none⟩) := hdep 4 _ rfl (by kernel_rfl)
   refine wp_value (v := .pointer (some ⟨w.heap.size, 3, none⟩)) (w' := X) ?_ (hK _ _ (by simp) hI (Below.refl _ _) rfl)
   clear hfix hdep hK hk hsz
   go_simp
  | 6, hk =>
   cases hk
   refine .inl ⟨wanted_none rfl, fun K hK => ?_⟩
   have e8 : aa.tmps.getD 8 undef = .pointer (some ⟨w.heap.size, 3, none⟩) := hdep 5 _ rfl (by kernel_rfl)
   have cc := (hI.cell (p := ⟨w.heap.size, 3, none⟩) hlt).trans c3
   refine wp_value (v := .slice sb rl rc) (w' := X) ?_ (hK _ _ (by simp) hI (Below.refl _ _) rfl)
   clear hfix hdep hK hk hsz
   go_simp
  | 7, hk =>
   cases hk
   refine .inl ⟨wanted_none rfl, fun K hK => ?_⟩
   have e9 : aa.tmps.getD 9 undef = .slice sb rl rc := hdep 6 _ rfl (by kernel_rfl)
   refine wp_calls 55 #[.slice sb rl rc] ?_ (Q2.out X hI) ?_
   ·clear hfix hdep hK hk hsz
    go_simp
    try rfl
   ·rintro e X2 ⟨A, v, rfl, ho⟩
    exact ⟨_, rfl, hK _ _ (by simp) (hI.trans (A.mono hI.size)) A (StAt.of_own ho)⟩
  | 8, hk =>
   cases hk
   refine .inl ⟨wanted_none rfl, fun K hK => ?_⟩
   have s6 : StAt X (aa.tmps.getD 6 undef) ns := hdep 3 _ rfl (by kernel_rfl)
   have s10 : StAt X (aa.tmps.getD 10 undef) ms := hdep 7 _ rfl (by kernel_rfl)
   obtain ⟨v6, e6⟩ : ∃ v, aa.tmps.getD 6 undef = v := ⟨_, rfl⟩
   obtain ⟨v10, e10⟩ : ∃ v, aa.tmps.getD 10 undef = v := ⟨_, rfl⟩
   rw [e6] at s6
   rw [e10] at s10
   refine wp_calls 54 #[v6, v10] ?_ (Q3.out X v6 v10 s6 s10) ?_
   ·clear hfix hdep hK hk hsz s6 s10
    go_simp
    try rfl
   ·rintro e X2 ⟨rfl, q, rfl⟩
    exact ⟨_, rfl, hK _ _ (by simp) (bel_drewN hI q) (below_drewN _ q) rfl⟩
  | 9, hk =>
   cases hk
   refine .inl ⟨wanted_none rfl, fun K hK => ?_⟩
   have e11 : aa.tmps.getD 11 undef = .bool bb := hdep 8 _ rfl (by kernel_rfl)
   refine wp_value (v := .bool bb) (w' := X) ?_ (hK _ _ (by simp) hI (Below.refl _ _) rfl)
   clear hfix hdep hK hk hsz
   go_simp
  | k + 10, hk => cases hk
 case refine_2 =>
  intro aa X hI hdf hsz hfix hpost
  have e2 : aa.tmps.getD 2 undef = .bool bb := hpost 9 _ rfl
  clear hfix hpost
  obtain ⟨tm, df⟩ := aa
  obtain ⟨x0, x1, x2, x3, x4, x5, x6, x7, x8, x9, x10, x11, rfl⟩ := arr12 tm hsz
  have hdf' : df = [] := hdf
  subst hdf'
  have f2 : x2 = .bool bb := e2
  subst f2
  clear e2 hsz hdf
  have HI := hidOf hI
  clear hI Q1 Q2 Q3
  go_wp2
  go_ret
  exact ⟨rfl, hb0.trans (HI.out.mono hb0.size)⟩
end Go.Proofs.YtdlpepmdjbmmmaaGreatDoor
/- A source held against what has become of it: impl.Kept. -/
namespace Go.Proofs.YtdlpepmdjbmmmaaGreatDoor
open Go.RowKit

/-- All that must be so. -/
def KeptP (t u : ByteArray) : Prop := ReadOk t ∧ ReadOk u ∧ sameNds (nodesOf t) (nodesOf u) = true ∧ sameW (sgn t).1 (sgn u).1 = true ∧ nts (sgn t).1 = nts (sgn u).1
theorem iKTruths (w : World) : Calls Tryz.prog 14 #[] w fun e w' => e = .returned (.slice (some ⟨w.heap.size, 0, none⟩) 3 3) ∧ w' = w.alloc (.cells #[.func (.func 25) #[] #[], .func (.func 26) #[] #[], .func (.func 27) #[] #[]] 61) := by
 go_enter Tryz.func14, Tryz.ntmps14
 go_wp2
 go_ret
 exact ⟨rfl, rfl⟩
section
variable (t u : ByteArray) (na : Option Addr) (nl nc : Nat) (sa : Option Addr) (sl sc : Nat) (nb : Option Addr) (ml mc : Nat) (sb : Option Addr) (rl rc : Nat)
set_option maxHeartbeats 4000000 in
theorem iKAllSo (g : Nat) (w : World) (h1 : ReadOk t) (h2 : ReadOk u) (d1 : Rdg w t na nl nc sa sl sc) (d2 : Rdg w u nb ml mc sb rl rc) (hg : g < w.heap.size)
  (k0 : w.cell? ⟨g, 0, none⟩ = some (.func (.func 25) #[] #[])) (k1 : w.cell? ⟨g, 1, none⟩ = some (.func (.func 26) #[] #[])) (k2 : w.cell? ⟨g, 2, none⟩ = some (.func (.func 27) #[] #[])) :
  Calls Tryz.prog 13 #[rwV na nl nc sa sl sc nb ml mc sb rl rc, .slice (some ⟨g, 0, none⟩) 3 3] w fun e w' => TelB (sameNds (nodesOf t) (nodesOf u) = true ∧ sameW (sgn t).1 (sgn u).1 = true ∧ nts (sgn t).1 = nts (sgn u).1) w e w' := by
 have hb0 : Below w.heap.size w (w.alloc (.cells #[.slice na nl nc, .slice sa sl sc, .slice nb ml mc, .slice sb rl rc] 40)) := (Below.refl _ w).alloc (Nat.le_refl _) _
 obtain ⟨W0, hW0⟩ : ∃ W, W = w.alloc (.cells #[.slice na nl nc, .slice sa sl sc, .slice nb ml mc, .slice sb rl rc] 40) := ⟨_, rfl⟩
 have hr : W0.heap[w.heap.size]? = some (.cells #[.slice na nl nc, .slice sa sl sc, .slice nb ml mc, .slice sb rl rc] 40 (0, 0)) := by rw [hW0]; exact heap_alloc_new w _
 have hsz : w.heap.size < W0.heap.size := (Array.getElem?_eq_some_iff.1 hr).1
 rw [← hW0] at hb0
 have q0 : ∀ X, Below W0.heap.size W0 X → Calls Tryz.prog 25 #[rwV na nl nc sa sl sc nb ml mc sb rl rc] X fun e w' => e = .returned (.bool (sameNds (nodesOf t) (nodesOf u))) ∧ Below X.heap.size X w' := fun X hb => iKTree t u na nl nc sa sl sc nb ml mc sb rl rc X h1 h2 ((d1.below hb0).below hb) ((d2.below hb0).below hb)
 have q1 : ∀ X, Below W0.heap.size W0 X → Calls Tryz.prog 26 #[rwV na nl nc sa sl sc nb ml mc sb rl rc] X fun e w' => e = .returned (.bool (sameW (sgn t).1 (sgn u).1)) ∧ Below X.heap.size X w' := fun X hb => iKWords t u na nl nc sa sl sc nb ml mc sb rl rc X ((d1.below hb0).below hb) ((d2.below hb0).below hb)
 have q2 : ∀ X, Below W0.heap.size W0 X → Calls Tryz.prog 27 #[rwV na nl nc sa sl sc nb ml mc sb rl rc] X fun e w' => e = .returned (.bool (decide (nts (sgn t).1 = nts (sgn u).1))) ∧ Below X.heap.size X w' := fun X hb => iKNotes t u na nl nc sa sl sc nb ml mc sb rl rc X ((d1.below hb0).below hb) ((d2.below hb0).below hb)
 obtain ⟨b0, hB0⟩ : ∃ b, b = sameNds (nodesOf t) (nodesOf u) := ⟨_, rfl⟩
 obtain ⟨b1, hB1⟩ : ∃ b, b = sameW (sgn t).1 (sgn u).1 := ⟨_, rfl⟩
 obtain ⟨b2, hB2⟩ : ∃ b, b = decide (nts (sgn t).1 = nts (sgn u).1) := ⟨_, rfl⟩
 have HP := hidOf (show (sameNds (nodesOf t) (nodesOf u) = true ∧ sameW (sgn t).1 (sgn u).1 = true ∧ nts (sgn t).1 = nts (sgn u).1) ↔ (b0 = true ∧ b1 = true ∧ b2 = true) by rw [hB0, hB1, hB2, decide_eq_true_eq])
 rw [← hB0] at q0
 rw [← hB1] at q1
 rw [← hB2] at q2
 generalize (sameNds (nodesOf t) (nodesOf u) = true ∧ sameW (sgn t).1 (sgn u).1 = true ∧ nts (sgn t).1 = nts (sgn u).1) = P at HP ⊢
 have Q0 := hidOf q0
 have Q1 := hidOf q1
 have Q2 := hidOf q2
 have k0 := (hb0.cell (p := ⟨g, 0, none⟩) hg).trans k0
 have k1 := (hb0.cell (p := ⟨g, 1, none⟩) hg).trans k1
 have k2 := (hb0.cell (p := ⟨g, 2, none⟩) hg).trans k2
 have hg2 : g < W0.heap.size := by omega
 clear q0 q1 q2 hB0 hB1 hB2 d1 d2 h1 h2
 go_enter Tryz.func13, Tryz.ntmps13
 go_wp2
 rw [← hW0]
 clear hW0
 go_loopw [9] (fun i wr => ∃ k : Nat, k ≤ 3 ∧ i = .int .i64 k ∧ Below W0.heap.size W0 wr ∧ Hid ((0 < k → b0 = true) ∧ (1 < k → b1 = true) ∧ (2 < k → b2 = true))) (fun i _ => 3 - (intOf i).toNat)
 case atStart => exact ⟨0, by omega, rfl, Below.refl _ _, hidOf ⟨fun h => absurd h (by omega), fun h => absurd h (by omega), fun h => absurd h (by omega)⟩⟩
 case round =>
  obtain ⟨k, hk, rfl, hB, HA⟩ := hrel
  have hgr : g < wr.heap.size := Nat.lt_of_lt_of_le hg2 hB.size
  have hzr : w.heap.size < wr.heap.size := Nat.lt_of_lt_of_le hsz hB.size
  have hrr := (hB.block _ hsz).trans hr
  have c0 : wr.cell? ⟨w.heap.size, 0, none⟩ = some (.slice na nl nc) := cell_of_row wr _ 0 _ _ _ hrr
  have c1 : wr.cell? ⟨w.heap.size, 1, none⟩ = some (.slice sa sl sc) := cell_of_row wr _ 1 _ _ _ hrr
  have c2 : wr.cell? ⟨w.heap.size, 2, none⟩ = some (.slice nb ml mc) := cell_of_row wr _ 2 _ _ _ hrr
  have c3 : wr.cell? ⟨w.heap.size, 3, none⟩ = some (.slice sb rl rc) := cell_of_row wr _ 3 _ _ _ hrr
  clear hrr
  have hk' : k = 0 ∨ k = 1 ∨ k = 2 ∨ k = 3 := by omega
  rcases hk' with rfl | rfl | rfl | rfl
  ·have hc := (hB.cell (p := ⟨g, 0, none⟩) hg2).trans k0
   cases b0
   ·go_wp2_with (go_at_call 25; refine (Q0.out _ (hB.alloc hB.size _)).mono ?_; rintro e w1 ⟨rfl, hb1⟩)
    go_ret
    exact telB_no (fun h => by have := (HP.out.1 h).1; cases this) (hb0.trans (((hB.alloc hB.size _).trans (hb1.mono (by simp; have := hB.size; omega))).mono hb0.size))
   ·go_wp2_with (go_at_call 25; refine (Q0.out _ (hB.alloc hB.size _)).mono ?_; rintro e w1 ⟨rfl, hb1⟩)
    go_roundw
    case rel => exact ⟨1, by omega, by go_num, (hB.alloc hB.size _).trans (hb1.mono (by simp; have := hB.size; omega)), hidOf ⟨fun _ => trivial, fun h => absurd h (by omega), fun h => absurd h (by omega)⟩⟩
    case measure => simp [intOf]
  ·have hc := (hB.cell (p := ⟨g, 1, none⟩) hg2).trans k1
   cases b1
   ·go_wp2_with (go_at_call 26; refine (Q1.out _ (hB.alloc hB.size _)).mono ?_; rintro e w1 ⟨rfl, hb1⟩)
    go_ret
    exact telB_no (fun h => by have := (HP.out.1 h).2.1; cases this) (hb0.trans (((hB.alloc hB.size _).trans (hb1.mono (by simp; have := hB.size; omega))).mono hb0.size))
   ·go_wp2_with (go_at_call 26; refine (Q1.out _ (hB.alloc hB.size _)).mono ?_; rintro e w1 ⟨rfl, hb1⟩)
    go_roundw
    case rel => exact ⟨2, by omega, by go_num, (hB.alloc hB.size _).trans (hb1.mono (by simp; have := hB.size; omega)), hidOf ⟨fun _ => HA.out.1 (by omega), fun _ => trivial, fun h => absurd h (by omega)⟩⟩
    case measure => simp [intOf]
  ·have hc := (hB.cell (p := ⟨g, 2, none⟩) hg2).trans k2
   cases b2
   ·go_wp2_with (go_at_call 27; refine (Q2.out _ (hB.alloc hB.size _)).mono ?_; rintro e w1 ⟨rfl, hb1⟩)
    go_ret
    exact telB_no (fun h => by have := (HP.out.1 h).2.2; cases this) (hb0.trans (((hB.alloc hB.size _).trans (hb1.mono (by simp; have := hB.size; omega))).mono hb0.size))
   ·go_wp2_with (go_at_call 27; refine (Q2.out _ (hB.alloc hB.size _)).mono ?_; rintro e w1 ⟨rfl, hb1⟩)
    go_roundw
    case rel => exact ⟨3, by omega, by go_num, (hB.alloc hB.size _).trans (hb1.mono (by simp; have := hB.size; omega)), hidOf ⟨fun _ => HA.out.1 (by omega), fun _ => HA.out.2.1 (by omega), fun _ => trivial⟩⟩
    case measure => simp [intOf]
  ·go_wp2
   go_ret
   exact telB_yes (HP.out.2 ⟨HA.out.1 (by omega), HA.out.2.1 (by omega), HA.out.2.2 (by omega)⟩) (hb0.trans (hB.mono hb0.size))
end
end Go.Proofs.YtdlpepmdjbmmmaaGreatDoor
