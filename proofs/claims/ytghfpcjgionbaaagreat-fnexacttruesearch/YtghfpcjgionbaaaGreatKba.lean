/- What impl.TrueSearch answers: true, whatever comes (the last of its truths, and all of them). -/
import Derived.Test.YtghfpcjgionbaaaGreatKaz
import Derived.Test.YtghfpcjgionbaaaGreatWgI
import Derived.Test.YtghfpcjgionbaaaGreatPopS
import Derived.Deep.RegionHeld3
namespace Go.Proofs.YtghfpcjgionbaaaGreat
open Go.RowKit

theorem tb_set {w : World} {b t : Nat} {x y : Value} (o s : Int) (R : w.heap[b]? = some (.cells #[x, y] t (0, 0))) : Cb ((w.setCell ⟨b, 0, none⟩ (.int .i64 o)).setCell ⟨b, 1, none⟩ (.int .i64 s)) b o s := by
  have R2 := heap_setCell_same _ b 1 _ _ (.int .i64 s) (heap_setCell_same w b 0 _ _ (.int .i64 o) R)
  exact ⟨(Array.getElem?_eq_some_iff.1 R2).1, cell_of_row _ b 0 _ _ _ R2, cell_of_row _ b 1 _ _ _ R2⟩
section
variable (p : Pc) (l : Pl) (wd : Int) (ab af : Option Addr) (us ks : List Int) (cb cf : Nat) (o sm s : Int) (b : Bool)

set_option maxHeartbeats 8000000 in
set_option maxRecDepth 20000 in
theorem iNoDearer (w : World) (hF : PcFew p) (hcap : p.chunks.length ≤ l.c2) (hT : TsOk p wd ks us o sm s b) (hR : Right p) (h : ShIn w p l ab af us ks) :
    Calls Tryz.prog 95 #[shV p l wd ab us cb af ks cf s] w fun e w' => e = .returned (.bool true) ∧ Below w.heap.size w w' := by
  have hk := hT.few
  have hrl := hF.rules
  have hAll := allR_ties hR
  obtain ⟨W0, hW0, X0, B0, S0⟩ := shBoxed w p l wd ab us cb af ks cf s
  have I7 := h.below B0 (Nat.le_refl _)
  have XB := hidOf X0
  obtain ⟨hpl, c0, c1, c2, c3, c4, c5, c6, c7, c8⟩ := X0
  have hal' : (allV p).length ≤ 1048576 := by rw [allV_len]; omega
  have qA := fun W (hb : Below W0.heap.size W0 W) => iSpl_any p l W (by omega) (I7.P.below hb (Nat.le_refl _)).rules
  have qC := fun W a c (hb : Below W0.heap.size W0 W) (hk : KidsAt W a (allV p)) => iCost_yes p l a c (allV p) wd W hF hal' hcap (I7.P.below hb (Nat.le_refl _)) hk hR hAll.vals
  have qK := fun W (hb : Below W0.heap.size W0 W) => iCost_yes p l af cf ks wd W hF (by omega) hcap (I7.P.below hb (Nat.le_refl _)) (I7.K.below hb (Nat.le_refl _)) hR (hT.yes hR).2.1.vals
  unfold pcV at qA qC qK
  unfold CoAns coV at qC qK
  have hless := (hT.yes hR).2.2.1
  unfold lessV at hless
  obtain ⟨o3, ho3⟩ : ∃ o3, o3 = costOver p (allV p) wd := ⟨_, rfl⟩
  obtain ⟨s3, hs3⟩ : ∃ s3, s3 = costSum p (allV p) := ⟨_, rfl⟩
  obtain ⟨o4, ho4⟩ : ∃ o4, o4 = costOver p ks wd := ⟨_, rfl⟩
  obtain ⟨s4, hs4⟩ : ∃ s4, s4 = costSum p ks := ⟨_, rfl⟩
  rw [← ho3, ← hs3] at qC
  rw [← ho4, ← hs4] at qK
  rw [← ho3, ← hs3, ← ho4, ← hs4] at hless
  have HLs := hidOf hless
  clear ho3 hs3 ho4 hs4 hless hT hAll
  have HS0 := hidOf S0
  have hsz : w.heap.size < W0.heap.size := by omega
  clear S0 h
  go_enter Tryz.func95, Tryz.ntmps95
  go_upto_region 1 with fail
  rw [← hW0]
  have HW0 := hidOf hW0
  clear hW0
  go_cut [3] from 4 (fun v wx => ∃ db, v = .pointer (some ⟨db, 0, none⟩) ∧ Below W0.heap.size W0 wx ∧ Cb wx db o3 s3)
  case first =>
    have D7 : Below W0.heap.size W0 W0.drew := (Below.refl W0.heap.size W0).drew
    have D7a : ∀ ob : Obj, Below W0.heap.size W0 (W0.alloc ob).drew := fun ob => ((Below.refl W0.heap.size W0).alloc (Nat.le_refl _) ob).drew
    have hal : ∀ (ob : Obj) (b k : Nat), b < W0.heap.size → (W0.alloc ob).cell? ⟨b, k, none⟩ = W0.cell? ⟨b, k, none⟩ := fun ob b k h => ((Below.refl W0.heap.size W0).alloc (Nat.le_refl _) ob).cell (p := ⟨b, k, none⟩) h
    have hn7 : W0.heap.size ≠ w.heap.size := by omega
    have hn7' : w.heap.size ≠ W0.heap.size := by omega
    go_region_held3 (fun W => W.cell? ⟨w.heap.size, 0, none⟩ = some (.int .i64 p.indent) ∧ W.cell? ⟨w.heap.size, 1, none⟩ = some (.slice l.a1 p.rules.length l.c1) ∧ W.cell? ⟨w.heap.size, 2, none⟩ = some (.slice l.a2 p.chunks.length l.c2) ∧ W.cell? ⟨w.heap.size, 3, none⟩ = some (.slice l.a3 p.spans.length l.c3) ∧ W.cell? ⟨w.heap.size, 4, none⟩ = some (.slice l.a4 p.ties.length l.c4) ∧ W.cell? ⟨w.heap.size, 5, none⟩ = some (.int .i64 wd)) (first | trivial | go_keep)
      ((first
      | (go_at_call 103; first
        | (refine (qA _ D7).mono ?_; rintro e w8 ⟨hb8, a8, c8, rfl, o8⟩; have A8 : Below W0.heap.size W0 w8 := D7.trans hb8; have hc8 := (bcell A8).1; have hd8 := (bcell A8).2; have hn8 : w8.heap.size ≠ w.heap.size := (by have := A8.size; omega); have hn8' : w.heap.size ≠ w8.heap.size := hn8.symm; have hl8 : w.heap.size < w8.heap.size := (by have := A8.size; omega); have hal8 : ∀ (ob : Obj) (b k : Nat), b < w8.heap.size → (w8.alloc ob).cell? ⟨b, k, none⟩ = w8.cell? ⟨b, k, none⟩ := fun ob b k h => ((Below.refl w8.heap.size w8).alloc (Nat.le_refl _) ob).cell (p := ⟨b, k, none⟩) h)
        | (refine (qA _ (D7a _)).mono ?_; rintro e w8 ⟨hb8, a8, c8, rfl, o8⟩; have A8 : Below W0.heap.size W0 w8 := (D7a _).trans (hb8.mono (D7a _).size); have hc8 := (bcell A8).1; have hd8 := (bcell A8).2; obtain ⟨hx, hx0, hx1, hx2, hx3⟩ := box_kept hb8))
      | (go_at_call 126; first
        | (refine (qC _ _ _ A8 (.of_own o8)).mono ?_; rintro e w9 ⟨rfl, hb9⟩; have R9 : w9.heap[W0.heap.size]? = some (.cells #[.int .i64 0, .int .i64 0] 58 (0, 0)) := keep_bel hx hb9; have A9 : Below W0.heap.size W0 w9 := A8.trans (hb9.mono A8.size); have hc9 := (bcell A9).1; have hd9 := (bcell A9).2; have r0 := cell_of_row w9 _ 0 _ _ _ R9; have r1 := cell_of_row w9 _ 1 _ _ _ R9; have r2 := frozen_of_row w9 _ 0 _ _ R9; have r3 := frozen_of_row w9 _ 1 _ _ R9; simp only [List.getElem?_toArray, List.getElem?_cons_zero, List.getElem?_cons_succ] at r0 r1)
        | (refine (qC _ _ _ A8 (.of_own o8)).mono ?_; rintro e w9 ⟨rfl, hb9⟩; have A9 : Below W0.heap.size W0 w9 := A8.trans (hb9.mono A8.size); have hc9 := (bcell A9).1; have hd9 := (bcell A9).2; have hn9 : w9.heap.size ≠ w.heap.size := (by have := A9.size; omega); have hn9' : w.heap.size ≠ w9.heap.size := hn9.symm; have hl9 : w.heap.size < w9.heap.size := (by have := A9.size; omega))
        | (refine (qC _ _ _ (A8.alloc A8.size _) ((KidsAt.of_own o8).below ((Below.refl _ _).alloc (Nat.le_refl _) _) (Nat.le_refl _))).mono ?_; rintro e w9 ⟨rfl, hb9⟩; have A9 : Below W0.heap.size W0 w9 := (A8.alloc A8.size _).trans (hb9.mono (A8.alloc A8.size _).size); have hc9 := (bcell A9).1; have hd9 := (bcell A9).2; have R9 : w9.heap[w8.heap.size]? = some (.cells #[.int .i64 0, .int .i64 0] 58 (0, 0)) := keep_bel (heap_alloc_new w8 _) hb9; have r0 := cell_of_row w9 _ 0 _ _ _ R9; have r1 := cell_of_row w9 _ 1 _ _ _ R9; have r2 := frozen_of_row w9 _ 0 _ _ R9; have r3 := frozen_of_row w9 _ 1 _ _ R9; simp only [List.getElem?_toArray, List.getElem?_cons_zero, List.getElem?_cons_succ] at r0 r1))))
    all_goals go_wp2_with fail
    all_goals go_meet
    all_goals first | exact ⟨w9.heap.size, rfl, A9.alloc A9.size _, (cb_new w9 o3 s3 _).elim (fun W hW => by have h1 := hW.1; subst h1; exact hW.2.1)⟩ | exact ⟨w8.heap.size, rfl, (A9.setCell (p := ⟨w8.heap.size, 0, none⟩) A8.size _).setCell (p := ⟨w8.heap.size, 1, none⟩) A8.size _, tb_set o3 s3 R9⟩ | exact ⟨W0.heap.size, rfl, (A9.setCell (p := ⟨W0.heap.size, 0, none⟩) (Nat.le_refl _) _).setCell (p := ⟨W0.heap.size, 1, none⟩) (Nat.le_refl _) _, tb_set o3 s3 R9⟩
  case rest =>
    obtain ⟨db, rfl, b8, D8⟩ := hcut
    have X8 := XB.out.below b8 hsz
    have d0 := D8.c0
    have d1 := D8.c1
    have hdl := D8.lt
    clear c0 c1 c2 c3 c4 c5 c6 c7 c8
    obtain ⟨hpl, c0, c1, c2, c3, c4, c5, c6, c7, c8⟩ := X8
    have Dr := (Below.refl wc.heap.size wc).drew
    have BD : Below W0.heap.size W0 wc.drew := b8.drew
    go_wp2_with fail
    go_region_held3 (fun W => (W.cell? ⟨w.heap.size, 0, none⟩ = some (.int .i64 p.indent) ∧ W.cell? ⟨w.heap.size, 1, none⟩ = some (.slice l.a1 p.rules.length l.c1) ∧ W.cell? ⟨w.heap.size, 2, none⟩ = some (.slice l.a2 p.chunks.length l.c2) ∧ W.cell? ⟨w.heap.size, 3, none⟩ = some (.slice l.a3 p.spans.length l.c3) ∧ W.cell? ⟨w.heap.size, 4, none⟩ = some (.slice l.a4 p.ties.length l.c4) ∧ W.cell? ⟨w.heap.size, 5, none⟩ = some (.int .i64 wd) ∧ W.cell? ⟨w.heap.size, 7, none⟩ = some (.slice af ks.length cf)) ∧ W.cell? ⟨db, 0, none⟩ = some (.int .i64 o3) ∧ W.cell? ⟨db, 1, none⟩ = some (.int .i64 s3)) (first | trivial | go_keep)
      ((first
      | (go_at_call 126; refine (qK _ BD).mono ?_; rintro e w9 ⟨rfl, hb9⟩; have hc9 := bcelld hb9)
      | (go_at_call 91; refine (iLess_any o3 s3 o4 s4 _).mono ?_; rw [HLs.out]; rintro e w10 ⟨rfl, hb10⟩; have Z10 := hb9.trans (hb10.mono hb9.size); have hc10 := bcelld Z10)))
    go_wp2
    go_ret
    have A9 := BD.trans (hb9.mono BD.size)
    have A10 := A9.trans (hb10.mono A9.size)
    exact ⟨rfl, B0.trans (A10.mono B0.size)⟩
end
end Go.Proofs.YtghfpcjgionbaaaGreat
/- What impl.TrueSearch answers: true, whatever comes (all its truths, and the whole). -/
namespace Go.Proofs.YtghfpcjgionbaaaGreat
open Go.RowKit

section
variable (p : Pc) (l : Pl) (wd : Int) (ab af : Option Addr) (us ks : List Int) (cb cf : Nat) (o sm s : Int) (b : Bool)

set_option maxHeartbeats 8000000 in
set_option maxRecDepth 20000 in
theorem iSAllSo (g : Nat) (w : World) (hF : PcFew p) (hcap : p.chunks.length ≤ l.c2) (hT : TsOk p wd ks us o sm s b) (hR : Right p) (h : ShIn w p l ab af us ks) (hg : g < w.heap.size)
    (k0 : w.cell? ⟨g, 0, none⟩ = some (.func (.func 93) #[] #[])) (k1 : w.cell? ⟨g, 1, none⟩ = some (.func (.func 94) #[] #[])) (k2 : w.cell? ⟨g, 2, none⟩ = some (.func (.func 95) #[] #[])) :
    Calls Tryz.prog 58 #[shV p l wd ab us cb af ks cf s, .slice (some ⟨g, 0, none⟩) 3 3] w fun e w' => e = .returned (.bool true) ∧ Below w.heap.size w w' := by
  obtain ⟨W0, hW0, X0, B0, S0⟩ := shBoxed w p l wd ab us cb af ks cf s
  have I0 := h.below B0 (Nat.le_refl _)
  have hg2 : g < W0.heap.size := by omega
  have k0 := (B0.cell (p := ⟨g, 0, none⟩) hg).trans k0
  have k1 := (B0.cell (p := ⟨g, 1, none⟩) hg).trans k1
  have k2 := (B0.cell (p := ⟨g, 2, none⟩) hg).trans k2
  have hsz : w.heap.size < W0.heap.size := by omega
  clear S0 h
  go_enter Tryz.func58, Tryz.ntmps58
  go_wp2
  rw [← hW0]
  clear hW0
  go_loopw [9] (fun i wr => ∃ k : Nat, k ≤ 3 ∧ i = .int .i64 k ∧ Below W0.heap.size W0 wr) (fun i _ => 3 - (intOf i).toNat)
  case atStart => exact ⟨0, by omega, rfl, Below.refl _ _⟩
  case round =>
    obtain ⟨k, hk, rfl, hB⟩ := hrel
    have hgr : g < wr.heap.size := Nat.lt_of_lt_of_le hg2 hB.size
    have hzr : w.heap.size < wr.heap.size := Nat.lt_of_lt_of_le hsz hB.size
    have I1 := fun ob => I0.below (hB.alloc hB.size ob) (Nat.le_refl _)
    obtain ⟨-, c0, c1, c2, c3, c4, c5, c6, c7, c8⟩ := X0.below hB hsz
    have hk' : k = 0 ∨ k = 1 ∨ k = 2 ∨ k = 3 := by omega
    rcases hk' with rfl | rfl | rfl | rfl
    · have hc := (hB.cell (p := ⟨g, 0, none⟩) hg2).trans k0
      go_wp2_with (go_at_call 93; refine (iBestTold p l wd ab af us ks cb cf o sm s b _ hT hR (I1 _)).mono ?_; rintro e w1 ⟨rfl, hb1⟩)
      go_roundw
      case rel => exact ⟨1, by omega, by go_num, (hB.alloc hB.size _).trans (hb1.mono (by simp; have := hB.size; omega))⟩
      case measure => simp [intOf]
    · have hc := (hB.cell (p := ⟨g, 1, none⟩) hg2).trans k1
      go_wp2_with (go_at_call 94; refine (iHoldsTies p l wd ab af us ks cb cf o sm s b _ hF hT hR (I1 _)).mono ?_; rintro e w1 ⟨rfl, hb1⟩)
      go_roundw
      case rel => exact ⟨2, by omega, by go_num, (hB.alloc hB.size _).trans (hb1.mono (by simp; have := hB.size; omega))⟩
      case measure => simp [intOf]
    · have hc := (hB.cell (p := ⟨g, 2, none⟩) hg2).trans k2
      go_wp2_with (go_at_call 95; refine (iNoDearer p l wd ab af us ks cb cf o sm s b _ hF hcap hT hR (I1 _)).mono ?_; rintro e w1 ⟨rfl, hb1⟩)
      go_roundw
      case rel => exact ⟨3, by omega, by go_num, (hB.alloc hB.size _).trans (hb1.mono (by simp; have := hB.size; omega))⟩
      case measure => simp [intOf]
    · go_wp2
      go_ret
      exact ⟨rfl, B0.trans (hB.mono B0.size)⟩
end

set_option maxHeartbeats 4000000 in
theorem iSTruths_any (w : World) : Calls Tryz.prog 59 #[] w fun e w' => e = .returned (.slice (some ⟨w.heap.size, 0, none⟩) 3 3) ∧ w' = w.alloc (.cells #[.func (.func 93) #[] #[], .func (.func 94) #[] #[], .func (.func 95) #[] #[]] 139) := by
  go_enter Tryz.func59, Tryz.ntmps59
  go_wp2
  go_ret
  exact ⟨rfl, rfl⟩

set_option maxHeartbeats 8000000 in
set_option maxRecDepth 20000 in
theorem iTrue_any (p : Pc) (l : Pl) (wd bud : Int) (w : World) (hbd : -9223372036854775808 ≤ bud ∧ bud ≤ 9223372036854775807) (hF : PcFew p) (hcap : p.chunks.length ≤ l.c2) (hp : PcIn w p l) :
    Calls Tryz.prog 21 #[pcV p l, .int .i64 wd, .int .i64 bud] w fun e w' => e = .returned (.bool true) ∧ Below w.heap.size w w' := by
  show Calls _ _ #[.agg #[.int .i64 p.indent, .slice l.a1 p.rules.length l.c1, .slice l.a2 p.chunks.length l.c2, .slice l.a3 p.spans.length l.c3, .slice l.a4 p.ties.length l.c4], _, _] _ _
  obtain ⟨ks, us, o, sm, s, b, hT, -, qI, -, qB⟩ := ts_key p wd bud hbd hF
  have hbd1 := hbd.1
  have hbd2 := hbd.2
  unfold pcV at qI qB
  go_enter Tryz.func21, Tryz.ntmps21
  go_wp2_with fail
  obtain ⟨W0, hW0, X0, B0, S0⟩ := boxed w p l 37
  rw [← hW0]
  have I0 := hp.below B0 (Nat.le_refl _)
  have hX : w.heap.size < W0.heap.size := by omega
  clear hW0 S0 hp
  refine (qI _ _ hcap I0).mono ?_
  rintro e w1 ⟨hb1, af, cf, rfl, hoF⟩
  dsimp only at hoF
  dsimp only
  have I1 := I0.below hb1 (Nat.le_refl _)
  obtain ⟨-, c0, c1, c2, c3, c4⟩ := X0.below hb1 hX
  have hX1 : w.heap.size < w1.heap.size := Nat.lt_of_lt_of_le hX hb1.size
  go_wp2_with fail
  refine (qB _ _ hcap I1).mono ?_
  rintro e w2 ⟨hb2, ab, cb, rfl, hoB⟩
  have A2 := hb1.trans (hb2.mono hb1.size)
  have I2 := I0.below A2 (Nat.le_refl _)
  have hoF := owns_below hoF hb2
  have hkF := KidsAt.of_own hoF
  have hkB := KidsAt.of_own hoB
  clear hoF hoB c0 c1 c2 c3 c4 hX1 I1
  by_cases hR : Right p
  · obtain rfl : b = true := (hT.yes hR).1
    go_upto_region 5 with fail
    obtain ⟨W2, hW2⟩ : ∃ W2, W2 = w2.alloc (.cells #[.int .i64 o, .int .i64 sm] coT) := ⟨_, rfl⟩
    have hb3 : Below w2.heap.size w2 W2 := by rw [hW2]; exact (Below.refl _ _).alloc (Nat.le_refl _) _
    have A3 := A2.trans (hb3.mono A2.size)
    have H3 : ShIn W2 p l ab af us ks := ⟨I0.below A3 (Nat.le_refl _), hkB.below hb3 (Nat.le_refl _), hkF.below hb3 (Nat.le_refl _)⟩
    rw [← hW2]
    clear hW2 hkF hkB I2 qI qB
    obtain ⟨-, c0, c1, c2, c3, c4⟩ := X0.below A3 hX
    have hX3 : w.heap.size < W2.heap.size := Nat.lt_of_lt_of_le hX A3.size
    have Dr : Below W2.heap.size W2 W2.drew := (Below.refl W2.heap.size W2).drew
    have H4 := H3.below Dr (Nat.le_refl _)
    go_region_held3 (fun W => W.cell? ⟨w.heap.size, 0, none⟩ = some (.int .i64 p.indent) ∧ W.cell? ⟨w.heap.size, 1, none⟩ = some (.slice l.a1 p.rules.length l.c1) ∧ W.cell? ⟨w.heap.size, 2, none⟩ = some (.slice l.a2 p.chunks.length l.c2) ∧ W.cell? ⟨w.heap.size, 3, none⟩ = some (.slice l.a3 p.spans.length l.c3) ∧ W.cell? ⟨w.heap.size, 4, none⟩ = some (.slice l.a4 p.ties.length l.c4)) (first | trivial | go_keep)
      ((first
      | (go_at_call 59; refine (iSTruths_any _).mono ?_; rintro e w5 ⟨rfl, hw5⟩; have hb5 : Below W2.drew.heap.size W2.drew w5 := (by rw [hw5]; exact (Below.refl _ _).alloc (Nat.le_refl _) _); have hr5 := (congrArg (fun W : World => W.heap[W2.heap.size]?) hw5).trans (heap_alloc_new W2.drew _); have hs5 : W2.heap.size < w5.heap.size := (Array.getElem?_eq_some_iff.1 hr5).1; have hc5 := bcelld hb5; clear hw5)
      | (go_at_call 58; refine (iSAllSo p l wd ab af us ks cb cf o sm s true W2.heap.size _ hF hcap hT hR (H4.below hb5 (Nat.le_refl _)) hs5 (cell_of_row _ _ 0 _ _ _ hr5) (cell_of_row _ _ 1 _ _ _ hr5) (cell_of_row _ _ 2 _ _ _ hr5)).mono ?_; rintro e w6 ⟨rfl, hb6⟩; have Z6 := hb5.trans (hb6.mono hb5.size); have hc6 := bcelld Z6)))
    go_wp2
    go_ret
    have A5 := A3.trans ((Dr.trans hb5).mono A3.size)
    have A6 := A5.trans (hb6.mono A5.size)
    exact ⟨rfl, B0.trans (A6.mono B0.size)⟩
  · obtain ⟨rfl, rfl, rfl⟩ := hT.no hR
    have hz : (([] : List Int).length : Int) = 0 := rfl
    go_wp2_with fail
    go_ret
    have A3 := B0.trans (A2.mono B0.size)
    exact ⟨rfl, A3.alloc A3.size _⟩
end Go.Proofs.YtghfpcjgionbaaaGreat
