/- What the words and all behind them cost at least, and how many stand in a line: spec.l17Table. -/
import Derived.Test.YtabbfpkhlofccaaGreatDoorKak
namespace Go.Proofs.YtabbfpkhlofccaaGreatDoor
open Go.RowKit

theorem en_is {n a e : Nat} {stop : Nat → Bool} (h1 : a ≤ e) (h2 : e ≤ n) (h3 : ∀ x, a ≤ x → x < e → stop x = false) (h4 : e = n ∨ stop e = true) : en n stop a = e := by
  obtain ⟨g1, g2, g3, g4⟩ := en_spec (n := n) (stop := stop) _ a rfl (by omega)
  rcases Nat.lt_trichotomy (en n stop a) e with h | h | h
  · have := g4 (by omega)
    rw [h3 _ g1 h] at this
    cases this
  · exact h
  · rcases h4 with h4 | h4
    · omega
    · have := g3 e h1 h
      rw [h4] at this
      cases this
/-- Numbers in a row. -/
def rng (f : Nat → Int) (N : Nat) : List Value := (List.range N).map fun j => .int .i64 (f j)
theorem rng_len (f : Nat → Int) (N : Nat) : (rng f N).length = N := by simp [rng]
theorem rng_at (f : Nat → Int) {N j : Nat} (h : j < N) : (rng f N)[j]? = some (.int .i64 (f j)) := by simp [rng, h]
def updS (f : Nat → Int) (k : Nat) (x : Int) : Nat → Int := fun j => if j = k then x else f j
theorem rng_set (f : Nat → Int) {N k : Nat} (h : k < N) (x : Int) : (rng f N).set k (.int .i64 x) = rng (updS f k x) N := by
  apply List.ext_getElem?
  intro j
  by_cases hj : j < N
  · rw [rng_at _ hj]
    unfold updS
    by_cases hjk : j = k
    · subst hjk
      rw [List.getElem?_set_self (by rw [rng_len]; exact hj), if_pos rfl]
    · rw [List.getElem?_set_ne (by omega), rng_at _ hj, if_neg hjk]
  · rw [List.getElem?_eq_none (by rw [List.length_set, rng_len]; omega), List.getElem?_eq_none (by rw [rng_len]; omega)]
theorem made_rng (N : Nat) : (madeCells (Value.int .i64 0).cells (N * 1)).toList = rng (fun _ => 0) N := by
  apply List.ext_getElem?
  intro j
  simp [madeCells, rng, Value.cells, Nat.mod_one]
/-- What is known of a word's line behind the words up to k. -/
def TInv (R : Nat → Int) (i k : Nat) (r mv : Int) : Prop := ∃ e, i < e ∧ e ≤ k ∧ r = R e ∧ mv = (e : Int) - i ∧ (∀ x, i < x → x ≤ k → R e ≤ R x) ∧ ∀ x, i < x → x < e → R e < R x
theorem tinv_first {R : Nat → Int} {i : Nat} : TInv R i (i + 1) (R (i + 1)) 1 := ⟨i + 1, by omega, Nat.le_refl _, rfl, by omega, fun x h1 h2 => by rw [show x = i + 1 by omega]; exact Int.le_refl _, fun x h1 h2 => by omega⟩
theorem tinv_less {R : Nat → Int} {i k : Nat} {r mv : Int} (h : TInv R i k r mv) (hlt : R (k + 1) < r) : TInv R i (k + 1) (R (k + 1)) ((k : Int) + 1 - i) := by
  obtain ⟨e, h1, h2, h3, h4, h5, h6⟩ := h
  refine ⟨k + 1, by omega, Nat.le_refl _, rfl, by omega, fun x g1 g2 => ?_, fun x g1 g2 => ?_⟩
  · by_cases hx : x = k + 1
    · rw [hx]; exact Int.le_refl _
    · have := h5 x g1 (by omega); omega
  · have := h5 x g1 (by omega); omega
theorem tinv_more {R : Nat → Int} {i k : Nat} {r mv : Int} (h : TInv R i k r mv) (hge : r ≤ R (k + 1)) : TInv R i (k + 1) r mv := by
  obtain ⟨e, h1, h2, h3, h4, h5, h6⟩ := h
  refine ⟨e, h1, by omega, h3, h4, fun x g1 g2 => ?_, h6⟩
  by_cases hx : x = k + 1
  · rw [hx]; omega
  · exact h5 x g1 (by omega)
theorem tinv_end {ws : List ByteArray} {width : Int} {c : Nat → Int} (hC : Costs ws width c) {i : Nat} (hi : i < ws.length) {r mv : Int} (h : TInv (fun e => lc ws width i e + c e) i ws.length r mv) : r = c i ∧ mv = ((bE ws width c i : Nat) : Int) - i := by
  obtain ⟨e, h1, h2, h3, h4, h5, h6⟩ := h
  obtain ⟨⟨e2, g1, g2, g3⟩, g4⟩ := hC.2 i hi
  have a1 := h5 e2 g1 g2
  have a2 := g4 e h1 h2
  dsimp only at a1 h3
  have hr : r = c i := by omega
  refine ⟨hr, ?_⟩
  have : bE ws width c i = e := by
    refine en_is (by omega) h2 (fun x hx1 hx2 => ?_) (.inr ?_)
    · have := h6 x (by omega) hx2
      dsimp only at this
      unfold bS
      rw [decide_eq_false_iff_not]
      omega
    · unfold bS
      rw [decide_eq_true_eq]
      omega
  rw [this]
  exact h4
/-- What the table tells from the word m on. -/
def TabAt (ws : List ByteArray) (width : Int) (c : Nat → Int) (n m : Nat) (f h : Nat → Int) : Prop := (∀ j, m ≤ j → j ≤ n → f j = c j) ∧ ∀ j, m ≤ j → j < n → h j = ((bE ws width c j : Nat) : Int) - j
def TabAns (ws : List ByteArray) (width : Int) (c : Nat → Int) (n : Nat) (w : World) (e : Ending) (w' : World) : Prop :=
  ∃ (v1 v2 : Value) (f h : Nat → Int), e = .returned (.tuple #[v1, v2]) ∧ w'.ownsRow w.heap.size 3 1 v1 (n + 1) (rng f (n + 1)) ∧ w'.ownsRow w.heap.size 3 1 v2 (n + 1) (rng h (n + 1)) ∧ TabAt ws width c n 0 f h ∧ Below w.heap.size w w'

set_option maxHeartbeats 8000000 in
set_option maxRecDepth 100000 in
theorem sTab_any (v : Value) (b n : Nat) (ws : List ByteArray) (width : Int) (c : Nat → Int) (w : World) (hn : n ≤ 60) (hbg : bg ws n ≤ 90000) (hC : Costs ws width c) (hown : w.ownsRow b 9 1 v n (strVals ws)) :
    Calls Tryz.prog 37 #[v, .int .i64 width] w fun e w' => TabAns ws width c n w e w' := by
  have hl : ws.length = n := by have := hown.1; simpa [strVals] using this
  obtain ⟨ao, cv, rfl⟩ := owns_slice hown
  have HL := hidOf hl
  have HM := hidOf hbg
  have HC := hidOf hC
  clear hl hbg hC
  obtain ⟨i0, hi, hz0, hz1, hz2⟩ := info_parts infoIntI
  go_enter Tryz.func37, Tryz.ntmps37
  go_wp2_with (first | (at_make; refine wpList_make_full _ rfl _ _ 40 rfl w.heap.size 3 i0 (.int .i64 0) 1 Tryz.underlying40 hi hz0 hz1 .i64 .i64 _ _ (n + 1) rfl rfl rfl rfl (by rw [hz2]; omega) (by unfold maxLen; omega) (Nat.le_refl _) ?_; intro w1 hown1 hgrow1) | (at_make; refine wpList_make_full _ rfl _ _ 40 rfl w1.heap.size 3 i0 (.int .i64 0) 1 Tryz.underlying40 hi hz0 hz1 .i64 .i64 _ _ (n + 1) rfl rfl rfl rfl (by rw [hz2]; omega) (by unfold maxLen; omega) (Nat.le_refl _) ?_; intro w2 hown2 hgrow2))
  rw [made_rng] at hown1 hown2
  have hs1 := hgrow1.size
  have hs2 := hgrow2.size
  have hlt12 : w.heap.size < w1.heap.size := (hown1.lt w.heap.size rfl).2
  have hlt2 : w1.heap.size < w2.heap.size := (hown2.lt w1.heap.size rfl).2
  have hb2 : Below w.heap.size w w2 := ((Below.refl _ w).grown hgrow1 (Nat.le_refl _) (fun k e => by cases e)).grown hgrow2 hs1 (fun k e => by cases e)
  have hown1 := World.ownsRow.kept hown1 hgrow2 (.inr (by simp [Value.ownBlock]))
  obtain ⟨g2, hg2⟩ : ∃ g2, g2 = w1.heap.size := ⟨_, rfl⟩
  rw [← hg2] at hown2 hlt12 hlt2 ⊢
  obtain ⟨g1, hg1⟩ : ∃ g1, g1 = w.heap.size := ⟨_, rfl⟩
  have hown2 := ownsRow_base hown2 (base' := w.heap.size) (by omega)
  rw [← hg1] at hown1 hlt12 ⊢
  have HG1 := hidOf hg1
  clear hg1 hg2 hgrow1 hgrow2 hs1 hs2
  go_loopw [9] (fun i wr => ∃ (m : Nat) (f h : Nat → Int), m ≤ n ∧ i = .int .i64 ((m : Int) - 1) ∧ Hid (TabAt ws width c n m f h) ∧ wr.ownsRow w.heap.size 3 1 (.slice (some ⟨g1, 0, none⟩) (n + 1) (n + 1)) (n + 1) (rng f (n + 1)) ∧ wr.ownsRow w.heap.size 3 1 (.slice (some ⟨g2, 0, none⟩) (n + 1) (n + 1)) (n + 1) (rng h (n + 1)) ∧ Below w.heap.size w wr) (fun i _ => (intOf i + 1).toNat)
  case atStart => exact ⟨n, fun _ => 0, fun _ => 0, Nat.le_refl _, by go_num, hidOf ⟨fun j h1 h2 => by rw [show j = ws.length by rw [HL.out]; omega, HC.out.1 ws.length (Nat.le_refl _)], fun j h1 h2 => by omega⟩, by rw [HG1.out] at hown1 ⊢; exact hown1, hown2, hb2⟩
  case round =>
    obtain ⟨m, f, h, hm, rfl, HT, ho1, ho2, hb⟩ := hrel
    clear hown1 hown2 hb2
    by_cases hm0 : m = 0
    · subst hm0
      go_wp2
      go_ret2
      exact ⟨_, _, f, h, rfl, ho1, ho2, HT.out, hb⟩
    · obtain ⟨i, rfl⟩ : ∃ i, m = i + 1 := ⟨m - 1, by omega⟩
      rw [show (((i + 1 : Nat) : Int) - 1) = (i : Int) by omega]
      have hin : i < n := by omega
      have hA0 : (0 : Int) ≤ (i : Int) := by omega
      have hA9 : (i : Int) < (n : Int) + 1 := by omega
      clear hm0
      obtain ⟨R, hR⟩ : ∃ R : Nat → Int, R = fun e => lc ws width i e + c e := ⟨_, rfl⟩
      have HR := hidOf hR
      clear hR
      go_wp2
      go_loopw [10, 11] (fun lg kk wr => ∃ (k : Nat) (r : Int) (f h : Nat → Int), i ≤ k ∧ k ≤ n ∧ lg = .int .i64 r ∧ kk = .int .i64 k ∧ Hid (r + bg ws i + 1 = bg ws k) ∧ Hid (TabAt ws width c n (i + 1) f h) ∧ Hid (i < k → TInv R i k (f i) (h i)) ∧ wr.ownsRow w.heap.size 3 1 (.slice (some ⟨g1, 0, none⟩) (n + 1) (n + 1)) (n + 1) (rng f (n + 1)) ∧ wr.ownsRow w.heap.size 3 1 (.slice (some ⟨g2, 0, none⟩) (n + 1) (n + 1)) (n + 1) (rng h (n + 1)) ∧ Below w.heap.size w wr) (fun _ kk _ => n - (intOf kk).toNat)
      case atStart => exact ⟨i, -1, f, h, Nat.le_refl _, by omega, rfl, rfl, hidOf (by omega), HT, hidOf (fun h => by omega), ho1, ho2, hb⟩
      case round =>
        obtain ⟨k, r, f1, h1, hik, hkn, rfl, rfl, HB, HT1, HI, hp1, hp2, hb1⟩ := hrel
        clear ho1 ho2 hb HT
        by_cases hlt : k < n
        · obtain ⟨x, hx⟩ : ∃ x, ws[k]? = some x := ⟨_, List.getElem?_eq_getElem (by rw [HL.out]; exact hlt)⟩
          obtain ⟨g, rfl⟩ := owns_at hown (by omega)
          have hc := str_at (owns_below hown hb1) hlt hx
          have hnx := bg_next hx
          have hmo := bg_mono (ws := ws) (i := k + 1) (e := n) (by omega)
          have hmi := bg_mono (ws := ws) (i := i) (e := k) hik
          have hM := HM.out
          have hB := HB.out
          have hr1 : -1 ≤ r := by omega
          have hr2 : r + 1 + x.size ≤ 90000 := by omega
          obtain ⟨la, hla⟩ : ∃ la, la = ((k : Int) + 1 == (n : Int)) := ⟨_, rfl⟩
          have hd : la = decide (k + 1 = ws.length) := by
            rw [hla, Bool.eq_iff_iff, beq_iff_eq, decide_eq_true_eq, HL.out]
            omega
          have q := fun W => sLrag_any (r + 1 + (x.size : Int)) width la W (by omega) (by omega)
          have hRk : R (k + 1) = lrag (r + 1 + (x.size : Int)) width la + c (k + 1) := by
            rw [HR.out]
            show lc ws width i (k + 1) + c (k + 1) = _
            unfold lc
            rw [← hd, show (bg ws (k + 1) : Int) - (bg ws i : Int) - 1 = r + 1 + (x.size : Int) by omega]
          have hl1 := lrag_ge (r + 1 + (x.size : Int)) width la
          have hl2 := lrag_le (r + 1 + (x.size : Int)) width la
          obtain ⟨y, hy⟩ : ∃ y, y = lrag (r + 1 + (x.size : Int)) width la := ⟨_, rfl⟩
          rw [← hy] at q hRk hl1 hl2
          have cC := hp1.cellAt (k + 1) (by omega)
          rw [rng_at _ (by omega), HT1.out.1 (k + 1) (by omega) (by omega)] at cC
          have hz1' := HC.out.low (k + 1)
          have hz2' := HC.out.high (k + 1)
          obtain ⟨z, hz⟩ : ∃ z, z = c (k + 1) := ⟨_, rfl⟩
          rw [← hz] at cC hRk hz1' hz2'
          have cI := hp1.cellAt i (by omega)
          rw [rng_at _ (by omega)] at cI
          have fI := hp1.frozenAt i
          have cJ := hp2.cellAt i (by omega)
          rw [rng_at _ (by omega)] at cJ
          have fJ := hp2.frozenAt i
          obtain ⟨X, hX⟩ : ∃ X, X = z + y := ⟨_, rfl⟩
          have hXR : R (k + 1) = X := by rw [hRk, hX]; omega
          have HXR := hidOf hXR
          have hS1 := fun Q : Nat => World.ownsRow.stored (w := wr.drewN Q) hp1 i (.int .i64 (z + y))
          rw [rng_set f1 (by omega)] at hS1
          have HS1 := hidOf hS1
          have hne21 : g2 ≠ g1 := by omega
          have hK2 := fun Q : Nat => World.ownsRow.kept (w := wr.drewN Q) hp2 (hS1 Q).2 (.inr (by simp [Value.ownBlock]; omega))
          have cJ2 := fun Q : Nat => (hK2 Q).cellAt i (by omega)
          have fJ2 := fun Q : Nat => (hK2 Q).frozenAt i
          have hS2 := fun Q : Nat => World.ownsRow.stored (hK2 Q) i (.int .i64 ((k : Int) + 1 - (i : Int)))
          rw [rng_set h1 (by omega)] at hS2
          rw [rng_at _ (by omega)] at cJ2
          have HS2 := hidOf hS2
          have HK1 := hidOf (fun Q : Nat => World.ownsRow.kept (HS1.out Q).1 (hS2 Q).2 (.inr (by simp [Value.ownBlock]; omega)))
          have HX := hidOf hX
          have hla' : ((k : Int) + 1 == (n : Int)) = la := hla.symm
          have HBN : Hid (r + 1 + (x.size : Int) + bg ws i + 1 = bg ws (k + 1)) := hidOf (by omega)
          clear hx hnx hmo hmi hM hB hla hd hRk hy hz hS1 hS2 hK2 hXR hX
          have hA1 : (0 : Int) ≤ (k : Int) := by omega
          have hB1 : (k : Int) < (n : Int) := by omega
          have hB3 : (k : Int) + 1 < (n : Int) + 1 := by omega
          have hB4 : (0 : Int) ≤ (k : Int) + 1 := by omega
          have hB5 : ((k : Int) + 1).toNat = k + 1 := by omega
          go_wp2
          go_quiet ((go_at_call 35; refine (q _).mono ?_; rintro e2 w3 ⟨rfl, rfl⟩; exact ⟨rfl, _, rfl⟩))
          by_cases hki : k = i
          · have hki' : ((k : Int) == (i : Int)) = true := by simp; omega
            have HKI := hidOf hki
            clear hki
            go_wp2
            go_roundw
            case rel =>
              refine ⟨k + 1, r + 1 + (x.size : Int), updS f1 i (z + y), updS h1 i ((k : Int) + 1 - (i : Int)), by omega, by omega, rfl, by go_num, HBN, hidOf ?_, hidOf (fun _ => ?_), HK1.out _, (HS2.out _).1, ((bel_drewN hb1 _).grown (HS1.out _).2 hb1.size (fun q hq => by cases hq; have := HG1.out; omega)).grown (HS2.out _).2 (by have := hb1.size; simp; omega) (fun q hq => by cases hq; have := HG1.out; omega)⟩
              · exact ⟨fun j j1 j2 => by unfold updS; rw [if_neg (by omega)]; exact HT1.out.1 j j1 j2, fun j j1 j2 => by unfold updS; rw [if_neg (by omega)]; exact HT1.out.2 j j1 j2⟩
              · have e1 : updS f1 i (z + y) i = R (k + 1) := by unfold updS; rw [if_pos rfl, HXR.out, HX.out]
                have e2 : updS h1 i ((k : Int) + 1 - (i : Int)) i = 1 := by unfold updS; rw [if_pos rfl, HKI.out]; omega
                rw [e1, e2, HKI.out]
                exact tinv_first
            case measure => simp [intOf]; omega
          · have hki' : ((k : Int) == (i : Int)) = false := by rw [beq_eq_false_iff_ne]; omega
            have hik2 : i < k := by omega
            clear hki
            by_cases hXf : z + y < f1 i
            · obtain ⟨fi, hfi⟩ : ∃ fi, fi = f1 i := ⟨_, rfl⟩
              rw [← hfi] at cI hXf
              have HFI := hidOf hfi
              clear hfi
              go_wp2
              go_roundw
              case rel =>
                refine ⟨k + 1, r + 1 + (x.size : Int), updS f1 i (z + y), updS h1 i ((k : Int) + 1 - (i : Int)), by omega, by omega, rfl, by go_num, HBN, hidOf ?_, hidOf (fun _ => ?_), HK1.out _, (HS2.out _).1, ((bel_drewN hb1 _).grown (HS1.out _).2 hb1.size (fun q hq => by cases hq; have := HG1.out; omega)).grown (HS2.out _).2 (by have := hb1.size; simp; omega) (fun q hq => by cases hq; have := HG1.out; omega)⟩
                · exact ⟨fun j j1 j2 => by unfold updS; rw [if_neg (by omega)]; exact HT1.out.1 j j1 j2, fun j j1 j2 => by unfold updS; rw [if_neg (by omega)]; exact HT1.out.2 j j1 j2⟩
                · have e1 : updS f1 i (z + y) i = R (k + 1) := by unfold updS; rw [if_pos rfl, HXR.out, HX.out]
                  have e2 : updS h1 i ((k : Int) + 1 - (i : Int)) i = (k : Int) + 1 - i := by unfold updS; rw [if_pos rfl]
                  rw [e1, e2]
                  exact tinv_less (HI.out hik2) (by rw [HXR.out, HX.out, ← HFI.out]; exact hXf)
              case measure => simp [intOf]; omega
            · obtain ⟨fi, hfi⟩ : ∃ fi, fi = f1 i := ⟨_, rfl⟩
              rw [← hfi] at cI hXf
              have HFI := hidOf hfi
              clear hfi
              go_wp2
              go_roundw
              case rel => exact ⟨k + 1, r + 1 + (x.size : Int), f1, h1, by omega, by omega, rfl, by go_num, HBN, HT1, hidOf (fun _ => tinv_more (HI.out hik2) (by rw [HXR.out, HX.out, ← HFI.out]; omega)), hp1, hp2, bel_drewN hb1 _⟩
              case measure => simp [intOf]; omega
        · have hke : k = n := by omega
          have HE := hidOf (tinv_end HC.out (i := i) (by rw [HL.out]; exact hin) (by have := HI.out (by omega); rw [HR.out, hke, ← HL.out] at this; exact this))
          clear hke
          go_wp2
          go_roundw
          case rel =>
            refine ⟨i, f1, h1, by omega, by go_num, hidOf ⟨fun j j1 j2 => ?_, fun j j1 j2 => ?_⟩, hp1, hp2, hb1⟩
            · by_cases hji : j = i
              · rw [hji]; exact HE.out.1
              · exact HT1.out.1 j (by omega) j2
            · by_cases hji : j = i
              · rw [hji]; exact HE.out.2
              · exact HT1.out.2 j (by omega) j2
          case measure => first | (simp [intOf]; done) | (simp [intOf]; omega)
end Go.Proofs.YtabbfpkhlofccaaGreatDoor
