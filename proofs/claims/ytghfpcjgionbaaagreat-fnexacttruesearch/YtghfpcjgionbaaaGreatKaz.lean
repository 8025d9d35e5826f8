/- What impl.CostOf answers. -/
import Derived.Test.YtghfpcjgionbaaaGreatKal
import Derived.Test.YtghfpcjgionbaaaGreatKax
import Derived.Test.YtghfpcjgionbaaaGreatProg
import Derived.Test.YtghfpcjgionbaaaGreatKaa
import Derived.BigQuiet
import Derived.Deep.QuietTactic
import Derived.Test.YtghfpcjgionbaaaGreatKau
import Derived.Test.YtghfpcjgionbaaaGreatBestS
import Derived.Test.YtghfpcjgionbaaaGreatKay
import Derived.Test.YtghfpcjgionbaaaGreatTopPc
import Derived.Laws.EntriesVeiled
import Derived.Test.YtghfpcjgionbaaaGreatBoxPc
namespace Go.Proofs.YtghfpcjgionbaaaGreat
open Go.RowKit

set_option maxHeartbeats 8000000 in
set_option maxRecDepth 20000 in
theorem iCost_yes (p : Pc) (l : Pl) (a : Option Addr) (c : Nat) (vs : List Int) (wd : Int) (w : World) (hF : PcFew p) (hm0 : vs.length ≤ 1048576) (hcap : p.chunks.length ≤ l.c2) (hp : PcIn w p l) (hv : KidsAt w a vs) (h1 : Right p) (h2 : ValOk p vs) :
    Calls Tryz.prog 126 #[pcV p l, .slice a vs.length c, .int .i64 wd] w fun e w' => CoAns (costOver p vs wd) (costSum p vs) w e w' := by
  show Calls _ _ #[.agg #[.int .i64 p.indent, .slice l.a1 p.rules.length l.c1, .slice l.a2 p.chunks.length l.c2, .slice l.a3 p.spans.length l.c3, .slice l.a4 p.ties.length l.c4], _, _] _ _
  obtain ⟨ov, hov⟩ : ∃ ov, ov = costOver p vs wd := ⟨_, rfl⟩
  obtain ⟨sm, hsm⟩ : ∃ sm, sm = costSum p vs := ⟨_, rfl⟩
  have qR := fun W hP hK => iCostR_any p l a c vs wd W hF hm0 hcap hP hK h1 h2
  rw [← hov, ← hsm] at qR
  rw [← hov, ← hsm]
  clear hov hsm
  obtain ⟨W0, hW0, X0, B0, S0⟩ := boxed w p l 37
  have hX : w.heap.size < W0.heap.size := by omega
  have I0 := hp.below B0 (Nat.le_refl _)
  have V0 := hv.below B0 (Nat.le_refl _)
  go_enter Tryz.func126, Tryz.ntmps126
  go_wp2_with fail
  rw [← hW0]
  obtain ⟨W1, hW1⟩ : ∃ W1, W1 = W0.alloc (.cells #[.int .i64 0, .int .i64 0] 58) := ⟨_, rfl⟩
  rw [← hW1]
  have B1 : Below W0.heap.size W0 W1 := by rw [hW1]; exact (Below.refl _ _).alloc (Nat.le_refl _) _
  have F1 : W1.heap[w.heap.size + 1]? = some (.cells #[.int .i64 0, .int .i64 0] 58 (0, 0)) := by rw [hW1, ← S0]; exact heap_alloc_new W0 _
  have z1 : w.heap.size + 1 < W1.heap.size := by rw [hW1]; simp; omega
  clear hW0 hW1 hp hv S0
  refine (iOk_any p l _ hF (I0.below B1 (Nat.le_refl _))).mono ?_
  rintro e w1 hq
  obtain ⟨rfl, A1⟩ := hq.yes h1
  clear hq
  have C1 := B1.trans (A1.mono B1.size)
  obtain ⟨-, c0, c1, c2, c3, c4⟩ := X0.below C1 hX
  go_wp2_with fail
  refine (iVal_any p l a c vs _ hF.rules hm0 (noLeast_right h1.rules) (I0.rules.below C1 (Nat.le_refl _)) (V0.below C1 (Nat.le_refl _))).mono ?_
  rintro e w2 hq
  obtain ⟨rfl, hb2⟩ := hq.yes h2
  have A2 := A1.trans (hb2.mono A1.size)
  have C2 := B1.trans (A2.mono B1.size)
  clear hq hb2 A1 C1 c0 c1 c2 c3 c4
  obtain ⟨-, c0, c1, c2, c3, c4⟩ := X0.below C2 hX
  go_wp2_with fail
  refine (qR _ (I0.below C2 (Nat.le_refl _)) (V0.below C2 (Nat.le_refl _))).mono ?_
  rintro e w3 ⟨rfl, hb3⟩
  have A3 := A2.trans (hb3.mono A2.size)
  have F3 := (A3.block (w.heap.size + 1) z1).trans F1
  have y0 : w3.cell? ⟨w.heap.size + 1, 0, none⟩ = some (.int .i64 0) := by rw [Lib.cell_of_heap F3]; rfl
  have y1 : w3.cell? ⟨w.heap.size + 1, 1, none⟩ = some (.int .i64 0) := by rw [Lib.cell_of_heap F3]; rfl
  have f0 := Lib.frozen_of_heap F3 0
  have f1 := Lib.frozen_of_heap F3 1
  have BW : Below w.heap.size w w3 := B0.trans ((B1.trans (A3.mono B1.size)).mono B0.size)
  clear c0 c1 c2 c3 c4 qR A2 A3 hb3 C2 F1
  go_wp2
  refine bodyPost_ret (results_one2 rfl _ _ (w.heap.size + 1) (.int .i64 ov) (.int .i64 sm) _ rfl ?_ ?_ Tryz.underlying58 rfl infoCoI) rfl ?_
  · go_simp
  · go_simp
  · have q1 : w.heap.size ≤ w.heap.size + 1 := by omega
    exact ⟨rfl, (BW.setCell q1 _).setCell q1 _⟩

set_option maxHeartbeats 8000000 in
set_option maxRecDepth 20000 in
theorem iCost_no (p : Pc) (l : Pl) (a : Option Addr) (c : Nat) (vs : List Int) (wd : Int) (w : World) (hF : PcFew p) (hm0 : vs.length ≤ 1048576) (hp : PcIn w p l) (hv : KidsAt w a vs) (hno : ¬ (Right p ∧ ValOk p vs)) :
    Calls Tryz.prog 126 #[pcV p l, .slice a vs.length c, .int .i64 wd] w fun e w' => CoAns 1000000 0 w e w' := by
  show Calls _ _ #[.agg #[.int .i64 p.indent, .slice l.a1 p.rules.length l.c1, .slice l.a2 p.chunks.length l.c2, .slice l.a3 p.spans.length l.c3, .slice l.a4 p.ties.length l.c4], _, _] _ _
  obtain ⟨W0, hW0, X0, B0, S0⟩ := boxed w p l 37
  have hX : w.heap.size < W0.heap.size := by omega
  have I0 := hp.below B0 (Nat.le_refl _)
  have V0 := hv.below B0 (Nat.le_refl _)
  go_enter Tryz.func126, Tryz.ntmps126
  go_wp2_with fail
  rw [← hW0]
  obtain ⟨W1, hW1⟩ : ∃ W1, W1 = W0.alloc (.cells #[.int .i64 0, .int .i64 0] 58) := ⟨_, rfl⟩
  rw [← hW1]
  have B1 : Below W0.heap.size W0 W1 := by rw [hW1]; exact (Below.refl _ _).alloc (Nat.le_refl _) _
  have F1 : W1.heap[w.heap.size + 1]? = some (.cells #[.int .i64 0, .int .i64 0] 58 (0, 0)) := by rw [hW1, ← S0]; exact heap_alloc_new W0 _
  have z1 : w.heap.size + 1 < W1.heap.size := by rw [hW1]; simp; omega
  clear hW0 hW1 hp hv S0
  have q1 : w.heap.size ≤ w.heap.size + 1 := by omega
  refine (iOk_any p l _ hF (I0.below B1 (Nat.le_refl _))).mono ?_
  rintro e w1 hq
  by_cases h1 : Right p
  · obtain ⟨rfl, A1⟩ := hq.yes h1
    clear hq
    have C1 := B1.trans (A1.mono B1.size)
    obtain ⟨-, c0, c1, c2, c3, c4⟩ := X0.below C1 hX
    go_wp2_with fail
    refine (iVal_any p l a c vs _ hF.rules hm0 (noLeast_right h1.rules) (I0.rules.below C1 (Nat.le_refl _)) (V0.below C1 (Nat.le_refl _))).mono ?_
    rintro e w3 hq
    obtain ⟨rfl, hb2⟩ := hq.no (fun h => hno ⟨h1, h⟩)
    have A3 := A1.trans (hb2.mono A1.size)
    have F3 := (A3.block (w.heap.size + 1) z1).trans F1
    have y0 : w3.cell? ⟨w.heap.size + 1, 0, none⟩ = some (.int .i64 0) := by rw [Lib.cell_of_heap F3]; rfl
    have y1 : w3.cell? ⟨w.heap.size + 1, 1, none⟩ = some (.int .i64 0) := by rw [Lib.cell_of_heap F3]; rfl
    have f0 := Lib.frozen_of_heap F3 0
    have f1 := Lib.frozen_of_heap F3 1
    have BW : Below w.heap.size w w3 := B0.trans ((B1.trans (A3.mono B1.size)).mono B0.size)
    clear c0 c1 c2 c3 c4 A1 A3 C1 F1 hq hb2
    go_wp2
    refine bodyPost_ret (results_one2 rfl _ _ (w.heap.size + 1) (.int .i64 1000000) (.int .i64 0) _ rfl ?_ ?_ Tryz.underlying58 rfl infoCoI) rfl ?_
    · go_simp
    · go_simp
    · exact ⟨rfl, (BW.setCell q1 _).setCell q1 _⟩
  · obtain ⟨rfl, A3⟩ := hq.no h1
    obtain ⟨w3, hw3⟩ : ∃ w3, w3 = w1 := ⟨_, rfl⟩
    subst hw3
    have F3 := (A3.block (w.heap.size + 1) z1).trans F1
    have y0 : w3.cell? ⟨w.heap.size + 1, 0, none⟩ = some (.int .i64 0) := by rw [Lib.cell_of_heap F3]; rfl
    have y1 : w3.cell? ⟨w.heap.size + 1, 1, none⟩ = some (.int .i64 0) := by rw [Lib.cell_of_heap F3]; rfl
    have f0 := Lib.frozen_of_heap F3 0
    have f1 := Lib.frozen_of_heap F3 1
    have BW : Below w.heap.size w w3 := B0.trans ((B1.trans (A3.mono B1.size)).mono B0.size)
    clear A3 F1 hq
    go_wp2
    refine bodyPost_ret (results_one2 rfl _ _ (w.heap.size + 1) (.int .i64 1000000) (.int .i64 0) _ rfl ?_ ?_ Tryz.underlying58 rfl infoCoI) rfl ?_
    · go_simp
    · go_simp
    · exact ⟨rfl, (BW.setCell q1 _).setCell q1 _⟩
end Go.Proofs.YtghfpcjgionbaaaGreat
/- What slices.Equal answers of two lists of numbers. -/
namespace Go.Proofs.YtghfpcjgionbaaaGreat
open Go.RowKit

theorem li_len {ks ls : List Int} (h : ks.length ≠ ls.length) : (ks == ls) = false := by
  rw [beq_eq_false_iff_ne]
  rintro rfl
  exact h rfl
theorem li_not {ks ls : List Int} {j : Nat} {x y : Int} (h1 : ks[j]? = some x) (h2 : ls[j]? = some y) (h : x ≠ y) : (ks == ls) = false := by
  rw [beq_eq_false_iff_ne]
  rintro rfl
  rw [h1] at h2
  injection h2 with h2
  exact h h2
theorem li_yes {ks ls : List Int} (hl : ks.length = ls.length) (h : ∀ (j : Nat) (x y : Int), ks[j]? = some x → ls[j]? = some y → x = y) : (ks == ls) = true := by
  rw [beq_iff_eq]
  apply List.ext_getElem hl
  intro j h1 h2
  exact h j _ _ (List.getElem?_eq_getElem h1) (List.getElem?_eq_getElem h2)
set_option maxHeartbeats 1600000 in
theorem eqSl_any (a1 a2 : Option Addr) (c1 c2 : Nat) (ks ls : List Int) (w : World) (hx0 : ks.length ≤ 4611686018427387904) (hy : ls.length ≤ 4611686018427387904) (h1 : KidsAt w a1 ks) (h2 : KidsAt w a2 ls) :
    Calls Tryz.prog 125 #[.slice a1 ks.length c1, .slice a2 ls.length c2] w fun e w' => e = .returned (.bool (ks == ls)) ∧ Below w.heap.size w w' := by
  have hx := hx0
  clear hx0
  by_cases hl : ks.length = ls.length
  · unfold KidsAt at h1 h2
    rw [← hl] at h2
    rw [← hl] at hy
    obtain ⟨n, hn⟩ : ∃ n, n = ks.length := ⟨_, rfl⟩
    rw [← hn] at h1 h2 hx hy
    rw [← hl, ← hn]
    have HN := hidOf hn
    have HL := hidOf hl
    clear hn hl
    obtain ⟨u, hu⟩ : ∃ u, u = (ks == ls) := ⟨_, rfl⟩
    rw [← hu]
    have HU := hidOf hu
    clear hu
    go_enter Tryz.func125, Tryz.ntmps125
    go_wp2
    go_loopw [13] (fun i wr => ∃ k q : Nat, k ≤ n ∧ i = .int .i64 k ∧ wr = w.drewN q ∧ Hid (∀ (j : Nat) (x y : Int), j < k → ks[j]? = some x → ls[j]? = some y → x = y)) (fun i _ => n - (intOf i).toNat)
    case atStart => exact ⟨0, 0, Nat.zero_le _, rfl, rfl, hidOf fun j x y h => by omega⟩
    case round =>
      obtain ⟨k, q, hk, rfl, rfl, HA⟩ := hrel
      by_cases hlt : k < n
      · obtain ⟨x, ex⟩ : ∃ x, ks[k]? = some x := ⟨_, List.getElem?_eq_getElem (by rw [← HN.out]; exact hlt)⟩
        obtain ⟨y, ey⟩ : ∃ y, ls[k]? = some y := ⟨_, List.getElem?_eq_getElem (by rw [← HL.out, ← HN.out]; exact hlt)⟩
        obtain ⟨b1, o1, rfl, hb1, hc1⟩ := h1 (by omega)
        obtain ⟨b2, o2, rfl, hb2, hc2⟩ := h2 (by omega)
        have p0 := hc1 k x ex
        have q0 := hc2 k y ey
        have EX := hidOf ex
        have EY := hidOf ey
        clear ex ey hc1 hc2 h1 h2
        have hA : (0 : Int) ≤ (k : Int) := by omega
        have hB : (k : Int) < (n : Int) := by omega
        cases hk1 : (x == y)
        · have hm1 : (x != y) = true := by simp [bne, hk1]
          go_wp2
          go_quiet (fail)
          go_wp2
          go_ret
          exact ⟨ret_bool (by rw [HU.out, li_not EX.out EY.out (by simpa using hk1)]), bel_drewN (below_drewN _ _) _⟩
        · have hm1 : (x != y) = false := by simp [bne, hk1]
          go_wp2
          go_quiet (fail)
          go_wp2
          go_roundw
          case rel => exact ⟨k + 1, q + nq, by omega, by go_num, rfl, hidOf fun j x' y' h1 h2 h3 => by
            by_cases e : j = k
            · subst e
              have e1 := EX.out
              have e2 := EY.out
              rw [h2] at e1
              rw [h3] at e2
              cases e1
              cases e2
              simpa using hk1
            · exact HA.out j x' y' (by omega) h2 h3⟩
          case measure => simp [intOf]; omega
      · go_wp2
        go_ret
        exact ⟨ret_bool (by rw [HU.out, li_yes HL.out (fun j x y h2 h3 => HA.out j x y (by have := (List.getElem?_eq_some_iff.1 h2).1; rw [← HN.out] at this; omega) h2 h3)]), below_drewN _ _⟩
  · have hne : ((ks.length : Int) == (ls.length : Int)) = false := by rw [beq_eq_false_iff_ne]; omega
    have HL := hidOf hl
    clear hl h1 h2
    go_enter Tryz.func125, Tryz.ntmps125
    go_wp2
    go_ret
    exact ⟨ret_bool (li_len HL.out).symm, Below.refl _ _⟩
end Go.Proofs.YtghfpcjgionbaaaGreat
/- What impl.TrueSearch answers: true, whatever comes. -/
namespace Go.Proofs.YtghfpcjgionbaaaGreat
open Go.RowKit

/-- What is known of what both searches tell. -/
structure TsOk (p : Pc) (wd : Int) (ks us : List Int) (o sm s : Int) (b : Bool) : Prop where
  few : ks.length ≤ 8
  fewU : us.length ≤ 8
  no : ¬ Right p → ks = [] ∧ s = 0 ∧ b = false
  yes : Right p → b = true ∧ TiesHold p ks ∧ lessV p wd (allV p) ks = false ∧ (s = 1 → ks = us) ∧ o = costOver p us wd ∧ sm = costSum p us
theorem ts_key (p : Pc) (wd bud : Int) (hbd : -9223372036854775808 ≤ bud ∧ bud ≤ 9223372036854775807) (hF : PcFew p) : ∃ (ks us : List Int) (o sm s : Int) (b : Bool), TsOk p wd ks us o sm s b ∧
    (∀ (l : Pl) (w : World), PcIn w p l → Calls Tryz.prog 7 #[pcV p l, .int .i64 wd, .int .i64 bud] w fun e w' => SeAns (ks, s) w e w') ∧
    (∀ (l : Pl) (w : World), p.chunks.length ≤ l.c2 → PcIn w p l → Calls Tryz.prog 9 #[pcV p l, .int .i64 wd, .int .i64 bud] w fun e w' => SeAns (ks, s) w e w') ∧
    (∀ (l : Pl) (W : World), PcIn W p l → Calls Tryz.prog 54 #[pcV p l, .int .i64 wd] W fun e w' => BoAns us o sm b W e w') ∧
    (∀ (l : Pl) (W : World), p.chunks.length ≤ l.c2 → PcIn W p l → Calls Tryz.prog 57 #[pcV p l, .int .i64 wd] W fun e w' => BoAns us o sm b W e w') := by
  by_cases h1 : Right p
  · obtain ⟨us, o, sm, b, hu, qS, qI, hB⟩ := best_key p wd hF
    obtain ⟨hb, hBest, ho, hsm⟩ := hB h1
    have hs := srchOf_some (wd := wd) (budget := bud) h1 (allR_ties h1)
    have hsb := srchOf_best (wd := wd) (budget := bud) h1 (allR_ties h1)
    refine ⟨(srchOf p wd bud (allV p)).1, us, o, sm, (srchOf p wd bud (allV p)).2, b, ⟨?_, hu, fun h => absurd h1 h, fun _ => ⟨hb, hs.1, hs.2.1, fun e => best_one (hsb e) hBest, ho, hsm⟩⟩, fun l w hp => sSearch_yes p l wd bud w hbd hF hp h1, fun l w hc hp => iSearch_yes p l wd bud w hbd hF hc hp h1, qS, qI⟩
    rw [hs.1.vals.len]
    exact h1.rules.1
  · exact ⟨[], [], 0, 0, 0, false, ⟨by simp, by simp, fun _ => ⟨rfl, rfl, rfl⟩, fun h => absurd h h1⟩, fun l w hp => sSearch_no p l wd bud w hF hp h1, fun l w _ hp => iSearch_no p l wd bud w hF hp h1, fun l W hP => sBest_no p l wd W hF hP h1, fun l W _ hP => iBest_no p l wd W hF hP h1⟩

/-- What is held against the truths of a search. -/
abbrev shV (p : Pc) (l : Pl) (wd : Int) (ab : Option Addr) (us : List Int) (cb : Nat) (af : Option Addr) (ks : List Int) (cf : Nat) (s : Int) : Value := .agg #[.int .i64 p.indent, .slice l.a1 p.rules.length l.c1, .slice l.a2 p.chunks.length l.c2, .slice l.a3 p.spans.length l.c3, .slice l.a4 p.ties.length l.c4, .int .i64 wd, .slice ab us.length cb, .slice af ks.length cf, .int .i64 s]
abbrev tSh : Nat := 92
/-- All that it names lies in memory. -/
structure ShIn (w : World) (p : Pc) (l : Pl) (ab af : Option Addr) (us ks : List Int) : Prop where
  P : PcIn w p l
  U : KidsAt w ab us
  K : KidsAt w af ks
theorem ShIn.below {w w' : World} {p : Pc} {l : Pl} {ab af : Option Addr} {us ks : List Int} {B : Nat} (h : ShIn w p l ab af us ks) (hb : Below B w w') (hB : w.heap.size ≤ B) : ShIn w' p l ab af us ks := ⟨h.P.below hb hB, h.U.below hb hB, h.K.below hb hB⟩
/-- In a variable of its own. -/
structure ShBox (w : World) (b : Nat) (p : Pc) (l : Pl) (wd : Int) (ab : Option Addr) (us : List Int) (cb : Nat) (af : Option Addr) (ks : List Int) (cf : Nat) (s : Int) : Prop where
  lt : b < w.heap.size
  c0 : w.cell? ⟨b, 0, none⟩ = some (.int .i64 p.indent)
  c1 : w.cell? ⟨b, 1, none⟩ = some (.slice l.a1 p.rules.length l.c1)
  c2 : w.cell? ⟨b, 2, none⟩ = some (.slice l.a2 p.chunks.length l.c2)
  c3 : w.cell? ⟨b, 3, none⟩ = some (.slice l.a3 p.spans.length l.c3)
  c4 : w.cell? ⟨b, 4, none⟩ = some (.slice l.a4 p.ties.length l.c4)
  c5 : w.cell? ⟨b, 5, none⟩ = some (.int .i64 wd)
  c6 : w.cell? ⟨b, 6, none⟩ = some (.slice ab us.length cb)
  c7 : w.cell? ⟨b, 7, none⟩ = some (.slice af ks.length cf)
  c8 : w.cell? ⟨b, 8, none⟩ = some (.int .i64 s)
theorem ShBox.below {w w' : World} {b B : Nat} {p : Pc} {l : Pl} {wd : Int} {ab : Option Addr} {us : List Int} {cb : Nat} {af : Option Addr} {ks : List Int} {cf : Nat} {s : Int} (h : ShBox w b p l wd ab us cb af ks cf s) (hb : Below B w w') (hB : b < B) : ShBox w' b p l wd ab us cb af ks cf s :=
  ⟨Nat.lt_of_lt_of_le h.lt hb.size, (hb.cell hB).trans h.c0, (hb.cell hB).trans h.c1, (hb.cell hB).trans h.c2, (hb.cell hB).trans h.c3, (hb.cell hB).trans h.c4, (hb.cell hB).trans h.c5, (hb.cell hB).trans h.c6, (hb.cell hB).trans h.c7, (hb.cell hB).trans h.c8⟩
theorem shBoxed (w : World) (p : Pc) (l : Pl) (wd : Int) (ab : Option Addr) (us : List Int) (cb : Nat) (af : Option Addr) (ks : List Int) (cf : Nat) (s : Int) : ∃ W, W = w.alloc (.cells #[.int .i64 p.indent, .slice l.a1 p.rules.length l.c1, .slice l.a2 p.chunks.length l.c2, .slice l.a3 p.spans.length l.c3, .slice l.a4 p.ties.length l.c4, .int .i64 wd, .slice ab us.length cb, .slice af ks.length cf, .int .i64 s] tSh) ∧ ShBox W w.heap.size p l wd ab us cb af ks cf s ∧ Below w.heap.size w W ∧ W.heap.size = w.heap.size + 1 := by
  refine ⟨_, rfl, ⟨by simp, ?_, ?_, ?_, ?_, ?_, ?_, ?_, ?_, ?_⟩, (Below.refl _ _).alloc (Nat.le_refl _) _, by simp⟩
  all_goals simp
section
variable (p : Pc) (l : Pl) (wd : Int) (ab af : Option Addr) (us ks : List Int) (cb cf : Nat) (o sm s : Int) (b : Bool)

set_option maxHeartbeats 8000000 in
set_option maxRecDepth 20000 in
theorem iBestTold (w : World) (hT : TsOk p wd ks us o sm s b) (hR : Right p) (h : ShIn w p l ab af us ks) :
    Calls Tryz.prog 93 #[shV p l wd ab us cb af ks cf s] w fun e w' => e = .returned (.bool true) ∧ Below w.heap.size w w' := by
  have hk := hT.few
  have hu := hT.fewU
  obtain ⟨W0, hW0, X0, B0, S0⟩ := shBoxed w p l wd ab us cb af ks cf s
  have I0 := h.below B0 (Nat.le_refl _)
  obtain ⟨hlt, c0, c1, c2, c3, c4, c5, c6, c7, c8⟩ := X0
  by_cases h1 : s = 1
  · have he := (hT.yes hR).2.2.2.1 h1
    have q := eqSl_any af ab cf cb ks us W0 (by omega) (by omega) I0.K I0.U
    rw [show (ks == us) = true by rw [beq_iff_eq]; exact he] at q
    have hs1 : (s != 1) = false := by simp [h1]
    have HS := hidOf S0
    clear he S0 I0 h hT h1
    go_enter Tryz.func93, Tryz.ntmps93
    go_wp2_with (first | (rw [← hW0]; go_at_call 125; refine q.mono ?_; rintro e w1 ⟨rfl, hb1⟩) | (go_at_call 125; refine q.mono ?_; rintro e w1 ⟨rfl, hb1⟩))
    go_ret
    exact ⟨rfl, B0.trans (hb1.mono B0.size)⟩
  · have hs1 : (s != 1) = true := by simp [h1]
    clear S0 I0 h hT
    go_enter Tryz.func93, Tryz.ntmps93
    go_wp2_with fail
    go_ret
    exact ⟨rfl, by rw [← hW0]; exact B0⟩

set_option maxHeartbeats 8000000 in
set_option maxRecDepth 20000 in
theorem iHoldsTies (w : World) (hF : PcFew p) (hT : TsOk p wd ks us o sm s b) (hR : Right p) (h : ShIn w p l ab af us ks) :
    Calls Tryz.prog 94 #[shV p l wd ab us cb af ks cf s] w fun e w' => e = .returned (.bool true) ∧ Below w.heap.size w w' := by
  have hk := hT.few
  obtain ⟨W0, hW0, X0, B0, S0⟩ := shBoxed w p l wd ab us cb af ks cf s
  have I0 := h.below B0 (Nat.le_refl _)
  obtain ⟨hlt, c0, c1, c2, c3, c4, c5, c6, c7, c8⟩ := X0
  have q := iTie_any p l af cf ks W0 hF (by omega) (noLeast_right hR.rules) I0.P I0.K
  have hq := (hT.yes hR).2.1
  clear S0 I0 h hT
  go_enter Tryz.func94, Tryz.ntmps94
  go_wp2_with (first | (rw [← hW0]; go_at_call 90; refine q.mono ?_; rintro e w1 hq1; obtain ⟨rfl, hb1⟩ := hq1.yes hq) | (go_at_call 90; refine q.mono ?_; rintro e w1 hq1; obtain ⟨rfl, hb1⟩ := hq1.yes hq))
  go_ret
  exact ⟨rfl, B0.trans (hb1.mono B0.size)⟩
end
end Go.Proofs.YtghfpcjgionbaaaGreat
/- Pieces and costs in variables of a law, and small facts beside them. -/
namespace Go.Proofs.YtghfpcjgionbaaaGreat
open Go.RowKit

/-- A cost in a variable. -/
structure Cb (w : World) (b : Nat) (o s : Int) : Prop where
  lt : b < w.heap.size
  c0 : w.cell? ⟨b, 0, none⟩ = some (.int .i64 o)
  c1 : w.cell? ⟨b, 1, none⟩ = some (.int .i64 s)
theorem Cb.below {w w' : World} {b : Nat} {o s : Int} (h : Cb w b o s) (hb : Below w.heap.size w w') : Cb w' b o s :=
  ⟨Nat.lt_of_lt_of_le h.lt hb.size, by rw [hb.cell h.lt]; exact h.c0, by rw [hb.cell h.lt]; exact h.c1⟩
theorem cb_new (w : World) (o s : Int) (t : Nat) : ∃ W, W = w.alloc (.cells #[.int .i64 o, .int .i64 s] t) ∧ Cb W w.heap.size o s ∧ Below w.heap.size w W ∧ W.heap.size = w.heap.size + 1 := by
  refine ⟨_, rfl, ⟨by simp, ?_, ?_⟩, (Below.refl _ _).alloc (Nat.le_refl _) _, by simp⟩
  all_goals simp
/-- A piece in a variable. -/
structure Pb (w : World) (b : Nat) (p : Pc) (l : Pl) : Prop where
  box : BoxAt w b p l
  inn : PcIn w p l
theorem Pb.below {w w' : World} {b : Nat} {p : Pc} {l : Pl} (h : Pb w b p l) (hb : Below w.heap.size w w') : Pb w' b p l := ⟨h.box.below hb h.box.lt, h.inn.below hb (Nat.le_refl _)⟩
theorem capOf {w : World} {b e s n c : Nat} {a : Option Addr} {xs : List Value} (h : w.ownsRow b e s (.slice a n c) n xs) : n ≤ c := by
  rcases h.2 with ⟨e, h0⟩ | ⟨g, cap, cur, e, -, -, hc, -⟩
  · omega
  · cases e
    exact hc
theorem coEql (o s : Int) (w : World) : (binOp .eql 58 (.agg #[.int .i64 o, .int .i64 s]) (.agg #[.int .i64 o, .int .i64 s])).run Tryz.prog w = .ok (.bool true) w := by
  have u3 := Tryz.underlying3
  have a3 := Tryz.isAgg3
  have z3 := Tryz.sizeOf3
  have hS : Tryz.prog.underlying 58 = some (.struct (Tryz.prog.fieldsOf 58)) := by kernel_rfl
  have hp : Tryz.prog.stoodInHeld 58 = false := by kernel_rfl
  rw [run_eql_struct, show (10000 : Nat) = 9999 + 1 from rfl, run_equalIn_agg w 9999 58 _ _ hS hp]
  simp only [Program.fieldsOf, Tryz.underlying58]
  go_simp
end Go.Proofs.YtghfpcjgionbaaaGreat
