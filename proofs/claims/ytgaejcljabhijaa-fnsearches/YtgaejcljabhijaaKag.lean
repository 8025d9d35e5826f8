/- What impl.valuesCost, impl.isSpanSplit and impl.spansCost answer. -/
import Derived.Test.YtgaejcljabhijaaKaf
import Derived.Test.YtgaejcljabhijaaKae
import Derived.Test.YtgaejcljabhijaaBCell
import Derived.Laws.IdiomCopy
import Derived.Deep.RegionHeld3
import Derived.Test.YtgaejcljabhijaaValLib
import Derived.Test.YtgaejcljabhijaaIntLib
namespace Go.Proofs.Ytgaejcljabhijaa
open Go.RowKit

/-- What one value costs is no more than 18. -/
theorem one_cost {p : Pc} {vs : List Int} {k : Nat} {y : Ru} {z : Int} (h1 : Right p) (h2 : ValOk p vs) (hy : p.rules[k]? = some y) (hz : vs[k]? = some z) : 0 ≤ y.cost * z ∧ y.cost * z ≤ 18 := by
  obtain ⟨⟨-, a2⟩, a3, a4⟩ := h1.rules.2 k y hy
  obtain ⟨b1, b2⟩ := h2.all k z y hz hy
  exact ⟨Int.mul_nonneg a3 b1, Int.le_trans (Int.mul_le_mul_of_nonneg_right a4 b1) (by omega)⟩
/-- Sums that fit. -/
theorem vcost_le : ∀ (rs : List Ru) (vs : List Int), (∀ (j : Nat) (y : Ru) (z : Int), rs[j]? = some y → vs[j]? = some z → 0 ≤ y.cost * z ∧ y.cost * z ≤ 18) → 0 ≤ vcost rs vs ∧ vcost rs vs ≤ 18 * rs.length
  | [], vs, _ => by rw [vcost]; exact ⟨Int.le_refl _, by simp⟩
  | r :: rs, [], _ => by rw [vcost]; omega
  | r :: rs, v :: vs, h => by
    have h0 := h 0 r v rfl rfl
    have ih := vcost_le rs vs (fun j y z hy hz => h (j + 1) y z (by simpa using hy) (by simpa using hz))
    rw [vcost, List.length_cons]
    omega
theorem scost_le (cs : List Ch) (vs : List Int) : ∀ (xs : List Sn), (∀ x ∈ xs, 0 ≤ x.cost ∧ x.cost ≤ 9) → 0 ≤ scost cs vs xs ∧ scost cs vs xs ≤ 9 * xs.length
  | [], _ => by rw [scost]; exact ⟨Int.le_refl _, by simp⟩
  | x :: xs, h => by
    have h0 := h x (by simp)
    have ih := scost_le cs vs xs (fun y hy => h y (by simp [hy]))
    rw [scost, List.length_cons]
    split <;> omega
theorem sums_le {p : Pc} {vs : List Int} (h1 : Right p) (h2 : ValOk p vs) : (0 ≤ vcost p.rules vs ∧ vcost p.rules vs ≤ 144) ∧ 0 ≤ scost p.chunks vs p.spans ∧ scost p.chunks vs p.spans ≤ 360 := by
  have a := vcost_le p.rules vs (fun j y z hy hz => one_cost h1 h2 hy hz)
  have b := scost_le p.chunks vs p.spans (fun x hx => by obtain ⟨j, hj⟩ := List.mem_iff_getElem?.1 hx; exact (h1.spans.all j x hj).2.2)
  have := h1.rules.1
  have := h1.spans.most
  omega
theorem sn_yes {cs : List Ch} {vs : List Int} {x : Sn} {f t i : Nat} {y : Ch} (hf : x.frm = (f : Int)) (ht : x.til = (t : Int)) (h1 : f ≤ i) (h2 : i ≤ t) (hy : cs[i]? = some y) (h : spl vs y = true) : snSpl cs vs x = true := by
  unfold snSpl
  rw [hf, ht, Int.toNat_natCast, Int.toNat_natCast, List.any_eq_true]
  refine ⟨y, List.mem_iff_getElem?.2 ⟨i - f, ?_⟩, h⟩
  rw [List.getElem?_drop, show f + (i - f) = i by omega, List.getElem?_take_of_lt (by omega)]
  exact hy
theorem sn_no {cs : List Ch} {vs : List Int} {x : Sn} {f t : Nat} (hf : x.frm = (f : Int)) (ht : x.til = (t : Int)) (h : ∀ (i : Nat) (y : Ch), f ≤ i → i ≤ t → cs[i]? = some y → spl vs y = false) : snSpl cs vs x = false := by
  unfold snSpl
  rw [hf, ht, Int.toNat_natCast, Int.toNat_natCast, List.any_eq_false]
  intro y hy
  obtain ⟨j, hj⟩ := List.mem_iff_getElem?.1 hy
  rw [List.getElem?_drop] at hj
  have hlt : f + j < t + 1 := by
    have := (List.getElem?_eq_some_iff.1 hj).1
    rw [List.length_take] at this
    omega
  rw [List.getElem?_take_of_lt hlt] at hj
  rw [h (f + j) y (by omega) (by omega) hj]
  exact Bool.false_ne_true

set_option maxHeartbeats 8000000 in
set_option maxRecDepth 20000 in
theorem iVaCost_any (p : Pc) (l : Pl) (a : Option Addr) (c : Nat) (vs : List Int) (w : World) (hm0 : vs.length ≤ 1048576) (hp : PcIn w p l) (hv : KidsAt w a vs) (h1 : Right p) (h2 : ValOk p vs) :
    Calls Try.prog 103 #[pcV p l, .slice a vs.length c] w fun e w' => e = .returned (.int .i64 (vcost p.rules vs)) ∧ Below w.heap.size w w' := by
  show Calls _ _ #[.agg #[.int .i64 p.indent, .slice l.a1 p.rules.length l.c1, .slice l.a2 p.chunks.length l.c2, .slice l.a3 p.spans.length l.c3, .slice l.a4 p.ties.length l.c4], _] _ _
  have HL := hidOf h2.len
  have hr8 := h1.rules.1
  obtain ⟨n, hn⟩ : ∃ n, n = vs.length := ⟨_, rfl⟩
  have hnr : n ≤ p.rules.length := by rw [hn, h2.len]; exact Nat.le_refl _
  rw [← hn] at hm0 ⊢
  have HN := hidOf hn
  clear hn
  obtain ⟨W0, hW0, X0, B0, S0⟩ := boxed w p l 29
  have hX : w.heap.size < W0.heap.size := by omega
  have x1 := X0.c1
  have R0 := hp.rules.below B0 (Nat.le_refl _)
  have V0 := hv.below B0 (Nat.le_refl _)
  unfold KidsAt at V0
  unfold RowsAt at R0
  rw [← HN.out] at V0
  go_enter Try.func103, Try.ntmps103
  go_wp2
  rw [← hW0]
  clear hW0 S0 hp hv X0
  go_loopw [5, 10] (fun m i wr => ∃ (k : Nat) (s : Int), k ≤ n ∧ i = .int .i64 k ∧ m = .int .i64 s ∧ 0 ≤ s ∧ s ≤ 18 * k ∧ Hid (s + vcost (p.rules.drop k) (vs.drop k) = vcost p.rules vs) ∧ Below W0.heap.size W0 wr) (fun _ i _ => n - (intOf i).toNat)
  case atStart => exact ⟨0, 0, Nat.zero_le _, rfl, rfl, by omega, by omega, hidOf (by rw [List.drop_zero, List.drop_zero]; omega), Below.refl _ _⟩
  case round =>
    obtain ⟨k, s, hk, rfl, rfl, hs0, hs1, HI, hb⟩ := hrel
    have BW := B0.trans (hb.mono B0.size)
    have d1 := (hb.cell (p := ⟨w.heap.size, 1, none⟩) hX).trans x1
    by_cases hlt : k < n
    · obtain ⟨y, ey⟩ : ∃ y, p.rules[k]? = some y := ⟨_, List.getElem?_eq_getElem (by omega)⟩
      obtain ⟨z, ez⟩ : ∃ z, vs[k]? = some z := ⟨_, List.getElem?_eq_getElem (by rw [← HN.out]; exact hlt)⟩
      obtain ⟨b1, o1, ea, hb1, hc1⟩ := R0 (by omega)
      obtain ⟨b2, o2, eb, hb2, hc2⟩ := V0 (by omega)
      obtain ⟨p0, p1⟩ := ruC (w := wr) (fun j hj => by rw [hb.cell hb1]; exact hc1 k y ey j hj)
      have p2 := (hb.cell (p := ⟨b2, o2 + k, none⟩) hb2).trans (hc2 k z ez)
      have hcz := one_cost h1 h2 ey ez
      have HE := hidOf (show (s + y.cost * z) + vcost (p.rules.drop (k + 1)) (vs.drop (k + 1)) = vcost p.rules vs by rw [← HI.out, vcost_at ey ez]; omega)
      rw [ea] at d1
      rw [ea, eb]
      clear ey ez hc1 hc2 R0 V0 ea eb
      have hA : (0 : Int) ≤ (k : Int) := by omega
      have hB : (k : Int) < (n : Int) := by omega
      have hB2 : (k : Int) < (p.rules.length : Int) := by omega
      obtain ⟨q, hq⟩ : ∃ q, q = y.cost * z := ⟨_, rfl⟩
      have hwm : IntKind.i64.wrap (y.cost * z) = q := by rw [← hq]; exact IntWalk.i64_in _ ⟨by omega, by omega⟩
      rw [← hq] at hcz HE
      have hq1 := hcz.1
      have hq2 := hcz.2
      clear hq hcz
      go_wp2
      go_roundw
      case rel => exact ⟨k + 1, s + q, by omega, by go_num, rfl, by omega, by omega, HE, hb⟩
      case measure => simp [intOf]; omega
    · have hM : ¬ (k : Int) < (n : Int) := by omega
      go_wp2
      go_ret
      have h := HI.out
      rw [vcost_end (by rw [← HN.out]; omega)] at h
      exact ⟨ret_int (by omega), BW⟩

set_option maxHeartbeats 8000000 in
set_option maxRecDepth 20000 in
theorem iSnSpl_any (p : Pc) (l : Pl) (a : Option Addr) (c : Nat) (vs : List Int) (x : Sn) (w : World) (hF : PcFew p) (hm0 : vs.length ≤ 1048576) (hcap : p.chunks.length ≤ l.c2) (hp : PcIn w p l) (hv : KidsAt w a vs) (h1 : Right p) (h2 : ValOk p vs) (hx : SnOk p.chunks.length x) :
    Calls Try.prog 121 #[pcV p l, .slice a vs.length c, .agg #[.int .i64 x.frm, .int .i64 x.til, .int .i64 x.cost]] w fun e w' => e = .returned (.bool (snSpl p.chunks vs x)) ∧ Below w.heap.size w w' := by
  show Calls _ _ #[.agg #[.int .i64 p.indent, .slice l.a1 p.rules.length l.c1, .slice l.a2 p.chunks.length l.c2, .slice l.a3 p.spans.length l.c3, .slice l.a4 p.ties.length l.c4], _, _] _ _
  have hcl := hF.chunks
  have hc1 := h1.chunks.least
  have hc80 := h1.chunks.most
  obtain ⟨⟨g1, g2⟩, ⟨g3, g4⟩, -⟩ := hx
  obtain ⟨f, hf⟩ := Int.eq_ofNat_of_zero_le g3
  obtain ⟨t, ht⟩ := Int.eq_ofNat_of_zero_le g1
  have HFf := hidOf hf
  have HTt := hidOf ht
  have hft : f ≤ t := by omega
  have htn : t + 1 < p.chunks.length := by omega
  rw [hf, ht]
  clear hf ht g1 g2 g3 g4
  obtain ⟨b1, o1, ea, hb1, hcc⟩ := hp.chunks (by omega)
  rw [ea]
  have HB2 : ∀ o1 o2 : Obj, Below w.heap.size w ((w.alloc o1).alloc o2) := fun o1 o2 => ((Below.refl _ _).alloc (Nat.le_refl _) _).alloc (by simp) _
  have hi1 : (0 : Int) ≤ (f : Int) := by omega
  have hi2 : (f : Int) ≤ (t : Int) + 1 := by omega
  have hi3 : (t : Int) + 1 ≤ (l.c2 : Int) := by omega
  clear ea hp
  go_enter Try.func121, Try.ntmps121
  go_wp2
  obtain ⟨m, hm⟩ : ∃ m, m = t + 1 - f := ⟨_, rfl⟩
  rw [← hm]
  have hmt : f + m = t + 1 := by omega
  have HM := hidOf hmt
  have hmn : f + m < p.chunks.length := by omega
  clear hm hmt
  have B0 : Below w.heap.size w _ := HB2 (.cells #[.int .i64 p.indent, .slice l.a1 p.rules.length l.c1, .slice (some ⟨b1, o1, none⟩) p.chunks.length l.c2, .slice l.a3 p.spans.length l.c3, .slice l.a4 p.ties.length l.c4] 29) (.cells #[.int .i64 f, .int .i64 t, .int .i64 x.cost] 112)
  clear HB2
  go_loopw [18] (fun i wr => ∃ k : Nat, k ≤ m ∧ i = .int .i64 k ∧ Below w.heap.size w wr ∧ Hid (∀ (i : Nat) (y : Ch), f ≤ i → i < f + k → p.chunks[i]? = some y → spl vs y = false)) (fun i _ => m - (intOf i).toNat)
  case atStart => exact ⟨0, Nat.zero_le _, rfl, B0, hidOf fun i y h h' => by omega⟩
  case round =>
    obtain ⟨k, hk, rfl, hb, HA⟩ := hrel
    by_cases hlt : k < m
    · obtain ⟨y, r, z, ey, er, hr, ez⟩ := split_val h1 h2 (k := f + k) (by omega)
      obtain ⟨p0, p1, p2, p3, p4⟩ := chC (w := wr) (b := b1) (o := o1 + f * 5 + k * 5) (x := y) (fun j hj => by rw [hb.cell hb1, show o1 + f * 5 + k * 5 + j = o1 + (f + k) * 5 + j by omega]; exact hcc (f + k) y ey j hj)
      have q0 := fun W hK => isSpl_any y a c vs r W hm0 er hr hK
      have EY := hidOf ey
      clear ey er ez
      have hA : (0 : Int) ≤ (k : Int) := by omega
      have hB : (k : Int) < (m : Int) := by omega
      have HBA : ∀ o1 : Obj, Below w.heap.size w (wr.alloc o1) := fun o1 => hb.alloc hb.size _
      cases hs : spl vs y with
      | true =>
        rw [hs] at q0
        have HS := hidOf hs
        clear hs
        go_wp2_with fail
        refine (q0 _ (hv.below (HBA _) (Nat.le_refl _))).mono ?_
        rintro e w1 ⟨rfl, hb2⟩
        have BW := (HBA (.cells #[.string y.text, .int .i64 y.rule, .int .i64 y.frm, .bool y.space, .int .i64 y.nest] 110))
        have BX := BW.trans (hb2.mono BW.size)
        go_wp2
        go_ret
        exact ⟨ret_bool (sn_yes HFf.out HTt.out (show f ≤ f + k by omega) (by have := HM.out; omega) EY.out HS.out).symm, BX⟩
      | false =>
        rw [hs] at q0
        have HS := hidOf hs
        clear hs
        go_wp2_with fail
        refine (q0 _ (hv.below (HBA _) (Nat.le_refl _))).mono ?_
        rintro e w1 ⟨rfl, hb2⟩
        have BW := (HBA (.cells #[.string y.text, .int .i64 y.rule, .int .i64 y.frm, .bool y.space, .int .i64 y.nest] 110))
        have BX := BW.trans (hb2.mono BW.size)
        go_wp2
        go_roundw
        case rel => exact ⟨k + 1, by omega, by go_num, BX, hidOf (fun i y' h1 h2 h3 => by
          by_cases e : i = f + k
          · subst e
            have e1 := EY.out
            rw [e1] at h3
            cases h3
            exact HS.out
          · exact HA.out i y' h1 (by omega) h3)⟩
        case measure => simp [intOf]; omega
    · have hM : ¬ (k : Int) < (m : Int) := by omega
      go_wp2
      go_ret
      exact ⟨ret_bool (sn_no HFf.out HTt.out (fun i y h1 h2 h3 => HA.out i y h1 (by have := HM.out; omega) h3)).symm, hb⟩

set_option maxHeartbeats 8000000 in
set_option maxRecDepth 20000 in
theorem iSpCost_any (p : Pc) (l : Pl) (a : Option Addr) (c : Nat) (vs : List Int) (w : World) (hF : PcFew p) (hm0 : vs.length ≤ 1048576) (hcap : p.chunks.length ≤ l.c2) (hp : PcIn w p l) (hv : KidsAt w a vs) (h1 : Right p) (h2 : ValOk p vs) :
    Calls Try.prog 104 #[pcV p l, .slice a vs.length c] w fun e w' => e = .returned (.int .i64 (scost p.chunks vs p.spans)) ∧ Below w.heap.size w w' := by
  show Calls _ _ #[.agg #[.int .i64 p.indent, .slice l.a1 p.rules.length l.c1, .slice l.a2 p.chunks.length l.c2, .slice l.a3 p.spans.length l.c3, .slice l.a4 p.ties.length l.c4], _] _ _
  have hs40 := h1.spans.most
  obtain ⟨n, hn⟩ : ∃ n, n = p.spans.length := ⟨_, rfl⟩
  obtain ⟨W0, hW0, X0, B0, S0⟩ := boxed w p l 29
  have hX : w.heap.size < W0.heap.size := by omega
  have I0 := hp.below B0 (Nat.le_refl _)
  have V0 := hv.below B0 (Nat.le_refl _)
  have R0 := I0.spans
  unfold RowsAt at R0
  obtain ⟨T, hT⟩ : ∃ T, T = scost p.chunks vs p.spans := ⟨_, rfl⟩
  rw [← hT]
  have HT := hidOf hT
  clear hT
  go_enter Try.func104, Try.ntmps104
  go_wp2
  rw [← hW0]
  clear hW0 S0 hp hv
  clear hn n
  go_loopw [5, 11] (fun m i wr => ∃ (k : Nat) (s : Int), k ≤ p.spans.length ∧ i = .int .i64 k ∧ m = .int .i64 s ∧ 0 ≤ s ∧ s ≤ 9 * k ∧ Hid (s + scost p.chunks vs (p.spans.drop k) = T) ∧ Below W0.heap.size W0 wr) (fun _ i _ => p.spans.length - (intOf i).toNat)
  case atStart => exact ⟨0, 0, Nat.zero_le _, rfl, rfl, by omega, by omega, hidOf (by rw [List.drop_zero, HT.out]; omega), Below.refl _ _⟩
  case round =>
    obtain ⟨k, s, hk, rfl, rfl, hs0, hs1, HI, hb⟩ := hrel
    have BW := B0.trans (hb.mono B0.size)
    by_cases hlt : k < p.spans.length
    · obtain ⟨x, ex⟩ : ∃ x, p.spans[k]? = some x := ⟨_, List.getElem?_eq_getElem hlt⟩
      obtain ⟨b1, o1, ea, hb1, hc1⟩ := R0 (by omega)
      obtain ⟨p0, p1, p2⟩ := snC (w := wr) (fun j hj => by rw [hb.cell hb1]; exact hc1 k x ex j hj)
      have hok := h1.spans.all k x ex
      have hco := hok.2.2
      have q0 := fun W hP hK => iSnSpl_any p l a c vs x W hF hm0 hcap hP hK h1 h2 hok
      have hpv : pcV p l = .agg #[.int .i64 p.indent, .slice l.a1 p.rules.length l.c1, .slice l.a2 p.chunks.length l.c2, .slice (some ⟨b1, o1, none⟩) p.spans.length l.c3, .slice l.a4 p.ties.length l.c4] := by show Value.agg _ = _; rw [ea]
      rw [hpv] at q0
      obtain ⟨W1, hW1⟩ : ∃ W1, W1 = wr.alloc (.cells #[.int .i64 x.frm, .int .i64 x.til, .int .i64 x.cost] 112) := ⟨_, rfl⟩
      have A1 : Below W0.heap.size W0 W1 := by rw [hW1]; exact hb.alloc hb.size _
      have z1 : wr.heap.size < W1.heap.size := by rw [hW1]; simp
      have y2 : W1.cell? ⟨wr.heap.size, 2, none⟩ = some (.int .i64 x.cost) := by rw [hW1]; simp
      obtain ⟨-, c0, c1, c2, c3, c4⟩ := X0.below A1 hX
      obtain ⟨-, e0, e1, e2, e3, e4⟩ := X0.below hb hX
      have HAl := fun ob : Obj => X0.below (hb.alloc hb.size ob) hX
      have d0 := fun ob => (HAl ob).c0
      have d1 := fun ob => (HAl ob).c1
      have d2 := fun ob => (HAl ob).c2
      have d3 := fun ob => (HAl ob).c3
      have d4 := fun ob => (HAl ob).c4
      rw [ea] at c3 e3 d3
      rw [ea]
      clear hc1 ea hpv hok HAl
      have hA : (0 : Int) ≤ (k : Int) := by omega
      have hB : (k : Int) < (p.spans.length : Int) := by omega
      cases hs : snSpl p.chunks vs x with
      | true =>
        rw [hs] at q0
        have HE := hidOf (show (s + x.cost) + scost p.chunks vs (p.spans.drop (k + 1)) = T by rw [← HI.out, scost_yes ex hs]; omega)
        clear hs ex
        go_wp2_with fail
        rw [← hW1]
        refine (q0 _ (I0.below A1 (Nat.le_refl _)) (V0.below A1 (Nat.le_refl _))).mono ?_
        rintro e w1 ⟨rfl, hb2⟩
        have A2 := A1.trans (hb2.mono A1.size)
        have y2 := (hb2.cell (p := ⟨wr.heap.size, 2, none⟩) z1).trans y2
        clear hW1 hb2 c0 c1 c2 c3 c4 e0 e1 e2 e3 e4 d0 d1 d2 d3 d4 p0 p1 p2
        go_wp2
        go_roundw
        case rel => exact ⟨k + 1, s + x.cost, by omega, by go_num, rfl, by omega, by omega, HE, A2⟩
        case measure => simp [intOf]; omega
      | false =>
        rw [hs] at q0
        have HE := hidOf (show s + scost p.chunks vs (p.spans.drop (k + 1)) = T by rw [← HI.out, scost_no ex hs])
        clear hs ex
        go_wp2_with fail
        rw [← hW1]
        refine (q0 _ (I0.below A1 (Nat.le_refl _)) (V0.below A1 (Nat.le_refl _))).mono ?_
        rintro e w1 ⟨rfl, hb2⟩
        have A2 := A1.trans (hb2.mono A1.size)
        clear hW1 hb2 c0 c1 c2 c3 c4 e0 e1 e2 e3 e4 d0 d1 d2 d3 d4 p0 p1 p2
        go_wp2
        go_roundw
        case rel => exact ⟨k + 1, s, by omega, by go_num, rfl, by omega, by omega, HE, A2⟩
        case measure => simp [intOf]; omega
    · have hM : ¬ (k : Int) < (p.spans.length : Int) := by omega
      go_wp2
      go_ret
      have h := HI.out
      rw [scost_end (by omega)] at h
      exact ⟨ret_int (by omega), BW⟩
end Go.Proofs.Ytgaejcljabhijaa
/- What impl.boundOfRight answers: what the first values of a right piece cost at least. -/
namespace Go.Proofs.Ytgaejcljabhijaa
open Go.RowKit

theorem arr_all (b : Nat) (W : World) : (Instr.sliceAt 98 (.pointer (some ⟨b, 0, none⟩)) none none none).run Try.prog W = .ok (.slice (some ⟨b, 0, none⟩) 8 8) W := by
  have hl : Try.prog.arrayLen 98 = 8 := by kernel_rfl
  have he : Try.prog.elem 98 = 3 := by kernel_rfl
  rw [run_sliceAt_array_all W 98 ⟨b, 0, none⟩ (by kernel_rfl), hl, he]
  simp [slicedAt, Try.sizeOf3, Addr.add, go_sem]
theorem add_at (b o j : Nat) : (⟨b, o, none⟩ : Addr).add j = ⟨b, o + j, none⟩ := by unfold Addr.add; split <;> simp_all
theorem infoInt1 : (Try.prog.info? 3).map (·.size) = some 1 := by kernel_rfl
/-- The first values go into an array of eight. -/
theorem run_copy8 (w : World) (N : Nat) (a : Option Addr) (c : Nat) (vs : List Int) (hv : KidsAt w a vs) (h8 : vs.length ≤ 8) (hc : ∀ j, j < 8 → w.cell? ⟨N, j, none⟩ = some (.int .i64 0)) (hf : ∀ j, w.frozen? ⟨N, j, none⟩ = false) :
    ∀ ty, (Builtin.copy_ #[32, 32] ty #[.slice (some ⟨N, 0, none⟩) 8 8, .slice a vs.length c]).run Try.prog w = .ok (goInt vs.length) (w.setCells N 0 (intVals vs)) := by
  intro ty
  by_cases h0 : vs.length = 0
  · have e : vs = [] := List.eq_nil_of_length_eq_zero h0
    subst e
    exact run_copy_none w _ _ ty 3 _ a 8 8 0 c Try.underlying32 infoInt1 (by simp)
  · obtain ⟨b, off, rfl, hlt, hcc⟩ := hv (by omega)
    have h := run_copy_cells (P := Try.prog) w 32 32 ty 3 N 0 8 8 ⟨b, off, none⟩ vs.length c (intVals vs) Try.underlying32 infoInt1 (by rw [intVals_len]; exact (Nat.min_eq_left h8).symm) (fun j v hj => by
      unfold intVals at hj
      rw [List.getElem?_map] at hj
      cases hz : vs[j]? with
      | none => rw [hz] at hj; cases hj
      | some z =>
        rw [hz] at hj
        rw [add_at, hcc j z hz]
        exact hj) (fun j hj => by
      rw [intVals_len] at hj
      rw [Nat.zero_add, hc j (by omega)]
      rfl) (fun j _ => by rw [Nat.zero_add]; exact hf j) (fun v hv => by
      unfold intVals at hv
      obtain ⟨z, -, rfl⟩ := List.mem_map.1 hv
      rfl)
    rw [intVals_len] at h
    exact h
theorem below_setCells {B b : Nat} {w0 : World} (hB : B ≤ b) : ∀ (vs : List Value) (o : Nat) (w : World), Below B w0 w → Below B w0 (w.setCells b o vs)
  | [], _, _, h => h
  | v :: vs, o, w, h => by
    rw [World.setCells]
    exact below_setCells hB vs (o + 1) _ (h.setCell (p := ⟨b, o, none⟩) hB v)
theorem size_setCells (b : Nat) : ∀ (vs : List Value) (o : Nat) (w : World), (w.setCells b o vs).heap.size = w.heap.size
  | [], _, _ => rfl
  | v :: vs, o, w => by
    rw [World.setCells, size_setCells b vs (o + 1)]
    simp
/-- What lies there then. -/
theorem kids8 (w : World) (N : Nat) (vs : List Int) (k : Nat) (h8 : vs.length + k ≤ 8) (hN : N < w.heap.size) (hc : ∀ j, j < 8 → w.cell? ⟨N, j, none⟩ = some (.int .i64 0)) : KidsAt (w.setCells N 0 (intVals vs)) (some ⟨N, 0, none⟩) (vs ++ List.replicate k 0) := by
  intro _
  refine ⟨N, 0, rfl, by rw [size_setCells]; exact hN, fun j z hz => ?_⟩
  rw [Nat.zero_add]
  by_cases e : j < vs.length
  · rw [List.getElem?_append_left e] at hz
    have h := World.cell?_setCells_in N (intVals vs) 0 w (fun i hi => by rw [intVals_len] at hi; rw [Nat.zero_add, hc i (by omega)]; rfl) j (by rw [intVals_len]; exact e)
    rw [Nat.zero_add] at h
    rw [h]
    have h2 : (intVals vs)[j]? = some (.int .i64 z) := by unfold intVals; rw [List.getElem?_map, hz]; rfl
    rw [List.getElem?_eq_getElem (by rw [intVals_len]; exact e)] at h2
    exact h2
  · rw [List.getElem?_append_right (by omega), List.getElem?_replicate] at hz
    split at hz
    · cases hz
      rw [World.cell?_setCells_out N (intVals vs) 0 w ⟨N, j, none⟩ (fun _ _ => .inr (by rw [intVals_len]; show 0 + vs.length ≤ j; omega))]
      exact hc j (by omega)
    · cases hz

set_option maxHeartbeats 8000000 in
set_option maxRecDepth 20000 in
theorem iBnd_any (p : Pc) (l : Pl) (a : Option Addr) (c : Nat) (vs : List Int) (w : World) (hF : PcFew p) (hcap : p.chunks.length ≤ l.c2) (hp : PcIn w p l) (hv : KidsAt w a vs) (h1 : Right p) (h2 : PreV p.rules vs) :
    Calls Try.prog 125 #[pcV p l, .slice a vs.length c] w fun e w' => e = .returned (.int .i64 (costSum p vs)) ∧ Below w.heap.size w w' := by
  show Calls _ _ #[.agg #[.int .i64 p.indent, .slice l.a1 p.rules.length l.c1, .slice l.a2 p.chunks.length l.c2, .slice l.a3 p.spans.length l.c3, .slice l.a4 p.ties.length l.c4], _] _ _
  have hr8 := h1.rules.1
  have hvl := h2.1
  obtain ⟨us, hus⟩ : ∃ us, us = vs ++ List.replicate (p.rules.length - vs.length) 0 := ⟨_, rfl⟩
  have hul : us.length = p.rules.length := by rw [hus]; simp; omega
  have hok : ValOk p us := by rw [hus]; exact pre_full h1 h2
  have hsu := sums_le h1 hok
  have HE := hidOf (show costSum p vs = vcost p.rules us + scost p.chunks us p.spans by rw [← sum_zero p vs (p.rules.length - vs.length), ← hus]; rfl)
  rw [HE.out]
  obtain ⟨W0, hW0, X0, B0, S0⟩ := boxed w p l 29
  obtain ⟨W1, hW1⟩ : ∃ W1, W1 = W0.alloc (.cells eight 98) := ⟨_, rfl⟩
  have B1 : Below W0.heap.size W0 W1 := by rw [hW1]; exact (Below.refl _ _).alloc (Nat.le_refl _) _
  have R1 : W1.heap[W0.heap.size]? = some (.cells eight 98 (0, 0)) := by rw [hW1]; exact heap_alloc_new W0 _
  have hc1 : ∀ j, j < 8 → W1.cell? ⟨W0.heap.size, j, none⟩ = some (.int .i64 0) := fun j hj => by
    rw [cell_of_row W1 _ j _ _ _ R1]
    match j, hj with
    | 0, _ => rfl
    | 1, _ => rfl
    | 2, _ => rfl
    | 3, _ => rfl
    | 4, _ => rfl
    | 5, _ => rfl
    | 6, _ => rfl
    | 7, _ => rfl
  have hNl : W0.heap.size < W1.heap.size := (Array.getElem?_eq_some_iff.1 R1).1
  have C1 := B0.trans (B1.mono B0.size)
  have V1 := hv.below C1 (Nat.le_refl _)
  have hcp := run_copy8 W1 W0.heap.size a c vs V1 (by omega) hc1 (fun j => frozen_of_row W1 _ j _ _ R1)
  have K2 := kids8 W1 W0.heap.size vs (p.rules.length - vs.length) (by omega) hNl hc1
  rw [← hus] at K2
  have hX : w.heap.size < W0.heap.size := by omega
  obtain ⟨W2, hW2⟩ : ∃ W2, W2 = W1.setCells W0.heap.size 0 (intVals vs) := ⟨_, rfl⟩
  rw [← hW2] at hcp K2
  have B2 : Below W0.heap.size W0 W2 := by rw [hW2]; exact below_setCells (Nat.le_refl _) _ _ _ B1
  have I2 := (hp.below B0 (Nat.le_refl _)).below B2 (Nat.le_refl _)
  have X2 := X0.below B2 hX
  have BW : Below w.heap.size w W2 := B0.trans (B2.mono B0.size)
  obtain ⟨N, hN⟩ : ∃ N, N = W0.heap.size := ⟨_, rfl⟩
  have hat := arr_to N p.rules.length hr8
  have hal := arr_all N
  rw [← hN] at hcp K2
  have HN1 : Hid (w.heap.size + 1 = N) := hidOf (by omega)
  have qV := fun W hP hK => iVaCost_any p l (some ⟨N, 0, none⟩) 8 us W (by omega) hP hK h1 hok
  have qS := fun W hP hK => iSpCost_any p l (some ⟨N, 0, none⟩) 8 us W hF (by omega) hcap hP hK h1 hok
  rw [hul] at qV qS
  obtain ⟨vc, hvc⟩ : ∃ vc, vc = vcost p.rules us := ⟨_, rfl⟩
  obtain ⟨sc, hsc⟩ : ∃ sc, sc = scost p.chunks us p.spans := ⟨_, rfl⟩
  rw [← hvc, ← hsc] at hsu
  rw [← hvc, ← hsc]
  rw [← hvc] at qV
  rw [← hsc] at qS
  clear hvc hsc HE
  obtain ⟨⟨u1, u2⟩, u3, u4⟩ := hsu
  have hws : IntKind.i64.wrap (vc + sc) = vc + sc := IntWalk.i64_in _ ⟨by omega, by omega⟩
  have hXW : w.heap.size < W2.heap.size := Nat.lt_of_lt_of_le hX B2.size
  clear X0 hc1 hNl R1 V1 hv hp C1 hul hus hok S0 hN hX
  go_enter Try.func125, Try.ntmps125
  go_upto_region 2 with fail
  rw [← hW0, ← hW1, HN1.out]
  clear hW0 hW1 hW2 B1
  obtain ⟨-, c0, c1, c2, c3, c4⟩ := X2
  go_upto_region 4 with fail
  have ID := I2.below (Below.refl W2.heap.size W2).drew (Nat.le_refl _)
  have VD := K2.below (Below.refl W2.heap.size W2).drew (Nat.le_refl _)
  go_region_held3 (fun W => ((W.cell? ⟨w.heap.size, 0, none⟩ = some (.int .i64 p.indent) ∧ W.cell? ⟨w.heap.size, 1, none⟩ = some (.slice l.a1 p.rules.length l.c1) ∧ W.cell? ⟨w.heap.size, 2, none⟩ = some (.slice l.a2 p.chunks.length l.c2) ∧ W.cell? ⟨w.heap.size, 3, none⟩ = some (.slice l.a3 p.spans.length l.c3) ∧ W.cell? ⟨w.heap.size, 4, none⟩ = some (.slice l.a4 p.ties.length l.c4)))) (first | trivial | go_keep)
    ((first
    | (go_at_call 103; refine (qV _ ID VD).mono ?_; rintro e w2 ⟨rfl, hb2⟩; have A2 := (Below.refl W2.heap.size W2).drew.trans hb2; have hc2 := (bcell A2).1; have hd2 := (bcell A2).2)
    | (go_at_call 104; refine (qS _ (I2.below A2 (Nat.le_refl _)) (K2.below A2 (Nat.le_refl _))).mono ?_; rintro e w3 ⟨rfl, hb3⟩; have A3 := A2.trans (hb3.mono A2.size); have hc3 := (bcell A3).1; have hd3 := (bcell A3).2)))
  go_wp2
  go_ret
  exact ⟨rfl, BW.trans (A3.mono BW.size)⟩
end Go.Proofs.Ytgaejcljabhijaa
/- When ties hold, in plain words. -/
namespace Go.Proofs.Ytgaejcljabhijaa
open Go.RowKit

/-- What a list of values makes of a rule: 0 it is not there, 1 its value is 0, 2 it is above 0. -/
def st (vs : List Int) (r : Int) : Nat := if 0 ≤ r ∧ r < (vs.length : Int) then (if 0 < vs.getD r.toNat 0 then 2 else 1) else 0
theorem st_cases (vs : List Int) (r : Int) : st vs r = 0 ∨ st vs r = 1 ∨ st vs r = 2 := by
  unfold st
  split
  · split <;> simp
  · simp
theorem st_in {vs : List Int} {k : Nat} {z : Int} (hz : vs[k]? = some z) : st vs (k : Int) = if 0 < z then 2 else 1 := by
  have hk := (List.getElem?_eq_some_iff.1 hz).1
  unfold st
  rw [if_pos ⟨by omega, by omega⟩, Int.toNat_natCast, List.getD_eq_getElem?_getD, hz]
  rfl
/-- A tie whose rules are so holds. -/
def holdB (s t : Nat) : Bool := decide (1 ≤ s) && decide (1 ≤ t) && (decide (s ≤ 1) || decide (2 ≤ t))
/-- A tie holds. -/
def TieOk (vs : List Int) (x : Ti) : Prop := holdB (st vs x.kid) (st vs x.up) = true
structure TiesHold (p : Pc) (vs : List Int) : Prop where
  vals : ValOk p vs
  ties : ∀ (j : Nat) (x : Ti), p.ties[j]? = some x → TieOk vs x
theorem st_of {vs : List Int} {r : Int} (h0 : 0 ≤ r) (h1 : r ≤ (vs.length : Int) - 1) : ∃ z, vs[r.toNat]? = some z ∧ st vs r = if 0 < z then 2 else 1 := by
  obtain ⟨k, rfl⟩ := Int.eq_ofNat_of_zero_le h0
  have hk : k < vs.length := by omega
  exact ⟨vs[k], by simp [hk], st_in (List.getElem?_eq_getElem hk)⟩
end Go.Proofs.Ytgaejcljabhijaa
/- Costs, and which is less. -/
namespace Go.Proofs.Ytgaejcljabhijaa
open Go.RowKit

/-- A cost. -/
abbrev coV (o s : Int) : Value := .agg #[.int .i64 o, .int .i64 s]
def lessC (o1 s1 o2 s2 : Int) : Bool := decide (o1 < o2 ∨ o1 = o2 ∧ s1 < s2)
def uptoC (o1 s1 o2 s2 : Int) : Bool := decide (o1 < o2 ∨ o1 = o2 ∧ s1 ≤ s2)
end Go.Proofs.Ytgaejcljabhijaa
