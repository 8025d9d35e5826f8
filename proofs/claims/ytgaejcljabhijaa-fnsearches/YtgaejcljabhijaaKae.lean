/- Right values of the first rules, and zeros behind them: these cost nothing. -/
import Derived.Test.YtgaejcljabhijaaKad
import Derived.Test.YtgaejcljabhijaaValLib
import Derived.Test.YtgaejcljabhijaaProg
import Derived.Test.YtgaejcljabhijaaIntLib
import Derived.Deep.CutBlock
import Derived.BigRegion
import Derived.Test.YtgaejcljabhijaaOkI1
namespace Go.Proofs.Ytgaejcljabhijaa
open Go.RowKit

/-- Right values of the first rules. -/
def PreV (rs : List Ru) (u : List Int) : Prop := u.length ≤ rs.length ∧ ∀ (j : Nat) (z : Int) (y : Ru), u[j]? = some z → rs[j]? = some y → 0 ≤ z ∧ z < y.values
theorem pre_add {rs : List Ru} {u : List Int} {k : Nat} {y : Ru} (h : PreV rs u) (hy : rs[u.length]? = some y) (hk : (k : Int) < y.values) : PreV rs (u ++ [(k : Int)]) := by
  have hl := (List.getElem?_eq_some_iff.1 hy).1
  refine ⟨by simp; omega, fun j z y' hz hy' => ?_⟩
  by_cases e : j = u.length
  · subst e
    rw [hy] at hy'
    cases hy'
    have : z = (k : Int) := by simpa using hz.symm
    omega
  · have hj := (List.getElem?_eq_some_iff.1 hz).1
    simp at hj
    rw [List.getElem?_append_left (by omega)] at hz
    exact h.2 j z y' hz hy'
theorem getD_pre {u t : List Int} {k : Nat} (h : k < u.length) : (u ++ t).getD k 0 = u.getD k 0 := by
  rw [List.getD_eq_getElem?_getD, List.getD_eq_getElem?_getD, List.getElem?_append_left h]
theorem vcost_zero : ∀ (rs : List Ru) (n : Nat), vcost rs (List.replicate n 0) = 0
  | [], n => by rw [vcost]
  | r :: rs, 0 => by rw [List.replicate_zero, vcost]
  | r :: rs, n + 1 => by rw [List.replicate_succ, vcost, vcost_zero rs n]; omega
theorem vcost_more : ∀ (rs : List Ru) (u : List Int) (n : Nat), vcost rs (u ++ List.replicate n 0) = vcost rs u
  | rs, [], n => by
    rw [List.nil_append, vcost_zero]
    cases rs <;> simp [vcost]
  | [], v :: u, n => by simp [vcost]
  | r :: rs, v :: u, n => by rw [List.cons_append, vcost, vcost, vcost_more rs u n]
theorem pre_getD0 (u : List Int) (n k : Nat) : (u ++ List.replicate n 0).getD k 0 = u.getD k 0 := by
  by_cases h : k < u.length
  · exact getD_pre h
  · rw [List.getD_eq_getElem?_getD, List.getD_eq_getElem?_getD, List.getElem?_append_right (by omega), List.getElem?_eq_none (l := u) (by omega), List.getElem?_replicate]
    split <;> rfl
theorem spl_zero (u : List Int) (n : Nat) (x : Ch) : spl (u ++ List.replicate n 0) x = spl u x := by
  unfold spl
  rw [pre_getD0]
theorem scost_zero (cs : List Ch) (u : List Int) (n : Nat) : ∀ (xs : List Sn), scost cs (u ++ List.replicate n 0) xs = scost cs u xs
  | [] => by rw [scost, scost]
  | x :: xs => by
    rw [scost, scost, scost_zero cs u n xs]
    have : snSpl cs (u ++ List.replicate n 0) x = snSpl cs u x := by
      unfold snSpl
      congr 1
      funext y
      exact spl_zero u n y
    rw [this]
/-- Zeros behind the first values cost nothing. -/
theorem sum_zero (p : Pc) (u : List Int) (n : Nat) : costSum p (u ++ List.replicate n 0) = costSum p u := by
  unfold costSum
  rw [vcost_more, scost_zero]
/-- The first values, and zeros: right values. -/
theorem pre_full {p : Pc} (hR : Right p) {u : List Int} (h : PreV p.rules u) : ValOk p (u ++ List.replicate (p.rules.length - u.length) 0) := by
  have hl := h.1
  refine ⟨by simp; omega, fun j z y hz hy => ?_⟩
  have hy2 := (hR.rules.2 j y hy).1
  by_cases e : j < u.length
  · rw [List.getElem?_append_left e] at hz
    have := h.2 j z y hz hy
    omega
  · rw [List.getElem?_append_right (by omega), List.getElem?_replicate] at hz
    split at hz
    · cases hz
      omega
    · cases hz
theorem pre_nn {rs : List Ru} {u : List Int} (h : PreV rs u) : ∀ z ∈ u, 0 ≤ z := fun z hz => by
  obtain ⟨j, hj⟩ := List.mem_iff_getElem?.1 hz
  have hl := (List.getElem?_eq_some_iff.1 hj).1
  have := h.1
  obtain ⟨y, hy⟩ : ∃ y, rs[j]? = some y := ⟨_, List.getElem?_eq_getElem (by omega)⟩
  exact (h.2 j z y hj hy).1
end Go.Proofs.Ytgaejcljabhijaa
/- What the type of whole numbers is. -/
namespace Go.Proofs.Ytgaejcljabhijaa
open Go.RowKit

theorem infoIntT : (Try.prog.info? 3).map (fun i => (i.zero, i.size, i.bytes)) = some (some (.int .i64 0), 1, 8) := by kernel_rfl
end Go.Proofs.Ytgaejcljabhijaa
/- Arrays of eight numbers. -/
namespace Go.Proofs.Ytgaejcljabhijaa
open Go.RowKit

/-- An array of eight numbers, all 0. -/
abbrev eight : Array Value := #[.int .i64 0, .int .i64 0, .int .i64 0, .int .i64 0, .int .i64 0, .int .i64 0, .int .i64 0, .int .i64 0]
/-- What lies in such an array behind the first n. -/
def restZ (n : Nat) : List Value := List.replicate (8 - n) (.int .i64 0)
theorem eight_is {n : Nat} (hn : n ≤ 8) : eight.toList = intVals (List.replicate n 0) ++ restZ n := by
  unfold intVals restZ
  rw [List.map_replicate, List.replicate_append_replicate, show n + (8 - n) = 8 by omega]
  rfl
theorem restZ_len {vs : List Int} {n : Nat} (hv : vs.length = n) (hn : n ≤ 8) : (intVals vs ++ restZ n).length = 8 := by
  unfold restZ
  rw [List.length_append, intVals_len, List.length_replicate]
  omega
theorem list8 {xs : List Value} (h : xs.length = 8) : ∃ x0 x1 x2 x3 x4 x5 x6 x7, xs = [x0, x1, x2, x3, x4, x5, x6, x7] := by
  match xs, h with
  | [x0, x1, x2, x3, x4, x5, x6, x7], _ => exact ⟨x0, x1, x2, x3, x4, x5, x6, x7, rfl⟩
theorem ints8 {vs : List Int} {n : Nat} (hv : vs.length = n) (hn : n ≤ 8) : ∃ z0 z1 z2 z3 z4 z5 z6 z7 : Int, intVals vs ++ restZ n = [.int .i64 z0, .int .i64 z1, .int .i64 z2, .int .i64 z3, .int .i64 z4, .int .i64 z5, .int .i64 z6, .int .i64 z7] := by
  have e : intVals vs ++ restZ n = intVals (vs ++ List.replicate (8 - n) 0) := by
    unfold intVals restZ
    rw [List.map_append, List.map_replicate]
  have h : (vs ++ List.replicate (8 - n) 0).length = 8 := by rw [List.length_append, List.length_replicate]; omega
  rw [e]
  match vs ++ List.replicate (8 - n) 0, h with
  | [x0, x1, x2, x3, x4, x5, x6, x7], _ => exact ⟨x0, x1, x2, x3, x4, x5, x6, x7, rfl⟩
/-- All eight are others. -/
theorem put8 {w : World} {base e g : Nat} {ys : List Value} (h : w.ownsRow base e 1 (.slice (some ⟨g, 0, none⟩) 8 8) 8 ys) (x0 x1 x2 x3 x4 x5 x6 x7 : Value) :
    ((((((((w.setCell ⟨g, 0, none⟩ x0).setCell ⟨g, 1, none⟩ x1).setCell ⟨g, 2, none⟩ x2).setCell ⟨g, 3, none⟩ x3).setCell ⟨g, 4, none⟩ x4).setCell ⟨g, 5, none⟩ x5).setCell ⟨g, 6, none⟩ x6).setCell ⟨g, 7, none⟩ x7).ownsRow base e 1 (.slice (some ⟨g, 0, none⟩) 8 8) 8 [x0, x1, x2, x3, x4, x5, x6, x7] ∧
    w.grownBy ((((((((w.setCell ⟨g, 0, none⟩ x0).setCell ⟨g, 1, none⟩ x1).setCell ⟨g, 2, none⟩ x2).setCell ⟨g, 3, none⟩ x3).setCell ⟨g, 4, none⟩ x4).setCell ⟨g, 5, none⟩ x5).setCell ⟨g, 6, none⟩ x6).setCell ⟨g, 7, none⟩ x7) (some g) := by
  have s0 := h.stored 0 x0
  have s1 := s0.1.stored 1 x1
  have s2 := s1.1.stored 2 x2
  have s3 := s2.1.stored 3 x3
  have s4 := s3.1.stored 4 x4
  have s5 := s4.1.stored 5 x5
  have s6 := s5.1.stored 6 x6
  have s7 := s6.1.stored 7 x7
  refine ⟨?_, grownBy_trans (grownBy_trans (grownBy_trans (grownBy_trans (grownBy_trans (grownBy_trans (grownBy_trans s0.2 s1.2) s2.2) s3.2) s4.2) s5.2) s6.2) s7.2⟩
  obtain ⟨y0, y1, y2, y3, y4, y5, y6, y7, rfl⟩ := list8 (show ys.length = 8 from h.1)
  exact s7.1
theorem row_type {w : World} {base e size g n c : Nat} {xs : List Value} (h : w.ownsRow base e size (.slice (some ⟨g, 0, none⟩) n c) n xs) : ∃ cur, w.heap[g]? = some (.cells cur e (0, 0)) := by
  rcases h.2 with ⟨h1, -⟩ | ⟨g', cap, cur, h1, -, h2, -⟩
  · cases h1
  · cases h1
    exact ⟨cur, h2⟩
/-- A slice of an array of eight numbers. -/
theorem arr_to (b n : Nat) (hn : n ≤ 8) (W : World) : (Instr.sliceAt 98 (.pointer (some ⟨b, 0, none⟩)) none (some (.int .i64 (n : Int))) none).run Try.prog W = .ok (.slice (some ⟨b, 0, none⟩) n 8) W := by
  have hl : Try.prog.arrayLen 98 = 8 := by kernel_rfl
  have he : Try.prog.elem 98 = 3 := by kernel_rfl
  rw [run_sliceAt_array_h W 98 ⟨b, 0, none⟩ (by kernel_rfl) .i64 n (by omega) (by rw [hl]; omega), hl, he]
  simp [slicedAt, Try.sizeOf3, Addr.add, go_sem]
end Go.Proofs.Ytgaejcljabhijaa
/- What impl's parts of PieceOk answer: spansOk, tiesOk. -/
namespace Go.Proofs.Ytgaejcljabhijaa
open Go.RowKit

set_option maxHeartbeats 4000000 in
theorem iSpans_any (p : Pc) (l : Pl) (w : World) (hn0 : p.spans.length ≤ 1048576) (hm0 : p.chunks.length ≤ 1048576) (h : RowsAt 3 snCells w l.a3 p.spans) :
    Calls Try.prog 100 #[pcV p l] w fun e w' => Tells (SpansOk p) w e w' := by
  have HB0 : ∀ o1 : Obj, Below w.heap.size w (w.alloc o1) := fun o1 => (Below.refl _ _).alloc (Nat.le_refl _) _
  show Calls _ _ #[.agg #[.int .i64 p.indent, .slice l.a1 p.rules.length l.c1, .slice l.a2 p.chunks.length l.c2, .slice l.a3 p.spans.length l.c3, .slice l.a4 p.ties.length l.c4]] _ _
  unfold RowsAt at h
  by_cases h8 : p.spans.length ≤ 40
  · have H8 := hidOf h8
    obtain ⟨n, hn⟩ : ∃ n, n = p.spans.length := ⟨_, rfl⟩
    rw [← hn] at h hn0 h8 ⊢
    have HN := hidOf hn
    obtain ⟨m, hm⟩ : ∃ m, m = p.chunks.length := ⟨_, rfl⟩
    rw [← hm] at hm0 ⊢
    have HM := hidOf hm
    clear hn hm
    go_enter Try.func100, Try.ntmps100
    go_wp2
    go_loopw [17] (fun i wr => ∃ k : Nat, k ≤ n ∧ i = .int .i64 k ∧ Hid (∀ (j : Nat) (x : Sn), j < k → p.spans[j]? = some x → SnOk p.chunks.length x) ∧ Below w.heap.size w wr) (fun i _ => n - (intOf i).toNat)
    case atStart => exact ⟨0, Nat.zero_le _, rfl, hidOf fun j x h => by omega, HB0 _⟩
    case round =>
      obtain ⟨k, hk, rfl, HA, hb⟩ := hrel
      clear HB0
      by_cases hlt : k < n
      · obtain ⟨x, ex⟩ : ∃ x, p.spans[k]? = some x := ⟨_, List.getElem?_eq_getElem (by rw [← HN.out]; exact hlt)⟩
        obtain ⟨b1, o1, ea, hb1, hc1⟩ := h (by omega)
        obtain ⟨p0, p1, p2⟩ := snC (w := wr) (fun j hj => by rw [hb.cell hb1]; exact hc1 k x ex j hj)
        rw [ea]
        have EX := hidOf ex
        have HB : ∀ o1 : Obj, Below w.heap.size w (wr.alloc o1) := fun o1 => hb.alloc hb.size _
        clear ex hc1 h ea
        have hA : (0 : Int) ≤ (k : Int) := by omega
        have hB : (k : Int) < (n : Int) := by omega
        by_cases ht : 0 ≤ x.til ∧ x.til ≤ (m : Int) - 2
        · have i1 := inB_yes ht.1 ht.2
          have HT := hidOf ht
          clear ht
          by_cases hf : 0 ≤ x.frm ∧ x.frm ≤ x.til
          · have i2 := inB_yes hf.1 hf.2
            have HF := hidOf hf
            clear hf
            by_cases hc : 0 ≤ x.cost ∧ x.cost ≤ 9
            · have i3 := inB_yes hc.1 hc.2
              have HC := hidOf hc
              clear hc
              go_wp2_with (go_at_call 97; refine (iIn_any _ _ _ _).mono ?_; rintro e w1 ⟨rfl, rfl⟩)
              go_roundw
              case rel => exact ⟨k + 1, by omega, by go_num, hidOf (upto_step HA.out EX.out ⟨by rw [← HM.out]; exact HT.out, HF.out, HC.out⟩), HB _⟩
              case measure => simp [intOf]; omega
            · have i3 := inB_no hc
              have HC := hidOf hc
              clear hc
              go_wp2_with (go_at_call 97; refine (iIn_any _ _ _ _).mono ?_; rintro e w1 ⟨rfl, rfl⟩)
              go_ret
              exact tells_no (fun h => HC.out (h.all k x EX.out).2.2) (HB _)
          · have i2 := inB_no hf
            have HF := hidOf hf
            clear hf
            go_wp2_with (go_at_call 97; refine (iIn_any _ _ _ _).mono ?_; rintro e w1 ⟨rfl, rfl⟩)
            go_ret
            exact tells_no (fun h => HF.out (h.all k x EX.out).2.1) (HB _)
        · have i1 := inB_no ht
          have HT := hidOf ht
          clear ht
          go_wp2_with (go_at_call 97; refine (iIn_any _ _ _ _).mono ?_; rintro e w1 ⟨rfl, rfl⟩)
          go_ret
          exact tells_no (fun h => HT.out (by have := (h.all k x EX.out).1; rw [← HM.out] at this; exact this)) (HB _)
      · go_wp2
        go_ret
        exact tells_yes ⟨H8.out, upto_all (by have := HN.out; omega) HA.out⟩ hb
  · have H8 := hidOf h8
    have h8' : (40 : Int) < (p.spans.length : Int) := by omega
    clear h h8
    go_enter Try.func100, Try.ntmps100
    go_wp2
    go_ret
    exact tells_no (fun h => H8.out h.most) (HB0 _)

set_option maxHeartbeats 4000000 in
theorem iTies_any (p : Pc) (l : Pl) (w : World) (hn0 : p.ties.length ≤ 1048576) (hm0 : p.rules.length ≤ 1048576) (h : RowsAt 2 tiCells w l.a4 p.ties) :
    Calls Try.prog 101 #[pcV p l] w fun e w' => Tells (TiesOk p) w e w' := by
  have HB0 : ∀ o1 : Obj, Below w.heap.size w (w.alloc o1) := fun o1 => (Below.refl _ _).alloc (Nat.le_refl _) _
  show Calls _ _ #[.agg #[.int .i64 p.indent, .slice l.a1 p.rules.length l.c1, .slice l.a2 p.chunks.length l.c2, .slice l.a3 p.spans.length l.c3, .slice l.a4 p.ties.length l.c4]] _ _
  unfold RowsAt at h
  by_cases h8 : p.ties.length ≤ 20
  · have H8 := hidOf h8
    obtain ⟨n, hn⟩ : ∃ n, n = p.ties.length := ⟨_, rfl⟩
    rw [← hn] at h hn0 h8 ⊢
    have HN := hidOf hn
    obtain ⟨m, hm⟩ : ∃ m, m = p.rules.length := ⟨_, rfl⟩
    rw [← hm] at hm0 ⊢
    have HM := hidOf hm
    clear hn hm
    go_enter Try.func101, Try.ntmps101
    go_wp2
    go_loopw [17] (fun i wr => ∃ k : Nat, k ≤ n ∧ i = .int .i64 k ∧ Hid (∀ (j : Nat) (x : Ti), j < k → p.ties[j]? = some x → TiOk p.rules.length x) ∧ Below w.heap.size w wr) (fun i _ => n - (intOf i).toNat)
    case atStart => exact ⟨0, Nat.zero_le _, rfl, hidOf fun j x h => by omega, HB0 _⟩
    case round =>
      obtain ⟨k, hk, rfl, HA, hb⟩ := hrel
      clear HB0
      by_cases hlt : k < n
      · obtain ⟨x, ex⟩ : ∃ x, p.ties[k]? = some x := ⟨_, List.getElem?_eq_getElem (by rw [← HN.out]; exact hlt)⟩
        obtain ⟨b1, o1, ea, hb1, hc1⟩ := h (by omega)
        obtain ⟨p0, p1⟩ := tiC (w := wr) (fun j hj => by rw [hb.cell hb1]; exact hc1 k x ex j hj)
        rw [ea]
        have EX := hidOf ex
        have HB : ∀ o1 : Obj, Below w.heap.size w (wr.alloc o1) := fun o1 => hb.alloc hb.size _
        clear ex hc1 h ea
        have hA : (0 : Int) ≤ (k : Int) := by omega
        have hB : (k : Int) < (n : Int) := by omega
        by_cases ht : 0 ≤ x.kid ∧ x.kid ≤ (m : Int) - 1
        · have i1 := inB_yes ht.1 ht.2
          have HT := hidOf ht
          clear ht
          by_cases hf : 0 ≤ x.up ∧ x.up ≤ (m : Int) - 1
          · have i2 := inB_yes hf.1 hf.2
            have HF := hidOf hf
            clear hf
            cases hc : (x.kid == x.up)
            · go_wp2_with (go_at_call 97; refine (iIn_any _ _ _ _).mono ?_; rintro e w1 ⟨rfl, rfl⟩)
              go_roundw
              case rel => exact ⟨k + 1, by omega, by go_num, hidOf (upto_step HA.out EX.out ⟨by rw [← HM.out]; exact HT.out, by rw [← HM.out]; exact HF.out, by simpa using hc⟩), HB _⟩
              case measure => simp [intOf]; omega
            · go_wp2_with (go_at_call 97; refine (iIn_any _ _ _ _).mono ?_; rintro e w1 ⟨rfl, rfl⟩)
              go_ret
              exact tells_no (fun h => (h.all k x EX.out).2.2 (by simpa using hc)) (HB _)
          · have i2 := inB_no hf
            have HF := hidOf hf
            clear hf
            go_wp2_with (go_at_call 97; refine (iIn_any _ _ _ _).mono ?_; rintro e w1 ⟨rfl, rfl⟩)
            go_ret
            exact tells_no (fun h => HF.out (by have := (h.all k x EX.out).2.1; rw [← HM.out] at this; exact this)) (HB _)
        · have i1 := inB_no ht
          have HT := hidOf ht
          clear ht
          go_wp2_with (go_at_call 97; refine (iIn_any _ _ _ _).mono ?_; rintro e w1 ⟨rfl, rfl⟩)
          go_ret
          exact tells_no (fun h => HT.out (by have := (h.all k x EX.out).1; rw [← HM.out] at this; exact this)) (HB _)
      · go_wp2
        go_ret
        exact tells_yes ⟨H8.out, upto_all (by have := HN.out; omega) HA.out⟩ hb
  · have H8 := hidOf h8
    have h8' : (20 : Int) < (p.ties.length : Int) := by omega
    clear h h8
    go_enter Try.func101, Try.ntmps101
    go_wp2
    go_ret
    exact tells_no (fun h => H8.out h.most) (HB0 _)
end Go.Proofs.Ytgaejcljabhijaa
