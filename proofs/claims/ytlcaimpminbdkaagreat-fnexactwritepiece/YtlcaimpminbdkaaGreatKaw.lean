/- What impl.ValuesOk answers, where no rule has the least number that there is. -/
import Derived.Test.YtlcaimpminbdkaaGreatKaf
import Derived.Test.YtlcaimpminbdkaaGreatCntI
import Derived.Test.YtlcaimpminbdkaaGreatBoxPc
import Derived.Deep.RegionWith
import Derived.Test.YtlcaimpminbdkaaGreatKav
import Derived.Lib.AppendIntMem
import Derived.Laws.OwnMore
import Derived.Maps.AppendAt
import Derived.Test.YtlcaimpminbdkaaGreatKar
namespace Go.Proofs.YtlcaimpminbdkaaGreat
open Go.RowKit

theorem val_no {p : Pc} {vs : List Int} {k : Nat} {z : Int} {y : Ru} (hz : vs[k]? = some z) (hy : p.rules[k]? = some y) (h : ¬ (0 ≤ z ∧ z ≤ y.values - 1)) : ¬ ValOk p vs := fun hv => h (hv.all k z y hz hy)

set_option maxHeartbeats 8000000 in
theorem iVal_any (p : Pc) (l : Pl) (a : Option Addr) (c : Nat) (vs : List Int) (w : World) (hn0 : p.rules.length ≤ 1048576) (hm0 : vs.length ≤ 1048576) (hR : NoLeast p.rules) (hp : RowsAt 2 ruCells w l.a1 p.rules) (hv : KidsAt w a vs) :
    Calls Tryz.prog 59 #[pcV p l, .slice a vs.length c] w fun e w' => Tells (ValOk p vs) w e w' := by
  show Calls _ _ #[.agg #[.int .i64 p.indent, .slice l.a1 p.rules.length l.c1, .slice l.a2 p.chunks.length l.c2, .slice l.a3 p.spans.length l.c3, .slice l.a4 p.ties.length l.c4], _] _ _
  have HB : ∀ o1 : Obj, Below w.heap.size w (w.alloc o1) := fun o1 => (Below.refl _ _).alloc (Nat.le_refl _) _
  have hm1 := hm0
  clear hm0
  unfold RowsAt at hp
  unfold KidsAt at hv
  by_cases hl : vs.length = p.rules.length
  · obtain ⟨n, hn⟩ : ∃ n, n = p.rules.length := ⟨_, rfl⟩
    rw [hl, ← hn] at hv hm1 ⊢
    rw [← hn] at hp hn0
    have HN := hidOf hn
    have HL := hidOf hl
    have HR := hidOf hR
    clear hn hl hR
    have hne : ((n : Int) != (n : Int)) = false := by simp
    go_enter Tryz.func59, Tryz.ntmps59
    go_wp2
    go_loop [15] (fun i => ∃ k : Nat, k ≤ n ∧ i = .int .i64 k ∧ Hid (∀ (j : Nat) (z : Int) (y : Ru), j < k → vs[j]? = some z → p.rules[j]? = some y → 0 ≤ z ∧ z ≤ y.values - 1)) (fun i => n - (intOf i).toNat)
    case atStart => exact ⟨0, Nat.zero_le _, rfl, hidOf fun j z y h => by omega⟩
    case round =>
      obtain ⟨k, hk, rfl, HA⟩ := hrel
      by_cases hlt : k < n
      · obtain ⟨y, ey⟩ : ∃ y, p.rules[k]? = some y := ⟨_, List.getElem?_eq_getElem (by rw [← HN.out]; exact hlt)⟩
        obtain ⟨z, ez⟩ : ∃ z, vs[k]? = some z := ⟨_, List.getElem?_eq_getElem (by rw [HL.out, ← HN.out]; exact hlt)⟩
        obtain ⟨b1, o1, ea, hb1, hc1⟩ := hp (by omega)
        obtain ⟨b2, o2, eb, hb2, hc2⟩ := hv (by omega)
        have p01 := fun ob : Obj => ruC (w := w.alloc ob) (fun j hj => by rw [(HB ob).cell hb1]; exact hc1 k y ey j hj)
        have p0 := fun ob => (p01 ob).1
        have p2 := fun ob : Obj => ((HB ob).cell (p := ⟨b2, o2 + k, none⟩) hb2).trans (hc2 k z ez)
        rw [ea, eb]
        have EY := hidOf ey
        have EZ := hidOf ez
        clear ey ez hc1 hc2 hp hv p01 ea eb
        have hA : (0 : Int) ≤ (k : Int) := by omega
        have hB : (k : Int) < (n : Int) := by omega
        by_cases h1 : z < 0
        · go_wp2
          go_ret
          exact tells_no (val_no EZ.out EY.out (by omega)) (HB _)
        · by_cases h2 : z ≥ y.values
          · go_wp2
            go_ret
            exact tells_no (val_no EZ.out EY.out (by omega)) (HB _)
          · go_wp2
            go_round
            case rel => exact ⟨k + 1, by omega, by go_num, hidOf (fun j z' y' hj hz hy => by
              by_cases e : j = k
              · subst e
                have e1 := EZ.out
                have e2 := EY.out
                rw [hz] at e1
                rw [hy] at e2
                cases e1
                cases e2
                omega
              · exact HA.out j z' y' (by omega) hz hy)⟩
            case measure => simp [intOf]; omega
      · go_wp2
        go_ret
        exact tells_yes ⟨HL.out, fun j z y hz hy => HA.out j z y (by have := (List.getElem?_eq_some_iff.1 hy).1; have := HN.out; omega) hz hy⟩ (HB _)
  · have hne : ((vs.length : Int) != (p.rules.length : Int)) = true := by simp; omega
    have HL := hidOf hl
    clear hl hp hv
    go_enter Tryz.func59, Tryz.ntmps59
    go_wp2
    go_ret
    exact tells_no (fun h => HL.out h.len) (HB _)
end Go.Proofs.YtlcaimpminbdkaaGreat
/- What impl.Render answers. -/
namespace Go.Proofs.YtlcaimpminbdkaaGreat
open Go.RowKit

theorem infoStrS : (Tryz.prog.info? 9).map (fun i => (i.zero, i.size, i.bytes)) = some (some (.string ByteArray.empty), 1, 16) := by kernel_rfl

set_option maxHeartbeats 8000000 in
set_option maxRecDepth 20000 in
theorem iRen_yes (p : Pc) (l : Pl) (a : Option Addr) (c : Nat) (vs : List Int) (w : World) (hF : PcFew p) (hm0 : vs.length ≤ 1048576) (hp : PcIn w p l) (hv : KidsAt w a vs) (h1 : Right p) (h2 : ValOk p vs) :
    Calls Tryz.prog 25 #[pcV p l, .slice a vs.length c] w fun e w' => StrsAns (linesOf p vs) 9 w e w' := by
  show Calls _ _ #[.agg #[.int .i64 p.indent, .slice l.a1 p.rules.length l.c1, .slice l.a2 p.chunks.length l.c2, .slice l.a3 p.spans.length l.c3, .slice l.a4 p.ties.length l.c4], _] _ _
  obtain ⟨i0, hi, hz0, hz1, hz2⟩ := info_parts infoStrS
  have hcl := hF.chunks
  have hc1 := h1.chunks.least
  have hc80 := h1.chunks.most
  obtain ⟨W0, hW0, X0, B0, S0⟩ := boxed w p l 38
  have hX : w.heap.size < W0.heap.size := by omega
  go_enter Tryz.func25, Tryz.ntmps25
  go_wp2_with fail
  obtain ⟨W1, hW1⟩ : ∃ W1, W1 = (w.alloc (.cells #[.int .i64 p.indent, .slice l.a1 p.rules.length l.c1, .slice l.a2 p.chunks.length l.c2, .slice l.a3 p.spans.length l.c3, .slice l.a4 p.ties.length l.c4] 38)).alloc (.cells #[] 9) := ⟨_, rfl⟩
  rw [← hW1]
  have O1 : W1.ownsRow (w.heap.size + 1) 9 1 (.slice (some ⟨w.heap.size + 1, 0, none⟩) 0 0) 0 (strVals []) := by rw [hW1]; exact own_none1 w _ _ _
  have B1 : Below W0.heap.size W0 W1 := by rw [hW1, ← hW0]; exact (Below.refl _ _).alloc (Nat.le_refl _) _
  have I0 := hp.below B0 (Nat.le_refl _)
  have V0 := hv.below B0 (Nat.le_refl _)
  clear hW0 hW1 hp hv
  refine (iOk_any p l _ hF (I0.below B1 (Nat.le_refl _))).mono ?_
  rintro e w1 hq
  obtain ⟨rfl, hb1⟩ := hq.yes h1
  have A1 := B1.trans (hb1.mono B1.size)
  have O1 := owns_below O1 hb1
  clear hq hb1
  obtain ⟨-, c0, c1, c2, c3, c4⟩ := X0.below A1 hX
  go_wp2_with fail
  refine (iVal_any p l a c vs _ hF.rules hm0 (noLeast_right h1.rules) (I0.rules.below A1 (Nat.le_refl _)) (V0.below A1 (Nat.le_refl _))).mono ?_
  rintro e w2 hq
  obtain ⟨rfl, hb2⟩ := hq.yes h2
  have A2 := A1.trans (hb2.mono A1.size)
  have O2 := owns_below O1 hb2
  clear hq hb2 O1 A1 c0 c1 c2 c3 c4 B1
  go_wp2
  go_loopw [5, 6] (fun v i wr => ∃ (k : Nat) (os : List ByteArray), k ≤ p.chunks.length ∧ i = .int .i64 k ∧ os.length ≤ k ∧ Hid (os ++ linesFrom p vs k = linesOf p vs) ∧ wr.ownsRow (w.heap.size + 1) 9 1 v os.length (strVals os) ∧ Below W0.heap.size W0 wr) (fun _ i _ => p.chunks.length - (intOf i).toNat)
  case atStart => exact ⟨0, [], Nat.zero_le _, rfl, Nat.zero_le _, hidOf (by rw [lines_zero (by omega)]; rfl), O2, A2⟩
  case round =>
    obtain ⟨k, os, hk, rfl, hol, HI, hown, hb⟩ := hrel
    obtain ⟨ao, cv, rfl⟩ := owns_slice hown
    have BW := B0.trans (hb.mono B0.size)
    obtain ⟨-, c0, c1, c2, c3, c4⟩ := X0.below hb hX
    by_cases hlt : k < p.chunks.length
    · have hM : (k : Int) < (p.chunks.length : Int) := by omega
      go_wp2_with fail
      refine (next_any p l a c vs k _ hF hm0 (I0.below hb (Nat.le_refl _)) (V0.below hb (Nat.le_refl _)) h1 h2 hlt).mono ?_
      rintro e w3 ⟨n, rfl, hsg, hb3⟩
      have A3 := hb.trans (hb3.mono hb.size)
      have O3 := owns_below hown hb3
      have hn1 := hsg.lt
      have hn2 := hsg.le
      have HE := hidOf (lines_seg hsg)
      clear hb3 c0 c1 c2 c3 c4 hsg
      obtain ⟨-, c0, c1, c2, c3, c4⟩ := X0.below A3 hX
      go_wp2_with fail
      obtain ⟨L, hL⟩ : ∃ L, L = lineOf p k n := ⟨_, rfl⟩
      have HL := hidOf hL
      refine (text_any p l k n _ hF (I0.below A3 (Nat.le_refl _)) h1 hn1 hn2).mono ?_
      rw [← hL]
      rintro e w4 ⟨rfl, hb4⟩
      have A4 := A3.trans (hb4.mono A3.size)
      have O4 := owns_below O3 hb4
      have hz4 := A4.size
      clear hb4 c0 c1 c2 c3 c4 O3 hown hL
      go_wp2_with (at_builtin; refine wpList_append_own _ rfl _ _ 29 rfl (w.heap.size + 1) 9 i0 (.string ByteArray.empty) 1 16 Tryz.underlying29 hi hz0 hz1 hz2 rfl (by decide) _ _ _ rfl (O4.alloc _) ⟨w4.heap.size, 0, none⟩ 1 1 [.string L] rfl rfl (cell_one_new _ _ _) (fun x hx => by simp at hx; subst hx; rfl) (by unfold maxLen; omega) (by omega) (by simp; omega) ?_; intro v' w5 hown' hgrow5 hnil5)
      go_roundw
      case rel => exact ⟨n, os ++ [L], hn2, by go_num, by simp; omega, hidOf (by have h := HI.out; rw [HE.out, ← HL.out] at h; rw [← h]; simp), by simpa [strVals] using hown', (A4.alloc hz4 _).grown hgrow5 (by simp; omega) (fun q hq => by have := (O4.lt q hq).1; omega)⟩
      case measure => simp [intOf]; omega
    · have hM : ¬ (k : Int) < (p.chunks.length : Int) := by omega
      go_wp2
      go_ret
      have h := HI.out
      rw [lines_end (by omega), List.append_nil] at h
      rw [← h]
      exact ⟨BW, _, rfl, ownsRow_base hown (by omega)⟩

set_option maxHeartbeats 4000000 in
theorem iRen_no (p : Pc) (l : Pl) (a : Option Addr) (c : Nat) (vs : List Int) (w : World) (hF : PcFew p) (hm0 : vs.length ≤ 1048576) (hp : PcIn w p l) (hv : KidsAt w a vs) (hno : ¬ (Right p ∧ ValOk p vs)) :
    Calls Tryz.prog 25 #[pcV p l, .slice a vs.length c] w fun e w' => StrsAns [] 9 w e w' := by
  show Calls _ _ #[.agg #[.int .i64 p.indent, .slice l.a1 p.rules.length l.c1, .slice l.a2 p.chunks.length l.c2, .slice l.a3 p.spans.length l.c3, .slice l.a4 p.ties.length l.c4], _] _ _
  obtain ⟨W0, hW0, X0, B0, S0⟩ := boxed w p l 38
  have hX : w.heap.size < W0.heap.size := by omega
  go_enter Tryz.func25, Tryz.ntmps25
  go_wp2_with fail
  obtain ⟨W1, hW1⟩ : ∃ W1, W1 = (w.alloc (.cells #[.int .i64 p.indent, .slice l.a1 p.rules.length l.c1, .slice l.a2 p.chunks.length l.c2, .slice l.a3 p.spans.length l.c3, .slice l.a4 p.ties.length l.c4] 38)).alloc (.cells #[] 9) := ⟨_, rfl⟩
  rw [← hW1]
  have O1 : W1.ownsRow (w.heap.size + 1) 9 1 (.slice (some ⟨w.heap.size + 1, 0, none⟩) 0 0) 0 (strVals []) := by rw [hW1]; exact own_none1 w _ _ _
  have B1 : Below W0.heap.size W0 W1 := by rw [hW1, ← hW0]; exact (Below.refl _ _).alloc (Nat.le_refl _) _
  have I0 := hp.below B0 (Nat.le_refl _)
  have V0 := hv.below B0 (Nat.le_refl _)
  clear hW0 hW1 hp hv
  refine (iOk_any p l _ hF (I0.below B1 (Nat.le_refl _))).mono ?_
  rintro e w1 hq
  by_cases h1 : Right p
  · obtain ⟨rfl, hb1⟩ := hq.yes h1
    have A1 := B1.trans (hb1.mono B1.size)
    have O1 := owns_below O1 hb1
    clear hq hb1
    obtain ⟨-, c0, c1, c2, c3, c4⟩ := X0.below A1 hX
    go_wp2_with fail
    refine (iVal_any p l a c vs _ hF.rules hm0 (noLeast_right h1.rules) (I0.rules.below A1 (Nat.le_refl _)) (V0.below A1 (Nat.le_refl _))).mono ?_
    rintro e w2 hq
    obtain ⟨rfl, hb2⟩ := hq.no (fun h => hno ⟨h1, h⟩)
    have A2 := A1.trans (hb2.mono A1.size)
    have O2 := owns_below O1 hb2
    go_wp2
    go_ret
    exact ⟨B0.trans (A2.mono B0.size), _, rfl, ownsRow_base O2 (by omega)⟩
  · obtain ⟨rfl, hb1⟩ := hq.no h1
    have A1 := B1.trans (hb1.mono B1.size)
    have O1 := owns_below O1 hb1
    go_wp2
    go_ret
    exact ⟨B0.trans (A1.mono B0.size), _, rfl, ownsRow_base O1 (by omega)⟩
end Go.Proofs.YtlcaimpminbdkaaGreat
/- What spec.l09Render answers of a right piece with right values. -/
namespace Go.Proofs.YtlcaimpminbdkaaGreat
open Go.RowKit

theorem infoStrR : (Tryz.prog.info? 9).map (fun i => (i.zero, i.size, i.bytes)) = some (some (.string ByteArray.empty), 1, 16) := by kernel_rfl
theorem blanks_more (k : Nat) : blanks ((k : Int) + 1) = blanks k ++ ⟨#[32]⟩ := by
  apply ByteArray.ext
  apply Array.ext'
  rw [ByteArray.data_append, Array.toList_append]
  show (List.replicate ((k : Int) + 1).toNat (32 : UInt8)).toArray.toList = (List.replicate ((k : Int)).toNat (32 : UInt8)).toArray.toList ++ [32]
  rw [show ((k : Int) + 1).toNat = k + 1 by omega, show ((k : Int)).toNat = k by omega, List.replicate_succ']

set_option maxHeartbeats 1600000 in
theorem sBlanks_any (z : Int) (w : World) (h0 : 0 ≤ z) (h1 : z ≤ 1000) :
    Calls Tryz.prog 49 #[.int .i64 z] w fun e w' => e = .returned (.string (blanks z)) ∧ w' = w := by
  obtain ⟨n, rfl⟩ := Int.eq_ofNat_of_zero_le h0
  go_enter Tryz.func49, Tryz.ntmps49
  go_wp2
  go_loop [3, 4] (fun s i => ∃ k : Nat, k ≤ n ∧ i = .int .i64 k ∧ s = .string (blanks k)) (fun _ i => n - (intOf i).toNat)
  case atStart => exact ⟨0, Nat.zero_le _, rfl, rfl⟩
  case round =>
    obtain ⟨k, hk, rfl, rfl⟩ := hrel
    have hs := blanks_size k
    by_cases hlt : k < n
    · have hM : (k : Int) < (n : Int) := by omega
      have HE := hidOf (blanks_more k)
      obtain ⟨s, es⟩ : ∃ s, s = blanks (k : Int) := ⟨_, rfl⟩
      rw [← es] at hs HE ⊢
      have hss : s.size ≤ 1000 := by omega
      clear hs es
      go_wp2
      go_round
      case rel => exact ⟨k + 1, by omega, by go_num, by rw [show ((k + 1 : Nat) : Int) = (k : Int) + 1 by omega, HE.out]⟩
      case measure => simp [intOf]; omega
    · have hM : ¬ (k : Int) < (n : Int) := by omega
      have hkn : k = n := by omega
      subst hkn
      go_wp2
      go_ret
      exact ⟨rfl, rfl⟩

set_option maxHeartbeats 16000000 in
set_option maxRecDepth 20000 in
theorem sRen_lines (p : Pc) (l : Pl) (a : Option Addr) (c : Nat) (vs : List Int) (w : World) (hF : PcFew p) (hm0 : vs.length ≤ 1048576) (hp : PcIn w p l) (hv : KidsAt w a vs) (h1 : Right p) (h2 : ValOk p vs) :
    Calls Tryz.prog 19 #[pcV p l, .slice a vs.length c] w fun e w' => StrsAns (linesOf p vs) 9 w e w' := by
  show Calls _ _ #[.agg #[.int .i64 p.indent, .slice l.a1 p.rules.length l.c1, .slice l.a2 p.chunks.length l.c2, .slice l.a3 p.spans.length l.c3, .slice l.a4 p.ties.length l.c4], _] _ _
  obtain ⟨i0, hi, hz0, hz1, hz2⟩ := info_parts infoStrR
  have hcl := hF.chunks
  have hc1 := h1.chunks.least
  have hc80 := h1.chunks.most
  have hin := h1.indent
  obtain ⟨W0, hW0, X0, B0, S0⟩ := boxed w p l 38
  have hX : w.heap.size < W0.heap.size := by omega
  go_enter Tryz.func19, Tryz.ntmps19
  go_wp2_with fail
  obtain ⟨W1, hW1⟩ : ∃ W1, W1 = (w.alloc (.cells #[.int .i64 p.indent, .slice l.a1 p.rules.length l.c1, .slice l.a2 p.chunks.length l.c2, .slice l.a3 p.spans.length l.c3, .slice l.a4 p.ties.length l.c4] 38)).alloc (.cells #[] 9) := ⟨_, rfl⟩
  rw [← hW1]
  have O1 : W1.ownsRow (w.heap.size + 1) 9 1 (.slice (some ⟨w.heap.size + 1, 0, none⟩) 0 0) 0 (strVals []) := by rw [hW1]; exact own_none1 w _ _ _
  have B1 : Below W0.heap.size W0 W1 := by rw [hW1, ← hW0]; exact (Below.refl _ _).alloc (Nat.le_refl _) _
  have I0 := hp.below B0 (Nat.le_refl _)
  have V0 := hv.below B0 (Nat.le_refl _)
  clear hW0 hW1 hp hv
  obtain ⟨bl, hbl⟩ : ∃ bl, bl = blanks p.indent := ⟨_, rfl⟩
  have hbs : bl.size ≤ 60 := by rw [hbl, blanks_size]; omega
  have HBL := hidOf hbl
  refine (sBlanks_any p.indent _ hin.1 (by omega)).mono ?_
  rw [← hbl]
  rintro e w1 ⟨rfl, rfl⟩
  clear hbl
  go_wp2
  go_loopw [5, 6, 7] (fun v s i wr => ∃ (k : Nat) (os : List ByteArray) (t : ByteArray), k < p.chunks.length ∧ i = .int .i64 k ∧ s = .string t ∧ t.size ≤ 100 + k * 1048577 ∧ os.length ≤ k ∧ Hid (os ++ ren p.indent vs t (p.chunks.drop k) = linesOf p vs) ∧ wr.ownsRow (w.heap.size + 1) 9 1 v os.length (strVals os) ∧ Below W0.heap.size W0 wr) (fun _ _ i _ => p.chunks.length - (intOf i).toNat)
  case atStart => exact ⟨0, [], bl, by omega, rfl, rfl, by omega, Nat.zero_le _, hidOf (by rw [HBL.out]; rfl), O1, B1⟩
  case round =>
    obtain ⟨k, os, t, hk, rfl, rfl, hts, hol, HI, hown, hb⟩ := hrel
    obtain ⟨ao, cv, rfl⟩ := owns_slice hown
    have BW := B0.trans (hb.mono B0.size)
    have hzr := hb.size
    obtain ⟨-, c0, c1, c2, c3, c4⟩ := X0.below hb hX
    obtain ⟨x, ex⟩ : ∃ x, p.chunks[k]? = some x := ⟨_, List.getElem?_eq_getElem hk⟩
    have hxs := hF.texts k x ex
    obtain ⟨b1, o1, ea, hb1, hc1'⟩ := I0.chunks (by omega)
    obtain ⟨p0, p1, p2, p3, p4⟩ := chC (w := wr) (fun j hj => by rw [hb.cell hb1]; exact hc1' k x ex j hj)
    have hpv : pcV p l = .agg #[.int .i64 p.indent, .slice l.a1 p.rules.length l.c1, .slice (some ⟨b1, o1, none⟩) p.chunks.length l.c2, .slice l.a3 p.spans.length l.c3, .slice l.a4 p.ties.length l.c4] := by show Value.agg _ = _; rw [ea]
    have hA : (0 : Int) ≤ (k : Int) := by omega
    have hB : (k : Int) < (p.chunks.length : Int) := by omega
    have hst : (t ++ x.text).size ≤ 100 + k * 1048577 + 1048576 := by rw [app_size]; omega
    by_cases hlast : k + 1 = p.chunks.length
    · have HE := hidOf (show os ++ [t ++ x.text] = linesOf p vs by have h := HI.out; rw [ren_last t ex hlast] at h; exact h)
      have hq : ((k : Int) + 1 == (p.chunks.length : Int)) = true := by simp; omega
      rw [ea] at c2
      clear ex hc1' ea hpv I0
      go_wp2_with (at_builtin; refine wpList_append_own _ rfl _ _ 29 rfl (w.heap.size + 1) 9 i0 (.string ByteArray.empty) 1 16 Tryz.underlying29 hi hz0 hz1 hz2 rfl (by decide) _ _ _ rfl (hown.alloc _) ⟨wr.heap.size, 0, none⟩ 1 1 [.string (t ++ x.text)] rfl rfl (cell_one_new _ _ _) (fun x hx => by simp at hx; subst hx; rfl) (by unfold maxLen; omega) (by omega) (by simp; omega) ?_; intro v' w5 hown' hgrow5 hnil5)
      go_ret
      have hB5 : Below w.heap.size w w5 := (BW.alloc BW.size _).grown hgrow5 (by have := BW.size; simp; omega) (fun q hq => by have := (hown.lt q hq).1; omega)
      rw [← HE.out]
      exact ⟨hB5, _, rfl, ownsRow_base (by simpa [strVals] using hown') (by omega)⟩
    · have hq : ((k : Int) + 1 == (p.chunks.length : Int)) = false := by simp; omega
      have q0 := sSpl1_any p l a c vs k x wr hF hm0 (I0.below hb (Nat.le_refl _)) (V0.below hb (Nat.le_refl _)) h1 h2 (by omega) ex
      rw [hpv] at q0
      rw [ea] at c2
      obtain ⟨-, hs⟩ := h1.chunks.texts k x ex
      obtain ⟨-, -, hn1, hn2⟩ := hs (by omega)
      have C := fun (W : World) (hB : Below W0.heap.size W0 W) => And.intro (X0.below hB hX) (chC (w := W) (fun j hj => by rw [hB.cell hb1]; exact hc1' k x ex j hj))
      cases hsp : spl vs x with
      | true =>
        rw [hsp] at q0
        have HE := hidOf (show (os ++ [t ++ x.text]) ++ ren p.indent vs (blanks (p.indent + x.nest)) (p.chunks.drop (k + 1)) = linesOf p vs by have h := HI.out; rw [ren_split t ex (by omega) hsp] at h; rw [← h]; simp)
        have HA := hidOf ea
        clear ex hc1' ea hpv hsp hs
        go_wp2_with fail
        refine q0.mono ?_
        rintro e w3 ⟨rfl, hb3⟩
        have A3 := hb.trans (hb3.mono hb.size)
        have O3 := owns_below hown hb3
        have hz3 := A3.size
        clear q0 hb3 hown c0 c1 c2 c3 c4 p0 p1 p2 p3 p4
        go_wp2_with (at_builtin; refine wpList_append_own _ rfl _ _ 29 rfl (w.heap.size + 1) 9 i0 (.string ByteArray.empty) 1 16 Tryz.underlying29 hi hz0 hz1 hz2 rfl (by decide) _ _ _ rfl (O3.alloc _) ⟨w3.heap.size, 0, none⟩ 1 1 [.string (t ++ x.text)] rfl rfl (cell_one_new _ _ _) (fun x hx => by simp at hx; subst hx; rfl) (by unfold maxLen; omega) (by omega) (by simp; omega) ?_; intro v' w5 hown' hgrow5 hnil5)
        have A5 : Below W0.heap.size W0 w5 := (A3.alloc hz3 _).grown hgrow5 (by simp; omega) (fun q hq => by have := (O3.lt q hq).1; omega)
        obtain ⟨⟨-, c0, c1, c2, c3, c4⟩, p0, p1, p2, p3, p4⟩ := C w5 A5
        rw [HA.out] at c2
        have hwv : IntKind.i64.wrap (p.indent + x.nest) = p.indent + x.nest := IntWalk.i64_in _ ⟨by omega, by omega⟩
        have hbq := fun W => sBlanks_any (p.indent + x.nest) W (by omega) (by omega)
        obtain ⟨bn, hbn⟩ : ∃ bn, bn = blanks (p.indent + x.nest) := ⟨_, rfl⟩
        have hbz : bn.size ≤ 100 := by rw [hbn, blanks_size]; omega
        rw [← hbn] at hbq HE
        clear hbn C
        go_quiet ((go_at_call 49; exact Calls.quiet_of_same (hbq _)))
        go_wp2
        go_roundw
        case rel => exact ⟨k + 1, os ++ [t ++ x.text], bn, by omega, by go_num, rfl, by omega, by simp; omega, HE, owns_below (by simpa [strVals] using hown') (below_drewN _ _), bel_drewN A5 _⟩
        case measure => simp [intOf]; omega
      | false =>
        rw [hsp] at q0
        have h0 := HI.out
        rw [ren_join t ex (by omega) hsp] at h0
        have HA := hidOf ea
        cases hbl : x.space with
        | true =>
          rw [sp1_yes hbl] at h0
          have HE := hidOf h0
          clear ex hc1' ea hpv hsp hs h0
          go_wp2_with fail
          refine q0.mono ?_
          rintro e w3 ⟨rfl, hb3⟩
          have A3 := hb.trans (hb3.mono hb.size)
          have O3 := owns_below hown hb3
          clear q0 hb3 hown c0 c1 c2 c3 c4 p0 p1 p2 p3 p4
          obtain ⟨⟨-, c0, c1, c2, c3, c4⟩, p0, p1, p2, p3, p4⟩ := C w3 A3
          rw [HA.out] at c2
          rw [hbl] at p3
          clear C hbl
          go_wp2
          go_roundw
          case rel => exact ⟨k + 1, os, _, by omega, by go_num, rfl, by rw [app_size]; show (t ++ x.text).size + 1 ≤ _; omega, by omega, HE, O3, A3⟩
          case measure => simp [intOf]; omega
        | false =>
          rw [sp1_no hbl, app_none] at h0
          have HE := hidOf h0
          clear ex hc1' ea hpv hsp hs h0
          go_wp2_with fail
          refine q0.mono ?_
          rintro e w3 ⟨rfl, hb3⟩
          have A3 := hb.trans (hb3.mono hb.size)
          have O3 := owns_below hown hb3
          clear q0 hb3 hown c0 c1 c2 c3 c4 p0 p1 p2 p3 p4
          obtain ⟨⟨-, c0, c1, c2, c3, c4⟩, p0, p1, p2, p3, p4⟩ := C w3 A3
          rw [HA.out] at c2
          rw [hbl] at p3
          clear C hbl
          go_wp2
          go_roundw
          case rel => exact ⟨k + 1, os, _, by omega, by go_num, rfl, by omega, by omega, HE, O3, A3⟩
          case measure => simp [intOf]; omega
end Go.Proofs.YtlcaimpminbdkaaGreat
