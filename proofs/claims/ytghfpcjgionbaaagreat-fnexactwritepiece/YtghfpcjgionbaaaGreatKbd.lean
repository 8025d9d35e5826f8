/- What spec.l09Render answers of a right piece with right values. -/
import Derived.Test.YtghfpcjgionbaaaGreatKaf
import Derived.Test.YtghfpcjgionbaaaGreatKar
import Derived.Lib.AppendIntMem
import Derived.Laws.OwnMore
import Derived.Maps.AppendAt
import Derived.Test.YtghfpcjgionbaaaGreatKau
import Derived.Test.YtghfpcjgionbaaaGreatKbc
import Derived.Test.YtghfpcjgionbaaaGreatKak
namespace Go.Proofs.YtghfpcjgionbaaaGreat
open Go.RowKit

theorem infoStrR : (Tryz.prog.info? 9).map (fun i => (i.zero, i.size, i.bytes)) = some (some (.string ByteArray.empty), 1, 16) := by kernel_rfl
theorem blanks_more (k : Nat) : blanks ((k : Int) + 1) = blanks k ++ ⟨#[32]⟩ := by
  apply ByteArray.ext
  apply Array.ext'
  rw [ByteArray.data_append, Array.toList_append]
  show (List.replicate ((k : Int) + 1).toNat (32 : UInt8)).toArray.toList = (List.replicate ((k : Int)).toNat (32 : UInt8)).toArray.toList ++ [32]
  rw [show ((k : Int) + 1).toNat = k + 1 by omega, show ((k : Int)).toNat = k by omega, List.replicate_succ']

set_option maxHeartbeats 1600000 in
theorem sBlanks_any (z : Int) (w : World) (h0 : 0 ≤ z) (h1 : z ≤ 1000) :
    Calls Tryz.prog 81 #[.int .i64 z] w fun e w' => e = .returned (.string (blanks z)) ∧ w' = w := by
  obtain ⟨n, rfl⟩ := Int.eq_ofNat_of_zero_le h0
  go_enter Tryz.func81, Tryz.ntmps81
  go_wp2
  go_loop [3, 4] (fun s i => ∃ k : Nat, k ≤ n ∧ i = .int .i64 k ∧ s = .string (blanks k)) (fun _ i => n - (intOf i).toNat)
  case atStart => exact ⟨0, Nat.zero_le _, rfl, rfl⟩
  case round =>
    obtain ⟨k, hk, rfl, rfl⟩ := hrel
    have hs := blanks_size k
    by_cases hlt : k < n
    · have hM : (k : Int) < (n : Int) := by omega
      have HE := hidOf (blanks_more k)
      obtain ⟨s, es⟩ : ∃ s, s = blanks (k : Int) := ⟨_, rfl⟩
      rw [← es] at hs HE ⊢
      have hss : s.size ≤ 1000 := by omega
      clear hs es
      go_wp2
      go_round
      case rel => exact ⟨k + 1, by omega, by go_num, by rw [show ((k + 1 : Nat) : Int) = (k : Int) + 1 by omega, HE.out]⟩
      case measure => simp [intOf]; omega
    · have hM : ¬ (k : Int) < (n : Int) := by omega
      have hkn : k = n := by omega
      subst hkn
      go_wp2
      go_ret
      exact ⟨rfl, rfl⟩

set_option maxHeartbeats 16000000 in
set_option maxRecDepth 20000 in
theorem sRen_lines (p : Pc) (l : Pl) (a : Option Addr) (c : Nat) (vs : List Int) (w : World) (hF : PcFew p) (hm0 : vs.length ≤ 1048576) (hp : PcIn w p l) (hv : KidsAt w a vs) (h1 : Right p) (h2 : ValOk p vs) :
    Calls Tryz.prog 49 #[pcV p l, .slice a vs.length c] w fun e w' => StrsAns (linesOf p vs) 9 w e w' := by
  show Calls _ _ #[.agg #[.int .i64 p.indent, .slice l.a1 p.rules.length l.c1, .slice l.a2 p.chunks.length l.c2, .slice l.a3 p.spans.length l.c3, .slice l.a4 p.ties.length l.c4], _] _ _
  obtain ⟨i0, hi, hz0, hz1, hz2⟩ := info_parts infoStrR
  have hcl := hF.chunks
  have hc1 := h1.chunks.least
  have hc80 := h1.chunks.most
  have hin := h1.indent
  obtain ⟨W0, hW0, X0, B0, S0⟩ := boxed w p l 37
  have hX : w.heap.size < W0.heap.size := by omega
  go_enter Tryz.func49, Tryz.ntmps49
  go_wp2_with fail
  obtain ⟨W1, hW1⟩ : ∃ W1, W1 = (w.alloc (.cells #[.int .i64 p.indent, .slice l.a1 p.rules.length l.c1, .slice l.a2 p.chunks.length l.c2, .slice l.a3 p.spans.length l.c3, .slice l.a4 p.ties.length l.c4] 37)).alloc (.cells #[] 9) := ⟨_, rfl⟩
  rw [← hW1]
  have O1 : W1.ownsRow (w.heap.size + 1) 9 1 (.slice (some ⟨w.heap.size + 1, 0, none⟩) 0 0) 0 (strVals []) := by rw [hW1]; exact own_none1 w _ _ _
  have B1 : Below W0.heap.size W0 W1 := by rw [hW1, ← hW0]; exact (Below.refl _ _).alloc (Nat.le_refl _) _
  have I0 := hp.below B0 (Nat.le_refl _)
  have V0 := hv.below B0 (Nat.le_refl _)
  clear hW0 hW1 hp hv
  obtain ⟨bl, hbl⟩ : ∃ bl, bl = blanks p.indent := ⟨_, rfl⟩
  have hbs : bl.size ≤ 60 := by rw [hbl, blanks_size]; omega
  have HBL := hidOf hbl
  refine (sBlanks_any p.indent _ hin.1 (by omega)).mono ?_
  rw [← hbl]
  rintro e w1 ⟨rfl, rfl⟩
  clear hbl
  go_wp2
  go_loopw [5, 6, 7] (fun v s i wr => ∃ (k : Nat) (os : List ByteArray) (t : ByteArray), k < p.chunks.length ∧ i = .int .i64 k ∧ s = .string t ∧ t.size ≤ 100 + k * 1048577 ∧ os.length ≤ k ∧ Hid (os ++ ren p.indent vs t (p.chunks.drop k) = linesOf p vs) ∧ wr.ownsRow (w.heap.size + 1) 9 1 v os.length (strVals os) ∧ Below W0.heap.size W0 wr) (fun _ _ i _ => p.chunks.length - (intOf i).toNat)
  case atStart => exact ⟨0, [], bl, by omega, rfl, rfl, by omega, Nat.zero_le _, hidOf (by rw [HBL.out]; rfl), O1, B1⟩
  case round =>
    obtain ⟨k, os, t, hk, rfl, rfl, hts, hol, HI, hown, hb⟩ := hrel
    obtain ⟨ao, cv, rfl⟩ := owns_slice hown
    have BW := B0.trans (hb.mono B0.size)
    have hzr := hb.size
    obtain ⟨-, c0, c1, c2, c3, c4⟩ := X0.below hb hX
    obtain ⟨x, ex⟩ : ∃ x, p.chunks[k]? = some x := ⟨_, List.getElem?_eq_getElem hk⟩
    have hxs := hF.texts k x ex
    obtain ⟨b1, o1, ea, hb1, hc1'⟩ := I0.chunks (by omega)
    obtain ⟨p0, p1, p2, p3, p4⟩ := chC (w := wr) (fun j hj => by rw [hb.cell hb1]; exact hc1' k x ex j hj)
    have hpv : pcV p l = .agg #[.int .i64 p.indent, .slice l.a1 p.rules.length l.c1, .slice (some ⟨b1, o1, none⟩) p.chunks.length l.c2, .slice l.a3 p.spans.length l.c3, .slice l.a4 p.ties.length l.c4] := by show Value.agg _ = _; rw [ea]
    have hA : (0 : Int) ≤ (k : Int) := by omega
    have hB : (k : Int) < (p.chunks.length : Int) := by omega
    have hst : (t ++ x.text).size ≤ 100 + k * 1048577 + 1048576 := by rw [app_size]; omega
    by_cases hlast : k + 1 = p.chunks.length
    · have HE := hidOf (show os ++ [t ++ x.text] = linesOf p vs by have h := HI.out; rw [ren_last t ex hlast] at h; exact h)
      have hq : ((k : Int) + 1 == (p.chunks.length : Int)) = true := by simp; omega
      rw [ea] at c2
      clear ex hc1' ea hpv I0
      go_wp2_with (at_builtin; refine wpList_append_own _ rfl _ _ 44 rfl (w.heap.size + 1) 9 i0 (.string ByteArray.empty) 1 16 Tryz.underlying44 hi hz0 hz1 hz2 rfl (by decide) _ _ _ rfl (hown.alloc _) ⟨wr.heap.size, 0, none⟩ 1 1 [.string (t ++ x.text)] rfl rfl (cell_one_new _ _ _) (fun x hx => by simp at hx; subst hx; rfl) (by unfold maxLen; omega) (by omega) (by simp; omega) ?_; intro v' w5 hown' hgrow5 hnil5)
      go_ret
      have hB5 : Below w.heap.size w w5 := (BW.alloc BW.size _).grown hgrow5 (by have := BW.size; simp; omega) (fun q hq => by have := (hown.lt q hq).1; omega)
      rw [← HE.out]
      exact ⟨hB5, _, rfl, ownsRow_base (by simpa [strVals] using hown') (by omega)⟩
    · have hq : ((k : Int) + 1 == (p.chunks.length : Int)) = false := by simp; omega
      have q0 := sSpl1_any p l a c vs k x wr hF hm0 (I0.below hb (Nat.le_refl _)) (V0.below hb (Nat.le_refl _)) h1 h2 (by omega) ex
      rw [hpv] at q0
      rw [ea] at c2
      obtain ⟨-, hs⟩ := h1.chunks.texts k x ex
      obtain ⟨-, -, hn1, hn2⟩ := hs (by omega)
      have C := fun (W : World) (hB : Below W0.heap.size W0 W) => And.intro (X0.below hB hX) (chC (w := W) (fun j hj => by rw [hB.cell hb1]; exact hc1' k x ex j hj))
      cases hsp : spl vs x with
      | true =>
        rw [hsp] at q0
        have HE := hidOf (show (os ++ [t ++ x.text]) ++ ren p.indent vs (blanks (p.indent + x.nest)) (p.chunks.drop (k + 1)) = linesOf p vs by have h := HI.out; rw [ren_split t ex (by omega) hsp] at h; rw [← h]; simp)
        have HA := hidOf ea
        clear ex hc1' ea hpv hsp hs
        go_wp2_with fail
        refine q0.mono ?_
        rintro e w3 ⟨rfl, hb3⟩
        have A3 := hb.trans (hb3.mono hb.size)
        have O3 := owns_below hown hb3
        have hz3 := A3.size
        clear q0 hb3 hown c0 c1 c2 c3 c4 p0 p1 p2 p3 p4
        go_wp2_with (at_builtin; refine wpList_append_own _ rfl _ _ 44 rfl (w.heap.size + 1) 9 i0 (.string ByteArray.empty) 1 16 Tryz.underlying44 hi hz0 hz1 hz2 rfl (by decide) _ _ _ rfl (O3.alloc _) ⟨w3.heap.size, 0, none⟩ 1 1 [.string (t ++ x.text)] rfl rfl (cell_one_new _ _ _) (fun x hx => by simp at hx; subst hx; rfl) (by unfold maxLen; omega) (by omega) (by simp; omega) ?_; intro v' w5 hown' hgrow5 hnil5)
        have A5 : Below W0.heap.size W0 w5 := (A3.alloc hz3 _).grown hgrow5 (by simp; omega) (fun q hq => by have := (O3.lt q hq).1; omega)
        obtain ⟨⟨-, c0, c1, c2, c3, c4⟩, p0, p1, p2, p3, p4⟩ := C w5 A5
        rw [HA.out] at c2
        have hwv : IntKind.i64.wrap (p.indent + x.nest) = p.indent + x.nest := IntWalk.i64_in _ ⟨by omega, by omega⟩
        have hbq := fun W => sBlanks_any (p.indent + x.nest) W (by omega) (by omega)
        obtain ⟨bn, hbn⟩ : ∃ bn, bn = blanks (p.indent + x.nest) := ⟨_, rfl⟩
        have hbz : bn.size ≤ 100 := by rw [hbn, blanks_size]; omega
        rw [← hbn] at hbq HE
        clear hbn C
        go_quiet ((go_at_call 81; exact Calls.quiet_of_same (hbq _)))
        go_wp2
        go_roundw
        case rel => exact ⟨k + 1, os ++ [t ++ x.text], bn, by omega, by go_num, rfl, by omega, by simp; omega, HE, owns_below (by simpa [strVals] using hown') (below_drewN _ _), bel_drewN A5 _⟩
        case measure => simp [intOf]; omega
      | false =>
        rw [hsp] at q0
        have h0 := HI.out
        rw [ren_join t ex (by omega) hsp] at h0
        have HA := hidOf ea
        cases hbl : x.space with
        | true =>
          rw [sp1_yes hbl] at h0
          have HE := hidOf h0
          clear ex hc1' ea hpv hsp hs h0
          go_wp2_with fail
          refine q0.mono ?_
          rintro e w3 ⟨rfl, hb3⟩
          have A3 := hb.trans (hb3.mono hb.size)
          have O3 := owns_below hown hb3
          clear q0 hb3 hown c0 c1 c2 c3 c4 p0 p1 p2 p3 p4
          obtain ⟨⟨-, c0, c1, c2, c3, c4⟩, p0, p1, p2, p3, p4⟩ := C w3 A3
          rw [HA.out] at c2
          rw [hbl] at p3
          clear C hbl
          go_wp2
          go_roundw
          case rel => exact ⟨k + 1, os, _, by omega, by go_num, rfl, by rw [app_size]; show (t ++ x.text).size + 1 ≤ _; omega, by omega, HE, O3, A3⟩
          case measure => simp [intOf]; omega
        | false =>
          rw [sp1_no hbl, app_none] at h0
          have HE := hidOf h0
          clear ex hc1' ea hpv hsp hs h0
          go_wp2_with fail
          refine q0.mono ?_
          rintro e w3 ⟨rfl, hb3⟩
          have A3 := hb.trans (hb3.mono hb.size)
          have O3 := owns_below hown hb3
          clear q0 hb3 hown c0 c1 c2 c3 c4 p0 p1 p2 p3 p4
          obtain ⟨⟨-, c0, c1, c2, c3, c4⟩, p0, p1, p2, p3, p4⟩ := C w3 A3
          rw [HA.out] at c2
          rw [hbl] at p3
          clear C hbl
          go_wp2
          go_roundw
          case rel => exact ⟨k + 1, os, _, by omega, by go_num, rfl, by omega, by omega, HE, O3, A3⟩
          case measure => simp [intOf]; omega
end Go.Proofs.YtghfpcjgionbaaaGreat
/- What impl.WritePiece answers: the lines of what Search tells, and its state. -/
namespace Go.Proofs.YtghfpcjgionbaaaGreat
open Go.RowKit

theorem infoWr : (Tryz.prog.info? 46).map (·.size) = some 2 := by kernel_rfl
/-- Lines in memory of their own, and a state. -/
def WrAns (ss : List ByteArray) (s : Int) (w : World) (e : Ending) (w' : World) : Prop :=
  Below w.heap.size w w' ∧ ∃ a c, e = .returned (.agg #[.slice a ss.length c, .int .i64 s]) ∧ w'.ownsRow w.heap.size 9 1 (.slice a ss.length c) ss.length (strVals ss)

set_option maxHeartbeats 8000000 in
theorem iWrite_of (p : Pc) (l : Pl) (wd bud : Int) (w : World) (ks : List Int) (s : Int) (ss : List ByteArray) (hp : PcIn w p l)
    (qS : ∀ W : World, PcIn W p l → Calls Tryz.prog 9 #[pcV p l, .int .i64 wd, .int .i64 bud] W fun e w' => SeAns (ks, s) W e w')
    (qR : ∀ (a : Option Addr) (c : Nat) (W : World), PcIn W p l → KidsAt W a ks → Calls Tryz.prog 50 #[pcV p l, .slice a ks.length c] W fun e w' => StrsAns ss 9 W e w') :
    Calls Tryz.prog 16 #[pcV p l, .int .i64 wd, .int .i64 bud] w fun e w' => WrAns ss s w e w' := by
  show Calls _ _ #[.agg #[.int .i64 p.indent, .slice l.a1 p.rules.length l.c1, .slice l.a2 p.chunks.length l.c2, .slice l.a3 p.spans.length l.c3, .slice l.a4 p.ties.length l.c4], _, _] _ _
  obtain ⟨W0, hW0, X0, B0, S0⟩ := boxed w p l 37
  have hX : w.heap.size < W0.heap.size := by omega
  have I0 := hp.below B0 (Nat.le_refl _)
  unfold pcV at qS qR
  go_enter Tryz.func16, Tryz.ntmps16
  go_wp2_with fail
  rw [← hW0]
  obtain ⟨W1, hW1⟩ : ∃ W1, W1 = W0.alloc (.cells #[.slice none 0 0, .int .i64 0] 46) := ⟨_, rfl⟩
  rw [← hW1]
  have B1 : Below W0.heap.size W0 W1 := by rw [hW1]; exact (Below.refl _ _).alloc (Nat.le_refl _) _
  have F1 : W1.heap[w.heap.size + 1]? = some (.cells #[.slice none 0 0, .int .i64 0] 46 (0, 0)) := by rw [hW1, ← S0]; exact heap_alloc_new W0 _
  have z1 : w.heap.size + 1 < W1.heap.size := by rw [hW1]; simp; omega
  clear hW0 hW1 hp S0
  refine (qS _ (I0.below B1 (Nat.le_refl _))).mono ?_
  rintro e w2 ⟨A2, a, c, rfl, ho⟩
  dsimp only at ho
  have C2 := B1.trans (A2.mono B1.size)
  clear qS
  obtain ⟨-, c0, c1, c2, c3, c4⟩ := X0.below C2 hX
  go_wp2_with fail
  refine (qR _ _ _ (I0.below C2 (Nat.le_refl _)) (.of_own ho)).mono ?_
  rintro e w3 ⟨hb3, v, rfl, hr⟩
  obtain ⟨av, cv, rfl⟩ := owns_slice hr
  have A3 := A2.trans (hb3.mono A2.size)
  have F3 := (A3.block (w.heap.size + 1) z1).trans F1
  have y0 : w3.cell? ⟨w.heap.size + 1, 0, none⟩ = some (.slice none 0 0) := by rw [Lib.cell_of_heap F3]; rfl
  have y1 : w3.cell? ⟨w.heap.size + 1, 1, none⟩ = some (.int .i64 0) := by rw [Lib.cell_of_heap F3]; rfl
  have f0 := Lib.frozen_of_heap F3 0
  have f1 := Lib.frozen_of_heap F3 1
  have BW : Below w.heap.size w w3 := B0.trans ((B1.trans (A3.mono B1.size)).mono B0.size)
  have hz2 : w.heap.size + 1 < w2.heap.size := Nat.lt_of_lt_of_le z1 A2.size
  have HR := hidOf hr
  clear c0 c1 c2 c3 c4 qR A2 A3 hb3 C2 F1 ho hr
  go_wp2
  refine bodyPost_ret (results_one2 rfl _ _ (w.heap.size + 1) (.slice av ss.length cv) (.int .i64 s) _ rfl ?_ ?_ Tryz.underlying46 rfl infoWr) rfl ?_
  · go_simp
  · go_simp
  · have q1 : w.heap.size ≤ w.heap.size + 1 := by omega
    exact ⟨(BW.setCell q1 _).setCell q1 _, av, cv, rfl, ownsRow_base (ownsRow_setCell_below (ownsRow_setCell_below HR.out hz2 _) hz2 _) (by omega)⟩

end Go.Proofs.YtghfpcjgionbaaaGreat
/- What WritePiece answers, on both sides: the lines of what Search tells, and its state. -/
namespace Go.Proofs.YtghfpcjgionbaaaGreat
open Go.RowKit

set_option maxHeartbeats 8000000 in
theorem sWrite_yes (p : Pc) (l : Pl) (wd bud : Int) (w : World) (ks : List Int) (s : Int) (ss : List ByteArray) (hF : PcFew p) (hp : PcIn w p l) (h1 : Right p)
    (qS : ∀ W : World, PcIn W p l → Calls Tryz.prog 7 #[pcV p l, .int .i64 wd, .int .i64 bud] W fun e w' => SeAns (ks, s) W e w')
    (qR : ∀ (a : Option Addr) (c : Nat) (W : World), PcIn W p l → KidsAt W a ks → Calls Tryz.prog 49 #[pcV p l, .slice a ks.length c] W fun e w' => StrsAns ss 9 W e w') :
    Calls Tryz.prog 15 #[pcV p l, .int .i64 wd, .int .i64 bud] w fun e w' => WrAns ss s w e w' := by
  show Calls _ _ #[.agg #[.int .i64 p.indent, .slice l.a1 p.rules.length l.c1, .slice l.a2 p.chunks.length l.c2, .slice l.a3 p.spans.length l.c3, .slice l.a4 p.ties.length l.c4], _, _] _ _
  obtain ⟨W0, hW0, X0, B0, S0⟩ := boxed w p l 37
  have hX : w.heap.size < W0.heap.size := by omega
  have I0 := hp.below B0 (Nat.le_refl _)
  have qO := fun W hI => sOk_any p l W hF hI
  unfold pcV at qS qR qO
  go_enter Tryz.func15, Tryz.ntmps15
  go_wp2_with fail
  rw [← hW0]
  obtain ⟨W1, hW1⟩ : ∃ W1, W1 = W0.alloc (.cells #[.slice none 0 0, .int .i64 0] 46) := ⟨_, rfl⟩
  rw [← hW1]
  have B1 : Below W0.heap.size W0 W1 := by rw [hW1]; exact (Below.refl _ _).alloc (Nat.le_refl _) _
  have F1 : W1.heap[w.heap.size + 1]? = some (.cells #[.slice none 0 0, .int .i64 0] 46 (0, 0)) := by rw [hW1, ← S0]; exact heap_alloc_new W0 _
  have z1 : w.heap.size + 1 < W1.heap.size := by rw [hW1]; simp; omega
  clear hW0 hW1 hp S0
  refine (qO _ (I0.below B1 (Nat.le_refl _))).mono ?_
  rintro e w1 hq
  obtain ⟨rfl, A1⟩ := hq.yes h1
  clear hq qO
  have C1 := B1.trans (A1.mono B1.size)
  obtain ⟨-, c0, c1, c2, c3, c4⟩ := X0.below C1 hX
  go_wp2_with fail
  refine (qS _ (I0.below C1 (Nat.le_refl _))).mono ?_
  rintro e w2 ⟨hb2, a, c, rfl, ho⟩
  dsimp only at ho
  have A2 := A1.trans (hb2.mono A1.size)
  have C2 := B1.trans (A2.mono B1.size)
  clear qS hb2 C1 c0 c1 c2 c3 c4 A1
  obtain ⟨-, c0, c1, c2, c3, c4⟩ := X0.below C2 hX
  go_wp2_with fail
  refine (qR _ _ _ (I0.below C2 (Nat.le_refl _)) (.of_own ho)).mono ?_
  rintro e w3 ⟨hb3, v, rfl, hr⟩
  obtain ⟨av, cv, rfl⟩ := owns_slice hr
  have A3 := A2.trans (hb3.mono A2.size)
  have F3 := (A3.block (w.heap.size + 1) z1).trans F1
  have y0 : w3.cell? ⟨w.heap.size + 1, 0, none⟩ = some (.slice none 0 0) := by rw [Lib.cell_of_heap F3]; rfl
  have y1 : w3.cell? ⟨w.heap.size + 1, 1, none⟩ = some (.int .i64 0) := by rw [Lib.cell_of_heap F3]; rfl
  have f0 := Lib.frozen_of_heap F3 0
  have f1 := Lib.frozen_of_heap F3 1
  have BW : Below w.heap.size w w3 := B0.trans ((B1.trans (A3.mono B1.size)).mono B0.size)
  have hz2 : w.heap.size + 1 < w2.heap.size := Nat.lt_of_lt_of_le z1 A2.size
  have HR := hidOf hr
  clear c0 c1 c2 c3 c4 qR A2 A3 hb3 C2 F1 ho hr
  go_wp2
  refine bodyPost_ret (results_one2 rfl _ _ (w.heap.size + 1) (.slice av ss.length cv) (.int .i64 s) _ rfl ?_ ?_ Tryz.underlying46 rfl infoWr) rfl ?_
  · go_simp
  · go_simp
  · have q1 : w.heap.size ≤ w.heap.size + 1 := by omega
    exact ⟨(BW.setCell q1 _).setCell q1 _, av, cv, rfl, ownsRow_base (ownsRow_setCell_below (ownsRow_setCell_below HR.out hz2 _) hz2 _) (by omega)⟩

/-- Nothing is told: the empty list is made behind the stores. -/
theorem none_wr {w w1 : World} (hb : Below w.heap.size w w1) (hz : w.heap.size + 1 < w1.heap.size) (hf : w1.heap[w.heap.size + 1]? = some (.cells #[.slice none 0 0, .int .i64 0] 46 (0, 0))) :
    (((w1.setCell ⟨w.heap.size + 1, 0, none⟩ (.slice (some ⟨w1.heap.size, 0, none⟩) 0 0)).setCell ⟨w.heap.size + 1, 1, none⟩ (.int .i64 0)).alloc (.cells #[] 9)).cell? ⟨w.heap.size + 1, 0, none⟩ = some (.slice (some ⟨w1.heap.size, 0, none⟩) 0 0) ∧
    (((w1.setCell ⟨w.heap.size + 1, 0, none⟩ (.slice (some ⟨w1.heap.size, 0, none⟩) 0 0)).setCell ⟨w.heap.size + 1, 1, none⟩ (.int .i64 0)).alloc (.cells #[] 9)).cell? ⟨w.heap.size + 1, 1, none⟩ = some (.int .i64 0) ∧
    Below w.heap.size w (((w1.setCell ⟨w.heap.size + 1, 0, none⟩ (.slice (some ⟨w1.heap.size, 0, none⟩) 0 0)).setCell ⟨w.heap.size + 1, 1, none⟩ (.int .i64 0)).alloc (.cells #[] 9)) ∧
    (((w1.setCell ⟨w.heap.size + 1, 0, none⟩ (.slice (some ⟨w1.heap.size, 0, none⟩) 0 0)).setCell ⟨w.heap.size + 1, 1, none⟩ (.int .i64 0)).alloc (.cells #[] 9)).ownsRow w.heap.size 9 1 (.slice (some ⟨w1.heap.size, 0, none⟩) 0 0) 0 [] := by
  have q1 : w.heap.size ≤ w.heap.size + 1 := by omega
  have s1 := heap_setCell_same w1 (w.heap.size + 1) 0 _ _ (.slice (some ⟨w1.heap.size, 0, none⟩) 0 0) hf
  have s2 := heap_setCell_same _ (w.heap.size + 1) 1 _ _ (.int .i64 0) s1
  have hs : ((w1.setCell ⟨w.heap.size + 1, 0, none⟩ (.slice (some ⟨w1.heap.size, 0, none⟩) 0 0)).setCell ⟨w.heap.size + 1, 1, none⟩ (.int .i64 0)).heap.size = w1.heap.size := by simp
  have hb2 := (hb.setCell (p := ⟨w.heap.size + 1, 0, none⟩) q1 (.slice (some ⟨w1.heap.size, 0, none⟩) 0 0)).setCell (p := ⟨w.heap.size + 1, 1, none⟩) q1 (.int .i64 0)
  generalize (w1.setCell ⟨w.heap.size + 1, 0, none⟩ (.slice (some ⟨w1.heap.size, 0, none⟩) 0 0)).setCell ⟨w.heap.size + 1, 1, none⟩ (.int .i64 0) = u at s1 s2 hs hb2 ⊢
  have s3 := (Below.heap_alloc u (.cells #[] 9) (w.heap.size + 1) (by omega)).trans s2
  refine ⟨cell_of_row _ _ 0 _ _ _ s3, cell_of_row _ _ 1 _ _ _ s3, hb2.alloc hb2.size _, ?_⟩
  rw [← hs]
  exact ⟨rfl, .inr ⟨u.heap.size, 0, #[], rfl, hb2.size, heap_alloc_new u _, Nat.le_refl _, by unfold maxLen; omega, rfl, rfl⟩⟩

set_option maxHeartbeats 8000000 in
theorem sWrite_no (p : Pc) (l : Pl) (wd bud : Int) (w : World) (hF : PcFew p) (hp : PcIn w p l) (h1 : ¬ Right p) :
    Calls Tryz.prog 15 #[pcV p l, .int .i64 wd, .int .i64 bud] w fun e w' => WrAns [] 0 w e w' := by
  show Calls _ _ #[.agg #[.int .i64 p.indent, .slice l.a1 p.rules.length l.c1, .slice l.a2 p.chunks.length l.c2, .slice l.a3 p.spans.length l.c3, .slice l.a4 p.ties.length l.c4], _, _] _ _
  obtain ⟨W0, hW0, X0, B0, S0⟩ := boxed w p l 37
  have hX : w.heap.size < W0.heap.size := by omega
  have I0 := hp.below B0 (Nat.le_refl _)
  have qO := fun W hI => sOk_any p l W hF hI
  unfold pcV at qO
  go_enter Tryz.func15, Tryz.ntmps15
  go_wp2_with fail
  rw [← hW0]
  obtain ⟨W1, hW1⟩ : ∃ W1, W1 = W0.alloc (.cells #[.slice none 0 0, .int .i64 0] 46) := ⟨_, rfl⟩
  rw [← hW1]
  have B1 : Below W0.heap.size W0 W1 := by rw [hW1]; exact (Below.refl _ _).alloc (Nat.le_refl _) _
  have F1 : W1.heap[w.heap.size + 1]? = some (.cells #[.slice none 0 0, .int .i64 0] 46 (0, 0)) := by rw [hW1, ← S0]; exact heap_alloc_new W0 _
  have z1 : w.heap.size + 1 < W1.heap.size := by rw [hW1]; simp; omega
  clear hW0 hW1 hp S0
  refine (qO _ (I0.below B1 (Nat.le_refl _))).mono ?_
  rintro e w1 hq
  obtain ⟨rfl, A1⟩ := hq.no h1
  clear hq qO
  have F3 := (A1.block (w.heap.size + 1) z1).trans F1
  have y0 : w1.cell? ⟨w.heap.size + 1, 0, none⟩ = some (.slice none 0 0) := by rw [Lib.cell_of_heap F3]; rfl
  have y1 : w1.cell? ⟨w.heap.size + 1, 1, none⟩ = some (.int .i64 0) := by rw [Lib.cell_of_heap F3]; rfl
  have f0 := Lib.frozen_of_heap F3 0
  have f1 := Lib.frozen_of_heap F3 1
  have BW : Below w.heap.size w w1 := B0.trans ((B1.trans (A1.mono B1.size)).mono B0.size)
  have hz2 : w.heap.size + 1 < w1.heap.size := Nat.lt_of_lt_of_le z1 A1.size
  have O5 := hidOf (none_wr BW hz2 F3)
  clear A1 F1
  go_wp2
  obtain ⟨t0, t1, t2, t3⟩ := O5.out
  exact bodyPost_ret (results_one2 rfl _ _ (w.heap.size + 1) _ _ _ rfl t0 t1 Tryz.underlying46 rfl infoWr) rfl ⟨t2, _, _, rfl, t3⟩

/-- Both sides' answer, whatever comes. -/
theorem write_key (p : Pc) (wd bud : Int) (hbd : -9223372036854775808 ≤ bud ∧ bud ≤ 9223372036854775807) (hF : PcFew p) : ∃ (ss : List ByteArray) (s : Int), ss.length ≤ 81 ∧
    (∀ (l : Pl) (w : World), PcIn w p l → Calls Tryz.prog 15 #[pcV p l, .int .i64 wd, .int .i64 bud] w fun e w' => WrAns ss s w e w') ∧
    (∀ (l : Pl) (w : World), p.chunks.length ≤ l.c2 → PcIn w p l → Calls Tryz.prog 16 #[pcV p l, .int .i64 wd, .int .i64 bud] w fun e w' => WrAns ss s w e w') := by
  by_cases h1 : Right p
  · have hv : ValOk p (srchOf p wd bud (allV p)).1 := (srchOf_some h1 (allR_ties h1)).1.vals
    have h8 : (srchOf p wd bud (allV p)).1.length ≤ 8 := by rw [hv.len]; exact h1.rules.1
    have hm : (srchOf p wd bud (allV p)).1.length ≤ 1048576 := by omega
    refine ⟨linesOf p (srchOf p wd bud (allV p)).1, (srchOf p wd bud (allV p)).2, ?_, ?_, ?_⟩
    · have h2 := ren_len p.indent (srchOf p wd bud (allV p)).1 p.chunks (blanks p.indent)
      have h3 := h1.chunks.most
      unfold linesOf
      omega
    · exact fun l w hp => sWrite_yes p l wd bud w _ _ _ hF hp h1 (fun W hP => sSearch_yes p l wd bud W hbd hF hP h1) (fun a c W hP hK => sRen_lines p l a c _ W hF hm hP hK h1 hv)
    · exact fun l w hc hp => iWrite_of p l wd bud w _ _ _ hp (fun W hP => iSearch_yes p l wd bud W hbd hF hc hP h1) (fun a c W hP hK => iRen_yes p l a c _ W hF hm hP hK h1 hv)
  · refine ⟨[], 0, by simp, ?_, ?_⟩
    · exact fun l w hp => sWrite_no p l wd bud w hF hp h1
    · exact fun l w _ hp => iWrite_of p l wd bud w [] 0 [] hp (fun W hP => iSearch_no p l wd bud W hF hP h1) (fun a c W hP hK => iRen_no p l a c [] W hF (by simp) hP hK (fun h => h1 h.1))
end Go.Proofs.YtghfpcjgionbaaaGreat
