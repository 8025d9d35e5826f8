/- What WritePiece answers, on both sides: the lines of what Search tells, and its state. -/
import Derived.Test.YtlcaimpminbdkaaGreatKau
import Derived.Test.YtlcaimpminbdkaaGreatKaw
import Derived.Test.YtlcaimpminbdkaaGreatKak
namespace Go.Proofs.YtlcaimpminbdkaaGreat
open Go.RowKit

theorem infoWr : (Tryz.prog.info? 31).map (·.size) = some 2 := by kernel_rfl
/-- Lines in memory of their own, and a state. -/
def WrAns (ss : List ByteArray) (s : Int) (w : World) (e : Ending) (w' : World) : Prop :=
  Below w.heap.size w w' ∧ ∃ a c, e = .returned (.agg #[.slice a ss.length c, .int .i64 s]) ∧ w'.ownsRow w.heap.size 9 1 (.slice a ss.length c) ss.length (strVals ss)

set_option maxHeartbeats 8000000 in
theorem iWrite_of (p : Pc) (l : Pl) (wd bud : Int) (w : World) (ks : List Int) (s : Int) (ss : List ByteArray) (hp : PcIn w p l)
    (qS : ∀ W : World, PcIn W p l → Calls Tryz.prog 24 #[pcV p l, .int .i64 wd, .int .i64 bud] W fun e w' => SeAns (ks, s) W e w')
    (qR : ∀ (a : Option Addr) (c : Nat) (W : World), PcIn W p l → KidsAt W a ks → Calls Tryz.prog 25 #[pcV p l, .slice a ks.length c] W fun e w' => StrsAns ss 9 W e w') :
    Calls Tryz.prog 7 #[pcV p l, .int .i64 wd, .int .i64 bud] w fun e w' => WrAns ss s w e w' := by
  show Calls _ _ #[.agg #[.int .i64 p.indent, .slice l.a1 p.rules.length l.c1, .slice l.a2 p.chunks.length l.c2, .slice l.a3 p.spans.length l.c3, .slice l.a4 p.ties.length l.c4], _, _] _ _
  obtain ⟨W0, hW0, X0, B0, S0⟩ := boxed w p l 38
  have hX : w.heap.size < W0.heap.size := by omega
  have I0 := hp.below B0 (Nat.le_refl _)
  unfold pcV at qS qR
  go_enter Tryz.func7, Tryz.ntmps7
  go_wp2_with fail
  rw [← hW0]
  obtain ⟨W1, hW1⟩ : ∃ W1, W1 = W0.alloc (.cells #[.slice none 0 0, .int .i64 0] 31) := ⟨_, rfl⟩
  rw [← hW1]
  have B1 : Below W0.heap.size W0 W1 := by rw [hW1]; exact (Below.refl _ _).alloc (Nat.le_refl _) _
  have F1 : W1.heap[w.heap.size + 1]? = some (.cells #[.slice none 0 0, .int .i64 0] 31 (0, 0)) := by rw [hW1, ← S0]; exact heap_alloc_new W0 _
  have z1 : w.heap.size + 1 < W1.heap.size := by rw [hW1]; simp; omega
  clear hW0 hW1 hp S0
  refine (qS _ (I0.below B1 (Nat.le_refl _))).mono ?_
  rintro e w2 ⟨A2, a, c, rfl, ho⟩
  dsimp only at ho
  have C2 := B1.trans (A2.mono B1.size)
  clear qS
  obtain ⟨-, c0, c1, c2, c3, c4⟩ := X0.below C2 hX
  go_wp2_with fail
  refine (qR _ _ _ (I0.below C2 (Nat.le_refl _)) (.of_own ho)).mono ?_
  rintro e w3 ⟨hb3, v, rfl, hr⟩
  obtain ⟨av, cv, rfl⟩ := owns_slice hr
  have A3 := A2.trans (hb3.mono A2.size)
  have F3 := (A3.block (w.heap.size + 1) z1).trans F1
  have y0 : w3.cell? ⟨w.heap.size + 1, 0, none⟩ = some (.slice none 0 0) := by rw [Lib.cell_of_heap F3]; rfl
  have y1 : w3.cell? ⟨w.heap.size + 1, 1, none⟩ = some (.int .i64 0) := by rw [Lib.cell_of_heap F3]; rfl
  have f0 := Lib.frozen_of_heap F3 0
  have f1 := Lib.frozen_of_heap F3 1
  have BW : Below w.heap.size w w3 := B0.trans ((B1.trans (A3.mono B1.size)).mono B0.size)
  have hz2 : w.heap.size + 1 < w2.heap.size := Nat.lt_of_lt_of_le z1 A2.size
  have HR := hidOf hr
  clear c0 c1 c2 c3 c4 qR A2 A3 hb3 C2 F1 ho hr
  go_wp2
  refine bodyPost_ret (results_one2 rfl _ _ (w.heap.size + 1) (.slice av ss.length cv) (.int .i64 s) _ rfl ?_ ?_ Tryz.underlying31 rfl infoWr) rfl ?_
  · go_simp
  · go_simp
  · have q1 : w.heap.size ≤ w.heap.size + 1 := by omega
    exact ⟨(BW.setCell q1 _).setCell q1 _, av, cv, rfl, ownsRow_base (ownsRow_setCell_below (ownsRow_setCell_below HR.out hz2 _) hz2 _) (by omega)⟩

set_option maxHeartbeats 8000000 in
theorem sWrite_yes (p : Pc) (l : Pl) (wd bud : Int) (w : World) (ks : List Int) (s : Int) (ss : List ByteArray) (hF : PcFew p) (hp : PcIn w p l) (h1 : Right p)
    (qS : ∀ W : World, PcIn W p l → Calls Tryz.prog 18 #[pcV p l, .int .i64 wd, .int .i64 bud] W fun e w' => SeAns (ks, s) W e w')
    (qR : ∀ (a : Option Addr) (c : Nat) (W : World), PcIn W p l → KidsAt W a ks → Calls Tryz.prog 19 #[pcV p l, .slice a ks.length c] W fun e w' => StrsAns ss 9 W e w') :
    Calls Tryz.prog 5 #[pcV p l, .int .i64 wd, .int .i64 bud] w fun e w' => WrAns ss s w e w' := by
  show Calls _ _ #[.agg #[.int .i64 p.indent, .slice l.a1 p.rules.length l.c1, .slice l.a2 p.chunks.length l.c2, .slice l.a3 p.spans.length l.c3, .slice l.a4 p.ties.length l.c4], _, _] _ _
  obtain ⟨W0, hW0, X0, B0, S0⟩ := boxed w p l 38
  have hX : w.heap.size < W0.heap.size := by omega
  have I0 := hp.below B0 (Nat.le_refl _)
  have qO := fun W hI => sOk_any p l W hF hI
  unfold pcV at qS qR qO
  go_enter Tryz.func5, Tryz.ntmps5
  go_wp2_with fail
  rw [← hW0]
  obtain ⟨W1, hW1⟩ : ∃ W1, W1 = W0.alloc (.cells #[.slice none 0 0, .int .i64 0] 31) := ⟨_, rfl⟩
  rw [← hW1]
  have B1 : Below W0.heap.size W0 W1 := by rw [hW1]; exact (Below.refl _ _).alloc (Nat.le_refl _) _
  have F1 : W1.heap[w.heap.size + 1]? = some (.cells #[.slice none 0 0, .int .i64 0] 31 (0, 0)) := by rw [hW1, ← S0]; exact heap_alloc_new W0 _
  have z1 : w.heap.size + 1 < W1.heap.size := by rw [hW1]; simp; omega
  clear hW0 hW1 hp S0
  refine (qO _ (I0.below B1 (Nat.le_refl _))).mono ?_
  rintro e w1 hq
  obtain ⟨rfl, A1⟩ := hq.yes h1
  clear hq qO
  have C1 := B1.trans (A1.mono B1.size)
  obtain ⟨-, c0, c1, c2, c3, c4⟩ := X0.below C1 hX
  go_wp2_with fail
  refine (qS _ (I0.below C1 (Nat.le_refl _))).mono ?_
  rintro e w2 ⟨hb2, a, c, rfl, ho⟩
  dsimp only at ho
  have A2 := A1.trans (hb2.mono A1.size)
  have C2 := B1.trans (A2.mono B1.size)
  clear qS hb2 C1 c0 c1 c2 c3 c4 A1
  obtain ⟨-, c0, c1, c2, c3, c4⟩ := X0.below C2 hX
  go_wp2_with fail
  refine (qR _ _ _ (I0.below C2 (Nat.le_refl _)) (.of_own ho)).mono ?_
  rintro e w3 ⟨hb3, v, rfl, hr⟩
  obtain ⟨av, cv, rfl⟩ := owns_slice hr
  have A3 := A2.trans (hb3.mono A2.size)
  have F3 := (A3.block (w.heap.size + 1) z1).trans F1
  have y0 : w3.cell? ⟨w.heap.size + 1, 0, none⟩ = some (.slice none 0 0) := by rw [Lib.cell_of_heap F3]; rfl
  have y1 : w3.cell? ⟨w.heap.size + 1, 1, none⟩ = some (.int .i64 0) := by rw [Lib.cell_of_heap F3]; rfl
  have f0 := Lib.frozen_of_heap F3 0
  have f1 := Lib.frozen_of_heap F3 1
  have BW : Below w.heap.size w w3 := B0.trans ((B1.trans (A3.mono B1.size)).mono B0.size)
  have hz2 : w.heap.size + 1 < w2.heap.size := Nat.lt_of_lt_of_le z1 A2.size
  have HR := hidOf hr
  clear c0 c1 c2 c3 c4 qR A2 A3 hb3 C2 F1 ho hr
  go_wp2
  refine bodyPost_ret (results_one2 rfl _ _ (w.heap.size + 1) (.slice av ss.length cv) (.int .i64 s) _ rfl ?_ ?_ Tryz.underlying31 rfl infoWr) rfl ?_
  · go_simp
  · go_simp
  · have q1 : w.heap.size ≤ w.heap.size + 1 := by omega
    exact ⟨(BW.setCell q1 _).setCell q1 _, av, cv, rfl, ownsRow_base (ownsRow_setCell_below (ownsRow_setCell_below HR.out hz2 _) hz2 _) (by omega)⟩

/-- Nothing is told: the empty list is made behind the stores. -/
theorem none_wr {w w1 : World} (hb : Below w.heap.size w w1) (hz : w.heap.size + 1 < w1.heap.size) (hf : w1.heap[w.heap.size + 1]? = some (.cells #[.slice none 0 0, .int .i64 0] 31 (0, 0))) :
    (((w1.setCell ⟨w.heap.size + 1, 0, none⟩ (.slice (some ⟨w1.heap.size, 0, none⟩) 0 0)).setCell ⟨w.heap.size + 1, 1, none⟩ (.int .i64 0)).alloc (.cells #[] 9)).cell? ⟨w.heap.size + 1, 0, none⟩ = some (.slice (some ⟨w1.heap.size, 0, none⟩) 0 0) ∧
    (((w1.setCell ⟨w.heap.size + 1, 0, none⟩ (.slice (some ⟨w1.heap.size, 0, none⟩) 0 0)).setCell ⟨w.heap.size + 1, 1, none⟩ (.int .i64 0)).alloc (.cells #[] 9)).cell? ⟨w.heap.size + 1, 1, none⟩ = some (.int .i64 0) ∧
    Below w.heap.size w (((w1.setCell ⟨w.heap.size + 1, 0, none⟩ (.slice (some ⟨w1.heap.size, 0, none⟩) 0 0)).setCell ⟨w.heap.size + 1, 1, none⟩ (.int .i64 0)).alloc (.cells #[] 9)) ∧
    (((w1.setCell ⟨w.heap.size + 1, 0, none⟩ (.slice (some ⟨w1.heap.size, 0, none⟩) 0 0)).setCell ⟨w.heap.size + 1, 1, none⟩ (.int .i64 0)).alloc (.cells #[] 9)).ownsRow w.heap.size 9 1 (.slice (some ⟨w1.heap.size, 0, none⟩) 0 0) 0 [] := by
  have q1 : w.heap.size ≤ w.heap.size + 1 := by omega
  have s1 := heap_setCell_same w1 (w.heap.size + 1) 0 _ _ (.slice (some ⟨w1.heap.size, 0, none⟩) 0 0) hf
  have s2 := heap_setCell_same _ (w.heap.size + 1) 1 _ _ (.int .i64 0) s1
  have hs : ((w1.setCell ⟨w.heap.size + 1, 0, none⟩ (.slice (some ⟨w1.heap.size, 0, none⟩) 0 0)).setCell ⟨w.heap.size + 1, 1, none⟩ (.int .i64 0)).heap.size = w1.heap.size := by simp
  have hb2 := (hb.setCell (p := ⟨w.heap.size + 1, 0, none⟩) q1 (.slice (some ⟨w1.heap.size, 0, none⟩) 0 0)).setCell (p := ⟨w.heap.size + 1, 1, none⟩) q1 (.int .i64 0)
  generalize (w1.setCell ⟨w.heap.size + 1, 0, none⟩ (.slice (some ⟨w1.heap.size, 0, none⟩) 0 0)).setCell ⟨w.heap.size + 1, 1, none⟩ (.int .i64 0) = u at s1 s2 hs hb2 ⊢
  have s3 := (Below.heap_alloc u (.cells #[] 9) (w.heap.size + 1) (by omega)).trans s2
  refine ⟨cell_of_row _ _ 0 _ _ _ s3, cell_of_row _ _ 1 _ _ _ s3, hb2.alloc hb2.size _, ?_⟩
  rw [← hs]
  exact ⟨rfl, .inr ⟨u.heap.size, 0, #[], rfl, hb2.size, heap_alloc_new u _, Nat.le_refl _, by unfold maxLen; omega, rfl, rfl⟩⟩

set_option maxHeartbeats 8000000 in
theorem sWrite_no (p : Pc) (l : Pl) (wd bud : Int) (w : World) (hF : PcFew p) (hp : PcIn w p l) (h1 : ¬ Right p) :
    Calls Tryz.prog 5 #[pcV p l, .int .i64 wd, .int .i64 bud] w fun e w' => WrAns [] 0 w e w' := by
  show Calls _ _ #[.agg #[.int .i64 p.indent, .slice l.a1 p.rules.length l.c1, .slice l.a2 p.chunks.length l.c2, .slice l.a3 p.spans.length l.c3, .slice l.a4 p.ties.length l.c4], _, _] _ _
  obtain ⟨W0, hW0, X0, B0, S0⟩ := boxed w p l 38
  have hX : w.heap.size < W0.heap.size := by omega
  have I0 := hp.below B0 (Nat.le_refl _)
  have qO := fun W hI => sOk_any p l W hF hI
  unfold pcV at qO
  go_enter Tryz.func5, Tryz.ntmps5
  go_wp2_with fail
  rw [← hW0]
  obtain ⟨W1, hW1⟩ : ∃ W1, W1 = W0.alloc (.cells #[.slice none 0 0, .int .i64 0] 31) := ⟨_, rfl⟩
  rw [← hW1]
  have B1 : Below W0.heap.size W0 W1 := by rw [hW1]; exact (Below.refl _ _).alloc (Nat.le_refl _) _
  have F1 : W1.heap[w.heap.size + 1]? = some (.cells #[.slice none 0 0, .int .i64 0] 31 (0, 0)) := by rw [hW1, ← S0]; exact heap_alloc_new W0 _
  have z1 : w.heap.size + 1 < W1.heap.size := by rw [hW1]; simp; omega
  clear hW0 hW1 hp S0
  refine (qO _ (I0.below B1 (Nat.le_refl _))).mono ?_
  rintro e w1 hq
  obtain ⟨rfl, A1⟩ := hq.no h1
  clear hq qO
  have F3 := (A1.block (w.heap.size + 1) z1).trans F1
  have y0 : w1.cell? ⟨w.heap.size + 1, 0, none⟩ = some (.slice none 0 0) := by rw [Lib.cell_of_heap F3]; rfl
  have y1 : w1.cell? ⟨w.heap.size + 1, 1, none⟩ = some (.int .i64 0) := by rw [Lib.cell_of_heap F3]; rfl
  have f0 := Lib.frozen_of_heap F3 0
  have f1 := Lib.frozen_of_heap F3 1
  have BW : Below w.heap.size w w1 := B0.trans ((B1.trans (A1.mono B1.size)).mono B0.size)
  have hz2 : w.heap.size + 1 < w1.heap.size := Nat.lt_of_lt_of_le z1 A1.size
  have O5 := hidOf (none_wr BW hz2 F3)
  clear A1 F1
  go_wp2
  obtain ⟨t0, t1, t2, t3⟩ := O5.out
  exact bodyPost_ret (results_one2 rfl _ _ (w.heap.size + 1) _ _ _ rfl t0 t1 Tryz.underlying31 rfl infoWr) rfl ⟨t2, _, _, rfl, t3⟩

/-- Both sides' answer, whatever comes. -/
theorem write_key (p : Pc) (wd bud : Int) (hbd : -9223372036854775808 ≤ bud ∧ bud ≤ 9223372036854775807) (hF : PcFew p) : ∃ (ss : List ByteArray) (s : Int), ss.length ≤ 81 ∧
    (∀ (l : Pl) (w : World), PcIn w p l → Calls Tryz.prog 5 #[pcV p l, .int .i64 wd, .int .i64 bud] w fun e w' => WrAns ss s w e w') ∧
    (∀ (l : Pl) (w : World), p.chunks.length ≤ l.c2 → PcIn w p l → Calls Tryz.prog 7 #[pcV p l, .int .i64 wd, .int .i64 bud] w fun e w' => WrAns ss s w e w') := by
  by_cases h1 : Right p
  · have hv : ValOk p (srchOf p wd bud (allV p)).1 := (srchOf_some h1 (allR_ties h1)).1.vals
    have h8 : (srchOf p wd bud (allV p)).1.length ≤ 8 := by rw [hv.len]; exact h1.rules.1
    have hm : (srchOf p wd bud (allV p)).1.length ≤ 1048576 := by omega
    refine ⟨linesOf p (srchOf p wd bud (allV p)).1, (srchOf p wd bud (allV p)).2, ?_, ?_, ?_⟩
    · have h2 := ren_len p.indent (srchOf p wd bud (allV p)).1 p.chunks (blanks p.indent)
      have h3 := h1.chunks.most
      unfold linesOf
      omega
    · exact fun l w hp => sWrite_yes p l wd bud w _ _ _ hF hp h1 (fun W hP => sSearch_yes p l wd bud W hbd hF hP h1) (fun a c W hP hK => sRen_lines p l a c _ W hF hm hP hK h1 hv)
    · exact fun l w hc hp => iWrite_of p l wd bud w _ _ _ hp (fun W hP => iSearch_yes p l wd bud W hbd hF hc hP h1) (fun a c W hP hK => iRen_yes p l a c _ W hF hm hP hK h1 hv)
  · refine ⟨[], 0, by simp, ?_, ?_⟩
    · exact fun l w hp => sWrite_no p l wd bud w hF hp h1
    · exact fun l w _ hp => iWrite_of p l wd bud w [] 0 [] hp (fun W hP => iSearch_no p l wd bud W hF hP h1) (fun a c W hP hK => iRen_no p l a c [] W hF (by simp) hP hK (fun h => h1 h.1))
end Go.Proofs.YtlcaimpminbdkaaGreat
