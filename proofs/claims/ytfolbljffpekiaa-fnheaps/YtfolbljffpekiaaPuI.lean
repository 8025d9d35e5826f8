/- What the heap's push and impl.Pushed answer. -/
import Derived.Test.YtfolbljffpekiaaUpI
import Derived.Test.YtfolbljffpekiaaHpOk
import Derived.Test.YtfolbljffpekiaaCpSt
import Derived.Deep.RegionLaw
namespace Go.Proofs.Ytfolbljffpekiaa
open Go.RowKit

set_option maxHeartbeats 8000000 in
theorem push_any (hb B : Nat) (a : Option Addr) (c : Nat) (ps : List Sp) (x : Sp) (w : World) (hn0 : ps.length ≤ 1048576) (hF : Few ps) (hx : x.st.vals.length ≤ 1048576) (hO : Own w B a c ps) (ho : w.ownsRow B 3 1 (.slice x.a x.st.vals.length x.c) x.st.vals.length (intVals x.st.vals)) (hap : ∀ q ∈ ps, ∀ g, q.blk = some g → x.blk ≠ some g) (H : Hv w hb a ps.length c) (hBb : B ≤ hb) (hBw : B ≤ w.heap.size) :
    Calls Try.prog 41 #[.pointer (some ⟨hb, 0, none⟩), .agg #[.slice x.a x.st.vals.length x.c, .int .i64 x.st.sum]] w fun e w' => e = .returned (.tuple #[]) ∧ ∃ a' c', Own w' B a' c' (pushL spLess ps x) ∧ Hv w' hb a' (ps.length + 1) c' ∧ Below B w w' := by
  go_enter Try.func41, Try.ntmps41
  go_upto_region 1 with fail
  obtain ⟨W, hW, X, hbx, SX⟩ := bx_new w x 28
  rw [← hW]
  have O1 := hO.below hbx
  have o1 := owns_below ho hbx
  have H1 := H.kept hbx
  have hBW : B ≤ W.heap.size := Nat.le_trans hBw hbx.size
  obtain ⟨hX, x0, x1⟩ := X
  obtain ⟨hl, c0, c1, f0⟩ := H1.all
  obtain ⟨i0, hi, hz0, hz1, hz2⟩ := info_parts infoSt.2
  have hal : ∀ (ob : Obj) (b k : Nat), b < W.heap.size → (W.alloc ob).cell? ⟨b, k, none⟩ = W.cell? ⟨b, k, none⟩ := fun ob b k h => ((Below.refl W.heap.size W).alloc (Nat.le_refl _) ob).cell (p := ⟨b, k, none⟩) h
  clear hW SX
  have hfar := H1.far O1.row (by decide)
  have hAD : ∀ ob : Obj, Below W.heap.size W (W.alloc ob).drew := fun ob => ((Below.refl _ _).alloc (Nat.le_refl _) _).drew
  go_region_law (refine step_append_own rfl _ _ 24 rfl B 28 i0 (.agg #[.slice none 0 0, .int .i64 0]) 2 32 Try.underlying24 hi hz0 hz1 hz2 rfl (by decide) _ _ _ rfl (O1.row.alloc _).drew ⟨W.heap.size, 0, none⟩ 1 1 (spCells x) rfl rfl (cells_sp_new W x _) (one_sp x) (by unfold maxLen; omega) (by omega) (by simp; omega) ?_; intro v' w3 hown3 hgrow3 hnil3; obtain ⟨a', c', rfl⟩ := owns_slice hown3; have H3 := (H1.kept (hAD _)).grownO hgrow3 hfar; obtain ⟨hl3, d0, d1, e0⟩ := H3.all; have O3 := Own.append (O1.below (hAD _)) (owns_below o1 (hAD _)) hap hgrow3 hown3; have B3 := ((hbx.mono hBw).trans ((hAD _).mono hBW)).grown hgrow3 (Nat.le_trans hBW (hAD _).size) (fun k hk => (O1.row.lt k hk).1); clear hgrow3 hnil3)
  all_goals
    have hB3 : B ≤ w3.heap.size := Nat.le_trans hBw B3.size
    have hgs := grown_set w3 ⟨hb, 0, none⟩ (.slice a' (ps.length + 1) c')
    have O4 := O3.other hgs (H3.far O3.row (by decide)) (fun q hq => H3.far (O3.each q hq) (by decide))
    have H4 := H3.set a' (ps.length + 1) c'
    have B4 : Below B w (w3.setCell ⟨hb, 0, none⟩ (.slice a' (ps.length + 1) c')) := B3.setCell hBb _
    obtain ⟨g, rfl⟩ := owns_at hown3 (by omega)
    clear hown3 d0 d1 e0 c0 c1 f0 x0 x1 hgs O3 H3
    obtain ⟨W4, hW4⟩ : ∃ W4, W4 = w3.setCell ⟨hb, 0, none⟩ (.slice (some ⟨g, 0, none⟩) (ps.length + 1) c') := ⟨_, rfl⟩
    rw [← hW4] at O4 H4 B4
    rw [← hW4]
    clear hW4
    have hln : (ps ++ [x]).length = ps.length + 1 := by simp
    have HU := hidOf (goUp_any hb B g c' (ps ++ [x]) ps.length W4 (by omega) (by omega) (few_app hF hx) O4 (by rw [hln]; exact H4))
    obtain ⟨hl4, d0, d1, e0⟩ := H4.all
    clear hln
    go_wp2_with fail
    refine HU.out.mono ?_
    rintro e w5 ⟨rfl, o5, g5⟩
    go_wp2
    go_end0
    exact ⟨rfl, _, c', o5, H4.grown g5 (H4.ne O4), B4.grown g5 (Nat.le_trans hBw B4.size) (fun k hk => by cases hk; exact (O4.row.lt g rfl).1)⟩

set_option maxHeartbeats 4000000 in
theorem iPushed_any (a : Option Addr) (c : Nat) (ps : List Sp) (x : Sp) (w : World) (hn0 : ps.length ≤ 1048576) (hF : Few ps) (hx : x.st.vals.length ≤ 1048576) (hT : StsAt w a ps) (hK : KidsAt w x.a x.st.vals) :
    Calls Try.prog 12 #[.slice a ps.length c, .agg #[.slice x.a x.st.vals.length x.c, .int .i64 x.st.sum]] w fun e w' => StsAns (pushL stLess (ps.map Sp.st) x.st) w e w' := by
  go_enter Try.func12, Try.ntmps12
  go_wp2_with fail
  obtain ⟨W, hW, X, hbx, SX⟩ := bx_new w x 28
  rw [← hW]
  clear hW SX
  refine (copySts_any a c ps _ (by omega) hF (hT.below hbx (Nat.le_refl _))).mono ?_
  rintro e w1 ⟨a1, c1, p1, rfl, s1, o1, hb1⟩
  have B1 := hbx.trans (hb1.mono hbx.size)
  have F1 : Few p1 := fun q hq => by
    have h1 : q.st ∈ ps.map Sp.st := by rw [← s1]; exact List.mem_map_of_mem hq
    obtain ⟨p, hp, e⟩ := List.mem_map.1 h1
    rw [← e]
    exact hF p hp
  have L1 := hidOf (show p1.length = ps.length by have := congrArg List.length s1; simpa using this)
  have X1 := X.kept hb1
  go_upto_region 2 with fail
  obtain ⟨W2, hW2, H2, hb2, S2⟩ := hv_new w1 a1 p1.length c1
  rw [← hW2]
  have B2 := B1.trans (hb2.mono B1.size)
  have o2 := o1.below hb2
  have hL : W.heap.size ≤ w1.heap.size := hb1.size
  have hL2 : W.heap.size ≤ W2.heap.size := Nat.le_trans hb1.size hb2.size
  obtain ⟨hX, x0, x1⟩ := X1.kept hb2
  clear hW2 S2 hb2 X X1 hb1 o1
  obtain ⟨hbk, hhb⟩ : ∃ hbk, hbk = w1.heap.size := ⟨_, rfl⟩
  rw [← hhb] at H2 hL ⊢
  clear hhb
  go_wp2_with fail
  refine (copySt_any x _ hx (hK.below B2 (Nat.le_refl _))).mono ?_
  rintro e w3 ⟨xa, xc, rfl, o3, hb3⟩
  have B3 := B2.trans (hb3.mono B2.size)
  have P3 := hidOf (push_any hbk W.heap.size a1 c1 p1 ⟨x.st, xa, xc⟩ w3 (by rw [L1.out]; exact hn0) F1 hx (o2.below hb3) (ownsRow_base o3 hL2) (fun q hq g hg hg2 => by
    have h1 := ((o2.each q hq).lt g hg).2
    have h2 := (o3.lt g hg2).1
    omega) (H2.kept hb3) hL (Nat.le_trans hL2 hb3.size))
  have hW3 : W.heap.size ≤ w3.heap.size := Nat.le_trans hL2 hb3.size
  clear x0 x1 o2 o3 H2 hb3
  go_wp2_with fail
  refine P3.out.mono ?_
  rintro e w4 ⟨rfl, a4, c4, o4, H4, hb4⟩
  obtain ⟨-, d0, d1, -⟩ := H4.all
  have B4 := B3.trans (hb4.mono hbx.size)
  go_wp2
  go_ret
  refine ⟨a4, c4, pushL spLess p1 ⟨x.st, xa, xc⟩, ?_, ?_, o4.base hbx.size, B4⟩
  · rw [pushL_len]
    rfl
  · rw [← s1]
    exact pushL_map Sp.st p1 ⟨x.st, xa, xc⟩
end Go.Proofs.Ytfolbljffpekiaa
