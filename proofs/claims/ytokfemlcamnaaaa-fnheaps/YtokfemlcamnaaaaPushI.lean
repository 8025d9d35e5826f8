/- What the heap's push answers. -/
import Derived.Test.YtokfemlcamnaaaaUpI
import Derived.Test.YtokfemlcamnaaaaAppPl
import Derived.Test.YtokfemlcamnaaaaGrLib
import Derived.Test.YtokfemlcamnaaaaInfoSt
import Derived.Test.YtokfemlcamnaaaaBoxSt
import Derived.Deep.RegionLaw
namespace Go.Proofs.Ytokfemlcamnaaaa
open Go.RowKit

set_option maxHeartbeats 8000000 in
theorem push_any (kd : HK) (hb B : Nat) (a : Option Addr) (c : Nat) (ps : List Sp) (x : Sp) (w : World) (hn0 : ps.length ≤ 1048576) (hF : Few ps) (hx : x.st.vals.length ≤ 1048576) (hO : Own w B a c ps) (ho : w.ownsRow B 3 1 (.slice x.a x.st.vals.length x.c) x.st.vals.length (intVals x.st.vals)) (hap : ∀ q ∈ ps, ∀ g, q.blk = some g → x.blk ≠ some g) (H : Hv kd w hb a ps.length c) (hBb : B ≤ hb) (hBw : B ≤ w.heap.size) :
    Calls Try.prog 104 #[.pointer (some ⟨hb, kd.o, none⟩), .agg #[.slice x.a x.st.vals.length x.c, .int .i64 x.st.sum]] w fun e w' => e = .returned (.tuple #[]) ∧ ∃ a' c', Own w' B a' c' (pushL spLess ps x) ∧ Hv kd w' hb a' (ps.length + 1) c' ∧ Below B w w' ∧ Gr2 w w' (Value.slice a ps.length c).ownBlock hb ∧ (∀ g, (Value.slice a' (ps.length + 1) c').ownBlock = some g → (Value.slice a ps.length c).ownBlock = some g ∨ w.heap.size ≤ g) := by
  go_enter Try.func104, Try.ntmps104
  go_upto_region 1 with fail
  obtain ⟨W, hW, X, hbx, SX⟩ := bx_new w x 57
  rw [← hW]
  have O1 := hO.below hbx
  have o1 := owns_below ho hbx
  have H1 := H.kept hbx
  have hBW : B ≤ W.heap.size := Nat.le_trans hBw hbx.size
  obtain ⟨hX, x0, x1⟩ := X
  obtain ⟨hl, c0, c1, f0⟩ := H1.all
  obtain ⟨i0, hi, hz0, hz1, hz2⟩ := info_parts infoSt.2
  have hal : ∀ (ob : Obj) (b k : Nat), b < W.heap.size → (W.alloc ob).cell? ⟨b, k, none⟩ = W.cell? ⟨b, k, none⟩ := fun ob b k h => ((Below.refl W.heap.size W).alloc (Nat.le_refl _) ob).cell (p := ⟨b, k, none⟩) h
  clear hW SX
  have hfar := H1.far O1.row kd.ns
  have hAD : ∀ ob : Obj, Below W.heap.size W (W.alloc ob).drew := fun ob => ((Below.refl _ _).alloc (Nat.le_refl _) _).drew
  go_region_law (refine step_append_own2 rfl _ _ 54 rfl B 57 i0 (.agg #[.slice none 0 0, .int .i64 0]) 2 32 Try.underlying54 hi hz0 hz1 hz2 rfl (by decide) _ _ _ rfl (O1.row.alloc _).drew ⟨W.heap.size, 0, none⟩ 1 1 (spCells x) rfl rfl (cells_sp_new W x _) (one_sp x) (by unfold maxLen; omega) (by omega) (by simp; omega) ?_; intro v' w3 hown3 hgrow3 hpl3; obtain ⟨a', c', rfl⟩ := owns_slice hown3; have H3 := (H1.kept (hAD _)).grownO hgrow3 hfar; have G3 := Gr2.ofG (grownBy_trans (grownBy_of_below (hbx.trans ((hAD _).mono hbx.size)) (Value.slice a ps.length c).ownBlock) hgrow3) hb; have P3 := hidOf hpl3; obtain ⟨hl3, d0, d1, e0⟩ := H3.all; have O3 := Own.append (O1.below (hAD _)) (owns_below o1 (hAD _)) hap hgrow3 hown3; have B3 := ((hbx.mono hBw).trans ((hAD _).mono hBW)).grown hgrow3 (Nat.le_trans hBW (hAD _).size) (fun k hk => (O1.row.lt k hk).1); clear hgrow3 hpl3)
  all_goals
    have hB3 : B ≤ w3.heap.size := Nat.le_trans hBw B3.size
    have hgs := grown_set w3 ⟨hb, kd.o, none⟩ (.slice a' (ps.length + 1) c')
    have O4 := O3.other hgs (H3.far O3.row kd.ns) (fun q hq => H3.far (O3.each q hq) kd.ni)
    have H4 := H3.set a' (ps.length + 1) c'
    have G4 : Gr2 w (w3.setCell ⟨hb, kd.o, none⟩ (.slice a' (ps.length + 1) c')) (Value.slice a ps.length c).ownBlock hb := G3.setH _ _
    have B4 : Below B w (w3.setCell ⟨hb, kd.o, none⟩ (.slice a' (ps.length + 1) c')) := B3.setCell hBb _
    obtain ⟨g, rfl⟩ := owns_at hown3 (by omega)
    clear hown3 d0 d1 e0 c0 c1 f0 x0 x1 hgs O3 H3
    obtain ⟨W4, hW4⟩ : ∃ W4, W4 = w3.setCell ⟨hb, kd.o, none⟩ (.slice (some ⟨g, 0, none⟩) (ps.length + 1) c') := ⟨_, rfl⟩
    rw [← hW4] at O4 H4 B4 G4
    rw [← hW4]
    clear hW4
    have hln : (ps ++ [x]).length = ps.length + 1 := by simp
    have HU := hidOf (goUp_any kd hb B g c' (ps ++ [x]) ps.length W4 (by omega) (by omega) (few_app hF hx) O4 (by rw [hln]; exact H4))
    obtain ⟨hl4, d0, d1, e0⟩ := H4.all
    clear hln
    go_wp2_with fail
    refine HU.out.mono ?_
    rintro e w5 ⟨rfl, o5, g5⟩
    go_wp2
    go_end0
    have hq : ∀ q, (Value.slice (some ⟨g, 0, none⟩) (ps.length + 1) c').ownBlock = some q → (Value.slice a ps.length c).ownBlock = some q ∨ w.heap.size ≤ q := fun q hq => (P3.out q hq).imp_right (fun h => Nat.le_trans (hbx.trans ((hAD _).mono hbx.size)).size h)
    exact ⟨rfl, _, c', o5, H4.grown g5 (H4.ne O4), B4.grown g5 (Nat.le_trans hBw B4.size) (fun k hk => by cases hk; exact (O4.row.lt g rfl).1), G4.atG g5 (hq g rfl), hq⟩
end Go.Proofs.Ytokfemlcamnaaaa
