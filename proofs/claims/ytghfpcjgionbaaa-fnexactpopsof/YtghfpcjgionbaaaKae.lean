/- All has stayed but a heap's row and the block that holds the heap. -/
import Derived.Test.YtghfpcjgionbaaaKad
import Derived.Test.YtghfpcjgionbaaaKac
import Derived.Test.YtghfpcjgionbaaaProg
import Derived.Deep.RegionLaw
namespace Go.Proofs.Ytghfpcjgionbaaa
open Go.RowKit

structure Gr2 (w w' : World) (row : Option Nat) (hb : Nat) : Prop where
  size : w.heap.size ≤ w'.heap.size
  block : ∀ k, k < w.heap.size → k ≠ hb → some k ≠ row → w'.heap[k]? = w.heap[k]?
section
variable {w w' w1 w2 : World} {row : Option Nat} {hb g : Nat}
theorem Gr2.ofG (h : w.grownBy w' row) (hb : Nat) : Gr2 w w' row hb := ⟨h.size, fun k hk _ hr => h.block k hk hr⟩
theorem Gr2.ofB (h : Below w.heap.size w w') (row : Option Nat) (hb : Nat) : Gr2 w w' row hb := ⟨h.size, fun k hk _ _ => h.block k hk⟩
theorem Gr2.trans (h1 : Gr2 w w1 row hb) (h2 : Gr2 w1 w2 row hb) : Gr2 w w2 row hb := ⟨Nat.le_trans h1.size h2.size, fun k hk hh hr => (h2.block k (Nat.lt_of_lt_of_le hk h1.size) hh hr).trans (h1.block k hk hh hr)⟩
theorem Gr2.setH (h : Gr2 w w1 row hb) (o : Nat) (v : Value) : Gr2 w (w1.setCell ⟨hb, o, none⟩ v) row hb := ⟨by simpa using h.size, fun k hk hh hr => (heap_setCell_other w1 ⟨hb, o, none⟩ k v hh).trans (h.block k hk hh hr)⟩
theorem Gr2.setN (h : Gr2 w w1 row hb) {b : Nat} (hn : w.heap.size ≤ b) (o : Nat) (v : Value) : Gr2 w (w1.setCell ⟨b, o, none⟩ v) row hb := ⟨by simpa using h.size, fun k hk hh hr => (heap_setCell_other w1 ⟨b, o, none⟩ k v (by show k ≠ b; omega)).trans (h.block k hk hh hr)⟩
theorem Gr2.atG (h : Gr2 w w1 row hb) (h2 : w1.grownBy w2 (some g)) (hg : row = some g ∨ w.heap.size ≤ g) : Gr2 w w2 row hb := ⟨Nat.le_trans h.size h2.size, fun k hk hh hr => (h2.block k (Nat.lt_of_lt_of_le hk h.size) (fun e => by
    rcases hg with hg | hg
    · exact hr (e.trans hg.symm)
    · have := Option.some.inj e
      omega)).trans (h.block k hk hh hr)⟩
/-- A later step that leaves what the earlier one may not have left. -/
theorem Gr2.then (h1 : Gr2 w w1 row hb) {row' : Option Nat} (h2 : Gr2 w1 w2 row' hb) (hr : ∀ g, row' = some g → row = some g ∨ w.heap.size ≤ g) : Gr2 w w2 row hb := ⟨Nat.le_trans h1.size h2.size, fun k hk hh hn => (h2.block k (Nat.lt_of_lt_of_le hk h1.size) hh (fun e => by
    rcases hr k e.symm with h | h
    · exact hn h.symm
    · omega)).trans (h1.block k hk hh hn)⟩
theorem Gr2.own (h : Gr2 w w' row hb) {B e s n : Nat} {v : Value} {xs : List Value} (ho : w.ownsRow B e s v n xs) (h1 : v.ownBlock = none ∨ v.ownBlock ≠ row) (h2 : v.ownBlock = none ∨ v.ownBlock ≠ some hb) : w'.ownsRow B e s v n xs := by
  refine ⟨ho.1, ?_⟩
  rcases ho.2 with hn | ⟨g, cap, cur, rfl, hb', hgg, rest⟩
  · exact .inl hn
  · refine .inr ⟨g, cap, cur, rfl, hb', ?_, rest⟩
    rw [h.block g (Array.getElem?_eq_some_iff.1 hgg).1 (fun e => by subst e; simp [Value.ownBlock] at h2) (by simpa [Value.ownBlock] using h1)]
    exact hgg
end
end Go.Proofs.Ytghfpcjgionbaaa
/- What the type of states is. -/
namespace Go.Proofs.Ytghfpcjgionbaaa
open Go.RowKit

theorem infoSt : (Try.prog.info? 73).map (·.size) = some 2 ∧ (Try.prog.info? 73).map (fun i => (i.zero, i.size, i.bytes)) = some (some (.agg #[.slice none 0 0, .int .i64 0]), 2, 32) := ⟨by kernel_rfl, by kernel_rfl⟩
end Go.Proofs.Ytghfpcjgionbaaa
/- What the heap's push answers. -/
namespace Go.Proofs.Ytghfpcjgionbaaa
open Go.RowKit

set_option maxHeartbeats 8000000 in
theorem push_any (kd : HK) (hb B : Nat) (a : Option Addr) (c : Nat) (ps : List Sp) (x : Sp) (w : World) (hn0 : ps.length ≤ 1048576) (hF : Few ps) (hx : x.st.vals.length ≤ 1048576) (hO : Own w B a c ps) (ho : w.ownsRow B 3 1 (.slice x.a x.st.vals.length x.c) x.st.vals.length (intVals x.st.vals)) (hap : ∀ q ∈ ps, ∀ g, q.blk = some g → x.blk ≠ some g) (H : Hv kd w hb a ps.length c) (hBb : B ≤ hb) (hBw : B ≤ w.heap.size) :
    Calls Try.prog 91 #[.pointer (some ⟨hb, kd.o, none⟩), .agg #[.slice x.a x.st.vals.length x.c, .int .i64 x.st.sum]] w fun e w' => e = .returned (.tuple #[]) ∧ ∃ a' c', Own w' B a' c' (pushL spLess ps x) ∧ Hv kd w' hb a' (ps.length + 1) c' ∧ Below B w w' ∧ Gr2 w w' (Value.slice a ps.length c).ownBlock hb ∧ (∀ g, (Value.slice a' (ps.length + 1) c').ownBlock = some g → (Value.slice a ps.length c).ownBlock = some g ∨ w.heap.size ≤ g) := by
  go_enter Try.func91, Try.ntmps91
  go_upto_region 1 with fail
  obtain ⟨W, hW, X, hbx, SX⟩ := bx_new w x 73
  rw [← hW]
  have O1 := hO.below hbx
  have o1 := owns_below ho hbx
  have H1 := H.kept hbx
  have hBW : B ≤ W.heap.size := Nat.le_trans hBw hbx.size
  obtain ⟨hX, x0, x1⟩ := X
  obtain ⟨hl, c0, c1, f0⟩ := H1.all
  obtain ⟨i0, hi, hz0, hz1, hz2⟩ := info_parts infoSt.2
  have hal : ∀ (ob : Obj) (b k : Nat), b < W.heap.size → (W.alloc ob).cell? ⟨b, k, none⟩ = W.cell? ⟨b, k, none⟩ := fun ob b k h => ((Below.refl W.heap.size W).alloc (Nat.le_refl _) ob).cell (p := ⟨b, k, none⟩) h
  clear hW SX
  have hfar := H1.far O1.row kd.ns
  have hAD : ∀ ob : Obj, Below W.heap.size W (W.alloc ob).drew := fun ob => ((Below.refl _ _).alloc (Nat.le_refl _) _).drew
  go_region_law (refine step_append_own2 rfl _ _ 74 rfl B 73 i0 (.agg #[.slice none 0 0, .int .i64 0]) 2 32 Try.underlying74 hi hz0 hz1 hz2 rfl (by decide) _ _ _ rfl (O1.row.alloc _).drew ⟨W.heap.size, 0, none⟩ 1 1 (spCells x) rfl rfl (cells_sp_new W x _) (one_sp x) (by unfold maxLen; omega) (by omega) (by simp; omega) ?_; intro v' w3 hown3 hgrow3 hpl3; obtain ⟨a', c', rfl⟩ := owns_slice hown3; have H3 := (H1.kept (hAD _)).grownO hgrow3 hfar; have G3 := Gr2.ofG (grownBy_trans (grownBy_of_below (hbx.trans ((hAD _).mono hbx.size)) (Value.slice a ps.length c).ownBlock) hgrow3) hb; have P3 := hidOf hpl3; obtain ⟨hl3, d0, d1, e0⟩ := H3.all; have O3 := Own.append (O1.below (hAD _)) (owns_below o1 (hAD _)) hap hgrow3 hown3; have B3 := ((hbx.mono hBw).trans ((hAD _).mono hBW)).grown hgrow3 (Nat.le_trans hBW (hAD _).size) (fun k hk => (O1.row.lt k hk).1); clear hgrow3 hpl3)
  all_goals
    have hB3 : B ≤ w3.heap.size := Nat.le_trans hBw B3.size
    have hgs := grown_set w3 ⟨hb, kd.o, none⟩ (.slice a' (ps.length + 1) c')
    have O4 := O3.other hgs (H3.far O3.row kd.ns) (fun q hq => H3.far (O3.each q hq) kd.ni)
    have H4 := H3.set a' (ps.length + 1) c'
    have G4 : Gr2 w (w3.setCell ⟨hb, kd.o, none⟩ (.slice a' (ps.length + 1) c')) (Value.slice a ps.length c).ownBlock hb := G3.setH _ _
    have B4 : Below B w (w3.setCell ⟨hb, kd.o, none⟩ (.slice a' (ps.length + 1) c')) := B3.setCell hBb _
    obtain ⟨g, rfl⟩ := owns_at hown3 (by omega)
    clear hown3 d0 d1 e0 c0 c1 f0 x0 x1 hgs O3 H3
    obtain ⟨W4, hW4⟩ : ∃ W4, W4 = w3.setCell ⟨hb, kd.o, none⟩ (.slice (some ⟨g, 0, none⟩) (ps.length + 1) c') := ⟨_, rfl⟩
    rw [← hW4] at O4 H4 B4 G4
    rw [← hW4]
    clear hW4
    have hln : (ps ++ [x]).length = ps.length + 1 := by simp
    have HU := hidOf (goUp_any kd hb B g c' (ps ++ [x]) ps.length W4 (by omega) (by omega) (few_app hF hx) O4 (by rw [hln]; exact H4))
    obtain ⟨hl4, d0, d1, e0⟩ := H4.all
    clear hln
    go_wp2_with fail
    refine HU.out.mono ?_
    rintro e w5 ⟨rfl, o5, g5⟩
    go_wp2
    go_end0
    have hq : ∀ q, (Value.slice (some ⟨g, 0, none⟩) (ps.length + 1) c').ownBlock = some q → (Value.slice a ps.length c).ownBlock = some q ∨ w.heap.size ≤ q := fun q hq => (P3.out q hq).imp_right (fun h => Nat.le_trans (hbx.trans ((hAD _).mono hbx.size)).size h)
    exact ⟨rfl, _, c', o5, H4.grown g5 (H4.ne O4), B4.grown g5 (Nat.le_trans hBw B4.size) (fun k hk => by cases hk; exact (O4.row.lt g rfl).1), G4.atG g5 (hq g rfl), hq⟩
end Go.Proofs.Ytghfpcjgionbaaa
