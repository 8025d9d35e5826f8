/- What impl.Pushed answers. -/
import Derived.Test.YtokfemlcamnaaaaPushI
import Derived.Test.YtokfemlcamnaaaaHpOk
import Derived.Test.YtokfemlcamnaaaaCpSt
import Derived.Deep.RegionLaw
namespace Go.Proofs.Ytokfemlcamnaaaa
open Go.RowKit

set_option maxHeartbeats 4000000 in
theorem iPushed_any (a : Option Addr) (c : Nat) (ps : List Sp) (x : Sp) (w : World) (hn0 : ps.length ≤ 1048576) (hF : Few ps) (hx : x.st.vals.length ≤ 1048576) (hT : StsAt w a ps) (hK : KidsAt w x.a x.st.vals) :
    Calls Try.prog 42 #[.slice a ps.length c, .agg #[.slice x.a x.st.vals.length x.c, .int .i64 x.st.sum]] w fun e w' => StsAns (pushL stLess (ps.map Sp.st) x.st) w e w' := by
  go_enter Try.func42, Try.ntmps42
  go_wp2_with fail
  obtain ⟨W, hW, X, hbx, SX⟩ := bx_new w x 57
  rw [← hW]
  clear hW SX
  refine (copySts_any a c ps _ (by omega) hF (hT.below hbx (Nat.le_refl _))).mono ?_
  rintro e w1 ⟨a1, c1, p1, rfl, s1, o1, hb1⟩
  have B1 := hbx.trans (hb1.mono hbx.size)
  have F1 : Few p1 := fun q hq => by
    have h1 : q.st ∈ ps.map Sp.st := by rw [← s1]; exact List.mem_map_of_mem hq
    obtain ⟨p, hp, e⟩ := List.mem_map.1 h1
    rw [← e]
    exact hF p hp
  have L1 := hidOf (show p1.length = ps.length by have := congrArg List.length s1; simpa using this)
  have X1 := X.kept hb1
  go_upto_region 2 with fail
  obtain ⟨W2, hW2, H2, hb2, S2⟩ := hv_new w1 a1 p1.length c1
  rw [← hW2]
  have B2 := B1.trans (hb2.mono B1.size)
  have o2 := o1.below hb2
  have hL : W.heap.size ≤ w1.heap.size := hb1.size
  have hL2 : W.heap.size ≤ W2.heap.size := Nat.le_trans hb1.size hb2.size
  obtain ⟨hX, x0, x1⟩ := X1.kept hb2
  clear hW2 S2 hb2 X X1 hb1 o1
  obtain ⟨hbk, hhb⟩ : ∃ hbk, hbk = w1.heap.size := ⟨_, rfl⟩
  rw [← hhb] at H2 hL ⊢
  clear hhb
  go_wp2_with fail
  refine (copySt_any x _ hx (hK.below B2 (Nat.le_refl _))).mono ?_
  rintro e w3 ⟨xa, xc, rfl, o3, hb3⟩
  have B3 := B2.trans (hb3.mono B2.size)
  have P3 := hidOf (push_any hk0 hbk W.heap.size a1 c1 p1 ⟨x.st, xa, xc⟩ w3 (by rw [L1.out]; exact hn0) F1 hx (o2.below hb3) (ownsRow_base o3 hL2) (fun q hq g hg hg2 => by
    have h1 := ((o2.each q hq).lt g hg).2
    have h2 := (o3.lt g hg2).1
    omega) (H2.kept hb3) hL (Nat.le_trans hL2 hb3.size))
  have hW3 : W.heap.size ≤ w3.heap.size := Nat.le_trans hL2 hb3.size
  clear x0 x1 o2 o3 H2 hb3
  go_wp2_with fail
  refine P3.out.mono ?_
  rintro e w4 ⟨rfl, a4, c4, o4, H4, hb4, -⟩
  obtain ⟨-, d0, d1, -⟩ := H4.all0
  have B4 := B3.trans (hb4.mono hbx.size)
  go_wp2
  go_ret
  refine ⟨a4, c4, pushL spLess p1 ⟨x.st, xa, xc⟩, ?_, ?_, o4.base hbx.size, B4⟩
  · rw [pushL_len]
    rfl
  · rw [← s1]
    exact pushL_map Sp.st p1 ⟨x.st, xa, xc⟩
end Go.Proofs.Ytokfemlcamnaaaa
