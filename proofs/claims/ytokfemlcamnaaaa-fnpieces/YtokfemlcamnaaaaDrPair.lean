/- What spec.DrawPieceOk draws. -/
import Derived.Test.YtokfemlcamnaaaaDrPr
namespace Go.Proofs.Ytokfemlcamnaaaa
open Go.RowKit

set_option maxHeartbeats 1600000 in
set_option maxRecDepth 20000 in
theorem drawOk_any (base : Nat) (w : World) (a : Option Addr) (len cap : Nat) (hc : CodeAt base w a len) (hb : base ≤ w.heap.size) :
    Calls Try.prog 17 #[.slice a len cap] w fun e w' => DpAns Fit w e w' := by
  have HC := hidOf hc
  clear hc
  go_enter Try.func17, Try.ntmps17
  go_wp2_with fail
  refine (new_any base _ a len cap (code_alloc HC.out hb _) (by simp; omega)).mono ?_
  rintro e w1 ⟨blk, rfl, hbk, hc1, hb1⟩
  have H1 := hidOf (And.intro hc1 (And.intro hb1 hbk))
  clear hc1 hb1 hbk
  go_wp2_with fail
  refine (anyp_any base w1 blk a len cap H1.out.1).mono ?_
  rintro e w2 ⟨p, l, rfl, hD, ho, -, hg2⟩
  have X := rx_of H1.out.2.1 H1.out.2.2 hg2 ho
  have HD := hidOf hD
  clear hD ho hg2 H1
  obtain ⟨r0, r1, r2, r3, r4⟩ := X.cells
  have rf0 := X.frozen 0
  have rf1 := X.frozen 1
  have rf2 := X.frozen 2
  have rf3 := X.frozen 3
  have rf4 := X.frozen 4
  go_wp2
  refine bodyPost_ret (v := pcV p l) (by simp [results, Try.results17, go_sem, r0, r1, r2, r3, r4]) rfl (dp_mk HD.out (X.fin _ _ _ _ _))

end Go.Proofs.Ytokfemlcamnaaaa
