/- A drawn choice returns. -/
import Derived.Test.YtgaejcljabhijaaDrawK
namespace Go.Proofs.Ytgaejcljabhijaa
open Go.RowKit

def OnceAns (base : Nat) (w : World) (blk : Nat) (a : Option Addr) (len cap : Nat) (e : Ending) (w' : World) : Prop :=
  ∃ b : Bool, e = .returned (.bool b) ∧ Cur base w' blk a len cap ∧ w.grownBy w' (some blk)

theorem once_mk {base : Nat} {w w' : World} {blk : Nat} {a : Option Addr} {len cap : Nat} {b : Bool} (hc : Cur base w' blk a len cap) (hg : w.grownBy w' (some blk)) : OnceAns base w blk a len cap (.returned (.bool b)) w' := ⟨b, rfl, hc, hg⟩

theorem once_any (base : Nat) (w : World) (blk : Nat) (a : Option Addr) (len cap : Nat) (n : Int) (hc : Cur base w blk a len cap) (h0 : 0 < n) (h1 : n ≤ 2147483648) :
    Calls Try.prog 73 #[.pointer (some ⟨blk, 0, none⟩), .int .i64 n] w fun e w' => OnceAns base w blk a len cap e w' := by
  have HC := hidOf hc
  clear hc
  go_enter Try.func73, Try.ntmps73
  go_wp2_with fail
  refine (below_any base _ blk a len cap n HC.out h0 h1).mono ?_
  rintro e w1 ⟨x, hx, rfl, hc1, hg1⟩
  have H1 := hidOf (And.intro hc1 hg1)
  clear hc1 hg1
  go_wp2
  go_ret
  exact once_mk H1.out.1 H1.out.2
end Go.Proofs.Ytgaejcljabhijaa
