/- What spec.l08At answers at a chunk. -/
import Derived.Test.YtokfemlcamnaaaaRenLib
import Derived.Test.YtokfemlcamnaaaaAt8
namespace Go.Proofs.Ytokfemlcamnaaaa
open Go.RowKit

theorem sSpl1_any (p : Pc) (l : Pl) (a : Option Addr) (c : Nat) (vs : List Int) (k : Nat) (x : Ch) (w : World) (hF : PcFew p) (hm0 : vs.length ≤ 1048576) (hp : PcIn w p l) (hv : KidsAt w a vs) (h1 : Right p) (h2 : ValOk p vs) (hk : (k : Int) ≤ (p.chunks.length : Int) - 2) (hx : p.chunks[k]? = some x) :
    Calls Try.prog 89 #[pcV p l, .slice a vs.length c, .int .i64 k] w fun e w' => e = .returned (.bool (spl vs x)) ∧ Below w.heap.size w w' :=
  (s08At_any p l a c vs k w hF hm0 hp hv h1 h2 hk).mono fun e w' ⟨b, e1, hb, hB⟩ => ⟨by rw [e1, same_bool hb (spl_at h1 h2 hk hx).symm], hB⟩

end Go.Proofs.Ytokfemlcamnaaaa
