/- A piece and values that were drawn. -/
import Derived.Test.YtokfemlcamnaaaaDrPr
namespace Go.Proofs.Ytokfemlcamnaaaa
open Go.RowKit

theorem rx_pair {w w2 : World} {p : Pc} {l : Pl} (hb : Below (w.alloc (.cells noCells 29)).heap.size (w.alloc (.cells noCells 29)) w2) (ho : Own4 (w.alloc (.cells noCells 29)).heap.size w2 p l) : RX w w.heap.size w2 p l := by
  obtain ⟨h1, h2, h3⟩ := res_new hb
  exact ⟨h2, h1, Nat.le_refl _, ho.base (by simp)⟩

end Go.Proofs.Ytokfemlcamnaaaa
