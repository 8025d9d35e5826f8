/- A drawn text out of a list is one of the list. -/
import Derived.Test.YtgaejcljabhijaaDrawK
import Derived.Test.YtgaejcljabhijaaCutLib
namespace Go.Proofs.Ytgaejcljabhijaa
open Go.RowKit

/-- One of the list; the cursor has gone on. -/
def PkAns (base : Nat) (w : World) (blk : Nat) (a : Option Addr) (len cap : Nat) (L : List ByteArray) (e : Ending) (w' : World) : Prop :=
  ∃ t : ByteArray, t ∈ L ∧ e = .returned (.string t) ∧ Cur base w' blk a len cap ∧ w.grownBy w' (some blk)
theorem pk_mk {base : Nat} {w w' : World} {blk : Nat} {a : Option Addr} {len cap : Nat} {L : List ByteArray} {t : ByteArray} (ht : t ∈ L) (hc : Cur base w' blk a len cap) (hg : w.grownBy w' (some blk)) : PkAns base w blk a len cap L (.returned (.string t)) w' := ⟨t, ht, rfl, hc, hg⟩

set_option maxHeartbeats 800000 in
set_option maxRecDepth 20000 in
theorem pick_in (base : Nat) (w : World) (blk : Nat) (a : Option Addr) (len cap : Nat) (lb n c : Nat) (L : List ByteArray) (hc : Cur base w blk a len cap) (hn0 : 0 < n) (hn : n ≤ 1000) (hL : L.length = n) (hne : lb ≠ blk) (hlt : lb < w.heap.size)
    (hcell : ∀ j, j < n → w.cell? ⟨lb, j, none⟩ = (strVals L)[j]?) :
    Calls Try.prog 74 #[.pointer (some ⟨blk, 0, none⟩), .slice (some ⟨lb, 0, none⟩) n c] w fun e w' => PkAns base w blk a len cap L e w' := by
  have HC := hidOf hc
  have HE := hidOf hcell
  have HL := hidOf hL
  clear hc hcell hL
  go_enter Try.func74, Try.ntmps74
  go_wp2_with fail
  refine (below_any base _ blk a len cap n HC.out (by omega) (by omega)).mono ?_
  rintro e w1 ⟨x, hx, rfl, hc1, hg1⟩
  have hxn : x < n := by omega
  obtain ⟨z, hz⟩ : ∃ z, L[x]? = some z := ⟨_, List.getElem?_eq_getElem (by rw [HL.out]; exact hxn)⟩
  have hcx : w1.cell? ⟨lb, x, none⟩ = some (.string z) := by
    rw [World.cell?_of_block (hg1.block lb hlt (fun e => hne (Option.some.inj e))), HE.out x hxn]
    simp [strVals, hz]
  have hA : (0 : Int) ≤ (x : Int) := by omega
  have H1 := hidOf (And.intro hc1 hg1)
  have hm := List.mem_of_getElem? hz
  have HM := hidOf hm
  clear hc1 hg1 hz hm
  go_wp2
  go_ret
  exact pk_mk HM.out H1.out.1 H1.out.2
end Go.Proofs.Ytgaejcljabhijaa
