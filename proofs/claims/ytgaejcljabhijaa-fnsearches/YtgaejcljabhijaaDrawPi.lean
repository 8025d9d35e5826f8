/- A drawn number out of a list is one of the list. -/
import Derived.Test.YtgaejcljabhijaaDrawK
import Derived.Test.YtgaejcljabhijaaIntLib
namespace Go.Proofs.Ytgaejcljabhijaa
open Go.RowKit

/-- One of the list; the cursor has gone on. -/
def PiAns (base : Nat) (w : World) (blk : Nat) (a : Option Addr) (len cap : Nat) (L : List Int) (e : Ending) (w' : World) : Prop :=
  ∃ t : Int, t ∈ L ∧ e = .returned (.int .i64 t) ∧ Cur base w' blk a len cap ∧ w.grownBy w' (some blk)
theorem pi_mk {base : Nat} {w w' : World} {blk : Nat} {a : Option Addr} {len cap : Nat} {L : List Int} {t : Int} (ht : t ∈ L) (hc : Cur base w' blk a len cap) (hg : w.grownBy w' (some blk)) : PiAns base w blk a len cap L (.returned (.int .i64 t)) w' := ⟨t, ht, rfl, hc, hg⟩

set_option maxHeartbeats 800000 in
set_option maxRecDepth 20000 in
theorem pickInt_in (base : Nat) (w : World) (blk : Nat) (a : Option Addr) (len cap : Nat) (lb n c : Nat) (L : List Int) (hc : Cur base w blk a len cap) (hn0 : 0 < n) (hn : n ≤ 1000) (hL : L.length = n) (hne : lb ≠ blk) (hlt : lb < w.heap.size)
    (hcell : ∀ j, j < n → w.cell? ⟨lb, j, none⟩ = (intVals L)[j]?) :
    Calls Try.prog 33 #[.pointer (some ⟨blk, 0, none⟩), .slice (some ⟨lb, 0, none⟩) n c] w fun e w' => PiAns base w blk a len cap L e w' := by
  have HC := hidOf hc
  have HE := hidOf hcell
  have HL := hidOf hL
  clear hc hcell hL
  go_enter Try.func33, Try.ntmps33
  go_wp2_with fail
  refine (below_any base _ blk a len cap n HC.out (by omega) (by omega)).mono ?_
  rintro e w1 ⟨x, hx, rfl, hc1, hg1⟩
  have hxn : x < n := by omega
  obtain ⟨z, hz⟩ : ∃ z, L[x]? = some z := ⟨_, List.getElem?_eq_getElem (by rw [HL.out]; exact hxn)⟩
  have hcx : w1.cell? ⟨lb, x, none⟩ = some (.int .i64 z) := by
    rw [World.cell?_of_block (hg1.block lb hlt (fun e => hne (Option.some.inj e))), HE.out x hxn]
    simp [intVals, hz]
  have hA : (0 : Int) ≤ (x : Int) := by omega
  have H1 := hidOf (And.intro hc1 hg1)
  have hm := List.mem_of_getElem? hz
  have HM := hidOf hm
  clear hc1 hg1 hz hm
  go_wp2
  go_ret
  exact pi_mk HM.out H1.out.1 H1.out.2
theorem intCells_at (w : World) (c : Array Value) (T : Nat) (L : List Int) (h : c.toList = intVals L) (j : Nat) : (w.alloc (.cells c T)).cell? ⟨w.heap.size, j, none⟩ = (intVals L)[j]? := by
  rw [World.cell?_alloc_new, ← h]
  simp
end Go.Proofs.Ytgaejcljabhijaa
