/- A drawn text out of a list. -/
import Derived.Test.YtdpdlddbnpnabaaDoorDrawK
namespace Go.Proofs.YtdpdlddbnpnabaaDoor
open Go.RowKit

/-- A text of at most n bytes; the cursor has gone on. -/
def TxAns (base : Nat) (w : World) (blk : Nat) (a : Option Addr) (len cap : Nat) (n : Nat) (e : Ending) (w' : World) : Prop :=
  ∃ t : ByteArray, t.size ≤ n ∧ e = .returned (.string t) ∧ Cur base w' blk a len cap ∧ w.grownBy w' (some blk)
theorem tx_mk {base : Nat} {w w' : World} {blk : Nat} {a : Option Addr} {len cap n : Nat} {t : ByteArray} (ht : t.size ≤ n) (hc : Cur base w' blk a len cap) (hg : w.grownBy w' (some blk)) : TxAns base w blk a len cap n (.returned (.string t)) w' := ⟨t, ht, rfl, hc, hg⟩

set_option maxHeartbeats 800000 in
theorem pick_any (base : Nat) (w : World) (blk : Nat) (a : Option Addr) (len cap : Nat) (lb n c m : Nat) (L : List ByteArray) (hc : Cur base w blk a len cap) (hn0 : 0 < n) (hn : n ≤ 1000) (hne : lb ≠ blk) (hlt : lb < w.heap.size)
    (hcell : ∀ j, j < n → w.cell? ⟨lb, j, none⟩ = some (.string (L.getD j ByteArray.empty))) (hr : ∀ j, j < n → (L.getD j ByteArray.empty).size ≤ m) :
    Calls Tryd.prog 28 #[.pointer (some ⟨blk, 0, none⟩), .slice (some ⟨lb, 0, none⟩) n c] w fun e w' => TxAns base w blk a len cap m e w' := by
  have HC := hidOf hc
  have HR := hidOf hr
  have HE := hidOf hcell
  clear hc hr hcell
  go_enter Tryd.func28, Tryd.ntmps28
  go_wp2_with fail
  refine (below_any base _ blk a len cap n HC.out (by omega) (by omega)).mono ?_
  rintro e w1 ⟨x, hx, rfl, hc1, hg1⟩
  have hxn : x < n := by omega
  have hcx : w1.cell? ⟨lb, x, none⟩ = some (.string (L.getD x ByteArray.empty)) := by
    rw [World.cell?_of_block (hg1.block lb hlt (fun e => hne (Option.some.inj e)))]
    exact HE.out x hxn
  have hA : (0 : Int) ≤ (x : Int) := by omega
  have H1 := hidOf (And.intro hc1 hg1)
  have hzr := HR.out x hxn
  obtain ⟨z, hz⟩ : ∃ z, z = L.getD x ByteArray.empty := ⟨_, rfl⟩
  rw [← hz] at hcx hzr
  clear hc1 hg1 hz
  go_wp2
  go_ret
  exact tx_mk hzr H1.out.1 H1.out.2
end Go.Proofs.YtdpdlddbnpnabaaDoor
