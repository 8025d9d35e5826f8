/- What laws.markText answers: a text of its own for every number from 1 on. -/
import Derived.Test.YtdlbnllkfnfgoaaDecK
namespace Go.Proofs.Ytdlbnllkfnfgoaa
open Go.RowKit

/-- The mark of number k. -/
def mk (k : Nat) : ByteArray := ⟨#[109]⟩ ++ ⟨(Lib.decDigits k).toArray⟩

set_option maxHeartbeats 800000 in
set_option maxRecDepth 20000 in
theorem markText_any (u : Nat) (w : World) (h0 : 0 < u) (h1 : u ≤ 4611686018427387904) :
    Calls Try.prog 25 #[.int .i64 u] w fun e w' => e = .returned (.string (mk u)) ∧ Below w.heap.size w w' := by
  go_enter Try.func25, Try.ntmps25
  go_wp2
  go_loopw [0, 3] (fun n s wr => ∃ (m : Nat) (t : ByteArray), m ≤ u ∧ n = .int .i64 m ∧ s = .string t ∧ Hid (DecInv u m t) ∧ Below w.heap.size w wr)
    (fun n _ _ => (intOf n).toNat)
  case atStart => exact ⟨u, ⟨#[]⟩, Nat.le_refl _, rfl, rfl, by unfold Hid DecInv; simp, Below.refl _ _⟩
  case round =>
    obtain ⟨m, t, hm, rfl, rfl, HI, hb⟩ := hrel
    have ht := decInv_size HI.out (by omega)
    have hsz := hb.size
    by_cases hmz : 0 < m
    · have hcv := conv_one
      have hs1 := strOfNums_size [48 + (m : Int) % 10]
      go_wp2
      go_roundw
      case rel => exact ⟨m / 10, _, by omega, by go_num, rfl, decInv_step HI.out hmz, hb.alloc (by omega) _⟩
      case measure => simp [intOf]; omega
    · have e : t = ⟨(Lib.decDigits u).toArray⟩ := decInv_done (by have := HI.out; rw [show m = 0 by omega] at this; exact this) h0
      have HE := hidOf e
      clear e
      go_wp2
      go_ret
      exact ⟨ret_str (by rw [HE.out]; rfl), hb⟩
end Go.Proofs.Ytdlbnllkfnfgoaa
