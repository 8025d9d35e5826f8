/- What the program's own sums answer: four steps by a look at the table, the sum of a text, its four bytes. -/
import Derived.Test.YtkbcikiencogbaaDoorChecked
import Derived.Test.YtkbcikiencogbaaDoorSumLib
import Derived.Lib.LaidTab
import Derived.Lib.AppendIntMem
namespace Go.Proofs.YtkbcikiencogbaaDoor
open Go.RowKit

theorem gQ : Tryd.prog.globalNamed "loop.example/g00459/impl.quarterSums" = some 0 := by kernel_rfl
def QTab (w : World) : Prop := Lib.TabIs Tryd.prog w "loop.example/g00459/impl.quarterSums" .u32 qTab

theorem q_cell {w : World} (h : QTab w) (r : Nat) (hr : r < 16) : w.cell? ⟨0, r, none⟩ = some (.int .u32 (bit4 r : Nat)) := by
  rw [← qTab_is r hr]
  exact Lib.TabIs.cell h gQ r hr

set_option maxHeartbeats 800000 in
theorem iFour_any (s : Nat) (w : World) (hs : s < 4294967296) (hq : QTab w) :
    Calls Tryd.prog 27 #[.int .u32 s] w fun e w' => e = .returned (.int .u32 (bit4 s : Nat)) ∧ w' = w := by
  have hc := q_cell hq (s % 16) (by omega)
  clear hq
  go_enter Tryd.func27, Tryd.ntmps27
  go_wp2
  go_ret
  refine ⟨ret_int ?_, rfl⟩
  rw [bit4_look s, ← u32_xor_nat (s / 16) (bit4 (s % 16)) (by omega) (bit4_lt (by omega))]
  rfl

theorem byN_at (s : ByteArray) : ∀ (k : Nat) (h : k < s.size), ((s[k]'h).toNat : Int) = (byN s k : Nat) := by8_at s

set_option maxHeartbeats 1600000 in
theorem iMore_any (s : Nat) (t : ByteArray) (w : World) (hs : s < 4294967296) (ht : t.size ≤ 1048576) (hq : QTab w) :
    Calls Tryd.prog 23 #[.int .u32 s, .string t] w fun e w' => e = .returned (.int .u32 (crc s t t.size : Nat)) ∧ w' = w := by
  have HQ := hidOf hq
  have hby := byN_at t
  clear hq
  go_enter Tryd.func23, Tryd.ntmps23
  go_wp2
  go_loop [0, 5] (fun x i => ∃ (k C : Nat), k ≤ t.size ∧ i = .int .i64 k ∧ x = .int .u32 C ∧ C < 4294967296 ∧ Hid (C = crc s t k))
    (fun _ i => t.size - (intOf i).toNat)
  case atStart => exact ⟨0, s, Nat.zero_le _, rfl, rfl, hs, rfl⟩
  case round =>
    obtain ⟨k, C, hk, rfl, rfl, hC, HC⟩ := hrel
    by_cases hlt : k < t.size
    · have hl := byN_lt t k
      have hx := u32_xor_nat C (byN t k) hC (by omega)
      have hm := mix_lt hC hl
      go_wp2_with fail
      refine (iFour_any _ _ hm HQ.out).mono ?_
      rintro e w ⟨rfl, rfl⟩
      go_wp2_with fail
      refine (iFour_any _ _ (bit4_lt hm) HQ.out).mono ?_
      rintro e w ⟨rfl, rfl⟩
      go_wp2
      go_round
      case rel => exact ⟨k + 1, bit4 (bit4 (C ^^^ byN t k)), by omega, by go_num, rfl, bit4_lt (bit4_lt hm), by rw [HC.out]; rfl⟩
      case measure => simp [intOf]; omega
    · have hke : k = t.size := by omega
      have HK := hidOf hke
      clear hke
      go_wp2
      go_ret
      refine ⟨ret_int ?_, rfl⟩
      rw [HC.out, HK.out]

theorem fourL_int (x : Nat) : fourL x = [(x : Int) / 16777216, (x : Int) / 65536 % 256, (x : Int) / 256 % 256, (x : Int) % 256] := by simp [fourL]
/-- Four bytes in new memory, read as a text. -/
theorem four_conv (x : Nat) (w : World) :
    (convert 22 9 (.slice (some ⟨w.heap.size, 0, none⟩) 4 4)).run Tryd.prog (w.alloc (.cells #[.int .u8 ((x : Int) / 16777216), .int .u8 ((x : Int) / 65536 % 256), .int .u8 ((x : Int) / 256 % 256), .int .u8 ((x : Int) % 256)] 5)) = .ok (.string (four x)) (w.alloc (.cells #[.int .u8 ((x : Int) / 16777216), .int .u8 ((x : Int) / 65536 % 256), .int .u8 ((x : Int) / 256 % 256), .int .u8 ((x : Int) % 256)] 5)) := by
  refine conv_owned (P := Tryd.prog) 22 9 5 w.heap.size _ 4 (fourL x) Tryd.underlying22 Tryd.underlying5 Tryd.underlying9 ?_
  rw [fourL_int]
  exact ⟨rfl, .inr ⟨w.heap.size, 4, _, rfl, Nat.le_refl _, heap_alloc_new w _, Nat.le_refl _, by decide, rfl, by simp⟩⟩

set_option maxHeartbeats 1600000 in
theorem iBytes_any (x : Nat) (w : World) (hx : x < 4294967296) :
    Calls Tryd.prog 24 #[.int .u32 x] w fun e w' => e = .returned (.string (four x)) ∧ Below w.heap.size w w' := by
  have hcv := four_conv x w
  go_enter Tryd.func24, Tryd.ntmps24
  go_wp2
  go_ret
  exact ⟨rfl, (Below.refl _ w).alloc (Nat.le_refl _) _⟩
end Go.Proofs.YtkbcikiencogbaaDoor
