/- Decimal figures written from the last one on, in front of what is there. -/
import Derived.Test.YtdlbnllkfnfgoaaChecked
import Derived.Test.YtdlbnllkfnfgoaaDecLib
namespace Go.Proofs.Ytdlbnllkfnfgoaa
open Go.RowKit

theorem conv_one (x : Int) (w : World) : (convert 55 9 (.slice (some ⟨w.heap.size, 0, none⟩) 1 1)).run Try.prog (w.alloc (.cells #[.int .u8 x] 5)) = .ok (.string (strOfNums [x])) (w.alloc (.cells #[.int .u8 x] 5)) := by
  refine run_convert_bytes_arg _ 55 5 Try.underlying55 Try.underlying5 w.heap.size 0 1 1 [x] rfl (fun i hi => ?_) 9 Try.underlying9
  have : i = 0 := by omega
  subst this
  simp

/-- What the loop has written so far stands behind what is still to come. -/
def DecInv (u m : Nat) (t : ByteArray) : Prop := dd m ++ t.data.toList = dd u
theorem decInv_step {u m : Nat} {t : ByteArray} (h : DecInv u m t) (hm : 0 < m) : DecInv u (m / 10) (strOfNums [48 + (m : Int) % 10] ++ t) := by
  unfold DecInv at *
  have e := fig_byte (m % 10) (by omega)
  rw [← h, dd_step hm, ByteArray.data_append, Array.toList_append, strOfNums_data, ← e, List.append_assoc]
  rfl
theorem decInv_size {u m : Nat} {t : ByteArray} (h : DecInv u m t) (hu : u < 10 ^ 20) : t.size ≤ 20 := by
  have h1 := congrArg List.length h
  have h2 : (dd u).length ≤ 20 := by
    unfold dd
    split
    · simp
    · exact dec_len 19 u hu
  have h3 : t.data.toList.length = t.size := by simp
  rw [List.length_append] at h1
  omega
theorem decInv_done {u : Nat} {t : ByteArray} (h : DecInv u 0 t) (hu : 0 < u) : t = ⟨(Lib.decDigits u).toArray⟩ := by
  unfold DecInv dd at h
  rw [if_pos rfl, if_neg (by omega), List.nil_append] at h
  apply ByteArray.ext
  apply Array.ext'
  simpa using h

end Go.Proofs.Ytdlbnllkfnfgoaa
