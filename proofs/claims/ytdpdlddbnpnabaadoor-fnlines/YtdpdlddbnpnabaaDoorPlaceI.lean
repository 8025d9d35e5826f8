/- What impl.PlaceOf answers. -/
import Derived.Test.YtdpdlddbnpnabaaDoorShelf
import Derived.Test.YtdpdlddbnpnabaaDoorPlaceS
namespace Go.Proofs.YtdpdlddbnpnabaaDoor
open Go.RowKit

theorem head_list (s : ByteArray) (m : Nat) : (s.extract 0 m).data.toList = s.data.toList.take m := by
  rw [ByteArray.data_extract, Array.toList_extract]
  simp [List.extract]
theorem head_size (s : ByteArray) (m : Nat) (h : m ≤ s.size) : (s.extract 0 m).size = m := by
  simp; omega
theorem count_head (s : ByteArray) (m : Nat) : 1 + (Lib.countByte (s.extract 0 m).data.toList 10 : Int) = plLine s m := by
  rw [head_list]
  rfl
theorem last_head (s : ByteArray) (m : Nat) (h : m ≤ s.size) : (m : Int) - Lib.lastIndexByte (s.extract 0 m) 10 = plCol s m := by
  have h1 := lastIdx_col (s.extract 0 m) m (by rw [head_size s m h]; exact Nat.le_refl _)
  unfold Lib.lastIndexByte plCol
  rw [head_size s m h, h1, head_list, List.take_take, Nat.min_self]
theorem last_any (s : ByteArray) (w : World) (hs : s.size ≤ 4194304) :
    Calls Tryd.prog 27 #[.string s, .string ⟨#[10]⟩] w fun e w' => e = .returned (.int .i64 (Lib.lastIndexByte s 10)) ∧ w' = w :=
  Tryd.strings_LastIndex_one s ⟨#[10]⟩ rfl (by omega) w
theorem count_any (s : ByteArray) (w : World) :
    Calls Tryd.prog 26 #[.string s, .string ⟨#[10]⟩] w fun e w' => e = .returned (.int .i64 (Lib.countByte s.data.toList 10)) ∧ w' = w :=
  Tryd.strings_Count_one s 10 w

set_option maxHeartbeats 1600000 in
set_option maxRecDepth 20000 in
theorem iPlace_any (s : ByteArray) (n : Int) (w : World) (hs : s.size ≤ 4194304) (hn : (Lit.int .i64 n).wf = true) :
    Calls Tryd.prog 10 #[.string s, .int .i64 n] w fun e w' => PlaceAns s n e ∧ w' = w := by
  by_cases h0 : n < 0
  · go_enter Tryd.func10, Tryd.ntmps10
    go_wp2
    go_ret2
    exact ⟨place_no (by omega), rfl⟩
  · by_cases h1 : (s.size : Int) < n
    · go_enter Tryd.func10, Tryd.ntmps10
      go_wp2
      go_ret2
      exact ⟨place_no (by omega), rfl⟩
    · obtain ⟨m, rfl⟩ := Int.eq_ofNat_of_zero_le (show 0 ≤ n by omega)
      clear hn
      have hm : m ≤ s.size := by omega
      clear h0 h1
      have hsl := str_to (P := Tryd.prog) 9 s m (m : Int) Tryd.underlying9 rfl hm
      have hp := pl_range s m hm
      have hq1 := count_head s m
      have hq2 := last_head s m hm
      have hz := head_size s m hm
      obtain ⟨t, ht⟩ : ∃ t, t = s.extract 0 m := ⟨_, rfl⟩
      rw [← ht] at hsl hq1 hq2 hz
      clear ht
      have hts : t.size ≤ 4194304 := by omega
      clear hz
      obtain ⟨a, ha⟩ : ∃ a : Int, a = Lib.countByte t.data.toList 10 := ⟨_, rfl⟩
      obtain ⟨b, hb⟩ : ∃ b : Int, b = Lib.lastIndexByte t 10 := ⟨_, rfl⟩
      have H1 := hidOf (fun w => count_any t w)
      have H2 := hidOf (fun w => last_any t w hts)
      rw [← ha] at hq1 H1
      rw [← hb] at hq2 H2
      clear ha hb
      rw [← hq1, ← hq2] at hp
      have HQ1 := hidOf hq1
      have HQ2 := hidOf hq2
      clear hq1 hq2
      go_enter Tryd.func10, Tryd.ntmps10
      go_wp2_with fail
      refine (H1.out _).mono ?_
      rintro e w ⟨rfl, rfl⟩
      go_wp2_with fail
      refine (H2.out _).mono ?_
      rintro e w ⟨rfl, rfl⟩
      go_wp2
      go_ret2
      exact ⟨place_yes rfl hm (by rw [← HQ1.out]) (by rw [← HQ2.out]), rfl⟩
end Go.Proofs.YtdpdlddbnpnabaaDoor
