/- How ragged lines are: impl.lineRag, impl.RagOf. -/
import Derived.Test.YtabbfpkhlofccaaGreatDoorWrapCo
import Derived.Test.YtabbfpkhlofccaaGreatDoorFuI
namespace Go.Proofs.YtabbfpkhlofccaaGreatDoor
open Go.RowKit

set_option maxHeartbeats 1600000 in
theorem iLrag_any (n width : Int) (last : Bool) (w : World) (h0 : 0 ≤ n) (hw : width ≤ 9223372036854775807) :
    Calls Tryz.prog 34 #[.int .i64 n, .int .i64 width, .bool last] w fun e w' => e = .returned (.int .i64 (lrag n width last)) ∧ w' = w := by
  by_cases h1 : width < n
  · have hd : decide (width < n) = true := decide_eq_true h1
    have HE := hidOf (lrag_long (last := last) h1)
    go_enter Tryz.func34, Tryz.ntmps34
    go_wp2
    go_ret
    exact ⟨ret_int HE.out.symm, rfl⟩
  · cases last
    · by_cases h2 : width - n ≤ 200
      · obtain ⟨d, hd⟩ : ∃ d : Int, d = width - n := ⟨_, rfl⟩
        have HE := hidOf (show lrag n width false = d * d by
          unfold lrag
          rw [if_neg h1, if_neg (by simp), hd]
          split
          · rfl
          · rw [show width - n = 200 by omega]; rfl)
        have hb : 0 ≤ d ∧ d ≤ 200 := by omega
        obtain ⟨hb1, hb2⟩ := hb
        have hm1 : 0 ≤ d * d := Int.mul_nonneg hb1 hb1
        have hm2 := sq_le (a := d) (b := 200) hb1 (by omega)
        have hwr : IntKind.i64.wrap (width - n) = d := (IntWalk.i64_in _ ⟨by omega, by omega⟩).trans hd.symm
        have hwm : IntKind.i64.wrap (d * d) = d * d := IntWalk.i64_in _ ⟨by omega, by omega⟩
        clear hd h2
        go_enter Tryz.func34, Tryz.ntmps34
        go_wp2
        go_ret
        exact ⟨ret_int HE.out.symm, rfl⟩
      · have HE := hidOf (show lrag n width false = 40000 by unfold lrag; rw [if_neg h1, if_neg (by simp), if_neg (by omega)])
        go_enter Tryz.func34, Tryz.ntmps34
        go_wp2
        go_ret
        exact ⟨ret_int HE.out.symm, rfl⟩
    · have HE := hidOf (show lrag n width true = 0 by unfold lrag; rw [if_neg h1]; rfl)
      go_enter Tryz.func34, Tryz.ntmps34
      go_wp2
      go_ret
      exact ⟨ret_int HE.out.symm, rfl⟩

set_option maxHeartbeats 1600000 in
set_option maxRecDepth 20000 in
theorem iRag_any (v : Value) (b n : Nat) (ls : List ByteArray) (width : Int) (w : World) (hn : n ≤ 200) (hw : width ≤ 9223372036854775807) (hown : w.ownsRow b 9 1 v n (strVals ls)) :
    Calls Tryz.prog 13 #[v, .int .i64 width] w fun e w' => e = .returned (.int .i64 (rag ls width)) ∧ w' = w := by
  have hl : ls.length = n := by have := hown.1; simpa [strVals] using this
  obtain ⟨ao, cv, rfl⟩ := owns_slice hown
  have hcap := own_cap hown
  obtain ⟨t, ht⟩ : ∃ t : Nat, t = min n 200 := ⟨_, rfl⟩
  have hR : rag ls width = rgK ls width t := by unfold rag; rw [hl, ht]
  rw [hR]
  have ht1 : t ≤ n := by omega
  have ht2 : t ≤ 200 := by omega
  have HT := hidOf ht
  have HL := hidOf hl
  clear hR ht hl
  have ht : t = n := by have := HT.out; omega
  have HX := hidOf ht
  clear ht
  go_enter Tryz.func13, Tryz.ntmps13
  go_wp2
  go_loop [5, 14] (fun r i => ∃ k : Nat, k ≤ n ∧ i = .int .i64 k ∧ r = .int .i64 (rgK ls width k)) (fun _ i => n - (intOf i).toNat)
  case atStart => exact ⟨0, by omega, rfl, rfl⟩
  case round =>
    obtain ⟨k, hk, rfl, rfl⟩ := hrel
    obtain ⟨hr1, hr2⟩ := rgK_bound ls width k
    obtain ⟨r, hr⟩ : ∃ r, r = rgK ls width k := ⟨_, rfl⟩
    rw [← hr] at hr1 hr2 ⊢
    have HR := hidOf hr
    clear hr
    have hr3 : r ≤ 2000000000 := by omega
    clear hr2
    by_cases hlt : k < n
    · obtain ⟨x, hx⟩ : ∃ x, ls[k]? = some x := ⟨_, List.getElem?_eq_getElem (by rw [HL.out]; exact hlt)⟩
      obtain ⟨g, rfl⟩ := owns_at hown (by omega)
      have hc := str_at hown hlt hx
      have hnx := rgK_next (width := width) hx
      have hd : ((k : Int) == (n : Int) - 1) = decide (k + 1 = ls.length) := by
        rw [Bool.eq_iff_iff, beq_iff_eq, decide_eq_true_eq, HL.out]
        omega
      rw [← hd, ← HR.out] at hnx
      obtain ⟨la, hla⟩ : ∃ la, la = ((k : Int) == (n : Int) - 1) := ⟨_, rfl⟩
      have q := iLrag_any (x.size : Int) width la w (by omega) hw
      rw [← hla] at hnx
      have hl1 := lrag_ge (x.size : Int) width la
      have hl2 := lrag_le (x.size : Int) width la
      obtain ⟨y, hy⟩ : ∃ y, y = lrag (x.size : Int) width la := ⟨_, rfl⟩
      rw [← hy] at q hnx hl1 hl2
      have HN := hidOf hnx
      have HLA := hidOf hla
      clear hx hd hnx hla hy
      have hA1 : (0 : Int) ≤ (k : Int) := by omega
      have hB1 : (k : Int) < (n : Int) := by omega
      go_wp2_with fail
      rw [← HLA.out]
      refine q.mono ?_
      rintro e w1 ⟨rfl, rfl⟩
      go_wp2
      go_round
      case rel => exact ⟨k + 1, by omega, by go_num, by rw [HN.out]⟩
      case measure => simp [intOf]; omega
    · have hke : k = n := by omega
      have HK := hidOf hke
      clear hke
      go_wp2
      go_ret
      exact ⟨ret_int (by rw [HR.out, HK.out, HX.out]), rfl⟩
end Go.Proofs.YtabbfpkhlofccaaGreatDoor
