/- The law on numbers: what is written of a drawn number and a drawn text is read back. -/
import Derived.Test.YtcaimnffnlpdcaaDoorRows
import Derived.Test.YtcaimnffnlpdcaaDoorNumLib
import Derived.Test.YtcaimnffnlpdcaaDoorShortI
import Derived.Test.YtcaimnffnlpdcaaDoorDmI
import Derived.Test.YtcaimnffnlpdcaaDoorNum
import Derived.MakeChecks
import Derived.Stop.LaidErr
import Derived.Stop.Joined
namespace Go.Proofs.YtcaimnffnlpdcaaDoor
open Go.RowKit

theorem pow_of_numbers {W : World} (h : laidMetH Tryd.prog Rows.fnNumbersRow.laid W) : Lib.TabBelow Tryd.prog W.heap.size W "internal/strconv.uint64pow10" .u64 Lib.pow10Tab := by
  rw [MakeChecks.laidMetH_plain _ _ _ (by kernel_rfl)] at h
  exact Lib.tabBelow_of_tabIs (Lib.tabIs_of_head gPow (by kernel_rfl) Tryd.underlying90 Tryd.underlying72 (by kernel_rfl) (by kernel_rfl) (laidMet.tail (laidMet.tail h)))

theorem rv_one (N : Nat) (w : World) (h : N ≤ 1000000000) :
    Calls Tryd.prog 9 #[.string (⟨#[120]⟩ ++ strOfNums (vb N) ++ ⟨#[121]⟩), .int .i64 1] w fun e w' => e = .returned (.tuple #[.int .i64 (N : Int), .int .i64 ((1 + (vb N).length : Nat) : Int), .bool true]) ∧ w' = w := by
  have h5 := vb_size N h
  have := iRv_any (⟨#[120]⟩ ++ strOfNums (vb N) ++ ⟨#[121]⟩) 1 w (by rw [ByteArray.size_append, ByteArray.size_append]; show 1 + _ + 1 ≤ _; omega) (by rw [ByteArray.size_append, ByteArray.size_append]; show 1 ≤ 1 + _ + 1; omega)
  rw [rv_between N h] at this
  exact this
theorem rs_one (t : ByteArray) (w : World) (h : t.size ≤ 20000) :
    Calls Tryd.prog 14 #[.string (strOfNums (vb t.size) ++ t), .int .i64 0] w fun e w' => e = .returned (.tuple #[.string t, .int .i64 ((strOfNums (vb t.size) ++ t).size : Int), .bool true]) ∧ Below w.heap.size w w' := by
  have h5 := vb_size t.size (by omega)
  have := iRs_any (strOfNums (vb t.size) ++ t) 0 w (by rw [ByteArray.size_append]; omega) (Nat.zero_le _)
  rw [rs_back t h] at this
  exact this
theorem rd_one (N : Nat) (w : World) (h : N ≤ 1000000000) :
    Calls Tryd.prog 10 #[.string ⟨(Lib.itoa (N : Int)).toArray⟩] w fun e w' => e = .returned (.tuple #[.int .i64 (N : Int), .bool true]) ∧ w' = w := by
  have e : Lib.itoa (N : Int) = Lib.decDigits N := by rw [Lib.itoa, if_neg (by omega)]; rfl
  rw [e]
  obtain ⟨hok, hv⟩ := rd_back N h
  have hl : (⟨(Lib.decDigits N).toArray⟩ : ByteArray).size ≤ 1048576 := by
    have := dec_len 9 N (by omega)
    simp [ByteArray.size]
    omega
  refine (iRd_any _ w hl).mono ?_
  rintro e w' ⟨ha, rfl⟩
  have h1 := ha.1 hok
  rw [hv] at h1
  exact ⟨h1, rfl⟩
theorem un_one (t : ByteArray) (w : World) (h : t.size ≤ 300) :
    Calls Tryd.prog 16 #[.string (strOfNums (hexL t t.size))] w fun e w' => e = .returned (.tuple #[.string t, .bool true]) ∧ Below w.heap.size w w' := by
  have hs : (strOfNums (hexL t t.size)).size = 2 * t.size := by rw [strOfNums_size, hexL_len]
  refine (iUn_any _ w (by omega) (by omega)).mono ?_
  rintro e w' ⟨ha, hb⟩
  refine ⟨?_, hb⟩
  have hr := hex_back t
  by_cases hp : Pairs (strOfNums (hexL t t.size)) ((strOfNums (hexL t t.size)).size / 2)
  · rw [ha.1 hp]
    exact (hr.1 hp).symm
  · exact absurd (hr.2 hp) (by simp)

set_option maxHeartbeats 3200000 in
theorem lawNumbers (a : Option Addr) (len cap : Nat) (w : World) (hc : len ≤ 1048576 → CodeAt w.heap.size w a len) (hlm : len ≤ 9223372036854775807) (hL : laidMetH Tryd.prog Rows.fnNumbersRow.laid w) :
    Calls Tryd.prog 3 #[.slice a len cap] w fun e w' => e = .returned (.bool true) ∧ Below w.heap.size w w' := by
  have HT := hidOf (pow_of_numbers hL)
  clear hL
  by_cases h0 : 1048576 < len
  · clear hc
    go_enter Tryd.func3, Tryd.ntmps3
    go_wp2
    go_ret
    exact ⟨rfl, Below.refl _ _⟩
  · have HC := hidOf (hc (by omega))
    clear hc
    go_enter Tryd.func3, Tryd.ntmps3
    go_wp2_with (first | (go_at_call 6; go_in))
    refine (drawVar_any w.heap.size _ a len cap HC.out (Nat.le_refl _)).mono ?_
    rintro e w1 ⟨n, hn, rfl, hb1⟩
    have hs1 := hb1.size
    have B1 := hidOf hb1
    clear hb1
    have hpart : (∃ N : Nat, n = (N : Int) ∧ N ≤ 1000000000) ∨ n < 0 ∨ 1000000000 < n := by
      by_cases hr : 0 ≤ n ∧ n ≤ 1000000000
      · exact Or.inl ⟨n.toNat, by omega, by omega⟩
      · right; omega
    rcases hpart with ⟨N, rfl, hN⟩ | hr | hr
    all_goals go_wp2_with fail
    all_goals try (obtain ⟨N, hN0⟩ : ∃ N : Nat, (12345 : Int) = N := ⟨12345, rfl⟩; have hN : N ≤ 1000000000 := (by omega); rw [hN0]; clear hN0)
    all_goals
      refine (iVar_yes N _ hN).mono ?_
      rintro e w2 ⟨rfl, hb2⟩
      have hs2 := hb2.size
      have B2 : Hid (Below w.heap.size w w2) := B1.out.trans (hb2.mono hs1)
      have hv5 := vb_size N hN
      have hvl : (strOfNums (vb N)).size = (vb N).length := strOfNums_size _
      clear hb2
      go_wp2_with fail
      refine (rv_one N _ hN).mono ?_
      rintro e w2 ⟨rfl, rfl⟩
      go_wp2_with fail
      refine (iDec_any (N : Int) _ (by omega) (by omega) (HT.out _ B2.out)).mono ?_
      rintro e w3 ⟨rfl, hb3⟩
      have hs3 := hb3.size
      have B3 : Hid (Below w.heap.size w w3) := B2.out.trans (hb3.mono (by omega))
      clear hb3
      go_wp2_with fail
      refine (rd_one N _ hN).mono ?_
      rintro e w3 ⟨rfl, rfl⟩
      go_wp2_with fail
      refine (drawHex_any w.heap.size _ a len cap (HC.out.below B3.out) (by omega)).mono ?_
      rintro e w4 ⟨t, ht, rfl, hb4⟩
      have hs4 := hb4.size
      have B4 : Hid (Below w.heap.size w w4) := B3.out.trans hb4
      clear hb4
      rcases Nat.lt_or_ge 300 t.size with hT | hT
      all_goals go_wp2_with fail
      all_goals try (obtain ⟨t, hT0⟩ : ∃ t : ByteArray, (⟨#[97, 98, 99]⟩ : ByteArray) = t := ⟨_, rfl⟩; have hT : t.size ≤ 300 := (by rw [← hT0]; decide); rw [hT0]; clear hT0)
      all_goals
        refine (iShort_yes t _ (by omega)).mono ?_
        rintro e w5 ⟨rfl, hb5⟩
        have hs5 := hb5.size
        have B5 : Hid (Below w.heap.size w w5) := B4.out.trans (hb5.mono (by omega))
        clear hb5
        go_wp2_with fail
        refine (rs_one t _ (by omega)).mono ?_
        rintro e w6 ⟨rfl, hb6⟩
        have hs6 := hb6.size
        have B6 : Hid (Below w.heap.size w w6) := B5.out.trans (hb6.mono (by omega))
        clear hb6
        go_wp2_with fail
        refine (iHex_yes t _ (by omega)).mono ?_
        rintro e w7 ⟨rfl, hb7⟩
        have hs7 := hb7.size
        have B7 : Hid (Below w.heap.size w w7) := B6.out.trans (hb7.mono (by omega))
        clear hb7
        go_wp2_with fail
        refine (un_one t _ hT).mono ?_
        rintro e w8 ⟨rfl, hb8⟩
        have B8 : Hid (Below w.heap.size w w8) := B7.out.trans (hb8.mono (by omega))
        clear hb8
        have hat : (1 + ((vb N).length : Int) == ((vb N).length : Int) + 1) = true := by rw [beq_iff_eq]; omega
        go_wp2
        go_ret
        exact ⟨rfl, B8.out⟩
end Go.Proofs.YtcaimnffnlpdcaaDoor
