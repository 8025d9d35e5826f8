/- The law on sums: what is sealed is unsealed, with one byte turned it isn't, and a sum goes on where it stopped. -/
import Derived.Test.YtkbcikiencogbaaDoorSumLaw
import Derived.Test.YtkbcikiencogbaaDoorTurnLib
import Derived.Test.YtkbcikiencogbaaDoorDrawP
import Derived.BigRegion
import Derived.Laws.IdiomStrings
namespace Go.Proofs.YtkbcikiencogbaaDoor
open Go.RowKit

theorem us_one (t : ByteArray) (w : World) (h : t.size ≤ 20000) (hq : QTab w) :
    Calls Tryd.prog 12 #[.string (t ++ four (sumOf t))] w fun e w' => e = .returned (.tuple #[.string t, .bool true]) ∧ Below w.heap.size w w' := by
  obtain ⟨hok, he⟩ := seal_ok t h
  refine (iUnsealed_any _ w (by rw [ByteArray.size_append, four_size]; omega) hq).mono ?_
  rintro e w' ⟨ha, hb⟩
  refine ⟨?_, hb⟩
  rcases ha with ⟨_, h1⟩ | ⟨h1, _⟩
  · rw [h1, he]
  · exact absurd hok h1
theorem us_turned (t : ByteArray) (w : World) (h : ¬ SealOk t) (hs : t.size ≤ 1048576) (hq : QTab w) :
    Calls Tryd.prog 12 #[.string t] w fun e w' => e = .returned (.tuple #[.string ⟨#[]⟩, .bool false]) ∧ Below w.heap.size w w' := by
  refine (iUnsealed_any _ w hs hq).mono ?_
  rintro e w' ⟨ha, hb⟩
  refine ⟨?_, hb⟩
  rcases ha with ⟨h1, _⟩ | ⟨_, h1⟩
  · exact absurd h1 h
  · exact h1

theorem bytes_new (t : ByteArray) (w : World) : ∃ (cap : Nat) (w5 : World), (convert 9 22 (.string t)).run Tryd.prog w = .ok (.slice (some ⟨w.heap.size, 0, none⟩) t.size cap) w5 ∧ Below w.heap.size w w5 ∧ w.heap.size < w5.heap.size ∧
    ∀ j, j < t.size → w5.cell? ⟨w.heap.size, j, none⟩ = some (.int .u8 (byN t j : Nat)) ∧ w5.frozen? ⟨w.heap.size, j, none⟩ = false := by
  refine ⟨_, _, run_bytes_of_string w _ _ _ t Tryd.underlying9 Tryd.underlying22 Tryd.underlying5, (Below.refl _ w).drew.alloc (Nat.le_refl _) _, ?_, fun j hj => ⟨?_, ?_⟩⟩
  · show w.heap.size < (w.heap.push _).size
    simp
  · have hd : j < t.data.size := hj
    refine (World.cell?_alloc_mark w.drew _ _ _ j).trans ?_
    rw [bytesRow_at t _ j hd]
    have := byN_at t j hj
    rw [← this]
    rfl
  · refine (World.frozen?_alloc_mark w.drew _ _ _ _ j).trans ?_
    have : j < (bytesRow t (grownCap w t.size 0 5)).size := by
      unfold bytesRow
      rw [Array.size_append, Array.size_map]
      have : j < t.data.size := hj
      omega
    rw [decide_eq_false (by omega)]
    rfl
/-- The sum of a text goes on with one byte. -/
theorem iOn_any (s : ByteArray) (w : World) (hq : QTab w) :
    Calls Tryd.prog 13 #[.int .u32 (sumOf s : Nat), .string ⟨#[120]⟩] w fun e w' => e = .returned (.int .u32 (sumOf (s ++ (⟨#[120]⟩ : ByteArray)) : Nat)) ∧ w' = w := by
  refine (iSumMore_any (sumOf s) ⟨#[120]⟩ w (sumOf_lt s) (by decide) hq).mono ?_
  rintro e w' ⟨he, hw⟩
  exact ⟨by rw [he, sum_on], hw⟩
/-- One byte of a row of bytes is turned, and the row read as a text. -/
theorem turned_conv {w : World} {B cap I m : Nat} (T : ByteArray) (hI : I < T.size) (hm : m < 255) (hrow : ∀ j, j < T.size → w.cell? ⟨B, j, none⟩ = some (.int .u8 (byN T j : Nat)) ∧ w.frozen? ⟨B, j, none⟩ = false) (hT : SealOk T) :
    ∃ U : ByteArray, ¬ SealOk U ∧ U.size = T.size ∧ (convert 22 9 (.slice (some ⟨B, 0, none⟩) T.size cap)).run Tryd.prog (w.setCell ⟨B, I, none⟩ (.int .u8 (bits .xor .u8 (byN T I : Nat) (1 + (m : Int))))).drew = .ok (.string U) (w.setCell ⟨B, I, none⟩ (.int .u8 (bits .xor .u8 (byN T I : Nat) (1 + (m : Int))))).drew := by
  have hx : bits .xor .u8 (byN T I : Nat) (1 + (m : Int)) = ((byN T I ^^^ (1 + m) : Nat) : Int) := u8_xor_nat (byN T I) (1 + m) (byN_lt T I) (by omega)
  have hl : byN T I ^^^ (1 + m) < 256 := Nat.xor_lt_two_pow (n := 8) (byN_lt T I) (by omega)
  rw [hx]
  obtain ⟨xs, hxs⟩ : ∃ xs : List Int, xs = (List.range T.size).map (fun j => (((if j = I then byN T I ^^^ (1 + m) else byN T j) : Nat) : Int)) := ⟨_, rfl⟩
  have hlen : xs.length = T.size := by simp [hxs]
  have hat : ∀ j, j < T.size → xs[j]? = some (((if j = I then byN T I ^^^ (1 + m) else byN T j) : Nat) : Int) := fun j hj => by simp [hxs, hj]
  have hby : ∀ j, j < T.size → byN (strOfNums xs) j = if j = I then byN T I ^^^ (1 + m) else byN T j := fun j hj => by
    have h2 : (if j = I then byN T I ^^^ (1 + m) else byN T j) < 256 := by
      split
      · exact hl
      · exact byN_lt T j
    have := byN_nums xs j _ (hat j hj) (by omega) (by omega)
    omega
  have hsz : (strOfNums xs).size = T.size := by rw [strOfNums_size, hlen]
  refine ⟨strOfNums xs, turned_not hsz I hI ?_ ?_ hT, hsz, ?_⟩
  · rw [hby I hI, if_pos rfl]
    intro e
    have e2 : byN T I ^^^ (byN T I ^^^ (1 + m)) = byN T I ^^^ byN T I := by rw [e]
    rw [← Nat.xor_assoc, Nat.xor_self, Nat.zero_xor] at e2
    omega
  · intro j hj
    by_cases hjt : j < T.size
    · rw [hby j hjt, if_neg hj]
    · have h1 : (strOfNums xs).data.toList.length = T.size := by rw [strOfNums_data, List.length_map, hlen]
      have h2 : T.data.toList.length = T.size := by simp
      unfold byN
      rw [List.getD_eq_getElem?_getD, List.getD_eq_getElem?_getD, List.getElem?_eq_none (by omega), List.getElem?_eq_none (by omega)]
  · refine run_convert_bytes_arg _ 22 5 Tryd.underlying22 Tryd.underlying5 B 0 T.size cap xs hlen (fun j hj => ?_) 9 Tryd.underlying9
    rw [List.getD_eq_getElem?_getD, hat j hj, Nat.zero_add]
    show (w.setCell ⟨B, I, none⟩ _).cell? ⟨B, j, none⟩ = _
    by_cases hji : j = I
    · subst hji
      rw [World.cell?_setCell_same w _ _ (hrow j hj).1, if_pos rfl]
      rfl
    · rw [World.cell?_setCell_other w _ _ _ (fun e => hji (by cases e; rfl)), (hrow j hj).1, if_neg hji]
      rfl
theorem grown_cell (w : World) (a : Addr) (u : Value) : w.grownBy (w.setCell a u) (some a.block) :=
  ⟨rfl, rfl, rfl, by simp, fun k _ hk => heap_setCell_other w a k u (fun e => hk (by simp [e]))⟩
theorem row_two {w : World} {base : Nat} {v : Value} {zs : List Int} (h : w.ownsRow base 3 1 v 12 (zs.map (Value.int .i64))) (hr : ∀ z ∈ zs, 0 ≤ z ∧ z < 10000) :
    ∃ (g cap Z0 Z1 : Nat), v = .slice (some ⟨g, 0, none⟩) 12 cap ∧ g < w.heap.size ∧ base ≤ g ∧ Z0 < 10000 ∧ Z1 < 10000 ∧ w.cell? ⟨g, 0, none⟩ = some (.int .i64 (Z0 : Nat)) ∧ w.cell? ⟨g, 1, none⟩ = some (.int .i64 (Z1 : Nat)) := by
  have hl := h.1
  simp at hl
  match zs, hl with
  | z0 :: z1 :: rest, _ =>
    have h0 := hr z0 (by simp)
    have h1 := hr z1 (by simp)
    obtain ⟨Z0, rfl⟩ := Int.eq_ofNat_of_zero_le h0.1
    obtain ⟨Z1, rfl⟩ := Int.eq_ofNat_of_zero_le h1.1
    rcases h.2 with ⟨_, h2⟩ | ⟨g, cap, cur, rfl, hb, hg, _⟩
    · omega
    · have c0 := h.cells (g := g) rfl 0 (.int .i64 (Z0 : Int)) (by simp)
      have c1 := h.cells (g := g) rfl 1 (.int .i64 (Z1 : Int)) (by simp)
      exact ⟨g, cap, Z0, Z1, rfl, (Array.getElem?_eq_some_iff.1 hg).1, hb, by omega, by omega, c0, c1⟩

set_option maxHeartbeats 3200000 in
theorem lawTurned (a : Option Addr) (len cap : Nat) (w : World) (hc : len ≤ 1048576 → CodeAt w.heap.size w a len) (hlm : len ≤ 9223372036854775807) (hL : laidMetH Tryd.prog Rows.fnTurnedRow.laid w) :
    Calls Tryd.prog 3 #[.slice a len cap] w fun e w' => e = .returned (.bool true) ∧ Below w.heap.size w w' := by
  have HQ := hidOf (q_of_laid hL)
  clear hL
  by_cases h0 : 1048576 < len
  · clear hc
    go_enter Tryd.func3, Tryd.ntmps3
    go_wp2
    go_ret
    exact ⟨rfl, Below.refl _ _⟩
  · have HC := hidOf (hc (by omega))
    clear hc
    go_enter Tryd.func3, Tryd.ntmps3
    go_wp2_with (first | (go_at_call 8; go_in))
    refine (drawSumOf_any w.heap.size _ a len cap HC.out (Nat.le_refl _)).mono ?_
    rintro e w1 ⟨s, hs, rfl, hb1⟩
    have hs1 := hb1.size
    have HC1 := hidOf (HC.out.below hb1)
    go_wp2_with fail
    refine (places_any w.heap.size _ a len cap HC1.out hs1).mono ?_
    rintro e w2 ⟨v, zs, hzl, hzr, rfl, hown, hb2⟩
    have hs2 := hb2.size
    have hb02 := hb1.trans hb2
    clear hb2
    have h4 := four_size (sumOf s)
    have hz : (s ++ four (sumOf s)).size = s.size + 4 := by rw [ByteArray.size_append, h4]
    go_wp2_with fail
    refine (iSealed_yes s _ (by omega) (HQ.out _ hb02)).mono ?_
    rintro e w3 ⟨rfl, hb3⟩
    have hs3 := hb3.size
    have hb03 := hb02.trans (hb3.mono (by omega))
    go_wp2_with fail
    refine (us_one s _ (by omega) (HQ.out _ hb03)).mono ?_
    rintro e w4 ⟨rfl, hb4⟩
    have hs4 := hb4.size
    have hb04 := hb03.trans (hb4.mono (by omega))
    have hown4 := owns_below (owns_below hown hb3) hb4
    clear hown hb3 hb4
    have hss := str_same (rfl : s = s)
    obtain ⟨T, hT⟩ : ∃ T, T = s ++ four (sumOf s) := ⟨_, rfl⟩
    rw [← hT] at hz
    obtain ⟨g, cap0, Z0, Z1, rfl, hg4, _, hZ0, hZ1, hc0, hc1⟩ := row_two hown4 hzr
    clear hown4 hzr hzl
    obtain ⟨capb, w5, hcv, hb5, hs5, hrow⟩ := bytes_new T w4
    have hb05 := hb04.trans (hb5.mono (by omega))
    rw [← hb5.cell (p := ⟨g, 0, none⟩) hg4] at hc0
    rw [← hb5.cell (p := ⟨g, 1, none⟩) hg4] at hc1
    obtain ⟨I, hI⟩ : ∃ I, I = Z0 % (s.size + 4) := ⟨_, rfl⟩
    have hIl : I < T.size := by rw [hz, hI]; exact Nat.mod_lt _ (by omega)
    have hmodI : ((Z0 : Nat) : Int).tmod ((T.size : Nat) : Int) = (I : Nat) := by
      rw [Int.tmod_eq_emod_of_nonneg (by omega), hI, hz]
      exact (Int.natCast_emod _ _).symm
    have hmodJ : ((Z0 : Nat) : Int).tmod ((s.size : Int) + 4) = (I : Nat) := by
      rw [← hmodI, hz]
      rfl
    simp only [← hT]
    have HT := hidOf hT
    have HI := hidOf hI
    clear hT hI
    have hB2 : (I : Int) < (s.size : Int) + 4 := by omega
    have hA : (0 : Int) ≤ (I : Int) := by omega
    have hB : (I : Int) < (T.size : Int) := by omega
    obtain ⟨hcI, hfI⟩ := hrow I hIl
    have HR := hidOf hrow
    clear hrow
    obtain ⟨m, hm⟩ : ∃ m, m = Z1 % 255 := ⟨_, rfl⟩
    have hml : m < 255 := by omega
    have hq1 : ((Z1 : Nat) : Int).tmod 255 = (m : Nat) := by
      rw [Int.tmod_eq_emod_of_nonneg (by omega), hm]
      rfl
    have hq2 : IntKind.i64.wrap ((m : Nat) : Int) = (m : Nat) := IntWalk.i64_in _ ⟨by omega, by omega⟩
    have hq3 : IntKind.i64.wrap (1 + ((m : Nat) : Int)) = ((1 + m : Nat) : Int) := by rw [IntWalk.i64_in _ ⟨by omega, by omega⟩]; rfl
    have hq4 : IntKind.u8.wrap ((1 + m : Nat) : Int) = ((1 + m : Nat) : Int) := by rw [IntKind.wrap_u8]; omega
    clear hm
    go_wp2
    go_region
    obtain ⟨U, hU, hUs, hcv2⟩ := turned_conv (cap := capb) T hIl hml HR.out (by rw [HT.out]; exact (seal_ok s (by omega)).1)
    rw [hz] at hcv2 hUs
    have hb06 : Below w.heap.size w (w5.setCell ⟨w4.heap.size, I, none⟩ (.int .u8 (bits .xor .u8 (byN T I : Nat) (1 + (m : Int))))).drew := (hb05.grown (grown_cell w5 _ _) (by omega) (fun k hk => by cases hk; show w.heap.size ≤ w4.heap.size; omega)).drew
    have HU := hidOf hU
    clear hU
    obtain ⟨w6, hw6⟩ : ∃ w6, w6 = (w5.setCell ⟨w4.heap.size, I, none⟩ (.int .u8 (bits .xor .u8 (byN T I : Nat) (1 + (m : Int))))).drew := ⟨_, rfl⟩
    rw [← hw6] at hcv2 hb06 ⊢
    have HW := hidOf hw6
    clear hw6
    go_wp2_with fail
    refine (us_turned U _ HU.out (by omega) (HQ.out _ hb06)).mono ?_
    rintro e w7 ⟨rfl, hb7⟩
    have hs7 := hb7.size
    have hb07 := hb06.trans (hb7.mono hb06.size)
    go_wp2_with fail
    refine (iSumOf_any s _ (by omega) (HQ.out _ hb07)).mono ?_
    rintro e w7 ⟨rfl, rfl⟩
    go_wp2_with fail
    refine (iOn_any s _ (HQ.out _ hb07)).mono ?_
    rintro e w7 ⟨rfl, rfl⟩
    have hx1 : (s ++ (⟨#[120]⟩ : ByteArray)).size = s.size + 1 := by rw [ByteArray.size_append]; rfl
    go_wp2_with fail
    refine (iSumOf_any (s ++ (⟨#[120]⟩ : ByteArray)) _ (by rw [hx1]; omega) (HQ.out _ hb07)).mono ?_
    rintro e w7 ⟨rfl, rfl⟩
    go_wp2
    go_ret
    exact ⟨rfl, hb07⟩
end Go.Proofs.YtkbcikiencogbaaDoor
