/- What the laws' helpers on a list of texts that came in do: szStringS tells whether it is too great, toStringS copies it. -/
import Derived.Test.YtdlpepmdjbmmmaaLineLib
import Derived.Test.YtdlpepmdjbmmmaaProg
import Derived.WalkKit
import Derived.Laws.OwnMore
import Derived.BigQuiet
import Derived.Deep.QuietTactic
namespace Go.Proofs.Ytdlpepmdjbmmmaa
open Go.RowKit

/-- A list of texts that lies in memory. -/
def TextsAt (w : World) (a : Option Addr) (n : Nat) (ss : List ByteArray) : Prop :=
  ss.length = n ∧ (∀ s ∈ ss, s.size ≤ maxLen) ∧ (0 < n → ∃ b off, a = some ⟨b, off, none⟩ ∧ b < w.heap.size ∧ ∀ i t, ss[i]? = some t → w.cell? ⟨b, off + i, none⟩ = some (.string t))
theorem TextsAt.below {w w' : World} {a : Option Addr} {n : Nat} {ss : List ByteArray} (h : TextsAt w a n ss) (hb : Below w.heap.size w w') : TextsAt w' a n ss := by
  refine ⟨h.1, h.2.1, fun hn => ?_⟩
  obtain ⟨b, off, ha, hlt, hc⟩ := h.2.2 hn
  exact ⟨b, off, ha, Nat.lt_of_lt_of_le hlt hb.size, fun i t ht => by rw [hb.cell hlt]; exact hc i t ht⟩
theorem add_zero' (a : Addr) : a.add 0 = a := by simp [Addr.add]
theorem texts_of {w : World} {x : Addr} {len cap : Nat} {ss : List ByteArray} (hl : len ≤ cap) (hz : ss.length = cap) (hcell : ∀ i, i < ss.length → w.cell? (x.add i) = some (.string (ss.getD i ByteArray.empty))) (hsz : ∀ s ∈ ss, s.size ≤ maxLen) : TextsAt w (some x) len (ss.take len) := by
  refine ⟨by simp; omega, fun s hs => hsz s (List.mem_of_mem_take hs), fun hpos => ?_⟩
  have h0 := hcell 0 (by omega)
  rw [add_zero'] at h0
  obtain ⟨b, off, sp⟩ := x
  have hsp : sp = none := by
    cases sp with
    | none => rfl
    | some y =>
      rw [World.cell?] at h0
      split at h0 <;> simp at h0
  subst hsp
  refine ⟨b, off, rfl, ?_, fun i t ht => ?_⟩
  · rcases Nat.lt_or_ge b w.heap.size with h | h
    · exact h
    · rw [World.cell?] at h0
      simp [Array.getElem?_eq_none h] at h0
  · have hi : i < len := by have := (List.getElem?_eq_some_iff.1 ht).1; simp at this; omega
    have h1 := hcell i (by omega)
    rw [List.getElem?_take, if_pos hi] at ht
    have h2 : (⟨b, off, none⟩ : Addr).add i = ⟨b, off + i, none⟩ := by
      unfold Addr.add
      split
      · rename_i e; subst e; simp
      · rfl
    rw [h2, List.getD_eq_getElem?_getD, ht] at h1
    exact h1
/-- What is left behind k texts. -/
def leftAt (ss : List ByteArray) (n k : Nat) : Int := 1048576 - (n : Int) + (k : Int) - ((joins (ss.take k)).size : Int)
theorem leftAt_zero (ss : List ByteArray) (n : Nat) : leftAt ss n 0 = 1048576 - (n : Int) := by
  have h2 : (joins (ss.take 0)).size = 0 := rfl
  unfold leftAt
  omega
theorem leftAt_next {ss : List ByteArray} {n k : Nat} {t : ByteArray} (h : ss[k]? = some t) : leftAt ss n (k + 1) = leftAt ss n k - t.size := by
  unfold leftAt
  rw [joins_next h]
  have h2 : (⟨#[10]⟩ : ByteArray).size = 1 := rfl
  simp
  omega

set_option maxHeartbeats 1600000 in
theorem sz_any (a : Option Addr) (n c : Nat) (ss : List ByteArray) (w : World) (hn : n ≤ 9223372036854775807) (hT : TextsAt w a n ss) :
    Calls Try.prog 26 #[.slice a n c, .int .i64 1048576] w fun e w' => ∃ r : Int, e = .returned (.int .i64 r) ∧ (0 ≤ r → (joins ss).size ≤ 1048576) ∧ w' = w := by
  by_cases hbig : 1048576 < n
  · go_enter Try.func26, Try.ntmps26
    go_wp2
    go_ret
    exact ⟨-1, rfl, fun h => by omega, rfl⟩
  · have hl := hT.1
    have HL := hidOf hl
    clear hl
    go_enter Try.func26, Try.ntmps26
    go_wp2
    go_loop [1, 5] (fun r i => ∃ k : Nat, k ≤ n ∧ r = .int .i64 (leftAt ss n k) ∧ i = .int .i64 k ∧ 0 ≤ leftAt ss n k) (fun _ i => n - (intOf i).toNat)
    case atStart => exact ⟨0, Nat.zero_le _, by rw [leftAt_zero], rfl, by rw [leftAt_zero]; omega⟩
    case round =>
      obtain ⟨k, hk, rfl, rfl, h0⟩ := hrel
      have hle : leftAt ss n k ≤ 1048576 := by unfold leftAt; omega
      by_cases hlt : k < n
      · obtain ⟨t, ht⟩ : ∃ t, ss[k]? = some t := ⟨_, List.getElem?_eq_getElem (by rw [HL.out]; exact hlt)⟩
        obtain ⟨b, off, rfl, hlb, hcs⟩ := hT.2.2 (by omega)
        have hc := hcs k t ht
        have hts := hT.2.1 t (List.mem_of_getElem? ht)
        unfold maxLen at hts
        have hnx := leftAt_next (n := n) ht
        have HN := hidOf hnx
        clear hnx ht hcs
        obtain ⟨r, hr⟩ : ∃ r, r = leftAt ss n k := ⟨_, rfl⟩
        rw [← hr] at h0 hle HN ⊢
        have HR := hidOf hr
        clear hr
        have hA : (0 : Int) ≤ (k : Int) := by omega
        have hB : (k : Int) < (n : Int) := by omega
        by_cases hneg : r < t.size
        · go_wp2
          go_ret
          exact ⟨-1, rfl, fun h => by omega, rfl⟩
        · go_wp2
          go_round
          case rel => exact ⟨k + 1, by omega, by rw [HN.out], by go_num, by rw [HN.out]; omega⟩
          case measure => simp [intOf]; omega
      · have hke : k = n := by omega
        have HK := hidOf hke
        clear hke
        go_wp2
        go_ret
        refine ⟨_, rfl, fun _ => ?_, rfl⟩
        have h2 := h0
        unfold leftAt at h2
        rw [HK.out, List.take_of_length_le (by rw [HL.out]; exact Nat.le_refl _)] at h2
        omega

theorem infoStrT : (Try.prog.info? 9).map (fun i => (i.zero, i.size, i.bytes)) = some (some (.string ByteArray.empty), 1, 16) := by kernel_rfl
/-- How far the copy has come. -/
def copied (ss : List ByteArray) (k : Nat) : List Value := strVals (ss.take k) ++ List.replicate (ss.length - k) (.string ByteArray.empty)
theorem copied_set {ss : List ByteArray} {k : Nat} {t : ByteArray} (h : ss[k]? = some t) : (copied ss k).set k (.string t) = copied ss (k + 1) := by
  have hk : k < ss.length := (List.getElem?_eq_some_iff.1 h).1
  have hl : (strVals (ss.take k)).length = k := by simp [strVals]; omega
  unfold copied
  rw [List.set_append_right _ _ (by omega), hl, Nat.sub_self, show ss.length - k = (ss.length - (k + 1)) + 1 by omega, List.replicate_succ, List.set_cons_zero, List.take_add_one, h]
  simp [strVals]
theorem made_copied {ss : List ByteArray} {n : Nat} (h : ss.length = n) : (madeCells (Value.string ByteArray.empty).cells (n * 1)).toList = copied ss 0 := by
  subst h
  apply List.ext_getElem?
  intro j
  simp [madeCells, copied, strVals, Value.cells, Nat.mod_one]
  by_cases hj : j < ss.length
  · simp [hj]
  · simp [hj]
theorem copied_all (ss : List ByteArray) : copied ss ss.length = strVals ss := by simp [copied]

set_option maxHeartbeats 1600000 in
theorem to_any (a : Option Addr) (n c : Nat) (ss : List ByteArray) (w : World) (hn : n ≤ 1048576) (hT : TextsAt w a n ss) :
    Calls Try.prog 27 #[.slice a n c] w fun e w' => StrsAns ss 9 w e w' := by
  have hl := hT.1
  have HL := hidOf hl
  clear hl
  obtain ⟨i0, hi, hz0, hz1, hz2⟩ := info_parts infoStrT
  go_enter Try.func27, Try.ntmps27
  go_wp2_with (at_make; refine wpList_make_full _ rfl _ _ 24 rfl w.heap.size 9 i0 (.string ByteArray.empty) 1 Try.underlying24 hi hz0 hz1 .i64 .i64 _ _ n rfl rfl rfl rfl (by rw [hz2]; omega) (by unfold maxLen; omega) (Nat.le_refl _) ?_; intro w1 hown hgrow)
  rw [made_copied HL.out] at hown
  have hb1 : Below w.heap.size w w1 := (Below.refl _ w).grown hgrow (Nat.le_refl _) (fun k e => by cases e)
  go_loopw [4] (fun i wr => ∃ k : Nat, k ≤ n ∧ i = .int .i64 k ∧ wr.ownsRow w.heap.size 9 1 (.slice (some ⟨w.heap.size, 0, none⟩) n n) n (copied ss k) ∧ Below w.heap.size w wr) (fun i _ => n - (intOf i).toNat)
  case atStart => exact ⟨0, Nat.zero_le _, rfl, hown, hb1⟩
  case round =>
    obtain ⟨k, hk, rfl, ho, hb⟩ := hrel
    by_cases hlt : k < n
    · obtain ⟨t, ht⟩ : ∃ t, ss[k]? = some t := ⟨_, List.getElem?_eq_getElem (by rw [HL.out]; exact hlt)⟩
      obtain ⟨b, off, rfl, hlb, hcs⟩ := hT.2.2 (by omega)
      have hc : wr.cell? ⟨b, off + k, none⟩ = some (.string t) := by rw [hb.cell hlb]; exact hcs k t ht
      have hst := ho.stored k (.string t)
      rw [copied_set ht] at hst
      have HS := hidOf hst
      have hcd := ho.cellAt k (by omega)
      have hf := ho.frozenAt k
      obtain ⟨u, hu⟩ : ∃ u, (copied ss k)[k]? = some u := ⟨_, List.getElem?_eq_getElem (by have := ho.1; omega)⟩
      rw [hu] at hcd
      clear hst ht hcs hu
      have hA : (0 : Int) ≤ (k : Int) := by omega
      have hB : (k : Int) < (n : Int) := by omega
      go_wp2
      go_roundw
      case rel => exact ⟨k + 1, by omega, by go_num, HS.out.1, hb.grown HS.out.2 hb.size (fun q hq => by cases hq; exact Nat.le_refl _)⟩
      case measure => simp [intOf]; omega
    · have hke : k = n := by omega
      have HK := hidOf hke
      clear hke
      go_wp2
      go_ret
      refine ⟨hb, _, rfl, ?_⟩
      have h2 := ho
      rw [HK.out, ← HL.out, copied_all] at h2
      rw [HL.out] at h2 ⊢
      exact h2
end Go.Proofs.Ytdlpepmdjbmmmaa
