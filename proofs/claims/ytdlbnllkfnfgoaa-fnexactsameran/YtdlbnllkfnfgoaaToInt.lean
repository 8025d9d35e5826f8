/- What the laws' helper on lists of numbers does that copies. -/
import Derived.Test.YtdlbnllkfnfgoaaEqIn
namespace Go.Proofs.Ytdlbnllkfnfgoaa
open Go.RowKit

set_option maxHeartbeats 1600000 in
theorem toInts_any (a : Option Addr) (c : Nat) (ks : List Int) (w : World) (hn0 : ks.length ≤ 1048576) (hT : KidsAt w a ks) :
    Calls Try.prog 27 #[.slice a ks.length c] w fun e w' => e = .returned (.slice (some ⟨w.heap.size, 0, none⟩) ks.length ks.length) ∧ w'.ownsRow w.heap.size 3 1 (.slice (some ⟨w.heap.size, 0, none⟩) ks.length ks.length) ks.length (intVals ks) ∧ Below w.heap.size w w' := by
  unfold KidsAt at hT
  obtain ⟨n, hn⟩ : ∃ n, n = ks.length := ⟨_, rfl⟩
  rw [← hn] at hT hn0 ⊢
  have HN := hidOf hn
  clear hn
  obtain ⟨i0, hi, hz0, hz1, hz2⟩ := info_parts infoIntT
  go_enter Try.func27, Try.ntmps27
  go_wp2_with (at_make; refine wpList_make_full _ rfl _ _ 33 rfl w.heap.size 3 i0 (.int .i64 0) 1 Try.underlying33 hi hz0 hz1 .i64 .i64 _ _ n rfl rfl rfl rfl (by rw [hz2]; omega) (by unfold maxLen; omega) (Nat.le_refl _) ?_; intro w1 hown hgrow)
  have hb1 : Below w.heap.size w w1 := (Below.refl _ w).grown hgrow (Nat.le_refl _) (fun k e => by cases e)
  obtain ⟨zs, hzs⟩ : ∃ zs, zs = (madeCells (Value.int IntKind.i64 0).cells (n * 1)).toList := ⟨_, rfl⟩
  rw [← hzs] at hown
  clear hzs hgrow
  go_loopw [4] (fun i wr => ∃ (k : Nat) (zs : List Value), k ≤ n ∧ i = .int .i64 k ∧ wr.ownsRow w.heap.size 3 1 (.slice (some ⟨w.heap.size, 0, none⟩) n n) n zs ∧ Hid (zs.take k = intVals (ks.take k)) ∧ Below w.heap.size w wr) (fun i _ => n - (intOf i).toNat)
  case atStart => exact ⟨0, zs, Nat.zero_le _, rfl, hown, rfl, hb1⟩
  case round =>
    obtain ⟨k, zs, hk, rfl, ho, HZ, hb⟩ := hrel
    by_cases hlt : k < n
    · obtain ⟨t, ht⟩ : ∃ t, ks[k]? = some t := ⟨_, List.getElem?_eq_getElem (by rw [← HN.out]; exact hlt)⟩
      obtain ⟨b, off, rfl, hlb, hcs⟩ := hT (by omega)
      have hc : wr.cell? ⟨b, off + k, none⟩ = some (.int .i64 t) := by rw [hb.cell hlb]; exact hcs k t ht
      have hlz : zs.length = n * 1 := ho.1
      have HS := hidOf (ho.stored k (.int .i64 t))
      have hf := ho.frozenAt k
      obtain ⟨u, hu⟩ : ∃ u, wr.cell? ⟨w.heap.size, k, none⟩ = some u := ⟨_, (ho.cellAt k (by omega)).trans (List.getElem?_eq_getElem (by omega))⟩
      have HT := hidOf ht
      have HLZ := hidOf hlz
      clear ht hcs hlz ho
      have hA : (0 : Int) ≤ (k : Int) := by omega
      have hB : (k : Int) < (n : Int) := by omega
      go_wp2
      go_roundw
      case rel => exact ⟨k + 1, _, by omega, by go_num, HS.out.1, hidOf (by
        have h1 := HZ.out
        have h2 := HLZ.out
        rw [List.take_add_one, List.take_set_of_le (Nat.le_refl _), h1, List.getElem?_set_self (by omega), List.take_add_one, HT.out]
        simp [intVals]), hb.grown HS.out.2 hb.size (fun q hq => by cases hq; exact Nat.le_refl _)⟩
      case measure => simp [intOf]; omega
    · go_wp2
      go_ret
      refine ⟨rfl, ?_, hb⟩
      have hz : zs = intVals ks := by
        have h1 := HZ.out
        have h2 : zs.length = n * 1 := ho.1
        have h3 := HN.out
        rw [List.take_of_length_le (by omega), List.take_of_length_le (by omega)] at h1
        exact h1
      rw [← hz]
      exact ho
end Go.Proofs.Ytdlbnllkfnfgoaa
