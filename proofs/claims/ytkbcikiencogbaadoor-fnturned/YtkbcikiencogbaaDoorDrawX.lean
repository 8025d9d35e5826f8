/- A drawn text has as many bytes as was asked for. -/
import Derived.Test.YtkbcikiencogbaaDoorDrawK
namespace Go.Proofs.YtkbcikiencogbaaDoor
open Go.RowKit

/-- A drawn text of n bytes. -/
def TextAns (base : Nat) (w : World) (blk : Nat) (a : Option Addr) (len cap : Nat) (n : Nat) (e : Ending) (w' : World) : Prop :=
  ∃ t : ByteArray, t.size = n ∧ e = .returned (.string t) ∧ Cur base w' blk a len cap ∧ w.grownBy w' (some blk)

theorem text_mk {base : Nat} {w w' : World} {blk : Nat} {a : Option Addr} {len cap n : Nat} {t : ByteArray} (ht : t.size = n) (hc : Cur base w' blk a len cap) (hg : w.grownBy w' (some blk)) : TextAns base w blk a len cap n (.returned (.string t)) w' := ⟨t, ht, rfl, hc, hg⟩

set_option maxHeartbeats 1600000 in
theorem text_any (base : Nat) (w : World) (blk : Nat) (a : Option Addr) (len cap n : Nat) (hc : Cur base w blk a len cap) (hn : n ≤ 5000) :
    Calls Tryd.prog 20 #[.pointer (some ⟨blk, 0, none⟩), .int .i64 n] w fun e w' => TextAns base w blk a len cap n e w' := by
  obtain ⟨i0, hi, hz0, hz1, hz2⟩ := info_parts infoByte
  have hbl := hc.lt
  have HC := hidOf hc
  clear hc
  go_enter Tryd.func20, Tryd.ntmps20
  go_wp2
  go_loopw [5, 6] (fun v i wr => ∃ (k : Nat) (bs : List Int), k ≤ n ∧ i = .int .i64 k ∧ bs.length = k ∧ wr.ownsRow w.heap.size 5 1 v k (bs.map (Value.int .u8)) ∧ Hid (Cur base wr blk a len cap ∧ w.grownBy wr (some blk)) ∧ w.heap.size ≤ wr.heap.size) (fun _ i _ => n - (intOf i).toNat)
  case atStart => exact ⟨0, [], Nat.zero_le _, rfl, rfl, World.ownsRow_made w #[] 0 (Nat.le_refl _) (by decide) rfl, ⟨HC.out.kept (World.grownBy_alloc w _ none) (fun k hk => by cases hk), World.grownBy_alloc w _ _⟩, by simp⟩
  case round =>
    obtain ⟨k, bs, hk, rfl, hbs, hown, HI, hsz⟩ := hrel
    have HL := hidOf hbs
    clear hbs
    by_cases hlt : k < n
    · go_wp2_with fail
      refine (byte_any base _ blk a len cap HI.out.1).mono ?_
      rintro e w1 ⟨x, hx, rfl, hc1, hg1⟩
      have hown1 := hown.kept hg1 (by
        cases hv : u5.ownBlock with
        | none => exact Or.inl rfl
        | some g => right; intro e; have := (hown.lt g hv).1; cases e; omega)
      have hs1 := hg1.size
      have H1 := hidOf (And.intro hc1 (grown_two HI.out.2 hg1))
      clear hc1 hg1
      go_wp2_with (at_builtin; refine wpList_append_own _ rfl _ _ 22 rfl w.heap.size 5 i0 (.int .u8 0) 1 1 Tryd.underlying22 hi hz0 hz1 hz2 rfl (by decide) _ _ _ rfl (hown1.alloc _) ⟨w1.heap.size, 0, none⟩ 1 1 [.int .u8 (x : Int)] rfl rfl (cell_one_new _ _ _) (fun x hx => by simp at hx; subst hx; rfl) (by unfold maxLen; omega) (by omega) (by simp; omega) ?_; intro v' w3 hown' hgrow3 hnil3)
      go_roundw
      case rel =>
        have hga := grown_row H1.out.2 (World.grownBy_alloc w1 (.cells #[.int .u8 (x : Int)] 5) none) (fun k hk => by cases hk)
        have hca := H1.out.1.kept (World.grownBy_alloc w1 (.cells #[.int .u8 (x : Int)] 5) none) (fun k hk => by cases hk)
        have hrow : ∀ k, u5.ownBlock = some k → w.heap.size ≤ k := fun k hk => (hown.lt k hk).1
        exact ⟨k + 1, bs ++ [(x : Int)], by omega, by go_num, by simp [HL.out], by simpa using hown', ⟨hca.kept hgrow3 (fun k hk => ⟨by have := hrow k hk; have := HC.out.own; omega, by have := hrow k hk; omega⟩), grown_row hga hgrow3 (fun k hk => Or.inl (hrow k hk))⟩, by have := hgrow3.size; simp at this; omega⟩
      case measure => simp [intOf]; omega
    · have hcv := conv_owned (P := Tryd.prog) 22 9 5 w.heap.size _ _ _ Tryd.underlying22 Tryd.underlying5 Tryd.underlying9 hown
      go_wp2
      go_ret
      exact text_mk (by rw [strOfNums_size, HL.out]; omega) HI.out.1 HI.out.2
end Go.Proofs.YtkbcikiencogbaaDoor
