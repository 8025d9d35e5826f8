/- Drawn texts: they have as many bytes as was asked for. -/
import Derived.Test.YtcaimnffnlpdcaaDoorDraw
import Derived.Laws.OwnMore
namespace Go.Proofs.YtcaimnffnlpdcaaDoor
open Go.RowKit

theorem infoByte : (Tryd.prog.info? 5).map (fun i => (i.zero, i.size, i.bytes)) = some (some (.int .u8 0), 1, 1) := by kernel_rfl
theorem Cur.lt {base : Nat} {w : World} {blk : Nat} {a : Option Addr} {len cap : Nat} (h : Cur base w blk a len cap) : blk < w.heap.size := by
  obtain ⟨i, H, _, hb⟩ := h.block
  exact (Array.getElem?_eq_some_iff.1 hb).1
/-- A cursor stays where its block and the old memory stay. -/
theorem Cur.kept {base : Nat} {w w' : World} {blk : Nat} {a : Option Addr} {len cap : Nat} {row : Option Nat} (h : Cur base w blk a len cap) (hg : w.grownBy w' row) (hr : ∀ k, row = some k → base ≤ k ∧ k ≠ blk) : Cur base w' blk a len cap := by
  obtain ⟨i, H, hi, hb⟩ := h.block
  refine ⟨h.own, h.code.below ((Below.refl base w).grown hg (by have := h.lt; have := h.own; omega) (fun k hk => (hr k hk).1)), i, H, hi, ?_⟩
  rw [hg.block blk h.lt (fun e => (hr blk e.symm).2 rfl)]
  exact hb
theorem grown_row {a b c : World} {r1 r2 : Option Nat} (h1 : a.grownBy b r1) (h2 : b.grownBy c r2) (h : ∀ k, r2 = some k → a.heap.size ≤ k ∨ r1 = some k) : a.grownBy c r1 :=
  ⟨h2.os.trans h1.os, h2.tape.trans h1.tape, h2.output.trans h1.output, Nat.le_trans h1.size h2.size, fun k hk hr => (h2.block k (Nat.lt_of_lt_of_le hk h1.size) (fun e => by rcases h k e.symm with h | h; omega; exact hr h.symm)).trans (h1.block k hk hr)⟩

def OnceAns (base : Nat) (w : World) (blk : Nat) (a : Option Addr) (len cap : Nat) (e : Ending) (w' : World) : Prop :=
  ∃ b : Bool, e = .returned (.bool b) ∧ Cur base w' blk a len cap ∧ w.grownBy w' (some blk)
theorem once_mk {base : Nat} {w w' : World} {blk : Nat} {a : Option Addr} {len cap : Nat} {b : Bool} (hc : Cur base w' blk a len cap) (hg : w.grownBy w' (some blk)) : OnceAns base w blk a len cap (.returned (.bool b)) w' := ⟨b, rfl, hc, hg⟩
theorem once_any (base : Nat) (w : World) (blk : Nat) (a : Option Addr) (len cap : Nat) (n : Int) (hc : Cur base w blk a len cap) (h0 : 0 < n) (h1 : n ≤ 2147483648) :
    Calls Tryd.prog 26 #[.pointer (some ⟨blk, 0, none⟩), .int .i64 n] w fun e w' => OnceAns base w blk a len cap e w' := by
  have HC := hidOf hc
  clear hc
  go_enter Tryd.func26, Tryd.ntmps26
  go_wp2_with fail
  refine (below_any base _ blk a len cap n HC.out h0 h1).mono ?_
  rintro e w1 ⟨x, hx, rfl, hc1, hg1⟩
  have H1 := hidOf (And.intro hc1 hg1)
  clear hc1 hg1
  go_wp2
  go_ret
  exact once_mk H1.out.1 H1.out.2

/-- A drawn text of n bytes. -/
def TextAns (base : Nat) (w : World) (blk : Nat) (a : Option Addr) (len cap : Nat) (n : Nat) (e : Ending) (w' : World) : Prop :=
  ∃ t : ByteArray, t.size = n ∧ e = .returned (.string t) ∧ Cur base w' blk a len cap ∧ w.grownBy w' (some blk)
theorem text_mk {base : Nat} {w w' : World} {blk : Nat} {a : Option Addr} {len cap n : Nat} {t : ByteArray} (ht : t.size = n) (hc : Cur base w' blk a len cap) (hg : w.grownBy w' (some blk)) : TextAns base w blk a len cap n (.returned (.string t)) w' := ⟨t, ht, rfl, hc, hg⟩
set_option maxHeartbeats 1600000 in
theorem text_any (base : Nat) (w : World) (blk : Nat) (a : Option Addr) (len cap n : Nat) (hc : Cur base w blk a len cap) (hn : n ≤ 5000) :
    Calls Tryd.prog 29 #[.pointer (some ⟨blk, 0, none⟩), .int .i64 n] w fun e w' => TextAns base w blk a len cap n e w' := by
  obtain ⟨i0, hi, hz0, hz1, hz2⟩ := info_parts infoByte
  have hbl := hc.lt
  have HC := hidOf hc
  clear hc
  go_enter Tryd.func29, Tryd.ntmps29
  go_wp2
  go_loopw [5, 6] (fun v i wr => ∃ (k : Nat) (bs : List Int), k ≤ n ∧ i = .int .i64 k ∧ bs.length = k ∧ wr.ownsRow w.heap.size 5 1 v k (bs.map (Value.int .u8)) ∧ Hid (Cur base wr blk a len cap ∧ w.grownBy wr (some blk)) ∧ w.heap.size ≤ wr.heap.size) (fun _ i _ => n - (intOf i).toNat)
  case atStart => exact ⟨0, [], Nat.zero_le _, rfl, rfl, World.ownsRow_made w #[] 0 (Nat.le_refl _) (by decide) rfl, ⟨HC.out.kept (World.grownBy_alloc w _ none) (fun k hk => by cases hk), World.grownBy_alloc w _ _⟩, by simp⟩
  case round =>
    obtain ⟨k, bs, hk, rfl, hbs, hown, HI, hsz⟩ := hrel
    have HL := hidOf hbs
    clear hbs
    by_cases hlt : k < n
    · go_wp2_with fail
      refine (byte_any base _ blk a len cap HI.out.1).mono ?_
      rintro e w1 ⟨x, hx, rfl, hc1, hg1⟩
      have hown1 := hown.kept hg1 (by
        cases hv : u5.ownBlock with
        | none => exact Or.inl rfl
        | some g => right; intro e; have := (hown.lt g hv).1; cases e; omega)
      have hs1 := hg1.size
      have H1 := hidOf (And.intro hc1 (grown_two HI.out.2 hg1))
      clear hc1 hg1
      go_wp2_with (at_builtin; refine wpList_append_own _ rfl _ _ 22 rfl w.heap.size 5 i0 (.int .u8 0) 1 1 Tryd.underlying22 hi hz0 hz1 hz2 rfl (by decide) _ _ _ rfl (hown1.alloc _) ⟨w1.heap.size, 0, none⟩ 1 1 [.int .u8 (x : Int)] rfl rfl (cell_one_new _ _ _) (fun x hx => by simp at hx; subst hx; rfl) (by unfold maxLen; omega) (by omega) (by simp; omega) ?_; intro v' w3 hown' hgrow3 hnil3)
      go_roundw
      case rel =>
        have hga := grown_row H1.out.2 (World.grownBy_alloc w1 (.cells #[.int .u8 (x : Int)] 5) none) (fun k hk => by cases hk)
        have hca := H1.out.1.kept (World.grownBy_alloc w1 (.cells #[.int .u8 (x : Int)] 5) none) (fun k hk => by cases hk)
        have hrow : ∀ k, u5.ownBlock = some k → w.heap.size ≤ k := fun k hk => (hown.lt k hk).1
        exact ⟨k + 1, bs ++ [(x : Int)], by omega, by go_num, by simp [HL.out], by simpa using hown', ⟨hca.kept hgrow3 (fun k hk => ⟨by have := hrow k hk; have := HC.out.own; omega, by have := hrow k hk; omega⟩), grown_row hga hgrow3 (fun k hk => Or.inl (hrow k hk))⟩, by have := hgrow3.size; simp at this; omega⟩
      case measure => simp [intOf]; omega
    · have hcv := conv_owned (P := Tryd.prog) 22 9 5 w.heap.size _ _ _ Tryd.underlying22 Tryd.underlying5 Tryd.underlying9 hown
      go_wp2
      go_ret
      exact text_mk (by rw [strOfNums_size, HL.out]; omega) HI.out.1 HI.out.2

/-- A text of one kind of byte. -/
def LongAns (w : World) (n : Nat) (e : Ending) (w' : World) : Prop := ∃ t : ByteArray, t.size = n ∧ e = .returned (.string t) ∧ Below w.heap.size w w'
theorem long_mk {w w' : World} {n : Nat} {t : ByteArray} (ht : t.size = n) (hb : Below w.heap.size w w') : LongAns w n (.returned (.string t)) w' := ⟨t, ht, rfl, hb⟩
set_option maxHeartbeats 1600000 in
theorem long_any (w : World) (n : Nat) (x : Int) (hn : n ≤ 1048576) :
    Calls Tryd.prog 27 #[.int .i64 n, .int .u8 x] w fun e w' => LongAns w n e w' := by
  obtain ⟨i0, hi, hz0, hz1, hz2⟩ := info_parts infoByte
  go_enter Tryd.func27, Tryd.ntmps27
  go_wp2_with (at_make; refine wpList_make_full _ rfl _ _ 22 rfl w.heap.size 5 i0 (.int .u8 0) 1 Tryd.underlying22 hi hz0 hz1 _ _ _ _ n rfl rfl rfl rfl (by rw [hz2]; omega) (by unfold maxLen; omega) (Nat.le_refl _) ?_)
  intro w1 hown1 hgrow1
  rw [toList_madeCells_one] at hown1
  have hown2 : w1.ownsRow w.heap.size 5 1 (.slice (some ⟨w.heap.size, 0, none⟩) n n) n ((List.replicate n (0 : Int)).map (Value.int .u8)) := by simpa using hown1
  clear hown1
  have hbel1 : Below w.heap.size w w1 := (Below.refl _ w).grown hgrow1 (Nat.le_refl _) (fun _ h => by cases h)
  go_wp2
  go_loopw [6] (fun i wr => ∃ (k : Nat) (bs : List Int), k ≤ n ∧ i = .int .i64 k ∧ Hid (bs.length = n) ∧ wr.ownsRow w.heap.size 5 1 (.slice (some ⟨w.heap.size, 0, none⟩) n n) n (bs.map (Value.int .u8)) ∧ Below w.heap.size w wr) (fun i _ => n - (intOf i).toNat)
  case atStart => exact ⟨0, List.replicate n 0, Nat.zero_le _, rfl, by show (List.replicate n (0 : Int)).length = n; simp, hown2, hbel1⟩
  case round =>
    obtain ⟨k, bs, hk, rfl, HL, hown, hb⟩ := hrel
    have hsz := hb.size
    by_cases hlt : k < n
    · have hA : (0 : Int) ≤ (k : Int) := by omega
      have hB : (k : Int) < (n : Int) := by omega
      have hc := hown.cellAt k (by omega)
      rw [List.getElem?_eq_getElem (by have := HL.out; simp; omega)] at hc
      have hf := hown.frozenAt k
      have hst := hown.stored k (.int .u8 x)
      rw [← List.map_set] at hst
      have HS := hidOf hst
      clear hst
      go_wp2
      go_roundw
      case rel => exact ⟨k + 1, bs.set k x, by omega, by go_num, by have := HL.out; show (bs.set k x).length = n; simp; omega, HS.out.1, hb.grown HS.out.2 hsz (fun q hq => by cases hq; exact Nat.le_refl _)⟩
      case measure => simp [intOf]; omega
    · have hcv := conv_owned (P := Tryd.prog) 22 9 5 w.heap.size _ _ _ Tryd.underlying22 Tryd.underlying5 Tryd.underlying9 hown
      go_wp2
      go_ret
      exact long_mk (by rw [strOfNums_size]; exact HL.out) hb
end Go.Proofs.YtcaimnffnlpdcaaDoor
