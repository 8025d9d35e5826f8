/- Drawn lines: spec.l18Lines. -/
import Derived.Test.YtdlpepmdjbmmmaaDrawPk
import Derived.Test.YtdlpepmdjbmmmaaCutLib
import Derived.Lib.AppendIntMem
namespace Go.Proofs.Ytdlpepmdjbmmmaa
open Go.RowKit

/-- The lines that are drawn from. -/
def lines18 : List ByteArray := [⟨#[97]⟩, ⟨#[98]⟩, ⟨#[99]⟩, ⟨#[]⟩]
theorem lines18_ok : ∀ x ∈ lines18, x.size ≤ 1 := by
  intro x hx
  have : x = ⟨#[97]⟩ ∨ x = ⟨#[98]⟩ ∨ x = ⟨#[99]⟩ ∨ x = ⟨#[]⟩ := by simpa [lines18] using hx
  rcases this with rfl | rfl | rfl | rfl <;> decide
theorem strCells_at (w : World) (c : Array Value) (T : Nat) (L : List ByteArray) (h : c.toList = strVals L) (j : Nat) : (w.alloc (.cells c T)).cell? ⟨w.heap.size, j, none⟩ = (strVals L)[j]? := by
  rw [World.cell?_alloc_new, ← h]
  simp
theorem infoStrDl : (Try.prog.info? 9).map (fun i => (i.zero, i.size, i.bytes)) = some (some (.string ByteArray.empty), 1, 16) := by kernel_rfl
/-- Drawn lines, in memory of their own; the cursor has gone on. -/
def LnAns (base : Nat) (w : World) (blk : Nat) (a : Option Addr) (len cap : Nat) (e : Ending) (w' : World) : Prop :=
  ∃ (v : Value) (ws : List ByteArray), ws.length ≤ 8 ∧ (∀ x ∈ ws, x ∈ lines18) ∧ e = .returned v ∧ w'.ownsRow w.heap.size 9 1 v ws.length (strVals ws) ∧ Cur base w' blk a len cap ∧ w.grownBy w' (some blk)
theorem ln_mk {base : Nat} {w w' : World} {blk : Nat} {a : Option Addr} {len cap : Nat} {v : Value} {ws : List ByteArray} (h1 : ws.length ≤ 8) (h2 : ∀ x ∈ ws, x ∈ lines18) (h3 : w'.ownsRow w.heap.size 9 1 v ws.length (strVals ws)) (h4 : Cur base w' blk a len cap) (h5 : w.grownBy w' (some blk)) : LnAns base w blk a len cap (.returned v) w' := ⟨v, ws, h1, h2, rfl, h3, h4, h5⟩

set_option maxHeartbeats 3000000 in
set_option maxRecDepth 20000 in
theorem lns18_any (base : Nat) (w : World) (blk : Nat) (a : Option Addr) (len cap : Nat) (hc : Cur base w blk a len cap) :
    Calls Try.prog 37 #[.pointer (some ⟨blk, 0, none⟩)] w fun e w' => LnAns base w blk a len cap e w' := by
  obtain ⟨i0, hi, hz0, hz1, hz2⟩ := info_parts infoStrDl
  have hbl := hc.lt
  have hca0 : ∀ o, Cur base (w.alloc o) blk a len cap := fun o => hc.kept (World.grownBy_alloc w o none) (fun k hk => by cases hk)
  have HC := hidOf hca0
  have hbo := hc.own
  clear hc hca0
  go_enter Try.func37, Try.ntmps37
  go_wp2
  go_loopw [3, 4] (fun v i wr => ∃ (k : Nat) (os : List ByteArray), k ≤ 8 ∧ os.length = k ∧ i = .int .i64 k ∧ Hid (∀ x ∈ os, x ∈ lines18) ∧ wr.ownsRow w.heap.size 9 1 v k (strVals os) ∧ w.heap.size ≤ wr.heap.size ∧ Hid (Cur base wr blk a len cap ∧ w.grownBy wr (some blk))) (fun _ i _ => 8 - (intOf i).toNat)
  case atStart => exact ⟨0, [], by omega, rfl, rfl, hidOf (fun x hx => by cases hx), World.ownsRow_made w #[] 0 (Nat.le_refl _) (by decide) rfl, by simp, hidOf ⟨HC.out _, World.grownBy_alloc w _ _⟩⟩
  case round =>
    obtain ⟨k, os, hk, hol, rfl, HM, ho, hsz, HI⟩ := hrel
    have HO := hidOf hol
    clear hol
    obtain ⟨a1, c1, rfl⟩ := owns_slice ho
    go_wp2_with fail
    refine (below_any base _ blk a len cap 8 HI.out.1 (by omega) (by omega)).mono ?_
    rintro e w1 ⟨x, hx, rfl, hc1, hg1⟩
    have hne : (Value.slice a1 k c1).ownBlock = none ∨ (Value.slice a1 k c1).ownBlock ≠ some blk := by
      cases hv : (Value.slice a1 k c1).ownBlock with
      | none => exact .inl rfl
      | some g => right; intro e; have := (ho.lt g hv).1; cases e; omega
    have ho1 := ho.kept hg1 hne
    have hs1 := hg1.size
    have H1 := hidOf (And.intro hc1 (grown_two HI.out.2 hg1))
    clear hc1 hg1 HI ho
    by_cases hkx : k < x
    · have hA : (k : Int) < (x : Int) := by omega
      have hca : ∀ o, Cur base (w1.alloc o) blk a len cap := fun o => H1.out.1.kept (World.grownBy_alloc w1 o none) (fun k hk => by cases hk)
      go_wp2_with fail
      refine (pick_in base _ blk a len cap w1.heap.size 4 4 lines18 (hca _) (by omega) (by omega) rfl (by have := H1.out.1.lt; omega) (by simp) (fun j hj => strCells_at w1 _ _ lines18 rfl j)).mono ?_
      rintro e w2 ⟨t, ht, rfl, hc2, hg2⟩
      have ho2 := (ho1.alloc (.cells #[.string ⟨#[97]⟩, .string ⟨#[98]⟩, .string ⟨#[99]⟩, .string ⟨#[]⟩] 9)).kept hg2 hne
      have hs2 : w1.heap.size ≤ w2.heap.size := by have := hg2.size; simp at this; omega
      have H2 := hidOf (And.intro hc2 (grown_two (grown_row H1.out.2 (World.grownBy_alloc w1 _ none) (fun k hk => by cases hk)) hg2))
      have HT := hidOf ht
      have hrow : ∀ q, (Value.slice a1 k c1).ownBlock = some q → w.heap.size ≤ q := fun q hq => (ho2.lt q hq).1
      clear hc2 hg2 hca H1 ho1 ht
      go_wp2_with (at_builtin; refine wpList_append_own _ rfl _ _ 24 rfl w.heap.size 9 i0 (.string ByteArray.empty) 1 16 Try.underlying24 hi hz0 hz1 hz2 rfl (by decide) _ _ _ rfl (ho2.alloc _) ⟨w2.heap.size, 0, none⟩ 1 1 [.string t] rfl rfl (cell_one_new _ _ _) (fun x hx => by simp at hx; subst hx; rfl) (by unfold maxLen; omega) (by omega) (by simp; omega) ?_; intro v' w4 hown' hgrow4 hnil4)
      go_roundw
      case rel =>
        have hca := H2.out.1.kept (World.grownBy_alloc w2 (.cells #[.string t] 9) none) (fun k hk => by cases hk)
        refine ⟨k + 1, os ++ [t], by omega, by simp [HO.out], by go_num, hidOf (fun y hy => ?_), by simpa [strVals] using hown', by have := hgrow4.size; simp at this; omega, hidOf ⟨hca.kept hgrow4 (fun q hq => ⟨by have := hrow q hq; omega, by have := hrow q hq; omega⟩), ?_⟩⟩
        · rcases List.mem_append.1 hy with h | h
          · exact HM.out y h
          · simp at h; rw [h]; exact HT.out
        · exact grown_row (grown_row H2.out.2 (World.grownBy_alloc w2 _ none) (fun k hk => by cases hk)) hgrow4 (fun q hq => .inl (hrow q hq))
      case measure => simp [intOf]; omega
    · have hA : ¬ (k : Int) < (x : Int) := by omega
      go_wp2
      go_ret
      exact ln_mk (by rw [HO.out]; exact hk) HM.out (by rw [HO.out]; exact ho1) H1.out.1 H1.out.2

end Go.Proofs.Ytdlpepmdjbmmmaa
