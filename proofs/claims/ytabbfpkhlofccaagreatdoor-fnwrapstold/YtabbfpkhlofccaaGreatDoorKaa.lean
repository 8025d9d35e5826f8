/- What the drawing functions share: a cursor stays where its block stays. -/
import Derived.Test.YtabbfpkhlofccaaGreatDoorDraw
import Derived.Laws.OwnMore
import Derived.Test.YtabbfpkhlofccaaGreatDoorCutLib
import Derived.Test.YtabbfpkhlofccaaGreatDoorWrapLib
import Derived.Lib.AppendIntMem
namespace Go.Proofs.YtabbfpkhlofccaaGreatDoor
open Go.RowKit

theorem infoByte : (Tryz.prog.info? 5).map (fun i => (i.zero, i.size, i.bytes)) = some (some (.int .u8 0), 1, 1) := by kernel_rfl

theorem Cur.lt {base : Nat} {w : World} {blk : Nat} {a : Option Addr} {len cap : Nat} (h : Cur base w blk a len cap) : blk < w.heap.size := by
  obtain ⟨i, H, _, hb⟩ := h.block
  exact (Array.getElem?_eq_some_iff.1 hb).1

/-- A cursor stays where its block and the old memory stay. -/
theorem Cur.kept {base : Nat} {w w' : World} {blk : Nat} {a : Option Addr} {len cap : Nat} {row : Option Nat} (h : Cur base w blk a len cap) (hg : w.grownBy w' row) (hr : ∀ k, row = some k → base ≤ k ∧ k ≠ blk) : Cur base w' blk a len cap := by
  obtain ⟨i, H, hi, hb⟩ := h.block
  refine ⟨h.own, h.code.below ((Below.refl base w).grown hg (by have := h.lt; have := h.own; omega) (fun k hk => (hr k hk).1)), i, H, hi, ?_⟩
  rw [hg.block blk h.lt (fun e => (hr blk e.symm).2 rfl)]
  exact hb

theorem grown_row {a b c : World} {r1 r2 : Option Nat} (h1 : a.grownBy b r1) (h2 : b.grownBy c r2) (h : ∀ k, r2 = some k → a.heap.size ≤ k ∨ r1 = some k) : a.grownBy c r1 :=
  ⟨h2.os.trans h1.os, h2.tape.trans h1.tape, h2.output.trans h1.output, Nat.le_trans h1.size h2.size, fun k hk hr => (h2.block k (Nat.lt_of_lt_of_le hk h1.size) (fun e => by rcases h k e.symm with h | h; omega; exact hr h.symm)).trans (h1.block k hk hr)⟩
end Go.Proofs.YtabbfpkhlofccaaGreatDoor
/- A drawn text out of a list is one of the list. -/
namespace Go.Proofs.YtabbfpkhlofccaaGreatDoor
open Go.RowKit

/-- One of the list; the cursor has gone on. -/
def PkAns (base : Nat) (w : World) (blk : Nat) (a : Option Addr) (len cap : Nat) (L : List ByteArray) (e : Ending) (w' : World) : Prop :=
  ∃ t : ByteArray, t ∈ L ∧ e = .returned (.string t) ∧ Cur base w' blk a len cap ∧ w.grownBy w' (some blk)
theorem pk_mk {base : Nat} {w w' : World} {blk : Nat} {a : Option Addr} {len cap : Nat} {L : List ByteArray} {t : ByteArray} (ht : t ∈ L) (hc : Cur base w' blk a len cap) (hg : w.grownBy w' (some blk)) : PkAns base w blk a len cap L (.returned (.string t)) w' := ⟨t, ht, rfl, hc, hg⟩

set_option maxHeartbeats 800000 in
set_option maxRecDepth 20000 in
theorem pick_in (base : Nat) (w : World) (blk : Nat) (a : Option Addr) (len cap : Nat) (lb n c : Nat) (L : List ByteArray) (hc : Cur base w blk a len cap) (hn0 : 0 < n) (hn : n ≤ 1000) (hL : L.length = n) (hne : lb ≠ blk) (hlt : lb < w.heap.size)
    (hcell : ∀ j, j < n → w.cell? ⟨lb, j, none⟩ = (strVals L)[j]?) :
    Calls Tryz.prog 27 #[.pointer (some ⟨blk, 0, none⟩), .slice (some ⟨lb, 0, none⟩) n c] w fun e w' => PkAns base w blk a len cap L e w' := by
  have HC := hidOf hc
  have HE := hidOf hcell
  have HL := hidOf hL
  clear hc hcell hL
  go_enter Tryz.func27, Tryz.ntmps27
  go_wp2_with fail
  refine (below_any base _ blk a len cap n HC.out (by omega) (by omega)).mono ?_
  rintro e w1 ⟨x, hx, rfl, hc1, hg1⟩
  have hxn : x < n := by omega
  obtain ⟨z, hz⟩ : ∃ z, L[x]? = some z := ⟨_, List.getElem?_eq_getElem (by rw [HL.out]; exact hxn)⟩
  have hcx : w1.cell? ⟨lb, x, none⟩ = some (.string z) := by
    rw [World.cell?_of_block (hg1.block lb hlt (fun e => hne (Option.some.inj e))), HE.out x hxn]
    simp [strVals, hz]
  have hA : (0 : Int) ≤ (x : Int) := by omega
  have H1 := hidOf (And.intro hc1 hg1)
  have hm := List.mem_of_getElem? hz
  have HM := hidOf hm
  clear hc1 hg1 hz hm
  go_wp2
  go_ret
  exact pk_mk HM.out H1.out.1 H1.out.2
end Go.Proofs.YtabbfpkhlofccaaGreatDoor
/- Drawn words: spec.l17Words. -/
namespace Go.Proofs.YtabbfpkhlofccaaGreatDoor
open Go.RowKit

/-- The words that are drawn from. -/
def words17 : List ByteArray := [⟨#[97]⟩, ⟨#[119, 111, 114, 100]⟩, ⟨#[111, 102]⟩, ⟨#[115, 111, 109, 101, 119, 104, 97, 116]⟩, ⟨#[105, 116]⟩, ⟨#[101, 120, 116, 114, 97, 111, 114, 100, 105, 110, 97, 114, 121]⟩]
theorem words17_ok : ∀ x ∈ words17, wOk x = true ∧ x.size ≤ 13 := by
  intro x hx
  have : x = ⟨#[97]⟩ ∨ x = ⟨#[119, 111, 114, 100]⟩ ∨ x = ⟨#[111, 102]⟩ ∨ x = ⟨#[115, 111, 109, 101, 119, 104, 97, 116]⟩ ∨ x = ⟨#[105, 116]⟩ ∨ x = ⟨#[101, 120, 116, 114, 97, 111, 114, 100, 105, 110, 97, 114, 121]⟩ := by simpa [words17] using hx
  rcases this with rfl | rfl | rfl | rfl | rfl | rfl <;> exact ⟨by decide, by decide⟩
theorem strCells_at (w : World) (c : Array Value) (T : Nat) (L : List ByteArray) (h : c.toList = strVals L) (j : Nat) : (w.alloc (.cells c T)).cell? ⟨w.heap.size, j, none⟩ = (strVals L)[j]? := by
  rw [World.cell?_alloc_new, ← h]
  simp
theorem infoStrDw : (Tryz.prog.info? 9).map (fun i => (i.zero, i.size, i.bytes)) = some (some (.string ByteArray.empty), 1, 16) := by kernel_rfl
/-- Drawn words, in memory of their own; the cursor has gone on. -/
def WdAns (base : Nat) (w : World) (blk : Nat) (a : Option Addr) (len cap : Nat) (e : Ending) (w' : World) : Prop :=
  ∃ (v : Value) (ws : List ByteArray), ws.length ≤ 12 ∧ (∀ x ∈ ws, x ∈ words17) ∧ e = .returned v ∧ w'.ownsRow w.heap.size 9 1 v ws.length (strVals ws) ∧ Cur base w' blk a len cap ∧ w.grownBy w' (some blk)
theorem wd_mk {base : Nat} {w w' : World} {blk : Nat} {a : Option Addr} {len cap : Nat} {v : Value} {ws : List ByteArray} (h1 : ws.length ≤ 12) (h2 : ∀ x ∈ ws, x ∈ words17) (h3 : w'.ownsRow w.heap.size 9 1 v ws.length (strVals ws)) (h4 : Cur base w' blk a len cap) (h5 : w.grownBy w' (some blk)) : WdAns base w blk a len cap (.returned v) w' := ⟨v, ws, h1, h2, rfl, h3, h4, h5⟩

set_option maxHeartbeats 3000000 in
set_option maxRecDepth 20000 in
theorem words17_any (base : Nat) (w : World) (blk : Nat) (a : Option Addr) (len cap : Nat) (hc : Cur base w blk a len cap) :
    Calls Tryz.prog 86 #[.pointer (some ⟨blk, 0, none⟩)] w fun e w' => WdAns base w blk a len cap e w' := by
  obtain ⟨i0, hi, hz0, hz1, hz2⟩ := info_parts infoStrDw
  have hbl := hc.lt
  have hca0 : ∀ o, Cur base (w.alloc o) blk a len cap := fun o => hc.kept (World.grownBy_alloc w o none) (fun k hk => by cases hk)
  have HC := hidOf hca0
  have hbo := hc.own
  clear hc hca0
  go_enter Tryz.func86, Tryz.ntmps86
  go_wp2
  go_loopw [3, 4] (fun v i wr => ∃ (k : Nat) (os : List ByteArray), k ≤ 12 ∧ os.length = k ∧ i = .int .i64 k ∧ Hid (∀ x ∈ os, x ∈ words17) ∧ wr.ownsRow w.heap.size 9 1 v k (strVals os) ∧ w.heap.size ≤ wr.heap.size ∧ Hid (Cur base wr blk a len cap ∧ w.grownBy wr (some blk))) (fun _ i _ => 12 - (intOf i).toNat)
  case atStart => exact ⟨0, [], by omega, rfl, rfl, hidOf (fun x hx => by cases hx), World.ownsRow_made w #[] 0 (Nat.le_refl _) (by decide) rfl, by simp, hidOf ⟨HC.out _, World.grownBy_alloc w _ _⟩⟩
  case round =>
    obtain ⟨k, os, hk, hol, rfl, HM, ho, hsz, HI⟩ := hrel
    have HO := hidOf hol
    clear hol
    obtain ⟨a1, c1, rfl⟩ := owns_slice ho
    go_wp2_with fail
    refine (below_any base _ blk a len cap 12 HI.out.1 (by omega) (by omega)).mono ?_
    rintro e w1 ⟨x, hx, rfl, hc1, hg1⟩
    have hne : (Value.slice a1 k c1).ownBlock = none ∨ (Value.slice a1 k c1).ownBlock ≠ some blk := by
      cases hv : (Value.slice a1 k c1).ownBlock with
      | none => exact .inl rfl
      | some g => right; intro e; have := (ho.lt g hv).1; cases e; omega
    have ho1 := ho.kept hg1 hne
    have hs1 := hg1.size
    have H1 := hidOf (And.intro hc1 (grown_two HI.out.2 hg1))
    clear hc1 hg1 HI ho
    by_cases hkx : k < x
    · have hA : (k : Int) < (x : Int) := by omega
      have hca : ∀ o, Cur base (w1.alloc o) blk a len cap := fun o => H1.out.1.kept (World.grownBy_alloc w1 o none) (fun k hk => by cases hk)
      go_wp2_with fail
      refine (pick_in base _ blk a len cap w1.heap.size 6 6 words17 (hca _) (by omega) (by omega) rfl (by have := H1.out.1.lt; omega) (by simp) (fun j hj => strCells_at w1 _ _ words17 rfl j)).mono ?_
      rintro e w2 ⟨t, ht, rfl, hc2, hg2⟩
      have ho2 := (ho1.alloc (.cells #[.string ⟨#[97]⟩, .string ⟨#[119, 111, 114, 100]⟩, .string ⟨#[111, 102]⟩, .string ⟨#[115, 111, 109, 101, 119, 104, 97, 116]⟩, .string ⟨#[105, 116]⟩, .string ⟨#[101, 120, 116, 114, 97, 111, 114, 100, 105, 110, 97, 114, 121]⟩] 9)).kept hg2 hne
      have hs2 : w1.heap.size ≤ w2.heap.size := by have := hg2.size; simp at this; omega
      have H2 := hidOf (And.intro hc2 (grown_two (grown_row H1.out.2 (World.grownBy_alloc w1 _ none) (fun k hk => by cases hk)) hg2))
      have HT := hidOf ht
      have hrow : ∀ q, (Value.slice a1 k c1).ownBlock = some q → w.heap.size ≤ q := fun q hq => (ho2.lt q hq).1
      clear hc2 hg2 hca H1 ho1 ht
      go_wp2_with (at_builtin; refine wpList_append_own _ rfl _ _ 24 rfl w.heap.size 9 i0 (.string ByteArray.empty) 1 16 Tryz.underlying24 hi hz0 hz1 hz2 rfl (by decide) _ _ _ rfl (ho2.alloc _) ⟨w2.heap.size, 0, none⟩ 1 1 [.string t] rfl rfl (cell_one_new _ _ _) (fun x hx => by simp at hx; subst hx; rfl) (by unfold maxLen; omega) (by omega) (by simp; omega) ?_; intro v' w4 hown' hgrow4 hnil4)
      go_roundw
      case rel =>
        have hca := H2.out.1.kept (World.grownBy_alloc w2 (.cells #[.string t] 9) none) (fun k hk => by cases hk)
        refine ⟨k + 1, os ++ [t], by omega, by simp [HO.out], by go_num, hidOf (fun y hy => ?_), by simpa [strVals] using hown', by have := hgrow4.size; simp at this; omega, hidOf ⟨hca.kept hgrow4 (fun q hq => ⟨by have := hrow q hq; omega, by have := hrow q hq; omega⟩), ?_⟩⟩
        · rcases List.mem_append.1 hy with h | h
          · exact HM.out y h
          · simp at h; rw [h]; exact HT.out
        · exact grown_row (grown_row H2.out.2 (World.grownBy_alloc w2 _ none) (fun k hk => by cases hk)) hgrow4 (fun q hq => .inl (hrow q hq))
      case measure => simp [intOf]; omega
    · have hA : ¬ (k : Int) < (x : Int) := by omega
      go_wp2
      go_ret
      exact wd_mk (by rw [HO.out]; exact hk) HM.out (by rw [HO.out]; exact ho1) H1.out.1 H1.out.2

end Go.Proofs.YtabbfpkhlofccaaGreatDoor
