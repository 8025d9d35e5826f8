/- What impl.isMark, impl.closesAt and impl.withoutEnds answer. -/
import Derived.Test.YtlpbhhgikgbfhaaDoorProg
import Derived.Test.YtlpbhhgikgbfhaaDoorNoteLib
import Derived.Lib.AppendIntMem
import Derived.WalkKit
import Derived.BigQuiet
import Derived.Deep.QuietTactic
import Derived.Deep.RegionWith
import Derived.Deep.RegionHeld3
import Derived.Laws.OwnMore
namespace Go.Proofs.YtlpbhhgikgbfhaaDoor
open Go.RowKit

theorem infoSgL : (Tryd.prog.info? 34).map (fun i => (i.zero, i.size, i.bytes)) = some (some (.agg #[.int .i64 0, .string ByteArray.empty, .int .i64 0, .bool false]), 4, 40) := by kernel_rfl
def isMk (x : Sg) (t : ByteArray) : Bool := (x.kind == 4) && (x.text.toList == t.toList)

set_option maxHeartbeats 1600000 in
theorem isMark_any (x : Sg) (t : ByteArray) (w : World) :
    Calls Tryd.prog 24 #[.agg #[.int .i64 x.kind, .string x.text, .int .i64 x.place, .bool x.blank], .string t] w fun e w' => e = .returned (.bool (isMk x t)) ∧ Below w.heap.size w w' := by
  cases hk : (x.kind == 4)
  all_goals go_enter Tryd.func24, Tryd.ntmps24
  all_goals go_wp2
  all_goals go_ret
  all_goals exact ⟨ret_bool (by simp [isMk, hk]), (Below.refl _ _).alloc (Nat.le_refl _) _⟩

theorem isMk_shut (y : Sg) : isShut y = (isMk y ⟨#[41]⟩ || isMk y ⟨#[93]⟩) := by
  unfold isShut isMk
  rw [show (⟨#[41]⟩ : ByteArray).toList = [41] by rw [ByteArray.toList_eq], show (⟨#[93]⟩ : ByteArray).toList = [93] by rw [ByteArray.toList_eq]]
  cases (y.kind == 4) <;> simp
theorem isMk_sep (y : Sg) : isSep y = isMk y ⟨#[44]⟩ := by
  unfold isSep isMk
  rw [show (⟨#[44]⟩ : ByteArray).toList = [44] by rw [ByteArray.toList_eq]]

set_option maxHeartbeats 4000000 in
theorem closes_any (v : Value) (xs : List Sg) (i : Nat) (w : World) (hn0 : xs.length ≤ 1048576) (hi : i ≤ 1048577) (hT : SgsAt w v xs) :
    Calls Tryd.prog 25 #[v, .int .i64 i] w fun e w' => e = .returned (.bool (shutAt xs i)) ∧ Below w.heap.size w w' := by
  obtain ⟨a, c, rfl, h⟩ := hT
  by_cases hlt : i < xs.length
  · obtain ⟨y, ey⟩ : ∃ y, xs[i]? = some y := ⟨_, List.getElem?_eq_getElem hlt⟩
    obtain ⟨b1, o1, rfl, hb1, hc1⟩ := h (by omega)
    have hs : shutAt xs i = (isMk y ⟨#[41]⟩ || isMk y ⟨#[93]⟩) := by unfold shutAt; rw [ey]; exact isMk_shut y
    have hq : ∀ wr : World, Below w.heap.size w wr → wr.cell? ⟨b1, o1 + i * 4, none⟩ = some (.int .i64 y.kind) ∧ wr.cell? ⟨b1, o1 + i * 4 + 1, none⟩ = some (.string y.text) ∧ wr.cell? ⟨b1, o1 + i * 4 + 2, none⟩ = some (.int .i64 y.place) ∧ wr.cell? ⟨b1, o1 + i * 4 + 3, none⟩ = some (.bool y.blank) := fun wr hb => cells4 (w := wr) (fun j hj => by rw [hb.cell hb1]; exact hc1 i y ey j hj)
    obtain ⟨p0, p1, p2, p3⟩ := hq w (Below.refl _ _)
    rw [hs]
    have HQ := hidOf hq
    clear ey hc1 h hs hq
    have hA : (0 : Int) ≤ (i : Int) := by omega
    have hB : (i : Int) < (xs.length : Int) := by omega
    clear HQ
    cases hk : (y.kind == 4) <;> cases h1 : (y.text.toList == [41]) <;> cases h2 : (y.text.toList == [93])
    all_goals go_enter Tryd.func25, Tryd.ntmps25
    all_goals go_wp2
    all_goals go_ret
    all_goals refine ⟨ret_bool ?_, ?_⟩
    all_goals first
      | exact (Below.refl _ _).alloc (Nat.le_refl _) _
      | exact ((Below.refl _ _).alloc (Nat.le_refl _) _).alloc (by simp) _
      | skip
    all_goals simp_all [isMk, ByteArray.toList_eq]
  · have hs : shutAt xs i = false := by unfold shutAt; rw [List.getElem?_eq_none (by omega)]
    rw [hs]
    clear h hs
    have hB : ¬ ((i : Int) < (xs.length : Int)) := by omega
    go_enter Tryd.func25, Tryd.ntmps25
    go_wp2
    go_ret
    exact ⟨rfl, Below.refl _ _⟩
end Go.Proofs.YtlpbhhgikgbfhaaDoor
