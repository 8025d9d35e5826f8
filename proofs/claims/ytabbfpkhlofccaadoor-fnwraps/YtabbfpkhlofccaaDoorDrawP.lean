/- Drawn places: twelve numbers below ten thousand, in memory of their own. -/
import Derived.Test.YtabbfpkhlofccaaDoorDrawK
namespace Go.Proofs.YtabbfpkhlofccaaDoor
open Go.RowKit

theorem infoInt : (Tryd.prog.info? 3).map (fun i => (i.zero, i.size, i.bytes)) = some (some (.int .i64 0), 1, 8) := by kernel_rfl
/-- Twelve drawn numbers, as a row of its own. -/
def PlAns (base : Nat) (w : World) (e : Ending) (w' : World) : Prop :=
  ∃ (v : Value) (zs : List Int), zs.length = 12 ∧ (∀ z ∈ zs, 0 ≤ z ∧ z < 10000) ∧ e = .returned v ∧ w'.ownsRow w.heap.size 3 1 v 12 (zs.map (Value.int .i64)) ∧ Below base w w'
theorem pl_mk {base : Nat} {w w' : World} {v : Value} {zs : List Int} (hl : zs.length = 12) (hz : ∀ z ∈ zs, 0 ≤ z ∧ z < 10000) (ho : w'.ownsRow w.heap.size 3 1 v 12 (zs.map (Value.int .i64))) (hb : Below base w w') : PlAns base w (.returned v) w' := ⟨v, zs, hl, hz, rfl, ho, hb⟩
set_option maxHeartbeats 1600000 in
set_option maxRecDepth 20000 in
theorem places_any (base : Nat) (w : World) (a : Option Addr) (len cap : Nat) (hc : CodeAt base w a len) (hb : base ≤ w.heap.size) :
    Calls Tryd.prog 8 #[.slice a len cap] w fun e w' => PlAns base w e w' := by
  obtain ⟨i0, hi, hz0, hz1, hz2⟩ := info_parts infoInt
  have HC := hidOf hc
  clear hc
  go_enter Tryd.func8, Tryd.ntmps8
  go_wp2_with fail
  refine (new_any base _ a len cap HC.out hb).mono ?_
  rintro e w1 ⟨blk, rfl, hbk, hc1, hb1⟩
  have H1 := hidOf (And.intro hc1 hb1)
  have hs1 := hb1.size
  clear hc1 hb1
  go_wp2_with fail
  refine (byte_any base _ blk a len cap H1.out.1).mono ?_
  rintro e w2 ⟨x, hx, rfl, hc2, hg2⟩
  have hs2 := hg2.size
  have hbl := hc2.lt
  have H2 : Hid (Cur base w2 blk a len cap ∧ Below base w w2) := ⟨hc2, (H1.out.2.mono hb).grown hg2 (by omega) (fun k hk => by cases hk; omega)⟩
  clear hc2 hg2
  go_wp2
  go_loopw [4, 5] (fun v i wr => ∃ (k : Nat) (zs : List Int), k ≤ 12 ∧ i = .int .i64 k ∧ Hid (zs.length = k ∧ ∀ z ∈ zs, 0 ≤ z ∧ z < 10000) ∧ wr.ownsRow w2.heap.size 3 1 v k (zs.map (Value.int .i64)) ∧ Hid (Cur base wr blk a len cap ∧ Below base w wr) ∧ w2.heap.size ≤ wr.heap.size) (fun _ i _ => 12 - (intOf i).toNat)
  case atStart => exact ⟨0, [], Nat.zero_le _, rfl, ⟨rfl, fun z hz => by cases hz⟩, World.ownsRow_made w2 #[] 0 (Nat.le_refl _) (by decide) rfl, ⟨H2.out.1.kept (World.grownBy_alloc w2 _ none) (fun k hk => by cases hk), H2.out.2.alloc (by omega) _⟩, by simp⟩
  case round =>
    obtain ⟨k, zs, hk, rfl, HL, hown, HI, hsz⟩ := hrel
    by_cases hlt : k < 12
    · go_wp2_with fail
      refine (below_any base _ blk a len cap 10000 HI.out.1 (by omega) (by omega)).mono ?_
      rintro e w3 ⟨y, hy, rfl, hc3, hg3⟩
      have hown3 := hown.kept hg3 (by
        cases hv : u4.ownBlock with
        | none => exact Or.inl rfl
        | some g => right; intro e; have := (hown.lt g hv).1; cases e; omega)
      have hs3 := hg3.size
      have hrow : ∀ k, u4.ownBlock = some k → w2.heap.size ≤ k := fun k hk => (hown.lt k hk).1
      have H3 : Hid (Cur base w3 blk a len cap ∧ Below base w w3) := ⟨hc3, HI.out.2.grown hg3 (by omega) (fun k hk => by cases hk; omega)⟩
      clear hc3 hg3
      go_wp2_with (at_builtin; refine wpList_append_own _ rfl _ _ 26 rfl w2.heap.size 3 i0 (.int .i64 0) 1 8 Tryd.underlying26 hi hz0 hz1 hz2 rfl (by decide) _ _ _ rfl (hown3.alloc _) ⟨w3.heap.size, 0, none⟩ 1 1 [.int .i64 (y : Int)] rfl rfl (cell_one_new _ _ _) (fun x hx => by simp at hx; subst hx; rfl) (by unfold maxLen; omega) (by omega) (by simp; omega) ?_; intro v' w4 hown' hgrow4 hnil4)
      go_roundw
      case rel =>
        have hca := H3.out.1.kept (World.grownBy_alloc w3 (.cells #[.int .i64 (y : Int)] 3) none) (fun k hk => by cases hk)
        refine ⟨k + 1, zs ++ [(y : Int)], by omega, by go_num, ⟨by simp [HL.out.1], fun z hz => ?_⟩, by simpa using hown', ⟨hca.kept hgrow4 (fun k hk => ⟨by have := hrow k hk; omega, by have := hrow k hk; omega⟩), (H3.out.2.alloc (by omega) _).grown hgrow4 (by simp; omega) (fun k hk => by have := hrow k hk; omega)⟩, by have := hgrow4.size; simp at this; omega⟩
        rcases List.mem_append.1 hz with h | h
        · exact HL.out.2 z h
        · simp at h; omega
      case measure => simp [intOf]; omega
    · have hk12 : k = 12 := by omega
      have HK := hidOf hk12
      clear hk12
      go_wp2
      go_ret
      have e := HK.out
      subst e
      exact pl_mk HL.out.1 HL.out.2 (ownsRow_base hown (by omega)) HI.out.2

def DTAns (base : Nat) (w : World) (n : Nat) (e : Ending) (w' : World) : Prop := ∃ t : ByteArray, t.size ≤ n ∧ e = .returned (.string t) ∧ Below base w w'
theorem dt_mk {base : Nat} {w w' : World} {n : Nat} {t : ByteArray} (ht : t.size ≤ n) (hb : Below base w w') : DTAns base w n (.returned (.string t)) w' := ⟨t, ht, rfl, hb⟩
end Go.Proofs.YtabbfpkhlofccaaDoor
