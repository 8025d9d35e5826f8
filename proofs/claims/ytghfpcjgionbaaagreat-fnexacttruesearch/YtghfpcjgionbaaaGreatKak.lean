/- What impl.AllSplit and spec.AllSplit answer. -/
import Derived.Test.YtghfpcjgionbaaaGreatPcLib
import Derived.Test.YtghfpcjgionbaaaGreatKag
import Derived.Lib.AppendIntMem
import Derived.WalkKit
import Derived.Laws.OwnMore
import Derived.Test.YtghfpcjgionbaaaGreatKai
import Derived.Test.YtghfpcjgionbaaaGreatRightLib
import Derived.Test.YtghfpcjgionbaaaGreatKaf
import Derived.Test.YtghfpcjgionbaaaGreatLib
import Derived.Deep.MidRow
import Derived.Laws.ResultCell
namespace Go.Proofs.YtghfpcjgionbaaaGreat
open Go.RowKit

def lessOne (x : Ru) : Int := wrap64 (x.values - 1)
/-- Each rule's greatest value. -/
def allV (p : Pc) : List Int := p.rules.map lessOne
theorem allV_len (p : Pc) : (allV p).length = p.rules.length := by simp [allV]

set_option maxHeartbeats 4000000 in
set_option maxRecDepth 20000 in
theorem iSpl_any (p : Pc) (l : Pl) (w : World) (hn0 : p.rules.length ≤ 1048576) (h : RowsAt 2 ruCells w l.a1 p.rules) :
    Calls Tryz.prog 103 #[pcV p l] w fun e w' => IntsAns (allV p) 3 w e w' := by
  show Calls _ _ #[.agg #[.int .i64 p.indent, .slice l.a1 p.rules.length l.c1, .slice l.a2 p.chunks.length l.c2, .slice l.a3 p.spans.length l.c3, .slice l.a4 p.ties.length l.c4]] _ _
  obtain ⟨i0, hi, hz0, hz1, hz2⟩ := info_parts infoIntT
  unfold RowsAt at h
  unfold allV
  obtain ⟨xs, hxs⟩ : ∃ xs, xs = p.rules := ⟨_, rfl⟩
  rw [← hxs] at h hn0 ⊢
  obtain ⟨n, hn⟩ : ∃ n, n = xs.length := ⟨_, rfl⟩
  rw [← hn] at h hn0 ⊢
  have HN := hidOf hn
  clear hn hxs
  have HB : ∀ o1 : Obj, Below w.heap.size w (w.alloc o1) := fun o1 => (Below.refl _ _).alloc (Nat.le_refl _) _
  go_enter Tryz.func103, Tryz.ntmps103
  go_wp2
  go_loopw [3, 10] (fun v i wr => ∃ (k : Nat) (os : List Int), k ≤ n ∧ i = .int .i64 k ∧ Hid (os.length = k) ∧ Hid (os = (xs.take k).map lessOne) ∧ wr.ownsRow (w.heap.size + 1) 3 1 v k (intVals os) ∧ wr.cell? ⟨w.heap.size, 1, none⟩ = some (.slice l.a1 n l.c1) ∧ w.heap.size < wr.heap.size ∧ Below w.heap.size w wr)
    (fun _ i _ => n - (intOf i).toNat)
  case atStart => exact ⟨0, [], by omega, rfl, hidOf rfl, hidOf rfl, own_none1 w _ _ _, by simp, by simp; omega, ((Below.refl _ w).alloc (Nat.le_refl _) _).alloc (by simp) _⟩
  case round =>
    obtain ⟨k, os, hk, rfl, HOL, HI, hown, hbox, hz, hb⟩ := hrel
    obtain ⟨ao, cv, rfl⟩ := owns_slice hown
    have hsz := hb.size
    clear HB
    by_cases hlt : k < n
    · obtain ⟨x, ex⟩ : ∃ x, xs[k]? = some x := ⟨_, List.getElem?_eq_getElem (by rw [← HN.out]; exact hlt)⟩
      obtain ⟨b1, o1, e1, hb1, hc1⟩ := h (by omega)
      obtain ⟨p0, p1⟩ := ruC (w := wr) (fun j hj => by rw [hb.cell hb1]; exact hc1 k x ex j hj)
      rw [e1] at hbox ⊢
      have HX := hidOf (show os ++ [lessOne x] = (xs.take (k + 1)).map lessOne by rw [List.take_add_one, ex, List.map_append, ← HI.out]; rfl)
      clear ex hc1 h e1
      have hA : (0 : Int) ≤ (k : Int) := by omega
      have hB : (k : Int) < (n : Int) := by omega
      have HY := hidOf (show lessOne x = wrap64 (x.values - 1) from rfl)
      have ho2 := hown.alloc (.cells #[.int .i64 x.values, .int .i64 x.cost] 68)
      have hB2 : Below w.heap.size w (wr.alloc (.cells #[.int .i64 x.values, .int .i64 x.cost] 68)) := hb.alloc hb.size _
      have hs2 := hB2.size
      have hlt2 : w.heap.size < (wr.alloc (.cells #[.int .i64 x.values, .int .i64 x.cost] 68)).heap.size := by simp; omega
      have hbox2 : (wr.alloc (.cells #[.int .i64 x.values, .int .i64 x.cost] 68)).cell? ⟨w.heap.size, 1, none⟩ = some (.slice (some ⟨b1, o1, none⟩) n l.c1) := by rw [World.cell?_of_block (Below.heap_alloc wr _ _ hz)]; exact hbox
      go_wp2_with (at_builtin; refine wpList_append_own _ rfl _ _ 29 rfl (w.heap.size + 1) 3 i0 (.int .i64 0) 1 8 Tryz.underlying29 hi hz0 hz1 hz2 rfl (by decide) _ _ _ rfl (ho2.alloc _) ⟨wr.heap.size + 1, 0, none⟩ 1 1 [.int .i64 (wrap64 (x.values - 1))] rfl rfl (cell_one_new1 _ _ _ _) (fun x hx => by simp at hx; subst hx; rfl) (by unfold maxLen; omega) (by omega) (by simp; omega) ?_; intro v' w3 hown' hgrow3 hnil3)
      go_roundw
      case rel => exact ⟨k + 1, os ++ [lessOne x], by omega, by go_num, hidOf (by have := HOL.out; simp; omega), HX, by rw [HY.out]; simpa [intVals] using hown', by rw [World.cell?_of_block (hgrow3.block w.heap.size (by simp; omega) (fun e => by have := (ho2.lt _ e.symm).1; omega)), World.cell?_of_block (Below.heap_alloc _ _ _ hlt2)]; exact hbox2, by have := hgrow3.size; simp at this; omega, (hB2.alloc (by omega) _).grown hgrow3 (by simp; omega) (fun q hq => by have := (ho2.lt q hq).1; omega)⟩
      case measure => simp [intOf]; omega
    · go_wp2
      go_ret
      have h3 := HN.out
      have h4 := HI.out
      have h5 : k = n := by omega
      rw [List.take_of_length_le (by omega)] at h4
      rw [h4, h5, h3] at hown
      rw [h5, h3]
      exact ints_mk hb (ownsRow_base (base' := w.heap.size) (by rw [List.length_map]; exact hown) (by omega))

set_option maxHeartbeats 4000000 in
set_option maxRecDepth 20000 in
theorem sSpl_any (p : Pc) (l : Pl) (w : World) (hn0 : p.rules.length ≤ 1048576) (h : RowsAt 2 ruCells w l.a1 p.rules) :
    Calls Tryz.prog 27 #[pcV p l] w fun e w' => IntsAns (allV p) 3 w e w' := by
  show Calls _ _ #[.agg #[.int .i64 p.indent, .slice l.a1 p.rules.length l.c1, .slice l.a2 p.chunks.length l.c2, .slice l.a3 p.spans.length l.c3, .slice l.a4 p.ties.length l.c4]] _ _
  obtain ⟨i0, hi, hz0, hz1, hz2⟩ := info_parts infoIntT
  unfold RowsAt at h
  unfold allV
  obtain ⟨xs, hxs⟩ : ∃ xs, xs = p.rules := ⟨_, rfl⟩
  rw [← hxs] at h hn0 ⊢
  obtain ⟨n, hn⟩ : ∃ n, n = xs.length := ⟨_, rfl⟩
  rw [← hn] at h hn0 ⊢
  have HN := hidOf hn
  clear hn hxs
  have HB : ∀ o1 : Obj, Below w.heap.size w (w.alloc o1) := fun o1 => (Below.refl _ _).alloc (Nat.le_refl _) _
  go_enter Tryz.func27, Tryz.ntmps27
  go_wp2
  go_loopw [3, 4] (fun v i wr => ∃ (k : Nat) (os : List Int), k ≤ n ∧ i = .int .i64 k ∧ Hid (os.length = k) ∧ Hid (os = (xs.take k).map lessOne) ∧ wr.ownsRow (w.heap.size + 1) 3 1 v k (intVals os) ∧ wr.cell? ⟨w.heap.size, 1, none⟩ = some (.slice l.a1 n l.c1) ∧ w.heap.size < wr.heap.size ∧ Below w.heap.size w wr)
    (fun _ i _ => n - (intOf i).toNat)
  case atStart => exact ⟨0, [], by omega, rfl, hidOf rfl, hidOf rfl, own_none1 w _ _ _, by simp, by simp; omega, ((Below.refl _ w).alloc (Nat.le_refl _) _).alloc (by simp) _⟩
  case round =>
    obtain ⟨k, os, hk, rfl, HOL, HI, hown, hbox, hz, hb⟩ := hrel
    obtain ⟨ao, cv, rfl⟩ := owns_slice hown
    have hsz := hb.size
    clear HB
    by_cases hlt : k < n
    · obtain ⟨x, ex⟩ : ∃ x, xs[k]? = some x := ⟨_, List.getElem?_eq_getElem (by rw [← HN.out]; exact hlt)⟩
      obtain ⟨b1, o1, e1, hb1, hc1⟩ := h (by omega)
      obtain ⟨p0, p1⟩ := ruC (w := wr) (fun j hj => by rw [hb.cell hb1]; exact hc1 k x ex j hj)
      rw [e1] at hbox ⊢
      have HX := hidOf (show os ++ [lessOne x] = (xs.take (k + 1)).map lessOne by rw [List.take_add_one, ex, List.map_append, ← HI.out]; rfl)
      clear ex hc1 h e1
      have hA : (0 : Int) ≤ (k : Int) := by omega
      have hB : (k : Int) < (n : Int) := by omega
      have HY := hidOf (show lessOne x = wrap64 (x.values - 1) from rfl)
      have ho2 := hown
      have hB2 : Below w.heap.size w wr := hb
      have hs2 := hB2.size
      have hlt2 : w.heap.size < wr.heap.size := by omega
      have hbox2 : wr.cell? ⟨w.heap.size, 1, none⟩ = some (.slice (some ⟨b1, o1, none⟩) n l.c1) := by exact hbox
      go_wp2_with (at_builtin; refine wpList_append_own _ rfl _ _ 29 rfl (w.heap.size + 1) 3 i0 (.int .i64 0) 1 8 Tryz.underlying29 hi hz0 hz1 hz2 rfl (by decide) _ _ _ rfl (ho2.alloc _) ⟨wr.heap.size, 0, none⟩ 1 1 [.int .i64 (wrap64 (x.values - 1))] rfl rfl (cell_one_new _ _ _) (fun x hx => by simp at hx; subst hx; rfl) (by unfold maxLen; omega) (by omega) (by simp; omega) ?_; intro v' w3 hown' hgrow3 hnil3)
      go_roundw
      case rel => exact ⟨k + 1, os ++ [lessOne x], by omega, by go_num, hidOf (by have := HOL.out; simp; omega), HX, by rw [HY.out]; simpa [intVals] using hown', by rw [World.cell?_of_block (hgrow3.block w.heap.size (by simp; omega) (fun e => by have := (ho2.lt _ e.symm).1; omega)), World.cell?_of_block (Below.heap_alloc _ _ _ hlt2)]; exact hbox2, by have := hgrow3.size; simp at this; omega, (hB2.alloc (by omega) _).grown hgrow3 (by simp; omega) (fun q hq => by have := (ho2.lt q hq).1; omega)⟩
      case measure => simp [intOf]; omega
    · go_wp2
      go_ret
      have h3 := HN.out
      have h4 := HI.out
      have h5 : k = n := by omega
      rw [List.take_of_length_le (by omega)] at h4
      rw [h4, h5, h3] at hown
      rw [h5, h3]
      exact ints_mk hb (ownsRow_base (base' := w.heap.size) (by rw [List.length_map]; exact hown) (by omega))
end Go.Proofs.YtghfpcjgionbaaaGreat
/- Each rule's greatest value: right values, and every tie of a right piece holds. -/
namespace Go.Proofs.YtghfpcjgionbaaaGreat
open Go.RowKit

theorem wrR_in {n : Int} (h : -9223372036854775808 ≤ n ∧ n ≤ 9223372036854775807) : wrap64 n = n := (IntWalk.i64_left n).symm.trans (IntWalk.i64_in n h)
theorem allR_at {p : Pc} (h : Right p) {j : Nat} {z : Int} (hz : (allV p)[j]? = some z) : ∃ y, p.rules[j]? = some y ∧ z = y.values - 1 ∧ 1 ≤ z := by
  unfold allV at hz
  rw [List.getElem?_map] at hz
  cases hy : p.rules[j]? with
  | none => rw [hy] at hz; cases hz
  | some y =>
    rw [hy] at hz
    have hv := (h.rules.2 j y hy).1
    have e : z = wrap64 (y.values - 1) := by cases hz; rfl
    rw [wrR_in ⟨by omega, by omega⟩] at e
    exact ⟨y, rfl, e, by omega⟩
theorem allR_ok {p : Pc} (h : Right p) : ValOk p (allV p) := by
  refine ⟨allV_len p, fun j z y hz hy => ?_⟩
  obtain ⟨y', hy', e, h1⟩ := allR_at h hz
  rw [hy] at hy'
  cases hy'
  omega
theorem allR_ties {p : Pc} (h : Right p) : TiesHold p (allV p) := by
  refine ⟨allR_ok h, fun j x hx => ?_⟩
  obtain ⟨⟨k1, k2⟩, ⟨u1, u2⟩, -⟩ := h.ties.all j x hx
  have hl := allV_len p
  obtain ⟨z1, e1, s1⟩ := st_of (vs := allV p) k1 (by omega)
  obtain ⟨z2, e2, s2⟩ := st_of (vs := allV p) u1 (by omega)
  obtain ⟨-, -, -, g1⟩ := allR_at h e1
  obtain ⟨-, -, -, g2⟩ := allR_at h e2
  unfold TieOk
  rw [s1, s2, if_pos (by omega), if_pos (by omega)]
  rfl
end Go.Proofs.YtghfpcjgionbaaaGreat
/- A struct of two cells as a result. -/
namespace Go.Proofs.YtghfpcjgionbaaaGreat
open Go.RowKit

/-- Two cells of a result. -/
theorem results_one2 {P : Program} {fn : Func} {p : Tmp} {ty : TypeId} (h : fn.results = #[.cell p ty]) (tmps : Array Value) (w : World) (g : Nat) (c0 c1 : Value) (d : TypeDesc)
    (hp : tmps.getD p undef = .pointer (some ⟨g, 0, none⟩)) (h0 : w.cell? ⟨g, 0, none⟩ = some c0) (h1 : w.cell? ⟨g, 1, none⟩ = some c1)
    (hu : P.underlying ty = some d) (hd : d.isRow = true) (hi : (P.info? ty).map (·.size) = some 2) :
    (results fn tmps).run P w = .ok (.agg #[c0, c1]) w := by
  have hr : w.rangeAt g 0 [c0, c1] := by
    intro j v hv
    match j with
    | 0 => simpa using h0.trans hv
    | 1 => simpa using h1.trans hv
    | j + 2 => simp at hv
  have hp' : tmps[p]?.getD undef = .pointer (some ⟨g, 0, none⟩) := by simpa using hp
  simp [results, h, hp', asAddr, run_loadVar_mid w g 0 ty [c0, c1] d hr hu hd (by simpa using hi)]
end Go.Proofs.YtghfpcjgionbaaaGreat
