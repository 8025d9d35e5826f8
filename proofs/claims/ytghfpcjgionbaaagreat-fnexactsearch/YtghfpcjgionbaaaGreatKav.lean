/- What the laws' helpers on chunks that came in do: szChunkS tells whether they are too great, toChunkS copies them. -/
import Derived.Test.YtghfpcjgionbaaaGreatProg
import Derived.Test.YtghfpcjgionbaaaGreatPcLib
import Derived.Test.YtghfpcjgionbaaaGreatBCell
import Derived.BigQuiet
import Derived.Deep.QuietTactic
import Derived.Deep.RegionWith
import Derived.Deep.RegionHeld3
namespace Go.Proofs.YtghfpcjgionbaaaGreat
open Go.RowKit

theorem infoSp : (Tryz.prog.info? 102).map (·.size) = some 4 ∧ (Tryz.prog.info? 102).map (fun i => (i.zero, i.size, i.bytes)) = some (some (.agg #[.int .i64 0, .int .i64 0, .bool false, .int .i64 0]), 4, 32) := ⟨by kernel_rfl, by kernel_rfl⟩

set_option maxHeartbeats 1600000 in
theorem toSp_any (r f : Int) (s : Bool) (n : Int) (w : World) :
    Calls Tryz.prog 97 #[.agg #[.int .i64 r, .int .i64 f, .bool s, .int .i64 n]] w fun e w' => e = .returned (.agg #[.int .i64 r, .int .i64 f, .bool s, .int .i64 n]) ∧ Below w.heap.size w w' := by
  go_enter Tryz.func97, Tryz.ntmps97
  go_wp2
  refine bodyPost_ret (results_cell_row rfl _ _ (w.heap.size + 1) 102 #[.int .i64 r, .int .i64 f, .bool s, .int .i64 n] (0, 0) _ rfl ?_ Tryz.underlying102 rfl infoSp.1) rfl ?_
  · rw [heap_alloc_old _ _ (by simp)]
    exact heap_alloc2_new w _ _
  · exact ⟨rfl, (((Below.refl _ _).alloc (Nat.le_refl _) _).alloc (by simp) _).alloc (by simp; omega) _⟩

set_option maxHeartbeats 4000000 in
theorem toCh_any (x : Ch) (w : World) :
    Calls Tryz.prog 69 #[.agg #[.string x.text, .int .i64 x.rule, .int .i64 x.frm, .bool x.space, .int .i64 x.nest]] w fun e w' => e = .returned (.agg #[.string x.text, .int .i64 x.rule, .int .i64 x.frm, .bool x.space, .int .i64 x.nest]) ∧ Below w.heap.size w w' := by
  have HB : ∀ o1 o2 o3 : Obj, Below w.heap.size w (((w.alloc o1).alloc o2).alloc o3) := fun o1 o2 o3 => (((Below.refl _ _).alloc (Nat.le_refl _) _).alloc (by simp) _).alloc (by simp; omega) _
  go_enter Tryz.func69, Tryz.ntmps69
  go_wp2_with fail
  refine (toSp_any x.rule x.frm x.space x.nest _).mono ?_
  rintro e w4 ⟨rfl, hb⟩
  have HW := hidOf ((HB _ _ _).trans (hb.mono (HB _ _ _).size))
  have hz : w.heap.size + 2 < w4.heap.size := by have := hb.size; simp at this; omega
  obtain ⟨hc, hf⟩ := bcell hb
  clear hb HB
  go_wp2
  refine bodyPost_ret (v := .agg #[.string x.text, .int .i64 x.rule, .int .i64 x.frm, .bool x.space, .int .i64 x.nest]) (by simp [results, Tryz.results69, go_sem, hc]) rfl ⟨rfl, ?_⟩
  have q1 : w.heap.size ≤ w.heap.size + 1 := by omega
  have q2 : w.heap.size ≤ w.heap.size + 1 + 1 := by omega
  exact ((((((((HW.out.setCell q2 _).setCell q2 _).setCell q2 _).setCell q2 _).setCell q1 _).setCell q1 _).setCell q1 _).setCell q1 _).setCell q1 _
theorem infoCh : (Tryz.prog.info? 104).map (·.size) = some 5 ∧ (Tryz.prog.info? 104).map (fun i => (i.zero, i.size, i.bytes)) = some (some (.agg #[.string ByteArray.empty, .int .i64 0, .int .i64 0, .bool false, .int .i64 0]), 5, 48) := ⟨by kernel_rfl, by kernel_rfl⟩

set_option maxHeartbeats 4000000 in
theorem toChs_any (a : Option Addr) (c : Nat) (xs : List Ch) (w : World) (hn0 : xs.length ≤ 1048576) (hT : RowsAt 5 chCells w a xs) :
    Calls Tryz.prog 36 #[.slice a xs.length c] w fun e w' => e = .returned (.slice (some ⟨w.heap.size, 0, none⟩) xs.length xs.length) ∧ w'.ownsRow w.heap.size 104 5 (.slice (some ⟨w.heap.size, 0, none⟩) xs.length xs.length) xs.length (rowVals chCells xs) ∧ Below w.heap.size w w' := by
  unfold RowsAt at hT
  obtain ⟨n, hn⟩ : ∃ n, n = xs.length := ⟨_, rfl⟩
  rw [← hn] at hT hn0 ⊢
  have HN := hidOf hn
  clear hn
  obtain ⟨i0, hi, hz0, hz1, hz2⟩ := info_parts infoCh.2
  go_enter Tryz.func36, Tryz.ntmps36
  go_wp2_with (at_make; refine wpList_make_full _ rfl _ _ 33 rfl w.heap.size 104 i0 _ 5 Tryz.underlying33 hi hz0 hz1 .i64 .i64 _ _ n rfl rfl rfl rfl (by rw [hz2]; omega) (by unfold maxLen; omega) (Nat.le_refl _) ?_; intro w1 hown hgrow)
  have hb1 : Below w.heap.size w w1 := (Below.refl _ w).grown hgrow (Nat.le_refl _) (fun k e => by cases e)
  obtain ⟨zs, hzs⟩ : ∃ zs, zs = (madeCells (Value.agg #[Value.string ByteArray.empty, Value.int IntKind.i64 0, Value.int IntKind.i64 0, Value.bool false, Value.int IntKind.i64 0]).cells (n * 5)).toList := ⟨_, rfl⟩
  rw [← hzs] at hown
  clear hzs hgrow
  go_loopw [4] (fun i wr => ∃ (k : Nat) (zs : List Value), k ≤ n ∧ i = .int .i64 k ∧ wr.ownsRow w.heap.size 104 5 (.slice (some ⟨w.heap.size, 0, none⟩) n n) n zs ∧ Hid (zs.take (k * 5) = rowVals chCells (xs.take k)) ∧ Below w.heap.size w wr) (fun i _ => n - (intOf i).toNat)
  case atStart => exact ⟨0, zs, Nat.zero_le _, rfl, hown, hidOf (by simp [rowVals]), hb1⟩
  case round =>
    obtain ⟨k, zs, hk, rfl, ho, HZ, hb⟩ := hrel
    by_cases hlt : k < n
    · obtain ⟨x, ex⟩ : ∃ x, xs[k]? = some x := ⟨_, List.getElem?_eq_getElem (by rw [← HN.out]; exact hlt)⟩
      obtain ⟨b1, o1, rfl, hb1, hc1⟩ := hT (by omega)
      obtain ⟨p0, p1, p2, p3, p4⟩ := chC (w := wr) (fun j hj => by rw [hb.cell hb1]; exact hc1 k x ex j hj)
      have EX := hidOf ex
      clear ex hc1 hT
      have hA : (0 : Int) ≤ (k : Int) := by omega
      have hB : (k : Int) < (n : Int) := by omega
      go_wp2_with fail
      refine (toCh_any x _).mono ?_
      rintro e w2 ⟨rfl, hb2⟩
      have ho2 := owns_below ho hb2
      have hlz : zs.length = n * 5 := ho2.1
      have s0 := ho2.stored (k * 5) (.string x.text)
      have s1 := s0.1.stored (k * 5 + 1) (.int .i64 x.rule)
      have s2 := s1.1.stored (k * 5 + 2) (.int .i64 x.frm)
      have s3 := s2.1.stored (k * 5 + 3) (.bool x.space)
      have s4 := s3.1.stored (k * 5 + 4) (.int .i64 x.nest)
      have HS := hidOf (And.intro s4.1 (grownBy_trans (grownBy_trans (grownBy_trans (grownBy_trans s0.2 s1.2) s2.2) s3.2) s4.2))
      obtain ⟨u0, d0⟩ : ∃ u, w2.cell? ⟨w.heap.size, k * 5, none⟩ = some u := ⟨_, (ho2.cellAt (k * 5) (by omega)).trans (List.getElem?_eq_getElem (by omega))⟩
      obtain ⟨u1, d1⟩ : ∃ u, w2.cell? ⟨w.heap.size, k * 5 + 1, none⟩ = some u := ⟨_, (ho2.cellAt (k * 5 + 1) (by omega)).trans (List.getElem?_eq_getElem (by omega))⟩
      obtain ⟨u2, d2⟩ : ∃ u, w2.cell? ⟨w.heap.size, k * 5 + 2, none⟩ = some u := ⟨_, (ho2.cellAt (k * 5 + 2) (by omega)).trans (List.getElem?_eq_getElem (by omega))⟩
      obtain ⟨u3, d3⟩ : ∃ u, w2.cell? ⟨w.heap.size, k * 5 + 3, none⟩ = some u := ⟨_, (ho2.cellAt (k * 5 + 3) (by omega)).trans (List.getElem?_eq_getElem (by omega))⟩
      obtain ⟨u4, d4⟩ : ∃ u, w2.cell? ⟨w.heap.size, k * 5 + 4, none⟩ = some u := ⟨_, (ho2.cellAt (k * 5 + 4) (by omega)).trans (List.getElem?_eq_getElem (by omega))⟩
      have f0 := ho2.frozenAt (k * 5)
      have f1 := ho2.frozenAt (k * 5 + 1)
      have f2 := ho2.frozenAt (k * 5 + 2)
      have f3 := ho2.frozenAt (k * 5 + 3)
      have f4 := ho2.frozenAt (k * 5 + 4)
      have HLZ := hidOf hlz
      clear s0 s1 s2 s3 s4 hlz ho ho2 p0 p1 p2 p3 p4
      go_wp2
      go_roundw
      case rel => exact ⟨k + 1, layAt zs (k * 5) (chCells x), by omega, by go_num, HS.out.1, hidOf (layAt_take chCells_len (by have := HLZ.out; omega) EX.out HZ.out), (hb.trans (hb2.mono hb.size)).grown HS.out.2 (Nat.le_trans hb.size hb2.size) (fun q hq => by cases hq; exact Nat.le_refl _)⟩
      case measure => simp [intOf]; omega
    · go_wp2
      go_ret
      refine ⟨rfl, ?_, hb⟩
      have hz : zs = rowVals chCells xs := by
        have h1 := HZ.out
        have h2 : zs.length = n * 5 := ho.1
        have h3 := HN.out
        rw [List.take_of_length_le (by omega), List.take_of_length_le (by omega)] at h1
        exact h1
      rw [← hz]
      exact ho

set_option maxHeartbeats 1600000 in
theorem szCh_any (x : Ch) (L : Int) (w : World) (hx : x.text.size ≤ 9223372036854775807) (h0 : 0 ≤ L) (h1 : L ≤ 1048576) :
    Calls Tryz.prog 60 #[.agg #[.string x.text, .int .i64 x.rule, .int .i64 x.frm, .bool x.space, .int .i64 x.nest], .int .i64 L] w fun e w' => ∃ r : Int, e = .returned (.int .i64 r) ∧ ((r = -1) ∨ (0 ≤ r ∧ r ≤ L ∧ x.text.size ≤ 1048576)) ∧ Below w.heap.size w w' := by
  by_cases hn : L < x.text.size
  · go_enter Tryz.func60, Tryz.ntmps60
    go_wp2
    go_ret
    exact ⟨-1, rfl, .inl rfl, (Below.refl _ _).alloc (Nat.le_refl _) _⟩
  · go_enter Tryz.func60, Tryz.ntmps60
    go_wp2
    go_ret
    exact ⟨_, rfl, .inr ⟨by omega, by omega, by omega⟩, (Below.refl _ _).alloc (Nat.le_refl _) _⟩

set_option maxHeartbeats 1600000 in
theorem szChs_any (a : Option Addr) (c : Nat) (xs : List Ch) (L : Int) (w : World) (hn0 : xs.length ≤ 9223372036854775807) (hx : ∀ x ∈ xs, x.text.size ≤ 9223372036854775807) (hL0 : 0 ≤ L) (hL1 : L ≤ 1048576) (h : RowsAt 5 chCells w a xs) :
    Calls Tryz.prog 23 #[.slice a xs.length c, .int .i64 L] w fun e w' => ∃ r : Int, e = .returned (.int .i64 r) ∧ ((r = -1) ∨ (0 ≤ r ∧ r ≤ L ∧ xs.length ≤ 1048576 ∧ ∀ (j : Nat) (x : Ch), xs[j]? = some x → x.text.size ≤ 1048576)) ∧ Below w.heap.size w w' := by
  unfold RowsAt at h
  obtain ⟨n, hn⟩ : ∃ n, n = xs.length := ⟨_, rfl⟩
  rw [← hn] at h hn0 ⊢
  have HN := hidOf hn
  clear hn
  by_cases hbig : L < n
  · clear h
    go_enter Tryz.func23, Tryz.ntmps23
    go_wp2
    go_ret
    exact ⟨-1, rfl, .inl rfl, Below.refl _ _⟩
  · go_enter Tryz.func23, Tryz.ntmps23
    go_wp2
    go_loopw [1, 5] (fun r i wr => ∃ (k : Nat) (z : Int), k ≤ n ∧ r = .int .i64 z ∧ i = .int .i64 k ∧ 0 ≤ z ∧ z ≤ L ∧ Below w.heap.size w wr ∧ Hid (∀ (j : Nat) (x : Ch), j < k → xs[j]? = some x → x.text.size ≤ 1048576)) (fun _ i _ => n - (intOf i).toNat)
    case atStart => exact ⟨0, L - n, Nat.zero_le _, by go_num, rfl, by omega, by omega, Below.refl _ _, hidOf fun j x h => by omega⟩
    case round =>
      obtain ⟨k, z, hk, rfl, rfl, hz0, hz1, hb, HA⟩ := hrel
      by_cases hlt : k < n
      · obtain ⟨x, ex⟩ : ∃ x, xs[k]? = some x := ⟨_, List.getElem?_eq_getElem (by rw [← HN.out]; exact hlt)⟩
        obtain ⟨b1, o1, rfl, hb1, hc1⟩ := h (by omega)
        obtain ⟨p0, p1, p2, p3, p4⟩ := chC (w := wr) (fun j hj => by rw [hb.cell hb1]; exact hc1 k x ex j hj)
        have hxx := hx x (List.mem_of_getElem? ex)
        have EX := hidOf ex
        clear ex hc1 h
        have hA : (0 : Int) ≤ (k : Int) := by omega
        have hB : (k : Int) < (n : Int) := by omega
        go_wp2_with fail
        refine (szCh_any x z _ hxx hz0 (by omega)).mono ?_
        rintro e w1 ⟨r, rfl, hr, hbb⟩
        have hB1 := hb.trans (hbb.mono hb.size)
        rcases hr with rfl | ⟨hr0, hr1, hr2⟩
        · go_wp2
          go_ret
          exact ⟨-1, rfl, .inl rfl, hB1⟩
        · go_wp2
          go_roundw
          case rel => exact ⟨k + 1, r, by omega, rfl, by go_num, hr0, by omega, hB1, hidOf (upto_step HA.out EX.out hr2)⟩
          case measure => simp [intOf]; omega
      · go_wp2
        go_ret
        exact ⟨z, rfl, .inr ⟨hz0, by omega, by omega, upto_all (by have := HN.out; omega) HA.out⟩, hb⟩
end Go.Proofs.YtghfpcjgionbaaaGreat
/- What the laws' helpers on rules, spans and ties tell of the same lists. -/
namespace Go.Proofs.YtghfpcjgionbaaaGreat
open Go.RowKit


set_option maxHeartbeats 1600000 in
theorem eqRu_any (x : Ru) (w : World) :
    Calls Tryz.prog 76 #[.agg #[.int .i64 x.values, .int .i64 x.cost], .agg #[.int .i64 x.values, .int .i64 x.cost]] w fun e w' => e = .returned (.bool true) ∧ Below w.heap.size w w' := by
  have h0 : (x.values != x.values) = false := by simp
  have h1 : (x.cost != x.cost) = false := by simp
  go_enter Tryz.func76, Tryz.ntmps76
  go_wp2
  go_ret
  exact ⟨rfl, ((Below.refl _ _).alloc (Nat.le_refl _) _).alloc (by simp) _⟩

set_option maxHeartbeats 4000000 in
theorem eqRus_same (a1 a2 : Option Addr) (c1 c2 : Nat) (xs : List Ru) (w : World) (hx0 : xs.length ≤ 1048576) (h1 : RowsAt 2 ruCells w a1 xs) (h2 : RowsAt 2 ruCells w a2 xs) :
    Calls Tryz.prog 41 #[.slice a1 xs.length c1, .slice a2 xs.length c2] w fun e w' => e = .returned (.bool true) ∧ Below w.heap.size w w' := by
  have hx := hx0
  clear hx0
  unfold RowsAt at h1 h2
  obtain ⟨n, hn⟩ : ∃ n, n = xs.length := ⟨_, rfl⟩
  rw [← hn] at h1 h2 hx
  rw [← hn]
  have HN := hidOf hn
  clear hn
  go_enter Tryz.func41, Tryz.ntmps41
  go_wp2
  go_loopw [5] (fun i wr => ∃ k : Nat, k ≤ n ∧ i = .int .i64 k ∧ Below w.heap.size w wr) (fun i _ => n - (intOf i).toNat)
  case atStart => exact ⟨0, Nat.zero_le _, rfl, Below.refl _ _⟩
  case round =>
    obtain ⟨k, hk, rfl, hb⟩ := hrel
    by_cases hlt : k < n
    · obtain ⟨x, ex⟩ : ∃ x, xs[k]? = some x := ⟨_, List.getElem?_eq_getElem (by rw [← HN.out]; exact hlt)⟩
      obtain ⟨b1, o1, rfl, hb1, hc1⟩ := h1 (by omega)
      obtain ⟨b2, o2, rfl, hb2, hc2⟩ := h2 (by omega)
      obtain ⟨p0, p1⟩ := ruC (w := wr) (fun j hj => by rw [hb.cell hb1]; exact hc1 k x ex j hj)
      obtain ⟨q0, q1⟩ := ruC (w := wr) (fun j hj => by rw [hb.cell hb2]; exact hc2 k x ex j hj)
      clear ex hc1 hc2 h1 h2
      have hA : (0 : Int) ≤ (k : Int) := by omega
      have hB : (k : Int) < (n : Int) := by omega
      go_wp2
      go_region_with (go_at_call 76; refine (eqRu_any x _).mono ?_; rintro e w1 ⟨rfl, hbb⟩)
      all_goals go_wp2
      all_goals go_roundw
      all_goals first | exact ⟨k + 1, by omega, by go_num, hb.drew.trans (hbb.mono hb.size)⟩ | (simp [intOf]; omega)
    · go_wp2
      go_ret
      exact ⟨rfl, hb⟩

set_option maxHeartbeats 1600000 in
theorem eqSn_any (x : Sn) (w : World) :
    Calls Tryz.prog 78 #[.agg #[.int .i64 x.frm, .int .i64 x.til, .int .i64 x.cost], .agg #[.int .i64 x.frm, .int .i64 x.til, .int .i64 x.cost]] w fun e w' => e = .returned (.bool true) ∧ Below w.heap.size w w' := by
  have h0 : (x.frm != x.frm) = false := by simp
  have h1 : (x.til != x.til) = false := by simp
  have h2 : (x.cost != x.cost) = false := by simp
  go_enter Tryz.func78, Tryz.ntmps78
  go_wp2
  go_ret
  exact ⟨rfl, ((Below.refl _ _).alloc (Nat.le_refl _) _).alloc (by simp) _⟩

set_option maxHeartbeats 4000000 in
theorem eqSns_same (a1 a2 : Option Addr) (c1 c2 : Nat) (xs : List Sn) (w : World) (hx0 : xs.length ≤ 1048576) (h1 : RowsAt 3 snCells w a1 xs) (h2 : RowsAt 3 snCells w a2 xs) :
    Calls Tryz.prog 43 #[.slice a1 xs.length c1, .slice a2 xs.length c2] w fun e w' => e = .returned (.bool true) ∧ Below w.heap.size w w' := by
  have hx := hx0
  clear hx0
  unfold RowsAt at h1 h2
  obtain ⟨n, hn⟩ : ∃ n, n = xs.length := ⟨_, rfl⟩
  rw [← hn] at h1 h2 hx
  rw [← hn]
  have HN := hidOf hn
  clear hn
  go_enter Tryz.func43, Tryz.ntmps43
  go_wp2
  go_loopw [5] (fun i wr => ∃ k : Nat, k ≤ n ∧ i = .int .i64 k ∧ Below w.heap.size w wr) (fun i _ => n - (intOf i).toNat)
  case atStart => exact ⟨0, Nat.zero_le _, rfl, Below.refl _ _⟩
  case round =>
    obtain ⟨k, hk, rfl, hb⟩ := hrel
    by_cases hlt : k < n
    · obtain ⟨x, ex⟩ : ∃ x, xs[k]? = some x := ⟨_, List.getElem?_eq_getElem (by rw [← HN.out]; exact hlt)⟩
      obtain ⟨b1, o1, rfl, hb1, hc1⟩ := h1 (by omega)
      obtain ⟨b2, o2, rfl, hb2, hc2⟩ := h2 (by omega)
      obtain ⟨p0, p1, p2⟩ := snC (w := wr) (fun j hj => by rw [hb.cell hb1]; exact hc1 k x ex j hj)
      obtain ⟨q0, q1, q2⟩ := snC (w := wr) (fun j hj => by rw [hb.cell hb2]; exact hc2 k x ex j hj)
      clear ex hc1 hc2 h1 h2
      have hA : (0 : Int) ≤ (k : Int) := by omega
      have hB : (k : Int) < (n : Int) := by omega
      go_wp2
      go_region_with (go_at_call 78; refine (eqSn_any x _).mono ?_; rintro e w1 ⟨rfl, hbb⟩)
      all_goals go_wp2
      all_goals go_roundw
      all_goals first | exact ⟨k + 1, by omega, by go_num, hb.drew.trans (hbb.mono hb.size)⟩ | (simp [intOf]; omega)
    · go_wp2
      go_ret
      exact ⟨rfl, hb⟩

set_option maxHeartbeats 1600000 in
theorem eqTi_any (x : Ti) (w : World) :
    Calls Tryz.prog 79 #[.agg #[.int .i64 x.kid, .int .i64 x.up], .agg #[.int .i64 x.kid, .int .i64 x.up]] w fun e w' => e = .returned (.bool true) ∧ Below w.heap.size w w' := by
  have h0 : (x.kid != x.kid) = false := by simp
  have h1 : (x.up != x.up) = false := by simp
  go_enter Tryz.func79, Tryz.ntmps79
  go_wp2
  go_ret
  exact ⟨rfl, ((Below.refl _ _).alloc (Nat.le_refl _) _).alloc (by simp) _⟩

set_option maxHeartbeats 4000000 in
theorem eqTis_same (a1 a2 : Option Addr) (c1 c2 : Nat) (xs : List Ti) (w : World) (hx0 : xs.length ≤ 1048576) (h1 : RowsAt 2 tiCells w a1 xs) (h2 : RowsAt 2 tiCells w a2 xs) :
    Calls Tryz.prog 44 #[.slice a1 xs.length c1, .slice a2 xs.length c2] w fun e w' => e = .returned (.bool true) ∧ Below w.heap.size w w' := by
  have hx := hx0
  clear hx0
  unfold RowsAt at h1 h2
  obtain ⟨n, hn⟩ : ∃ n, n = xs.length := ⟨_, rfl⟩
  rw [← hn] at h1 h2 hx
  rw [← hn]
  have HN := hidOf hn
  clear hn
  go_enter Tryz.func44, Tryz.ntmps44
  go_wp2
  go_loopw [5] (fun i wr => ∃ k : Nat, k ≤ n ∧ i = .int .i64 k ∧ Below w.heap.size w wr) (fun i _ => n - (intOf i).toNat)
  case atStart => exact ⟨0, Nat.zero_le _, rfl, Below.refl _ _⟩
  case round =>
    obtain ⟨k, hk, rfl, hb⟩ := hrel
    by_cases hlt : k < n
    · obtain ⟨x, ex⟩ : ∃ x, xs[k]? = some x := ⟨_, List.getElem?_eq_getElem (by rw [← HN.out]; exact hlt)⟩
      obtain ⟨b1, o1, rfl, hb1, hc1⟩ := h1 (by omega)
      obtain ⟨b2, o2, rfl, hb2, hc2⟩ := h2 (by omega)
      obtain ⟨p0, p1⟩ := tiC (w := wr) (fun j hj => by rw [hb.cell hb1]; exact hc1 k x ex j hj)
      obtain ⟨q0, q1⟩ := tiC (w := wr) (fun j hj => by rw [hb.cell hb2]; exact hc2 k x ex j hj)
      clear ex hc1 hc2 h1 h2
      have hA : (0 : Int) ≤ (k : Int) := by omega
      have hB : (k : Int) < (n : Int) := by omega
      go_wp2
      go_region_with (go_at_call 79; refine (eqTi_any x _).mono ?_; rintro e w1 ⟨rfl, hbb⟩)
      all_goals go_wp2
      all_goals go_roundw
      all_goals first | exact ⟨k + 1, by omega, by go_num, hb.drew.trans (hbb.mono hb.size)⟩ | (simp [intOf]; omega)
    · go_wp2
      go_ret
      exact ⟨rfl, hb⟩
end Go.Proofs.YtghfpcjgionbaaaGreat
/- What the laws' helper eqChunkS tells of two lists of the same chunks. -/
namespace Go.Proofs.YtghfpcjgionbaaaGreat
open Go.RowKit

set_option maxHeartbeats 1600000 in
theorem eqSp_any (r f : Int) (s : Bool) (n : Int) (w : World) :
    Calls Tryz.prog 109 #[.agg #[.int .i64 r, .int .i64 f, .bool s, .int .i64 n], .agg #[.int .i64 r, .int .i64 f, .bool s, .int .i64 n]] w fun e w' => e = .returned (.bool true) ∧ Below w.heap.size w w' := by
  have h0 : (r != r) = false := by simp
  have h1 : (f != f) = false := by simp
  have h2 : (s != s) = false := by simp
  have h3 : (n != n) = false := by simp
  go_enter Tryz.func109, Tryz.ntmps109
  go_wp2
  go_ret
  exact ⟨rfl, ((Below.refl _ _).alloc (Nat.le_refl _) _).alloc (by simp) _⟩

set_option maxHeartbeats 1600000 in
theorem eqCh_any (x : Ch) (w : World) :
    Calls Tryz.prog 77 #[.agg #[.string x.text, .int .i64 x.rule, .int .i64 x.frm, .bool x.space, .int .i64 x.nest], .agg #[.string x.text, .int .i64 x.rule, .int .i64 x.frm, .bool x.space, .int .i64 x.nest]] w fun e w' => e = .returned (.bool true) ∧ Below w.heap.size w w' := by
  have h0 : (x.text.toList != x.text.toList) = false := by simp
  have HB : ∀ o1 o2 : Obj, Below w.heap.size w ((w.alloc o1).alloc o2) := fun o1 o2 => ((Below.refl _ _).alloc (Nat.le_refl _) _).alloc (by simp) _
  go_enter Tryz.func77, Tryz.ntmps77
  go_wp2_with fail
  refine (eqSp_any x.rule x.frm x.space x.nest _).mono ?_
  rintro e w4 ⟨rfl, hb⟩
  have HW := hidOf ((HB _ _).trans (hb.mono (HB _ _).size))
  clear hb HB
  go_wp2
  go_ret
  exact ⟨rfl, HW.out⟩

set_option maxHeartbeats 4000000 in
theorem eqChs_same (a1 a2 : Option Addr) (c1 c2 : Nat) (xs : List Ch) (w : World) (hx0 : xs.length ≤ 1048576) (h1 : RowsAt 5 chCells w a1 xs) (h2 : RowsAt 5 chCells w a2 xs) :
    Calls Tryz.prog 42 #[.slice a1 xs.length c1, .slice a2 xs.length c2] w fun e w' => e = .returned (.bool true) ∧ Below w.heap.size w w' := by
  have hx := hx0
  clear hx0
  unfold RowsAt at h1 h2
  obtain ⟨n, hn⟩ : ∃ n, n = xs.length := ⟨_, rfl⟩
  rw [← hn] at h1 h2 hx
  rw [← hn]
  have HN := hidOf hn
  clear hn
  go_enter Tryz.func42, Tryz.ntmps42
  go_wp2
  go_loopw [5] (fun i wr => ∃ k : Nat, k ≤ n ∧ i = .int .i64 k ∧ Below w.heap.size w wr) (fun i _ => n - (intOf i).toNat)
  case atStart => exact ⟨0, Nat.zero_le _, rfl, Below.refl _ _⟩
  case round =>
    obtain ⟨k, hk, rfl, hb⟩ := hrel
    by_cases hlt : k < n
    · obtain ⟨x, ex⟩ : ∃ x, xs[k]? = some x := ⟨_, List.getElem?_eq_getElem (by rw [← HN.out]; exact hlt)⟩
      obtain ⟨b1, o1, rfl, hb1, hc1⟩ := h1 (by omega)
      obtain ⟨b2, o2, rfl, hb2, hc2⟩ := h2 (by omega)
      obtain ⟨p0, p1, p2, p3, p4⟩ := chC (w := wr) (fun j hj => by rw [hb.cell hb1]; exact hc1 k x ex j hj)
      obtain ⟨q0, q1, q2, q3, q4⟩ := chC (w := wr) (fun j hj => by rw [hb.cell hb2]; exact hc2 k x ex j hj)
      clear ex hc1 hc2 h1 h2
      have hA : (0 : Int) ≤ (k : Int) := by omega
      have hB : (k : Int) < (n : Int) := by omega
      go_wp2
      go_region_with (go_at_call 77; refine (eqCh_any x _).mono ?_; rintro e w1 ⟨rfl, hbb⟩)
      all_goals go_wp2
      all_goals go_roundw
      all_goals first | exact ⟨k + 1, by omega, by go_num, hb.drew.trans (hbb.mono hb.size)⟩ | (simp [intOf]; omega)
    · go_wp2
      go_ret
      exact ⟨rfl, hb⟩
end Go.Proofs.YtghfpcjgionbaaaGreat
