/- What the laws' helpers on rules, spans and ties that came in do: they are copied. -/
import Derived.Test.YtghfpcjgionbaaaGreatProg
import Derived.Test.YtghfpcjgionbaaaGreatPcLib
import Derived.BigQuiet
import Derived.Deep.QuietTactic
import Derived.Deep.RegionWith
import Derived.Deep.RegionHeld3
namespace Go.Proofs.YtghfpcjgionbaaaGreat
open Go.RowKit

theorem infoRu : (Tryz.prog.info? 68).map (·.size) = some 2 ∧ (Tryz.prog.info? 68).map (fun i => (i.zero, i.size, i.bytes)) = some (some (.agg #[.int .i64 0, .int .i64 0]), 2, 16) := ⟨by kernel_rfl, by kernel_rfl⟩

set_option maxHeartbeats 1600000 in
theorem toRu_any (x : Ru) (w : World) :
    Calls Tryz.prog 68 #[.agg #[.int .i64 x.values, .int .i64 x.cost]] w fun e w' => e = .returned (.agg #[.int .i64 x.values, .int .i64 x.cost]) ∧ Below w.heap.size w w' := by
  go_enter Tryz.func68, Tryz.ntmps68
  go_wp2
  refine bodyPost_ret (results_cell_row rfl _ _ (w.heap.size + 1) 68 #[.int .i64 x.values, .int .i64 x.cost] (0, 0) _ rfl ?_ Tryz.underlying68 rfl infoRu.1) rfl ?_
  · rw [heap_alloc_old _ _ (by simp)]
    exact heap_alloc2_new w _ _
  · exact ⟨rfl, (((Below.refl _ _).alloc (Nat.le_refl _) _).alloc (by simp) _).alloc (by simp; omega) _⟩

set_option maxHeartbeats 4000000 in
theorem toRus_any (a : Option Addr) (c : Nat) (xs : List Ru) (w : World) (hn0 : xs.length ≤ 1048576) (hT : RowsAt 2 ruCells w a xs) :
    Calls Tryz.prog 35 #[.slice a xs.length c] w fun e w' => e = .returned (.slice (some ⟨w.heap.size, 0, none⟩) xs.length xs.length) ∧ w'.ownsRow w.heap.size 68 2 (.slice (some ⟨w.heap.size, 0, none⟩) xs.length xs.length) xs.length (rowVals ruCells xs) ∧ Below w.heap.size w w' := by
  unfold RowsAt at hT
  obtain ⟨n, hn⟩ : ∃ n, n = xs.length := ⟨_, rfl⟩
  rw [← hn] at hT hn0 ⊢
  have HN := hidOf hn
  clear hn
  obtain ⟨i0, hi, hz0, hz1, hz2⟩ := info_parts infoRu.2
  go_enter Tryz.func35, Tryz.ntmps35
  go_wp2_with (at_make; refine wpList_make_full _ rfl _ _ 32 rfl w.heap.size 68 i0 _ 2 Tryz.underlying32 hi hz0 hz1 .i64 .i64 _ _ n rfl rfl rfl rfl (by rw [hz2]; omega) (by unfold maxLen; omega) (Nat.le_refl _) ?_; intro w1 hown hgrow)
  have hb1 : Below w.heap.size w w1 := (Below.refl _ w).grown hgrow (Nat.le_refl _) (fun k e => by cases e)
  obtain ⟨zs, hzs⟩ : ∃ zs, zs = (madeCells (Value.agg #[Value.int IntKind.i64 0, Value.int IntKind.i64 0]).cells (n * 2)).toList := ⟨_, rfl⟩
  rw [← hzs] at hown
  clear hzs hgrow
  go_loopw [4] (fun i wr => ∃ (k : Nat) (zs : List Value), k ≤ n ∧ i = .int .i64 k ∧ wr.ownsRow w.heap.size 68 2 (.slice (some ⟨w.heap.size, 0, none⟩) n n) n zs ∧ Hid (zs.take (k * 2) = rowVals ruCells (xs.take k)) ∧ Below w.heap.size w wr) (fun i _ => n - (intOf i).toNat)
  case atStart => exact ⟨0, zs, Nat.zero_le _, rfl, hown, hidOf (by simp [rowVals]), hb1⟩
  case round =>
    obtain ⟨k, zs, hk, rfl, ho, HZ, hb⟩ := hrel
    by_cases hlt : k < n
    · obtain ⟨x, ex⟩ : ∃ x, xs[k]? = some x := ⟨_, List.getElem?_eq_getElem (by rw [← HN.out]; exact hlt)⟩
      obtain ⟨b1, o1, rfl, hb1, hc1⟩ := hT (by omega)
      obtain ⟨p0, p1⟩ := ruC (w := wr) (fun j hj => by rw [hb.cell hb1]; exact hc1 k x ex j hj)
      have EX := hidOf ex
      clear ex hc1 hT
      have hA : (0 : Int) ≤ (k : Int) := by omega
      have hB : (k : Int) < (n : Int) := by omega
      go_wp2_with fail
      refine (toRu_any x _).mono ?_
      rintro e w2 ⟨rfl, hb2⟩
      have ho2 := owns_below ho hb2
      have hlz : zs.length = n * 2 := ho2.1
      have s0 := ho2.stored (k * 2) (.int .i64 x.values)
      have s1 := s0.1.stored (k * 2 + 1) (.int .i64 x.cost)
      have HS := hidOf (And.intro s1.1 (grownBy_trans s0.2 s1.2))
      obtain ⟨u0, d0⟩ : ∃ u, w2.cell? ⟨w.heap.size, k * 2, none⟩ = some u := ⟨_, (ho2.cellAt (k * 2) (by omega)).trans (List.getElem?_eq_getElem (by omega))⟩
      obtain ⟨u1, d1⟩ : ∃ u, w2.cell? ⟨w.heap.size, k * 2 + 1, none⟩ = some u := ⟨_, (ho2.cellAt (k * 2 + 1) (by omega)).trans (List.getElem?_eq_getElem (by omega))⟩
      have f0 := ho2.frozenAt (k * 2)
      have f1 := ho2.frozenAt (k * 2 + 1)
      have HLZ := hidOf hlz
      clear s0 s1 hlz ho ho2 p0 p1
      go_wp2
      go_roundw
      case rel => exact ⟨k + 1, layAt zs (k * 2) (ruCells x), by omega, by go_num, HS.out.1, hidOf (layAt_take ruCells_len (by have := HLZ.out; omega) EX.out HZ.out), (hb.trans (hb2.mono hb.size)).grown HS.out.2 (Nat.le_trans hb.size hb2.size) (fun q hq => by cases hq; exact Nat.le_refl _)⟩
      case measure => simp [intOf]; omega
    · go_wp2
      go_ret
      refine ⟨rfl, ?_, hb⟩
      have hz : zs = rowVals ruCells xs := by
        have h1 := HZ.out
        have h2 : zs.length = n * 2 := ho.1
        have h3 := HN.out
        rw [List.take_of_length_le (by omega), List.take_of_length_le (by omega)] at h1
        exact h1
      rw [← hz]
      exact ho

set_option maxHeartbeats 1600000 in
theorem szRus_any (a : Option Addr) (n c : Nat) (L : Int) (w : World) (hn : n ≤ 9223372036854775807) (h0 : 0 ≤ L) (h1 : L ≤ 1048576) :
    Calls Tryz.prog 22 #[.slice a n c, .int .i64 L] w fun e w' => ∃ r : Int, e = .returned (.int .i64 r) ∧ ((r = -1) ∨ (0 ≤ r ∧ r ≤ L ∧ n ≤ 1048576)) ∧ Below w.heap.size w w' := by
  by_cases hb : L < n
  · go_enter Tryz.func22, Tryz.ntmps22
    go_wp2
    go_ret
    exact ⟨-1, rfl, .inl rfl, Below.refl _ _⟩
  · go_enter Tryz.func22, Tryz.ntmps22
    go_wp2
    go_ret
    exact ⟨_, rfl, .inr ⟨by omega, by omega, by omega⟩, Below.refl _ _⟩
theorem infoSn : (Tryz.prog.info? 107).map (·.size) = some 3 ∧ (Tryz.prog.info? 107).map (fun i => (i.zero, i.size, i.bytes)) = some (some (.agg #[.int .i64 0, .int .i64 0, .int .i64 0]), 3, 24) := ⟨by kernel_rfl, by kernel_rfl⟩

set_option maxHeartbeats 1600000 in
theorem toSn_any (x : Sn) (w : World) :
    Calls Tryz.prog 70 #[.agg #[.int .i64 x.frm, .int .i64 x.til, .int .i64 x.cost]] w fun e w' => e = .returned (.agg #[.int .i64 x.frm, .int .i64 x.til, .int .i64 x.cost]) ∧ Below w.heap.size w w' := by
  go_enter Tryz.func70, Tryz.ntmps70
  go_wp2
  refine bodyPost_ret (results_cell_row rfl _ _ (w.heap.size + 1) 107 #[.int .i64 x.frm, .int .i64 x.til, .int .i64 x.cost] (0, 0) _ rfl ?_ Tryz.underlying107 rfl infoSn.1) rfl ?_
  · rw [heap_alloc_old _ _ (by simp)]
    exact heap_alloc2_new w _ _
  · exact ⟨rfl, (((Below.refl _ _).alloc (Nat.le_refl _) _).alloc (by simp) _).alloc (by simp; omega) _⟩

set_option maxHeartbeats 4000000 in
theorem toSns_any (a : Option Addr) (c : Nat) (xs : List Sn) (w : World) (hn0 : xs.length ≤ 1048576) (hT : RowsAt 3 snCells w a xs) :
    Calls Tryz.prog 37 #[.slice a xs.length c] w fun e w' => e = .returned (.slice (some ⟨w.heap.size, 0, none⟩) xs.length xs.length) ∧ w'.ownsRow w.heap.size 107 3 (.slice (some ⟨w.heap.size, 0, none⟩) xs.length xs.length) xs.length (rowVals snCells xs) ∧ Below w.heap.size w w' := by
  unfold RowsAt at hT
  obtain ⟨n, hn⟩ : ∃ n, n = xs.length := ⟨_, rfl⟩
  rw [← hn] at hT hn0 ⊢
  have HN := hidOf hn
  clear hn
  obtain ⟨i0, hi, hz0, hz1, hz2⟩ := info_parts infoSn.2
  go_enter Tryz.func37, Tryz.ntmps37
  go_wp2_with (at_make; refine wpList_make_full _ rfl _ _ 34 rfl w.heap.size 107 i0 _ 3 Tryz.underlying34 hi hz0 hz1 .i64 .i64 _ _ n rfl rfl rfl rfl (by rw [hz2]; omega) (by unfold maxLen; omega) (Nat.le_refl _) ?_; intro w1 hown hgrow)
  have hb1 : Below w.heap.size w w1 := (Below.refl _ w).grown hgrow (Nat.le_refl _) (fun k e => by cases e)
  obtain ⟨zs, hzs⟩ : ∃ zs, zs = (madeCells (Value.agg #[Value.int IntKind.i64 0, Value.int IntKind.i64 0, Value.int IntKind.i64 0]).cells (n * 3)).toList := ⟨_, rfl⟩
  rw [← hzs] at hown
  clear hzs hgrow
  go_loopw [4] (fun i wr => ∃ (k : Nat) (zs : List Value), k ≤ n ∧ i = .int .i64 k ∧ wr.ownsRow w.heap.size 107 3 (.slice (some ⟨w.heap.size, 0, none⟩) n n) n zs ∧ Hid (zs.take (k * 3) = rowVals snCells (xs.take k)) ∧ Below w.heap.size w wr) (fun i _ => n - (intOf i).toNat)
  case atStart => exact ⟨0, zs, Nat.zero_le _, rfl, hown, hidOf (by simp [rowVals]), hb1⟩
  case round =>
    obtain ⟨k, zs, hk, rfl, ho, HZ, hb⟩ := hrel
    by_cases hlt : k < n
    · obtain ⟨x, ex⟩ : ∃ x, xs[k]? = some x := ⟨_, List.getElem?_eq_getElem (by rw [← HN.out]; exact hlt)⟩
      obtain ⟨b1, o1, rfl, hb1, hc1⟩ := hT (by omega)
      obtain ⟨p0, p1, p2⟩ := snC (w := wr) (fun j hj => by rw [hb.cell hb1]; exact hc1 k x ex j hj)
      have EX := hidOf ex
      clear ex hc1 hT
      have hA : (0 : Int) ≤ (k : Int) := by omega
      have hB : (k : Int) < (n : Int) := by omega
      go_wp2_with fail
      refine (toSn_any x _).mono ?_
      rintro e w2 ⟨rfl, hb2⟩
      have ho2 := owns_below ho hb2
      have hlz : zs.length = n * 3 := ho2.1
      have s0 := ho2.stored (k * 3) (.int .i64 x.frm)
      have s1 := s0.1.stored (k * 3 + 1) (.int .i64 x.til)
      have s2 := s1.1.stored (k * 3 + 2) (.int .i64 x.cost)
      have HS := hidOf (And.intro s2.1 (grownBy_trans (grownBy_trans s0.2 s1.2) s2.2))
      obtain ⟨u0, d0⟩ : ∃ u, w2.cell? ⟨w.heap.size, k * 3, none⟩ = some u := ⟨_, (ho2.cellAt (k * 3) (by omega)).trans (List.getElem?_eq_getElem (by omega))⟩
      obtain ⟨u1, d1⟩ : ∃ u, w2.cell? ⟨w.heap.size, k * 3 + 1, none⟩ = some u := ⟨_, (ho2.cellAt (k * 3 + 1) (by omega)).trans (List.getElem?_eq_getElem (by omega))⟩
      obtain ⟨u2, d2⟩ : ∃ u, w2.cell? ⟨w.heap.size, k * 3 + 2, none⟩ = some u := ⟨_, (ho2.cellAt (k * 3 + 2) (by omega)).trans (List.getElem?_eq_getElem (by omega))⟩
      have f0 := ho2.frozenAt (k * 3)
      have f1 := ho2.frozenAt (k * 3 + 1)
      have f2 := ho2.frozenAt (k * 3 + 2)
      have HLZ := hidOf hlz
      clear s0 s1 s2 hlz ho ho2 p0 p1 p2
      go_wp2
      go_roundw
      case rel => exact ⟨k + 1, layAt zs (k * 3) (snCells x), by omega, by go_num, HS.out.1, hidOf (layAt_take snCells_len (by have := HLZ.out; omega) EX.out HZ.out), (hb.trans (hb2.mono hb.size)).grown HS.out.2 (Nat.le_trans hb.size hb2.size) (fun q hq => by cases hq; exact Nat.le_refl _)⟩
      case measure => simp [intOf]; omega
    · go_wp2
      go_ret
      refine ⟨rfl, ?_, hb⟩
      have hz : zs = rowVals snCells xs := by
        have h1 := HZ.out
        have h2 : zs.length = n * 3 := ho.1
        have h3 := HN.out
        rw [List.take_of_length_le (by omega), List.take_of_length_le (by omega)] at h1
        exact h1
      rw [← hz]
      exact ho

set_option maxHeartbeats 1600000 in
theorem szSns_any (a : Option Addr) (n c : Nat) (L : Int) (w : World) (hn : n ≤ 9223372036854775807) (h0 : 0 ≤ L) (h1 : L ≤ 1048576) :
    Calls Tryz.prog 24 #[.slice a n c, .int .i64 L] w fun e w' => ∃ r : Int, e = .returned (.int .i64 r) ∧ ((r = -1) ∨ (0 ≤ r ∧ r ≤ L ∧ n ≤ 1048576)) ∧ Below w.heap.size w w' := by
  by_cases hb : L < n
  · go_enter Tryz.func24, Tryz.ntmps24
    go_wp2
    go_ret
    exact ⟨-1, rfl, .inl rfl, Below.refl _ _⟩
  · go_enter Tryz.func24, Tryz.ntmps24
    go_wp2
    go_ret
    exact ⟨_, rfl, .inr ⟨by omega, by omega, by omega⟩, Below.refl _ _⟩
theorem infoTi : (Tryz.prog.info? 109).map (·.size) = some 2 ∧ (Tryz.prog.info? 109).map (fun i => (i.zero, i.size, i.bytes)) = some (some (.agg #[.int .i64 0, .int .i64 0]), 2, 16) := ⟨by kernel_rfl, by kernel_rfl⟩

set_option maxHeartbeats 1600000 in
theorem toTi_any (x : Ti) (w : World) :
    Calls Tryz.prog 71 #[.agg #[.int .i64 x.kid, .int .i64 x.up]] w fun e w' => e = .returned (.agg #[.int .i64 x.kid, .int .i64 x.up]) ∧ Below w.heap.size w w' := by
  go_enter Tryz.func71, Tryz.ntmps71
  go_wp2
  refine bodyPost_ret (results_cell_row rfl _ _ (w.heap.size + 1) 109 #[.int .i64 x.kid, .int .i64 x.up] (0, 0) _ rfl ?_ Tryz.underlying109 rfl infoTi.1) rfl ?_
  · rw [heap_alloc_old _ _ (by simp)]
    exact heap_alloc2_new w _ _
  · exact ⟨rfl, (((Below.refl _ _).alloc (Nat.le_refl _) _).alloc (by simp) _).alloc (by simp; omega) _⟩

set_option maxHeartbeats 4000000 in
theorem toTis_any (a : Option Addr) (c : Nat) (xs : List Ti) (w : World) (hn0 : xs.length ≤ 1048576) (hT : RowsAt 2 tiCells w a xs) :
    Calls Tryz.prog 38 #[.slice a xs.length c] w fun e w' => e = .returned (.slice (some ⟨w.heap.size, 0, none⟩) xs.length xs.length) ∧ w'.ownsRow w.heap.size 109 2 (.slice (some ⟨w.heap.size, 0, none⟩) xs.length xs.length) xs.length (rowVals tiCells xs) ∧ Below w.heap.size w w' := by
  unfold RowsAt at hT
  obtain ⟨n, hn⟩ : ∃ n, n = xs.length := ⟨_, rfl⟩
  rw [← hn] at hT hn0 ⊢
  have HN := hidOf hn
  clear hn
  obtain ⟨i0, hi, hz0, hz1, hz2⟩ := info_parts infoTi.2
  go_enter Tryz.func38, Tryz.ntmps38
  go_wp2_with (at_make; refine wpList_make_full _ rfl _ _ 35 rfl w.heap.size 109 i0 _ 2 Tryz.underlying35 hi hz0 hz1 .i64 .i64 _ _ n rfl rfl rfl rfl (by rw [hz2]; omega) (by unfold maxLen; omega) (Nat.le_refl _) ?_; intro w1 hown hgrow)
  have hb1 : Below w.heap.size w w1 := (Below.refl _ w).grown hgrow (Nat.le_refl _) (fun k e => by cases e)
  obtain ⟨zs, hzs⟩ : ∃ zs, zs = (madeCells (Value.agg #[Value.int IntKind.i64 0, Value.int IntKind.i64 0]).cells (n * 2)).toList := ⟨_, rfl⟩
  rw [← hzs] at hown
  clear hzs hgrow
  go_loopw [4] (fun i wr => ∃ (k : Nat) (zs : List Value), k ≤ n ∧ i = .int .i64 k ∧ wr.ownsRow w.heap.size 109 2 (.slice (some ⟨w.heap.size, 0, none⟩) n n) n zs ∧ Hid (zs.take (k * 2) = rowVals tiCells (xs.take k)) ∧ Below w.heap.size w wr) (fun i _ => n - (intOf i).toNat)
  case atStart => exact ⟨0, zs, Nat.zero_le _, rfl, hown, hidOf (by simp [rowVals]), hb1⟩
  case round =>
    obtain ⟨k, zs, hk, rfl, ho, HZ, hb⟩ := hrel
    by_cases hlt : k < n
    · obtain ⟨x, ex⟩ : ∃ x, xs[k]? = some x := ⟨_, List.getElem?_eq_getElem (by rw [← HN.out]; exact hlt)⟩
      obtain ⟨b1, o1, rfl, hb1, hc1⟩ := hT (by omega)
      obtain ⟨p0, p1⟩ := tiC (w := wr) (fun j hj => by rw [hb.cell hb1]; exact hc1 k x ex j hj)
      have EX := hidOf ex
      clear ex hc1 hT
      have hA : (0 : Int) ≤ (k : Int) := by omega
      have hB : (k : Int) < (n : Int) := by omega
      go_wp2_with fail
      refine (toTi_any x _).mono ?_
      rintro e w2 ⟨rfl, hb2⟩
      have ho2 := owns_below ho hb2
      have hlz : zs.length = n * 2 := ho2.1
      have s0 := ho2.stored (k * 2) (.int .i64 x.kid)
      have s1 := s0.1.stored (k * 2 + 1) (.int .i64 x.up)
      have HS := hidOf (And.intro s1.1 (grownBy_trans s0.2 s1.2))
      obtain ⟨u0, d0⟩ : ∃ u, w2.cell? ⟨w.heap.size, k * 2, none⟩ = some u := ⟨_, (ho2.cellAt (k * 2) (by omega)).trans (List.getElem?_eq_getElem (by omega))⟩
      obtain ⟨u1, d1⟩ : ∃ u, w2.cell? ⟨w.heap.size, k * 2 + 1, none⟩ = some u := ⟨_, (ho2.cellAt (k * 2 + 1) (by omega)).trans (List.getElem?_eq_getElem (by omega))⟩
      have f0 := ho2.frozenAt (k * 2)
      have f1 := ho2.frozenAt (k * 2 + 1)
      have HLZ := hidOf hlz
      clear s0 s1 hlz ho ho2 p0 p1
      go_wp2
      go_roundw
      case rel => exact ⟨k + 1, layAt zs (k * 2) (tiCells x), by omega, by go_num, HS.out.1, hidOf (layAt_take tiCells_len (by have := HLZ.out; omega) EX.out HZ.out), (hb.trans (hb2.mono hb.size)).grown HS.out.2 (Nat.le_trans hb.size hb2.size) (fun q hq => by cases hq; exact Nat.le_refl _)⟩
      case measure => simp [intOf]; omega
    · go_wp2
      go_ret
      refine ⟨rfl, ?_, hb⟩
      have hz : zs = rowVals tiCells xs := by
        have h1 := HZ.out
        have h2 : zs.length = n * 2 := ho.1
        have h3 := HN.out
        rw [List.take_of_length_le (by omega), List.take_of_length_le (by omega)] at h1
        exact h1
      rw [← hz]
      exact ho

set_option maxHeartbeats 1600000 in
theorem szTis_any (a : Option Addr) (n c : Nat) (L : Int) (w : World) (hn : n ≤ 9223372036854775807) (h0 : 0 ≤ L) (h1 : L ≤ 1048576) :
    Calls Tryz.prog 25 #[.slice a n c, .int .i64 L] w fun e w' => ∃ r : Int, e = .returned (.int .i64 r) ∧ ((r = -1) ∨ (0 ≤ r ∧ r ≤ L ∧ n ≤ 1048576)) ∧ Below w.heap.size w w' := by
  by_cases hb : L < n
  · go_enter Tryz.func25, Tryz.ntmps25
    go_wp2
    go_ret
    exact ⟨-1, rfl, .inl rfl, Below.refl _ _⟩
  · go_enter Tryz.func25, Tryz.ntmps25
    go_wp2
    go_ret
    exact ⟨_, rfl, .inr ⟨by omega, by omega, by omega⟩, Below.refl _ _⟩
end Go.Proofs.YtghfpcjgionbaaaGreat
