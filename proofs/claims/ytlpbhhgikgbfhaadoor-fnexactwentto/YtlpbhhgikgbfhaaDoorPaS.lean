/- What spec.PlacesOf and impl.PlacesOf answer. -/
import Derived.Test.YtlpbhhgikgbfhaaDoorPaLib
import Derived.Test.YtlpbhhgikgbfhaaDoorSgnS6
import Derived.Test.YtlpbhhgikgbfhaaDoorSignsI
import Derived.Test.YtlpbhhgikgbfhaaDoorLefS
import Derived.Test.YtlpbhhgikgbfhaaDoorLefJ
import Derived.Test.YtlpbhhgikgbfhaaDoorTyAp
namespace Go.Proofs.YtlpbhhgikgbfhaaDoor
open Go.RowKit

theorem infoIntP : (Tryd.prog.info? 3).map (fun i => (i.zero, i.size, i.bytes)) = some (some (.int .i64 0), 1, 8) := by kernel_rfl
theorem map_take {xs : List Sg} {k : Nat} {x : Sg} (h : xs[k]? = some x) : (xs.take k).map (·.place) ++ [x.place] = (xs.take (k + 1)).map (·.place) := by
  rw [List.take_add_one, h]
  simp
theorem sgn_few (t : ByteArray) : (sgn t).1.length ≤ 3000 := by
  have := up_len ((sgn t).1.map (·.place)) 0 3000 (by rw [List.pairwise_map]; exact (sgn_asc t).1) (fun p hp => by obtain ⟨x, hx, rfl⟩ := List.mem_map.1 hp; exact (sgn_asc t).2 x hx) (by omega)
  simp at this
  omega

set_option maxHeartbeats 4000000 in
set_option maxRecDepth 20000 in
theorem sPlaces_any (t : ByteArray) (w : World) (hs : t.size ≤ 4194304) :
    Calls Tryd.prog 5 #[.string t] w fun e w' => IntsAns (pls t) 3 w e w' := by
  obtain ⟨i0, hi, hz0, hz1, hz2⟩ := info_parts infoIntP
  have hfew := sgn_few t
  have hmany := pls_many t
  have hS := fun W => sSigns_any t W hs
  unfold SgnAns at hS
  unfold pls at hmany ⊢
  generalize sgn t = q at hS hmany hfew ⊢
  obtain ⟨xs, p, bo⟩ := q
  simp only at hS hmany hfew ⊢
  have hLf := fun (v : Value) (W : World) (h : SgsAt W v xs) => sLef_any v xs W (by omega) h
  generalize lefF xs = ys at hLf hmany ⊢
  go_enter Tryd.func5, Tryd.ntmps5
  go_wp2_with fail
  obtain ⟨v0, hv0⟩ : ∃ v0, v0 = Value.slice (some ⟨w.heap.size, 0, none⟩) 0 0 := ⟨_, rfl⟩
  have hown0 : (w.alloc (.cells #[] 3)).ownsRow w.heap.size 3 1 v0 0 [] := by rw [hv0]; exact World.ownsRow_made w #[] 0 (by omega) (by decide) rfl
  rw [← hv0]
  clear hv0
  have hb0 : Below w.heap.size w (w.alloc (.cells #[] 3)) := (Below.refl _ _).alloc (Nat.le_refl _) _
  refine (hS _).mono ?_
  rintro e w1 ⟨hb1, v1, rfl, ho1⟩
  have B1 := hb0.trans (hb1.mono hb0.size)
  have hown1 := owns_below hown0 hb1
  clear hown0
  go_wp2_with fail
  refine (hLf v1 _ (.of_own ho1)).mono ?_
  rintro e w2 ⟨hb2, v2, rfl, ho2⟩
  have B2 := B1.trans (hb2.mono B1.size)
  have hown2 := owns_below hown1 hb2
  clear hown1
  obtain ⟨a2, c2, rfl⟩ := owns_slice ho2
  obtain ⟨n, hn⟩ : ∃ n, n = ys.length := ⟨_, rfl⟩
  simp only [List.length_map] at hmany
  rw [← hn] at ho2 hmany ⊢
  have HN := hidOf hn
  clear hn
  clear ho1
  go_wp2
  go_loopw [3, 7] (fun v i wr => ∃ k : Nat, k ≤ n ∧ i = .int .i64 k ∧ wr.ownsRow w.heap.size 3 1 v k (intVals ((ys.take k).map (·.place))) ∧ Below w.heap.size w wr ∧ wr.ownsRow w1.heap.size 34 4 (.slice a2 n c2) n (sgVals ys)) (fun _ i _ => n - (intOf i).toNat)
  case atStart => exact ⟨0, Nat.zero_le _, rfl, hown2, B2, ho2⟩
  case round =>
    obtain ⟨k, hk, rfl, ho, hb, hr⟩ := hrel
    obtain ⟨ao, cv, rfl⟩ := owns_slice ho
    have hsz := hb.size
    by_cases hlt : k < n
    · obtain ⟨x, ex⟩ : ∃ x, ys[k]? = some x := ⟨_, List.getElem?_eq_getElem (by rw [← HN.out]; exact hlt)⟩
      obtain ⟨b2, rfl⟩ := owns_at hr (by omega)
      obtain ⟨p0, p1, p2, p3⟩ := cells4 (w := wr) (b := b2) (o := k * 4) (x := x) (fun j hj => by rw [hr.cellAt (k * 4 + j) (by omega)]; exact sgVals_at ys k x ex j hj)
      have EX := hidOf ex
      clear ex p0 p1 p3
      have hne := types_apart hr ho (by decide)
      have HE := hidOf hne
      clear hne
      go_wp2_with (at_builtin; refine wpList_append_own _ rfl _ _ 22 rfl w.heap.size 3 i0 (.int .i64 0) 1 8 Tryd.underlying22 hi hz0 hz1 hz2 rfl (by decide) _ _ _ rfl (ho.alloc _) ⟨wr.heap.size, 0, none⟩ 1 1 [.int .i64 x.place] rfl rfl (cell_one_new _ _ _) (fun x hx => by simp at hx; subst hx; rfl) (by unfold maxLen; omega) (by omega) (by simp; omega) ?_; intro v' w3 hown' hgrow3 hnil3)
      go_roundw
      case rel => exact ⟨k + 1, by omega, by go_num, by rw [← map_take EX.out]; simpa [intVals] using hown', (hb.alloc (by omega) _).grown hgrow3 (by simp; omega) (fun q hq => (ho.lt q hq).1), (hr.alloc _).kept hgrow3 HE.out⟩
      case measure => simp [intOf]; omega
    · go_wp2
      go_ret
      have hN := HN.out
      have hkn : k = ys.length := by omega
      refine ints_mk hb ?_
      rw [List.take_of_length_le (by omega)] at ho
      simpa [hkn] using ho

set_option maxHeartbeats 4000000 in
set_option maxRecDepth 20000 in
theorem iPlaces_any (t : ByteArray) (w : World) (hs : t.size ≤ 4194304) :
    Calls Tryd.prog 6 #[.string t] w fun e w' => IntsAns (pls t) 3 w e w' := by
  obtain ⟨i0, hi, hz0, hz1, hz2⟩ := info_parts infoIntP
  have hfew := sgn_few t
  have hmany := pls_many t
  have hS := fun W => iSigns_any t W hs
  unfold SgnAns at hS
  unfold pls at hmany ⊢
  generalize sgn t = q at hS hmany hfew ⊢
  obtain ⟨xs, p, bo⟩ := q
  simp only at hS hmany hfew ⊢
  have hLf := fun (v : Value) (W : World) (h : SgsAt W v xs) => iLef_any v xs W (by omega) h
  generalize lefF xs = ys at hLf hmany ⊢
  go_enter Tryd.func6, Tryd.ntmps6
  go_wp2_with fail
  refine (hS _).mono ?_
  rintro e w1 ⟨hb1, v1, rfl, ho1⟩
  have hs1 := hb1.size
  go_wp2_with fail
  obtain ⟨v0, hv0⟩ : ∃ v0, v0 = Value.slice (some ⟨w1.heap.size, 0, none⟩) 0 0 := ⟨_, rfl⟩
  have hown0 : (w1.alloc (.cells #[] 3)).ownsRow w.heap.size 3 1 v0 0 [] := by rw [hv0]; exact World.ownsRow_made w1 #[] 0 (by omega) (by decide) rfl
  rw [← hv0]
  clear hv0
  have B1 : Below w.heap.size w (w1.alloc (.cells #[] 3)) := hb1.alloc (by omega) _
  have hsa : (w1.alloc (.cells #[] 3)).heap.size = w1.heap.size + 1 := by simp
  refine (hLf v1 _ (.of_own (ho1.alloc _))).mono ?_
  rintro e w2 ⟨hb2, v2, rfl, ho2⟩
  have B2 := B1.trans (hb2.mono B1.size)
  have hown2 := owns_below hown0 hb2
  clear hown0
  rw [hsa] at ho2
  obtain ⟨a2, c2, rfl⟩ := owns_slice ho2
  obtain ⟨n, hn⟩ : ∃ n, n = ys.length := ⟨_, rfl⟩
  simp only [List.length_map] at hmany
  rw [← hn] at ho2 hmany ⊢
  have HN := hidOf hn
  clear hn
  clear ho1 hsa
  go_wp2
  go_loopw [6, 19] (fun v i wr => ∃ k : Nat, k ≤ n ∧ i = .int .i64 k ∧ wr.ownsRow w.heap.size 3 1 v k (intVals ((ys.take k).map (·.place))) ∧ Below w.heap.size w wr ∧ wr.ownsRow (w1.heap.size + 1) 34 4 (.slice a2 n c2) n (sgVals ys)) (fun _ i _ => n - (intOf i).toNat)
  case atStart => exact ⟨0, Nat.zero_le _, rfl, hown2, B2, ho2⟩
  case round =>
    obtain ⟨k, hk, rfl, ho, hb, hr⟩ := hrel
    obtain ⟨ao, cv, rfl⟩ := owns_slice ho
    have hsz := hb.size
    by_cases hlt : k < n
    · obtain ⟨x, ex⟩ : ∃ x, ys[k]? = some x := ⟨_, List.getElem?_eq_getElem (by rw [← HN.out]; exact hlt)⟩
      obtain ⟨b2, rfl⟩ := owns_at hr (by omega)
      obtain ⟨p0, p1, p2, p3⟩ := cells4 (w := wr) (b := b2) (o := k * 4) (x := x) (fun j hj => by rw [hr.cellAt (k * 4 + j) (by omega)]; exact sgVals_at ys k x ex j hj)
      have EX := hidOf ex
      clear ex
      have hne := types_apart hr ho (by decide)
      have HE := hidOf hne
      clear hne
      go_wp2_with (at_builtin; refine wpList_append_own _ rfl _ _ 22 rfl w.heap.size 3 i0 (.int .i64 0) 1 8 Tryd.underlying22 hi hz0 hz1 hz2 rfl (by decide) _ _ _ rfl ((ho.alloc _).alloc _) ⟨wr.heap.size + 1, 0, none⟩ 1 1 [.int .i64 x.place] rfl rfl (cell_one_new1 _ _ _ _) (fun x hx => by simp at hx; subst hx; rfl) (by unfold maxLen; omega) (by omega) (by simp; omega) ?_; intro v' w3 hown' hgrow3 hnil3)
      go_roundw
      case rel => exact ⟨k + 1, by omega, by go_num, by rw [← map_take EX.out]; simpa [intVals] using hown', ((hb.alloc (by omega) _).alloc (by simp; omega) _).grown hgrow3 (by simp; omega) (fun q hq => (ho.lt q hq).1), ((hr.alloc _).alloc _).kept hgrow3 HE.out⟩
      case measure => simp [intOf]; omega
    · go_wp2
      go_ret
      have hN := HN.out
      have hkn : k = ys.length := by omega
      refine ints_mk hb ?_
      rw [List.take_of_length_le (by omega)] at ho
      simpa [hkn] using ho
end Go.Proofs.YtlpbhhgikgbfhaaDoor
