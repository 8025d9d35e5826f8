/- What the laws' helpers on a list of cells that came in do: szCellS tells whether it is too great, toCellS copies it. -/
import Derived.Test.YtdlbnllkfnfgoaaProg
import Derived.Test.YtdlbnllkfnfgoaaClAt
import Derived.BigQuiet
import Derived.Deep.QuietTactic
namespace Go.Proofs.Ytdlbnllkfnfgoaa
open Go.RowKit

theorem infoCl : (Try.prog.info? 44).map (·.size) = some 2 ∧ (Try.prog.info? 44).map (fun i => (i.zero, i.size, i.bytes)) = some (some (.agg #[.string ByteArray.empty, .int .i64 0]), 2, 24) := ⟨by kernel_rfl, by kernel_rfl⟩
/-- No text is longer than a text may be. -/
def ClsOk (xs : List Cel) : Prop := ∀ x ∈ xs, x.name.size ≤ 9223372036854775807

set_option maxHeartbeats 1600000 in
theorem szCell_any (x : Cel) (L : Int) (w : World) (hx : x.name.size ≤ 9223372036854775807) (h0 : 0 ≤ L) (h1 : L ≤ 1048576) :
    Calls Try.prog 20 #[.agg #[.string x.name, .int .i64 x.num], .int .i64 L] w fun e w' => ∃ r : Int, e = .returned (.int .i64 r) ∧ ((r = -1) ∨ (0 ≤ r ∧ r ≤ L ∧ x.name.size ≤ 1048576)) ∧ Below w.heap.size w w' := by
  by_cases hn : L < x.name.size
  · go_enter Try.func20, Try.ntmps20
    go_wp2
    go_ret
    exact ⟨-1, rfl, .inl rfl, (Below.refl _ _).alloc (Nat.le_refl _) _⟩
  · go_enter Try.func20, Try.ntmps20
    go_wp2
    go_ret
    exact ⟨_, rfl, .inr ⟨by omega, by omega, by omega⟩, (Below.refl _ _).alloc (Nat.le_refl _) _⟩

set_option maxHeartbeats 1600000 in
theorem szCells_all (v : Value) (xs : List Cel) (L : Int) (w : World) (hn0 : xs.length ≤ 9223372036854775807) (hx : ClsOk xs) (hL0 : 0 ≤ L) (hL1 : L ≤ 1048576) (hT : ClsAt w v xs) :
    Calls Try.prog 6 #[v, .int .i64 L] w fun e w' => ∃ r : Int, e = .returned (.int .i64 r) ∧ ((r = -1) ∨ (0 ≤ r ∧ r ≤ 1048576 ∧ xs.length ≤ 1048576 ∧ ∀ (j : Nat) (x : Cel), xs[j]? = some x → x.name.size ≤ 1048576)) ∧ Below w.heap.size w w' := by
  obtain ⟨a, c, rfl, h⟩ := hT
  obtain ⟨n, hn⟩ : ∃ n, n = xs.length := ⟨_, rfl⟩
  rw [← hn] at h hn0 ⊢
  have HN := hidOf hn
  clear hn
  by_cases hbig : L < n
  · clear h
    go_enter Try.func6, Try.ntmps6
    go_wp2
    go_ret
    exact ⟨-1, rfl, .inl rfl, Below.refl _ _⟩
  · go_enter Try.func6, Try.ntmps6
    go_wp2
    go_loopw [1, 5] (fun r i wr => ∃ (k : Nat) (z : Int), k ≤ n ∧ r = .int .i64 z ∧ i = .int .i64 k ∧ 0 ≤ z ∧ z ≤ L ∧ Below w.heap.size w wr ∧ Hid (∀ (j : Nat) (x : Cel), j < k → xs[j]? = some x → x.name.size ≤ 1048576)) (fun _ i _ => n - (intOf i).toNat)
    case atStart => exact ⟨0, L - n, Nat.zero_le _, by go_num, rfl, by omega, by omega, Below.refl _ _, hidOf fun j x h => by omega⟩
    case round =>
      obtain ⟨k, z, hk, rfl, rfl, hz0, hz1, hb, HA⟩ := hrel
      by_cases hlt : k < n
      · obtain ⟨x, ex⟩ : ∃ x, xs[k]? = some x := ⟨_, List.getElem?_eq_getElem (by rw [← HN.out]; exact hlt)⟩
        obtain ⟨b1, o1, rfl, hb1, hc1⟩ := h (by omega)
        obtain ⟨p0, p1⟩ := cells2c (w := wr) (fun j hj => by rw [hb.cell hb1]; exact hc1 k x ex j hj)
        have hxx := hx x (List.mem_of_getElem? ex)
        have EX := hidOf ex
        clear ex hc1 h
        have hA : (0 : Int) ≤ (k : Int) := by omega
        have hB : (k : Int) < (n : Int) := by omega
        go_wp2_with fail
        refine (szCell_any x z _ hxx hz0 (by omega)).mono ?_
        rintro e w1 ⟨r, rfl, hr, hbb⟩
        have hB1 := hb.trans (hbb.mono hb.size)
        rcases hr with rfl | ⟨hr0, hr1, hr2⟩
        · go_wp2
          go_ret
          exact ⟨-1, rfl, .inl rfl, hB1⟩
        · go_wp2
          go_roundw
          case rel => exact ⟨k + 1, r, by omega, rfl, by go_num, hr0, by omega, hB1, hidOf fun j y h1 h2 => by
            by_cases e : j = k
            · subst e
              have e1 := EX.out
              rw [h2] at e1
              cases e1
              exact hr2
            · exact HA.out j y (by omega) h2⟩
          case measure => simp [intOf]; omega
      · go_wp2
        go_ret
        exact ⟨z, rfl, .inr ⟨hz0, by omega, by omega, fun j x h1 => HA.out j x (by have := (List.getElem?_eq_some_iff.1 h1).1; rw [← HN.out] at this; omega) h1⟩, hb⟩

theorem szCells_any (v : Value) (xs : List Cel) (L : Int) (w : World) (hn0 : xs.length ≤ 9223372036854775807) (hx : ClsOk xs) (hL0 : 0 ≤ L) (hL1 : L ≤ 1048576) (hT : ClsAt w v xs) :
    Calls Try.prog 6 #[v, .int .i64 L] w fun e w' => ∃ r : Int, e = .returned (.int .i64 r) ∧ ((r = -1) ∨ (0 ≤ r ∧ r ≤ 1048576 ∧ xs.length ≤ 1048576)) ∧ Below w.heap.size w w' :=
  (szCells_all v xs L w hn0 hx hL0 hL1 hT).mono fun e w' h => by
    obtain ⟨r, h1, h2, h3⟩ := h
    exact ⟨r, h1, h2.imp id (fun h => ⟨h.1, h.2.1, h.2.2.1⟩), h3⟩

set_option maxHeartbeats 1600000 in
theorem toCell_any (x : Cel) (w : World) :
    Calls Try.prog 21 #[.agg #[.string x.name, .int .i64 x.num]] w fun e w' => e = .returned (.agg #[.string x.name, .int .i64 x.num]) ∧ Below w.heap.size w w' := by
  go_enter Try.func21, Try.ntmps21
  go_wp2
  refine bodyPost_ret (results_cell_row rfl _ _ (w.heap.size + 1) 44 #[.string x.name, .int .i64 x.num] (0, 0) _ rfl ?_ Try.underlying44 rfl infoCl.1) rfl ?_
  · rw [heap_alloc_old _ _ (by simp)]
    exact heap_alloc2_new w _ _
  · exact ⟨rfl, (((Below.refl _ _).alloc (Nat.le_refl _) _).alloc (by simp) _).alloc (by simp; omega) _⟩

set_option maxHeartbeats 4000000 in
theorem toCells_any (v : Value) (xs : List Cel) (w : World) (hn0 : xs.length ≤ 1048576) (hT : ClsAt w v xs) :
    Calls Try.prog 8 #[v] w fun e w' => ClsAns xs 44 w e w' := by
  obtain ⟨a, c, rfl, h⟩ := hT
  obtain ⟨n, hn⟩ : ∃ n, n = xs.length := ⟨_, rfl⟩
  rw [← hn] at h hn0 ⊢
  have HN := hidOf hn
  clear hn
  obtain ⟨i0, hi, hz0, hz1, hz2⟩ := info_parts infoCl.2
  go_enter Try.func8, Try.ntmps8
  go_wp2_with (at_make; refine wpList_make_full _ rfl _ _ 26 rfl w.heap.size 44 i0 _ 2 Try.underlying26 hi hz0 hz1 .i64 .i64 _ _ n rfl rfl rfl rfl (by rw [hz2]; omega) (by unfold maxLen; omega) (Nat.le_refl _) ?_; intro w1 hown hgrow)
  have hb1 : Below w.heap.size w w1 := (Below.refl _ w).grown hgrow (Nat.le_refl _) (fun k e => by cases e)
  obtain ⟨zs, hzs⟩ : ∃ zs, zs = (madeCells (Value.agg #[Value.string ByteArray.empty, Value.int IntKind.i64 0]).cells (n * 2)).toList := ⟨_, rfl⟩
  rw [← hzs] at hown
  clear hzs hgrow
  go_loopw [4] (fun i wr => ∃ (k : Nat) (zs : List Value), k ≤ n ∧ i = .int .i64 k ∧ wr.ownsRow w.heap.size 44 2 (.slice (some ⟨w.heap.size, 0, none⟩) n n) n zs ∧ Hid (zs.take (k * 2) = clVals (xs.take k)) ∧ Below w.heap.size w wr) (fun i _ => n - (intOf i).toNat)
  case atStart => exact ⟨0, zs, Nat.zero_le _, rfl, hown, rfl, hb1⟩
  case round =>
    obtain ⟨k, zs, hk, rfl, ho, HZ, hb⟩ := hrel
    by_cases hlt : k < n
    · obtain ⟨x, ex⟩ : ∃ x, xs[k]? = some x := ⟨_, List.getElem?_eq_getElem (by rw [← HN.out]; exact hlt)⟩
      obtain ⟨b1, o1, rfl, hb1, hc1⟩ := h (by omega)
      obtain ⟨p0, p1⟩ := cells2c (w := wr) (fun j hj => by rw [hb.cell hb1]; exact hc1 k x ex j hj)
      have EX := hidOf ex
      clear ex hc1 h
      have hA : (0 : Int) ≤ (k : Int) := by omega
      have hB : (k : Int) < (n : Int) := by omega
      go_wp2_with fail
      refine (toCell_any x _).mono ?_
      rintro e w2 ⟨rfl, hb2⟩
      have ho2 := owns_below ho hb2
      have hlz : zs.length = n * 2 := ho2.1
      have s0 := ho2.stored (k * 2) (.string x.name)
      have s1 := s0.1.stored (k * 2 + 1) (.int .i64 x.num)
      have HS := hidOf (And.intro s1.1 (grownBy_trans s0.2 s1.2))
      obtain ⟨u0, d0⟩ : ∃ u, w2.cell? ⟨w.heap.size, k * 2, none⟩ = some u := ⟨_, (ho2.cellAt (k * 2) (by omega)).trans (List.getElem?_eq_getElem (by omega))⟩
      obtain ⟨u1, d1⟩ : ∃ u, w2.cell? ⟨w.heap.size, k * 2 + 1, none⟩ = some u := ⟨_, (ho2.cellAt (k * 2 + 1) (by omega)).trans (List.getElem?_eq_getElem (by omega))⟩
      have f0 := ho2.frozenAt (k * 2)
      have f1 := ho2.frozenAt (k * 2 + 1)
      have HLZ := hidOf hlz
      clear s0 s1 hlz ho ho2 p0 p1
      go_wp2
      go_roundw
      case rel => exact ⟨k + 1, set2c zs k x, by omega, by go_num, HS.out.1, hidOf (set2c_take (by have := HLZ.out; omega) EX.out HZ.out), (hb.trans (hb2.mono hb.size)).grown HS.out.2 (Nat.le_trans hb.size hb2.size) (fun q hq => by cases hq; exact Nat.le_refl _)⟩
      case measure => simp [intOf]; omega
    · go_wp2
      go_ret
      refine ⟨hb, _, rfl, ?_⟩
      have hz : zs = clVals xs := by
        have h1 := HZ.out
        have h2 : zs.length = n * 2 := ho.1
        have h3 := HN.out
        rw [List.take_of_length_le (by omega), List.take_of_length_le (by omega)] at h1
        exact h1
      rw [← HN.out, ← hz]
      exact ho
end Go.Proofs.Ytdlbnllkfnfgoaa
