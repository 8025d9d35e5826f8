/- What the laws' helpers on a list of signs that came in do: szSignS tells whether it is too great, toSignS copies it. -/
import Derived.Test.YtlpbhhgikgbfhaaProg
import Derived.Test.YtlpbhhgikgbfhaaSgLib
import Derived.BigQuiet
import Derived.Deep.QuietTactic
namespace Go.Proofs.Ytlpbhhgikgbfhaa
open Go.RowKit

theorem infoSg : (Try.prog.info? 32).map (·.size) = some 4 ∧ (Try.prog.info? 32).map (fun i => (i.zero, i.size, i.bytes)) = some (some (.agg #[.int .i64 0, .string ByteArray.empty, .int .i64 0, .bool false]), 4, 40) := ⟨by kernel_rfl, by kernel_rfl⟩
/-- No text is longer than a text may be. -/
def SgsOk (xs : List Sg) : Prop := ∀ x ∈ xs, x.text.size ≤ 9223372036854775807

set_option maxHeartbeats 1600000 in
theorem szSign_any (x : Sg) (L : Int) (w : World) (hx : x.text.size ≤ 9223372036854775807) (h0 : 0 ≤ L) (h1 : L ≤ 1048576) :
    Calls Try.prog 9 #[.agg #[.int .i64 x.kind, .string x.text, .int .i64 x.place, .bool x.blank], .int .i64 L] w fun e w' => ∃ r : Int, e = .returned (.int .i64 r) ∧ ((r = -1) ∨ (0 ≤ r ∧ r ≤ L ∧ x.text.size ≤ 1048576)) ∧ Below w.heap.size w w' := by
  by_cases hn : L < x.text.size
  · go_enter Try.func9, Try.ntmps9
    go_wp2
    go_ret
    exact ⟨-1, rfl, .inl rfl, (Below.refl _ _).alloc (Nat.le_refl _) _⟩
  · go_enter Try.func9, Try.ntmps9
    go_wp2
    go_ret
    exact ⟨_, rfl, .inr ⟨by omega, by omega, by omega⟩, (Below.refl _ _).alloc (Nat.le_refl _) _⟩

set_option maxHeartbeats 1600000 in
theorem szSigns_all (v : Value) (xs : List Sg) (L : Int) (w : World) (hn0 : xs.length ≤ 9223372036854775807) (hx : SgsOk xs) (hL0 : 0 ≤ L) (hL1 : L ≤ 1048576) (hT : SgsAt w v xs) :
    Calls Try.prog 4 #[v, .int .i64 L] w fun e w' => ∃ r : Int, e = .returned (.int .i64 r) ∧ ((r = -1) ∨ (0 ≤ r ∧ r ≤ 1048576 ∧ xs.length ≤ 1048576 ∧ ∀ (j : Nat) (x : Sg), xs[j]? = some x → x.text.size ≤ 1048576)) ∧ Below w.heap.size w w' := by
  obtain ⟨a, c, rfl, h⟩ := hT
  obtain ⟨n, hn⟩ : ∃ n, n = xs.length := ⟨_, rfl⟩
  rw [← hn] at h hn0 ⊢
  have HN := hidOf hn
  clear hn
  by_cases hbig : L < n
  · clear h
    go_enter Try.func4, Try.ntmps4
    go_wp2
    go_ret
    exact ⟨-1, rfl, .inl rfl, Below.refl _ _⟩
  · go_enter Try.func4, Try.ntmps4
    go_wp2
    go_loopw [1, 5] (fun r i wr => ∃ (k : Nat) (z : Int), k ≤ n ∧ r = .int .i64 z ∧ i = .int .i64 k ∧ 0 ≤ z ∧ z ≤ L ∧ Below w.heap.size w wr ∧ Hid (∀ (j : Nat) (x : Sg), j < k → xs[j]? = some x → x.text.size ≤ 1048576)) (fun _ i _ => n - (intOf i).toNat)
    case atStart => exact ⟨0, L - n, Nat.zero_le _, by go_num, rfl, by omega, by omega, Below.refl _ _, hidOf fun j x h => by omega⟩
    case round =>
      obtain ⟨k, z, hk, rfl, rfl, hz0, hz1, hb, HA⟩ := hrel
      by_cases hlt : k < n
      · obtain ⟨x, ex⟩ : ∃ x, xs[k]? = some x := ⟨_, List.getElem?_eq_getElem (by rw [← HN.out]; exact hlt)⟩
        obtain ⟨b1, o1, rfl, hb1, hc1⟩ := h (by omega)
        obtain ⟨p0, p1, p2, p3⟩ := cells4 (w := wr) (fun j hj => by rw [hb.cell hb1]; exact hc1 k x ex j hj)
        have hxx := hx x (List.mem_of_getElem? ex)
        have EX := hidOf ex
        clear ex hc1 h
        have hA : (0 : Int) ≤ (k : Int) := by omega
        have hB : (k : Int) < (n : Int) := by omega
        go_wp2_with fail
        refine (szSign_any x z _ hxx hz0 (by omega)).mono ?_
        rintro e w1 ⟨r, rfl, hr, hbb⟩
        have hB1 := hb.trans (hbb.mono hb.size)
        rcases hr with rfl | ⟨hr0, hr1, hr2⟩
        · go_wp2
          go_ret
          exact ⟨-1, rfl, .inl rfl, hB1⟩
        · go_wp2
          go_roundw
          case rel => exact ⟨k + 1, r, by omega, rfl, by go_num, hr0, by omega, hB1, hidOf fun j y h1 h2 => by
            by_cases e : j = k
            · subst e
              have e1 := EX.out
              rw [h2] at e1
              cases e1
              exact hr2
            · exact HA.out j y (by omega) h2⟩
          case measure => simp [intOf]; omega
      · go_wp2
        go_ret
        exact ⟨z, rfl, .inr ⟨hz0, by omega, by omega, fun j x h1 => HA.out j x (by have := (List.getElem?_eq_some_iff.1 h1).1; rw [← HN.out] at this; omega) h1⟩, hb⟩

theorem szSigns_any (v : Value) (xs : List Sg) (L : Int) (w : World) (hn0 : xs.length ≤ 9223372036854775807) (hx : SgsOk xs) (hL0 : 0 ≤ L) (hL1 : L ≤ 1048576) (hT : SgsAt w v xs) :
    Calls Try.prog 4 #[v, .int .i64 L] w fun e w' => ∃ r : Int, e = .returned (.int .i64 r) ∧ ((r = -1) ∨ (0 ≤ r ∧ r ≤ 1048576 ∧ xs.length ≤ 1048576)) ∧ Below w.heap.size w w' :=
  (szSigns_all v xs L w hn0 hx hL0 hL1 hT).mono fun e w' h => by
    obtain ⟨r, h1, h2, h3⟩ := h
    exact ⟨r, h1, h2.imp id (fun h => ⟨h.1, h.2.1, h.2.2.1⟩), h3⟩

set_option maxHeartbeats 1600000 in
theorem toSign_any (x : Sg) (w : World) :
    Calls Try.prog 10 #[.agg #[.int .i64 x.kind, .string x.text, .int .i64 x.place, .bool x.blank]] w fun e w' => e = .returned (.agg #[.int .i64 x.kind, .string x.text, .int .i64 x.place, .bool x.blank]) ∧ Below w.heap.size w w' := by
  go_enter Try.func10, Try.ntmps10
  go_wp2
  refine bodyPost_ret (results_cell_row rfl _ _ (w.heap.size + 1) 32 #[.int .i64 x.kind, .string x.text, .int .i64 x.place, .bool x.blank] (0, 0) _ rfl ?_ Try.underlying32 rfl infoSg.1) rfl ?_
  · rw [heap_alloc_old _ _ (by simp)]
    exact heap_alloc2_new w _ _
  · exact ⟨rfl, (((Below.refl _ _).alloc (Nat.le_refl _) _).alloc (by simp) _).alloc (by simp; omega) _⟩

set_option maxHeartbeats 4000000 in
theorem toSigns_any (v : Value) (xs : List Sg) (w : World) (hn0 : xs.length ≤ 1048576) (hT : SgsAt w v xs) :
    Calls Try.prog 6 #[v] w fun e w' => SgsAns xs 32 w e w' := by
  obtain ⟨a, c, rfl, h⟩ := hT
  obtain ⟨n, hn⟩ : ∃ n, n = xs.length := ⟨_, rfl⟩
  rw [← hn] at h hn0 ⊢
  have HN := hidOf hn
  clear hn
  obtain ⟨i0, hi, hz0, hz1, hz2⟩ := info_parts infoSg.2
  go_enter Try.func6, Try.ntmps6
  go_wp2_with (at_make; refine wpList_make_full _ rfl _ _ 25 rfl w.heap.size 32 i0 _ 4 Try.underlying25 hi hz0 hz1 .i64 .i64 _ _ n rfl rfl rfl rfl (by rw [hz2]; omega) (by unfold maxLen; omega) (Nat.le_refl _) ?_; intro w1 hown hgrow)
  have hb1 : Below w.heap.size w w1 := (Below.refl _ w).grown hgrow (Nat.le_refl _) (fun k e => by cases e)
  obtain ⟨zs, hzs⟩ : ∃ zs, zs = (madeCells (Value.agg #[Value.int IntKind.i64 0, Value.string ByteArray.empty, Value.int IntKind.i64 0, Value.bool false]).cells (n * 4)).toList := ⟨_, rfl⟩
  rw [← hzs] at hown
  clear hzs hgrow
  go_loopw [4] (fun i wr => ∃ (k : Nat) (zs : List Value), k ≤ n ∧ i = .int .i64 k ∧ wr.ownsRow w.heap.size 32 4 (.slice (some ⟨w.heap.size, 0, none⟩) n n) n zs ∧ Hid (zs.take (k * 4) = sgVals (xs.take k)) ∧ Below w.heap.size w wr) (fun i _ => n - (intOf i).toNat)
  case atStart => exact ⟨0, zs, Nat.zero_le _, rfl, hown, rfl, hb1⟩
  case round =>
    obtain ⟨k, zs, hk, rfl, ho, HZ, hb⟩ := hrel
    by_cases hlt : k < n
    · obtain ⟨x, ex⟩ : ∃ x, xs[k]? = some x := ⟨_, List.getElem?_eq_getElem (by rw [← HN.out]; exact hlt)⟩
      obtain ⟨b1, o1, rfl, hb1, hc1⟩ := h (by omega)
      obtain ⟨p0, p1, p2, p3⟩ := cells4 (w := wr) (fun j hj => by rw [hb.cell hb1]; exact hc1 k x ex j hj)
      have EX := hidOf ex
      clear ex hc1 h
      have hA : (0 : Int) ≤ (k : Int) := by omega
      have hB : (k : Int) < (n : Int) := by omega
      go_wp2_with fail
      refine (toSign_any x _).mono ?_
      rintro e w2 ⟨rfl, hb2⟩
      have ho2 := owns_below ho hb2
      have hlz : zs.length = n * 4 := ho2.1
      have s0 := ho2.stored (k * 4) (.int .i64 x.kind)
      have s1 := s0.1.stored (k * 4 + 1) (.string x.text)
      have s2 := s1.1.stored (k * 4 + 2) (.int .i64 x.place)
      have s3 := s2.1.stored (k * 4 + 3) (.bool x.blank)
      have HS := hidOf (And.intro s3.1 (grownBy_trans (grownBy_trans (grownBy_trans s0.2 s1.2) s2.2) s3.2))
      obtain ⟨u0, d0⟩ : ∃ u, w2.cell? ⟨w.heap.size, k * 4, none⟩ = some u := ⟨_, (ho2.cellAt (k * 4) (by omega)).trans (List.getElem?_eq_getElem (by omega))⟩
      obtain ⟨u1, d1⟩ : ∃ u, w2.cell? ⟨w.heap.size, k * 4 + 1, none⟩ = some u := ⟨_, (ho2.cellAt (k * 4 + 1) (by omega)).trans (List.getElem?_eq_getElem (by omega))⟩
      obtain ⟨u2, d2⟩ : ∃ u, w2.cell? ⟨w.heap.size, k * 4 + 2, none⟩ = some u := ⟨_, (ho2.cellAt (k * 4 + 2) (by omega)).trans (List.getElem?_eq_getElem (by omega))⟩
      obtain ⟨u3, d3⟩ : ∃ u, w2.cell? ⟨w.heap.size, k * 4 + 3, none⟩ = some u := ⟨_, (ho2.cellAt (k * 4 + 3) (by omega)).trans (List.getElem?_eq_getElem (by omega))⟩
      have f0 := ho2.frozenAt (k * 4)
      have f1 := ho2.frozenAt (k * 4 + 1)
      have f2 := ho2.frozenAt (k * 4 + 2)
      have f3 := ho2.frozenAt (k * 4 + 3)
      have HLZ := hidOf hlz
      clear s0 s1 s2 s3 hlz ho ho2 p0 p1 p2 p3
      go_wp2
      go_roundw
      case rel => exact ⟨k + 1, set4 zs k x, by omega, by go_num, HS.out.1, hidOf (set4_take (by have := HLZ.out; omega) EX.out HZ.out), (hb.trans (hb2.mono hb.size)).grown HS.out.2 (Nat.le_trans hb.size hb2.size) (fun q hq => by cases hq; exact Nat.le_refl _)⟩
      case measure => simp [intOf]; omega
    · go_wp2
      go_ret
      refine ⟨hb, _, rfl, ?_⟩
      have hz : zs = sgVals xs := by
        have h1 := HZ.out
        have h2 : zs.length = n * 4 := ho.1
        have h3 := HN.out
        rw [List.take_of_length_le (by omega), List.take_of_length_le (by omega)] at h1
        exact h1
      rw [← HN.out, ← hz]
      exact ho
end Go.Proofs.Ytlpbhhgikgbfhaa
