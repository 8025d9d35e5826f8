/- What impl.Flat answers. -/
import Derived.Test.YtmmefiaommfpkaaDoorBuildK
import Derived.Test.YtmmefiaommfpkaaDoorFlatLib
namespace Go.Proofs.YtmmefiaommfpkaaDoor
open Go.RowKit

theorem between_any (x : Sg) (w : World) :
    Calls Tryd.prog 27 #[.agg #[.int .i64 x.kind, .string x.text, .int .i64 x.place, .bool x.blank]] w fun e w' => e = .returned (.string ⟨#[sepB x.kind]⟩) ∧ Below w.heap.size w w' := by
  by_cases h5 : x.kind = 5
  · have h5' : (x.kind == 5) = true := by simp [h5]
    have hs : sepB x.kind = 10 := by unfold sepB; rw [if_pos h5]
    rw [hs]
    clear h5 hs
    go_enter Tryd.func27, Tryd.ntmps27
    go_wp2
    go_ret
    exact ⟨rfl, (Below.refl _ _).alloc (Nat.le_refl _) _⟩
  · have h5' : (x.kind == 5) = false := by simpa using h5
    have hs : sepB x.kind = 32 := by unfold sepB; rw [if_neg h5]
    rw [hs]
    clear h5 hs
    go_enter Tryd.func27, Tryd.ntmps27
    go_wp2
    go_ret
    exact ⟨rfl, (Below.refl _ _).alloc (Nat.le_refl _) _⟩
/-- Signs so far, each with what stands behind it but the last. -/
theorem flat_snoc : ∀ (xs : List Sg) (x y : Sg), flatL (xs ++ [x] ++ [y]) = flatL (xs ++ [x]) ++ sepB x.kind :: y.text.data.toList
  | [], x, y => by simp [flatL]
  | [a], x, y => by simp [flatL]
  | a :: b :: xs, x, y => by
    have ih := flat_snoc (b :: xs) x y
    simp only [List.cons_append] at ih
    show a.text.data.toList ++ sepB a.kind :: flatL (b :: (xs ++ [x] ++ [y])) = (a.text.data.toList ++ sepB a.kind :: flatL (b :: (xs ++ [x]))) ++ _
    rw [ih]
    simp
theorem flat_next0 {xs : List Sg} {y : Sg} (h : xs[0]? = some y) : flatL (xs.take (0 + 1)) = flatL (xs.take 0) ++ y.text.data.toList := by
  rw [List.take_add_one, h]
  simp [flatL]
theorem flat_next {xs : List Sg} {k : Nat} {x y : Sg} (hx : xs[k]? = some x) (hy : xs[k + 1]? = some y) : flatL (xs.take (k + 1 + 1)) = flatL (xs.take (k + 1)) ++ sepB x.kind :: y.text.data.toList := by
  rw [List.take_add_one, hy, List.take_add_one, hx]
  exact flat_snoc _ x y
theorem flat_len : ∀ (xs : List Sg) (n : Nat), (∀ x ∈ xs, x.text.size ≤ n) → (flatL xs).length ≤ xs.length * (n + 1)
  | [], n, _ => by simp [flatL]
  | [x], n, h => by
    have := h x (by simp)
    simp [flatL]
    omega
  | x :: y :: xs, n, h => by
    have h1 := h x (by simp)
    have ih := flat_len (y :: xs) n (fun z hz => h z (by simp only [List.mem_cons] at hz ⊢; exact .inr hz))
    show (x.text.data.toList ++ sepB x.kind :: flatL (y :: xs)).length ≤ _
    rw [List.length_append, List.length_cons, List.length_cons, Nat.add_mul]
    have : x.text.data.toList.length = x.text.size := by simp
    omega

set_option maxHeartbeats 4000000 in
set_option maxRecDepth 100000 in
theorem iFlat_any (v : Value) (xs : List Sg) (w : World) (hn0 : xs.length ≤ 4000) (hx0 : ∀ x ∈ xs, x.text.size ≤ 4000) (hT : SgsAt w v xs) :
    Calls Tryd.prog 7 #[v] w fun e w' => e = .returned (.string ⟨(flatL xs).toArray⟩) ∧ Below w.heap.size w w' := by
  obtain ⟨a, c, rfl, h⟩ := hT
  obtain ⟨n, hn⟩ : ∃ n, n = xs.length := ⟨_, rfl⟩
  rw [← hn] at h hn0 ⊢
  have HN := hidOf hn
  have HX := hidOf hx0
  clear hn hx0
  have hfr := Lib.fresh_isBuilder 42 5 w
  go_enter Tryd.func7, Tryd.ntmps7
  go_wp2
  go_loopw [8] (fun i wr => ∃ (k : Nat), k ≤ n ∧ i = .int .i64 k ∧ Lib.IsBuilder 42 5 w.heap.size w.heap.size (Lib.byteCells (flatL (xs.take k))) wr ∧ Below w.heap.size w wr) (fun i _ => n - (intOf i).toNat)
  case atStart => exact ⟨0, Nat.zero_le _, rfl, hfr, (Below.refl _ w).alloc (Nat.le_refl _) _⟩
  case round =>
    obtain ⟨k, hk, rfl, hbd, hb⟩ := hrel
    have hsz := hb.size
    have hbl : w.heap.size < wr.heap.size := by rcases hbd with h | h <;> exact h.lt
    have hlen := flat_len (xs.take k) 4000 (fun x hx => HX.out x (List.mem_of_mem_take hx))
    have hlen2 : (Lib.byteCells (flatL (xs.take k))).length ≤ 16004000 := by
      rw [Lib.byteCells_length]
      refine Nat.le_trans hlen ?_
      have : (xs.take k).length ≤ 4000 := by rw [List.length_take]; omega
      exact Nat.le_trans (Nat.mul_le_mul_right _ this) (by omega)
    clear hlen
    by_cases hlt : k < n
    · obtain ⟨y, ey⟩ : ∃ y, xs[k]? = some y := ⟨_, List.getElem?_eq_getElem (by rw [← HN.out]; exact hlt)⟩
      have hys := HX.out y (List.mem_of_getElem? ey)
      obtain ⟨b1, o1, rfl, hb1, hc1⟩ := h (by omega)
      obtain ⟨p0, p1, p2, p3⟩ := cells4 (w := wr) (fun j hj => by rw [hb.cell hb1]; exact hc1 k y ey j hj)
      have hA : (0 : Int) ≤ (k : Int) := by omega
      have hB : (k : Int) < (n : Int) := by omega
      cases k with
      | zero =>
        have HF := hidOf (flat_next0 ey)
        simp only [Nat.zero_mul, Nat.add_zero] at p0 p1 p2 p3
        clear ey hc1 h
        have hbA := fun ob : Obj => builder_kept hbd ((Below.refl _ wr).alloc (Nat.le_refl _) ob)
        go_wp2_with fail
        refine (write_kept w.heap.size w.heap.size _ y.text _ (hbA _) (by omega) (by simp; omega)).mono ?_
        rintro e w1 ⟨rfl, hbd1, hb1', _⟩
        go_wp2
        go_roundw
        case rel =>
          refine ⟨1, by omega, rfl, ?_, (hb.alloc hsz _).trans hb1'⟩
          rw [HF.out, Lib.byteCells_append, ← Lib.strCells_eq]
          exact hbd1
        case measure => simp [intOf]; omega
      | succ k =>
        obtain ⟨x, ex⟩ : ∃ x, xs[k]? = some x := ⟨_, List.getElem?_eq_getElem (by rw [← HN.out]; omega)⟩
        have HF := hidOf (flat_next ex ey)
        have hq := fun ob : Obj => cells4 (w := wr.alloc ob) (b := b1) (o := o1 + k * 4) (x := x) (fun j hj => by rw [(hb.alloc hb.size ob).cell hb1]; exact hc1 k x ex j hj)
        have q0 := fun ob => (hq ob).1
        have q1 := fun ob => (hq ob).2.1
        have q2 := fun ob => (hq ob).2.2.1
        have q3 := fun ob => (hq ob).2.2.2
        clear ex ey hc1 h hq
        go_wp2_with fail
        refine (between_any x _).mono ?_
        rintro e w1 ⟨rfl, hbw1⟩
        have hblk : w1.heap[wr.heap.size]? = some (.cells #[.int .i64 y.kind, .string y.text, .int .i64 y.place, .bool y.blank] 30 (0, 0)) := (hbw1.block wr.heap.size (by simp)).trans (heap_alloc_new wr _)
        have hbd1 := builder_kept (builder_kept hbd ((Below.refl _ wr).alloc (Nat.le_refl _) _)) hbw1
        have B1 : Below w.heap.size w w1 := (hb.alloc hsz _).trans (hbw1.mono (by simp; omega))
        have hs1 := B1.size
        have hss : (⟨#[sepB x.kind]⟩ : ByteArray).size = 1 := rfl
        clear hbw1 hbd q0 q1 q2 q3 p0 p1 p2 p3
        go_wp2_with fail
        refine (write_kept w.heap.size w.heap.size _ ⟨#[sepB x.kind]⟩ _ hbd1 (by omega) hs1).mono ?_
        rintro e w2 ⟨rfl, hbd2, hb2, hk2⟩
        have hblk2 := hk2 _ _ hblk (by intro e; have := Option.some.inj e; omega) (fun c fz e => by cases e)
        have hcy : w2.cell? ⟨wr.heap.size, 1, none⟩ = some (.string y.text) := by rw [Lib.cell_of_heap hblk2]; rfl
        have hs2 := hb2.size
        clear hblk hblk2 hk2 hbd1
        go_wp2_with fail
        refine (write_kept w.heap.size w.heap.size _ y.text _ hbd2 (by simp only [List.length_append, Lib.strCells_length]; omega) (by omega)).mono ?_
        rintro e w3 ⟨rfl, hbd3, hb3, _⟩
        go_wp2
        go_roundw
        case rel =>
          refine ⟨k + 1 + 1, by omega, by go_num, ?_, (B1.trans hb2).trans hb3⟩
          have e1 : Lib.byteCells (flatL (xs.take (k + 1 + 1))) = Lib.byteCells (flatL (xs.take (k + 1))) ++ Lib.strCells ⟨#[sepB x.kind]⟩ ++ Lib.strCells y.text := by
            rw [HF.out, show sepB x.kind :: y.text.data.toList = [sepB x.kind] ++ y.text.data.toList from rfl, Lib.byteCells_append, Lib.byteCells_append, Lib.strCells_eq, Lib.strCells_eq, List.append_assoc]
          rw [e1]
          exact hbd3
        case measure => simp [intOf]; omega
    · have hke : k = n := by omega
      have HK := hidOf hke
      clear hke h
      go_wp2_with fail
      refine (Tryd.Builder_String_any w.heap.size w.heap.size _ wr hbd hsz).mono ?_
      rintro e w1 ⟨rfl, hb1⟩
      go_wp2
      go_ret
      refine ⟨ret_str ?_, hb.trans hb1⟩
      rw [HK.out, HN.out, List.take_of_length_le (Nat.le_refl _)]
end Go.Proofs.YtmmefiaommfpkaaDoor
