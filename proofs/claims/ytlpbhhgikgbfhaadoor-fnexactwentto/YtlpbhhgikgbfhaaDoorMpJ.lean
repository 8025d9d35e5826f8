/- maps.Collect and impl.placesBehind: those places are left that are later. -/
import Derived.Maps.RangeWalk
import Derived.Maps.RangeRun
import Derived.BigQuiet
import Derived.Deep.QuietTactic
import Derived.Test.YtlpbhhgikgbfhaaDoorMpI
namespace Go.Proofs.YtlpbhhgikgbfhaaDoor
open Go.RowKit Go.Maps

set_option maxHeartbeats 2000000 in
theorem collect_any (Bs : Nat) (a : Option Addr) (c : Nat) (xs : List Int) (hxs : xs.length ≤ 1048576) (hwf : ∀ x ∈ xs, (Lit.int .i64 x).wf = true) (w : World) (hBs0 : Bs < w.heap.size)
    (hc : w.cell? ⟨Bs, 0, none⟩ = some (.slice a xs.length c)) (hI : KidsIn w.heap.size w a xs) :
    Calls Tryd.prog 26 #[.func (.func 44) #[] #[.pointer (some ⟨Bs, 0, none⟩)]] w fun e w' => e = .returned (.map (some w.heap.size)) ∧ (∃ ys : List IP, ys.map (·.1) = numd xs xs.length ∧ w'.ownsMap Tryd.prog 3 (plainElem (H := Unit) Tryd.prog 3) w.heap.size xs.length (insD ys)) ∧ Below w.heap.size w w' := by
  have hmm := @run_makeMap Tryd.prog
  have hB0 : Below w.heap.size w (w.alloc (.map #[] 0)) := (Below.refl _ w).alloc (Nat.le_refl _) _
  have q := insert_any w.heap.size Bs a c xs hxs hwf (w.alloc (.map #[] 0)) (by simp) hBs0 ((hB0.cell (p := ⟨Bs, 0, none⟩) hBs0).trans hc) (hI.below hB0) (World.ownsMap_made w Tryd.prog 3 (plainElem (H := Unit) Tryd.prog 3))
  go_enter Tryd.func26, Tryd.ntmps26
  go_wp2_with (go_at_call 43; refine q.mono ?_; rintro e w1 ⟨⟨v, rfl⟩, hy, hb1⟩)
  go_ret
  exact ⟨rfl, hy, hB0.trans hb1⟩

/-- While it is gone through: what is there still, and what is to come. -/
def PbInv (xs : List Int) (at' : Int) (D : Dt) (left : Lit → Bool) : Prop :=
  (∀ k, has D k = true ↔ ∃ i : Nat, i < xs.length ∧ k = .int .i64 (i : Int) ∧ (left k = true ∨ at' < xs[i]?.getD 0)) ∧ (∀ k, left k = true → has D k = true) ∧
  ∀ i : Nat, i < xs.length → has D (.int .i64 (i : Int)) = true → ∀ zd, D.atKey (.int .i64 (i : Int)) zd = .lit (.int .i64 (xs[i]?.getD 0))
theorem pb_start {xs : List Int} {at' : Int} {ys : List IP} (h : ys.map (·.1) = numd xs xs.length) : PbInv xs at' (insD ys) (has (insD ys)) := by
  obtain ⟨_, h2, h3⟩ := insD_reads (ys := ys) (by rw [h]; exact numd_apart xs _)
  rw [h] at h2 h3
  refine ⟨fun k => ?_, fun k hk => hk, fun i hi _ zd => ?_⟩
  · constructor
    · intro hk
      obtain ⟨x, hx, rfl⟩ := (h2 k).1 hk
      obtain ⟨i, hi, rfl⟩ := List.mem_map.1 hx
      exact ⟨i, List.mem_range.1 hi, rfl, .inl hk⟩
    · rintro ⟨i, hi, rfl, _⟩
      exact (h2 _).2 ⟨numF xs i, List.mem_map_of_mem (List.mem_range.2 hi), rfl⟩
  · exact h3 (numF xs i) (List.mem_map_of_mem (List.mem_range.2 hi)) zd
theorem pb_at {xs : List Int} {at' : Int} {D : Dt} {left : Lit → Bool} (h : PbInv xs at' D left) {x c : Int} (hl : left (.int .i64 x) = true) (hat : ∀ zd, D.atKey (.int .i64 x) zd = .lit (.int .i64 c)) : ∃ i : Nat, i < xs.length ∧ x = (i : Int) ∧ c = xs[i]?.getD 0 := by
  have hh := h.2.1 _ hl
  obtain ⟨i, hi, e, _⟩ := (h.1 _).1 hh
  injection e with _ e
  subst e
  refine ⟨i, hi, rfl, ?_⟩
  have h1 := hat .nil
  rw [h.2.2 i hi hh .nil] at h1
  injection h1 with h1
  injection h1 with _ h1
  exact h1.symm
theorem sameKey_int (x y : Int) : (Lit.int .i64 x).sameKey (.int .i64 y) = decide (x = y) := by
  by_cases h : x = y
  · subst h; rw [WideAt.sameKey_self (a := .int .i64 x) trivial]; simp
  · rw [sameKey_ne (by intro e; injection e with _ e; exact h e)]; simp [h]
theorem pb_del {xs : List Int} {at' : Int} {D : Dt} {left : Lit → Bool} (h : PbInv xs at' D left) {x c : Int} (hl : left (.int .i64 x) = true) (hat : ∀ zd, D.atKey (.int .i64 x) zd = .lit (.int .i64 c)) (hc : c ≤ at') : PbInv xs at' (D.del (.int .i64 x)) (fun z => left z && !z.sameKey (.int .i64 x)) := by
  obtain ⟨i, hi, rfl, rfl⟩ := pb_at h hl hat
  refine ⟨fun k => ?_, fun k hk => ?_, fun j hj hh zd => ?_⟩
  · by_cases e : k = .int .i64 (i : Int)
    · subst e
      rw [has_del_same]
      refine ⟨fun h0 => (Bool.false_ne_true h0).elim, ?_⟩
      rintro ⟨j, hj, ej, ho⟩
      injection ej with _ ej
      obtain rfl : i = j := by omega
      rcases ho with ho | ho
      · dsimp only at ho
        rw [sameKey_int] at ho
        simp at ho
      · omega
    · rw [has_del_other e, h.1 k]
      constructor
      · rintro ⟨j, hj, rfl, ho⟩
        refine ⟨j, hj, rfl, ho.imp (fun q => ?_) id⟩
        show (left _ && !_) = true
        rw [q, sameKey_int]
        simp
        intro e2
        exact e (by rw [e2])
      · rintro ⟨j, hj, rfl, ho⟩
        refine ⟨j, hj, rfl, ho.imp (fun q => ?_) id⟩
        exact (Bool.and_eq_true _ _ ▸ q).1
  · have hk' : left k = true ∧ (!k.sameKey (.int .i64 (i : Int))) = true := by simpa using hk
    have e : k ≠ .int .i64 (i : Int) := by
      intro e
      subst e
      have := hk'.2
      rw [sameKey_int] at this
      simp at this
    rw [has_del_other e]
    exact h.2.1 k hk'.1
  · have e : (Lit.int .i64 (j : Int)) ≠ .int .i64 (i : Int) := by
      intro e
      rw [e, has_del_same] at hh
      cases hh
    rw [has_del_other e] at hh
    rw [atKey_del_other e]
    exact h.2.2 j hj hh zd
theorem pb_stay {xs : List Int} {at' : Int} {D : Dt} {left : Lit → Bool} (h : PbInv xs at' D left) {x c : Int} (hl : left (.int .i64 x) = true) (hat : ∀ zd, D.atKey (.int .i64 x) zd = .lit (.int .i64 c)) (hc : at' < c) : PbInv xs at' D (fun z => left z && !z.sameKey (.int .i64 x)) := by
  obtain ⟨i, hi, rfl, rfl⟩ := pb_at h hl hat
  refine ⟨fun k => ?_, fun k hk => h.2.1 k (by simp at hk; exact hk.1), h.2.2⟩
  rw [h.1 k]
  constructor
  · rintro ⟨j, hj, rfl, ho⟩
    refine ⟨j, hj, rfl, ?_⟩
    by_cases e : j = i
    · subst e
      exact .inr hc
    · refine ho.imp (fun q => ?_) id
      show (left _ && !_) = true
      rw [q, sameKey_int]
      simp
      omega
  · rintro ⟨j, hj, rfl, ho⟩
    refine ⟨j, hj, rfl, ho.imp (fun q => ?_) id⟩
    exact (Bool.and_eq_true _ _ ▸ q).1
theorem pb_end {xs : List Int} {at' : Int} {D : Dt} {left : Lit → Bool} (hp : xs.Pairwise (· < ·)) (h : PbInv xs at' D left) (hl : ∀ k, left k = false) (he : ∃ es, D = .map es ∧ es.Pairwise (fun p q => p.1 ≠ q.1) ∧ ∀ p ∈ es, WideAt.IsKeyLit p.1) : size D = xs.length - passed xs at' := by
  refine size_of_has he (passed_le xs at') fun k => ?_
  rw [h.1 k]
  constructor
  · rintro ⟨i, hi, rfl, ho⟩
    rw [hl] at ho
    refine ⟨i, ?_, hi, rfl⟩
    have := count_up xs at' hp i hi
    rw [← passed] at this
    rcases ho with ho | ho
    · cases ho
    · omega
  · rintro ⟨i, h1, h2, rfl⟩
    refine ⟨i, h2, rfl, .inr ?_⟩
    have := count_up xs at' hp i h2
    rw [← passed] at this
    omega

set_option maxHeartbeats 4000000 in
set_option maxRecDepth 20000 in
theorem iBehind_any (a : Option Addr) (c : Nat) (xs : List Int) (at' : Int) (hxs : xs.length ≤ 1048576) (hwf : ∀ x ∈ xs, (Lit.int .i64 x).wf = true) (hp : xs.Pairwise (· < ·)) (w : World) (hI : KidsAt w a xs) :
    Calls Tryd.prog 16 #[.slice a xs.length c, .int .i64 at'] w fun e w' => ∃ (b m : Nat) (D : Dt), e = .returned (.map (some b)) ∧ w'.ownsMap Tryd.prog 3 (plainElem (H := Unit) Tryd.prog 3) b m D ∧ size D = xs.length - passed xs at' ∧ Below w.heap.size w w' := by
  have hK : KidsIn w.heap.size w a xs := hI
  have hB0 : Below w.heap.size w (w.alloc (.cells #[.slice a xs.length c] 22)) := (Below.refl _ w).alloc (Nat.le_refl _) _
  have q2 := collect_any w.heap.size a c xs hxs hwf (w.alloc (.cells #[.slice a xs.length c] 22)) (by simp) (Boxed.new w 22 (.slice a xs.length c)).cell
    (fun hn => by obtain ⟨b, off, e1, e2, e3⟩ := (hK.below hB0) hn; exact ⟨b, off, e1, by simp; omega, e3⟩)
  rw [size_alloc1] at q2
  have HP := hidOf hp
  have HW := hidOf hwf
  clear hI hK hp hwf
  go_enter Tryd.func16, Tryd.ntmps16
  go_wp2_with fail
  refine (all_any a xs.length c w).mono ?_
  rintro e w1 ⟨rfl, rfl⟩
  go_wp2_with fail
  refine q2.mono ?_
  rintro e w2 ⟨rfl, ⟨ys, hys, hown⟩, hb2⟩
  have B2 := hB0.trans (hb2.mono (by omega))
  have HY := hidOf hys
  clear hys q2
  go_wp2_with (first
    | (at_range; refine wpList_range_own _ rfl _ 35 rfl 3 3 (Maps.int_keyed Tryd.underlying3) Tryd.underlying35 _ (w.heap.size + 1) xs.length _ rfl hown ?_; intro w0 hrg0 hg0 hs0)
    | go_in)
  go_frame
  go_loopw [6] (fun _ wr => ∃ (D : Dt) (left : Lit → Bool) (cnt : Nat), wr.ranges Tryd.prog 3 (plainElem (H := Unit) Tryd.prog 3) (w.heap.size + 1) w2.heap.size xs.length D left cnt ∧ Hid (PbInv xs at' D left) ∧ Below w.heap.size w wr)
    (fun _ wr => wr.rangeLeft (w.heap.size + 1) w2.heap.size)
  case atStart => exact ⟨_, _, _, hrg0, hidOf (pb_start HY.out), B2.grown hg0 (by have := B2.size; omega) (fun k e => by cases e)⟩
  case round =>
    obtain ⟨D, left, cnt, hrg, HI, hb⟩ := hrel
    have h2 := B2.size
    go_wp2_with (first
      | (at_next; refine wpList_next_ranges_ii _ rfl _ rfl 3 3 .i64 .i64 (Maps.int_keyed Tryd.underlying3) Tryd.underlying3 Tryd.underlying3 (w.heap.size + 1) w2.heap.size xs.length _ _ _ rfl hrg ?_ ?_)
      | go_in)
    · intro _ hl0
      have HL := hidOf hl0
      clear hl0
      go_wp2
      go_ret
      exact ⟨_, _, D, rfl, hrg.owns, pb_end HP.out HI.out HL.out (hrg.owns.entries (Maps.int_keyed Tryd.underlying3)), hb⟩
    · intro x c' w3 cnt1 hwx hwc hlx hat hrg1 hlt hg1 hs1 hen
      have hb3 : Below w.heap.size w w3 := hb.grown hg1 (by have := hb.size; omega) (fun k e => by cases e; omega)
      have HL := hidOf hlx
      have HA := hidOf hat
      clear hlx hat
      by_cases hle : c' ≤ at'
      · go_wp2_with (first
          | (at_delete; refine wpList_delete_ranges _ rfl _ _ 35 3 rfl 3 (Maps.int_keyed Tryd.underlying3) Tryd.underlying35 _ (w.heap.size + 1) w2.heap.size xs.length _ _ _ rfl hrg1 _ _ rfl (Maps.keyOf_int_mk Tryd.underlying3 hwx) ?_; intro w4 cnt2 hrg2 hle2 hturn; go_frame)
          | go_in)
        rw [strike_twice] at hrg2
        go_roundw
        case rel => exact ⟨_, _, cnt2, hrg2, hidOf (pb_del HI.out HL.out HA.out hle), hb3.grown hturn.grown (by have := hb3.size; omega) (fun k e => by cases e; omega)⟩
        case measure => rw [hrg2.left_eq, hrg.left_eq]; omega
      · have hlt' : at' < c' := by omega
        go_wp2_with (first
          | (at_delete; refine wpList_delete_ranges _ rfl _ _ 35 3 rfl 3 (Maps.int_keyed Tryd.underlying3) Tryd.underlying35 _ (w.heap.size + 1) w2.heap.size xs.length _ _ _ rfl hrg1 _ _ rfl (Maps.keyOf_int_mk Tryd.underlying3 hwx) ?_; intro w4 cnt2 hrg2 hle2 hturn; go_frame)
          | go_in)
        go_roundw
        case rel => exact ⟨_, _, cnt1, hrg1, hidOf (pb_stay HI.out HL.out HA.out hlt'), hb3⟩
        case measure => rw [hrg1.left_eq, hrg.left_eq]; omega
end Go.Proofs.YtlpbhhgikgbfhaaDoor
