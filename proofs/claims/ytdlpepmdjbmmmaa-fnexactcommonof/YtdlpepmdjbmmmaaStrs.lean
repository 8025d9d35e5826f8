/- What the laws' helpers on lists of texts do: eqStringS tells two lists alike, markStringS writes its marks, heldStringS finds them again. -/
import Derived.Test.YtdlpepmdjbmmmaaMark
import Derived.Test.YtdlpepmdjbmmmaaCutLib
import Derived.BigQuiet
import Derived.Deep.QuietTactic
import Derived.Deep.RegionHeld3
import Derived.Laws.OwnMore
namespace Go.Proofs.Ytdlpepmdjbmmmaa
open Go.RowKit

/-- The marks from k on. -/
def marks (k n : Nat) : List ByteArray := (List.range n).map fun i => mk (k + i)
theorem marks_len (k n : Nat) : (marks k n).length = n := by simp [marks]


set_option maxHeartbeats 800000 in
theorem eqS_same (v1 v2 : Value) (b1 b2 n : Nat) (ss : List ByteArray) (w : World) (hn : n ≤ 4611686018427387904)
    (h1 : w.ownsRow b1 9 1 v1 n (strVals ss)) (h2 : w.ownsRow b2 9 1 v2 n (strVals ss)) :
    Calls Try.prog 28 #[v1, v2] w fun e w' => e = .returned (.bool true) ∧ ∃ q, w' = w.drewN q := by
  have hl : ss.length = n := by have := h1.1; simpa [strVals] using this
  by_cases hz : n = 0
  · obtain ⟨a1, c1, rfl⟩ := owns_slice h1
    obtain ⟨a2, c2, rfl⟩ := owns_slice h2
    subst hz
    clear h1 h2 hl
    go_enter Try.func28, Try.ntmps28
    go_wp2
    go_loop [5] (fun i => i = .int .i64 0) (fun _ => 0)
    case atStart => rfl
    case round =>
      subst hrel
      go_wp2
      go_ret
      exact ⟨rfl, 0, rfl⟩
  · rcases h1.2 with ⟨_, e⟩ | ⟨g1, cap1, cur1, rfl, _⟩
    · omega
    rcases h2.2 with ⟨_, e⟩ | ⟨g2, cap2, cur2, rfl, _⟩
    · omega
    have hc1 : ∀ (j : Nat), j < n → w.cell? ⟨g1, j, none⟩ = some (.string (ss.getD j ByteArray.empty)) := fun j hj => by
      rw [h1.cellAt j (by omega)]
      simp [strVals, List.getD, List.getElem?_eq_getElem (show j < ss.length by omega)]
    have hc2 : ∀ (j : Nat), j < n → w.cell? ⟨g2, j, none⟩ = some (.string (ss.getD j ByteArray.empty)) := fun j hj => by
      rw [h2.cellAt j (by omega)]
      simp [strVals, List.getD, List.getElem?_eq_getElem (show j < ss.length by omega)]
    clear h1 h2 hl
    go_enter Try.func28, Try.ntmps28
    go_wp2
    go_loopw [5] (fun i wr => ∃ (k q : Nat), k ≤ n ∧ i = .int .i64 k ∧ wr = w.drewN q) (fun i _ => n - (intOf i).toNat)
    case atStart => exact ⟨0, 0, Nat.zero_le _, rfl, rfl⟩
    case round =>
      obtain ⟨k, q, hk, rfl, rfl⟩ := hrel
      by_cases hlt : k < n
      · obtain ⟨t, ht⟩ : ∃ t, t = ss.getD k ByteArray.empty := ⟨_, rfl⟩
        have d1 := hc1 k hlt
        have d2 := hc2 k hlt
        rw [← ht] at d1 d2
        clear ht
        have hA : (0 : Int) ≤ (k : Int) := by omega
        have hB : (k : Int) < (n : Int) := by omega
        clear hc1 hc2
        go_wp2
        go_quiet (fail)
        go_wp2
        go_roundw
        case rel => exact ⟨k + 1, q + nq, by omega, by go_num, rfl⟩
        case measure => simp [intOf]; omega
      · go_wp2
        go_ret
        exact ⟨rfl, q, rfl⟩

/-- What markStringS has written behind j rounds. -/
def marked (k : Nat) (xs : List Value) (j : Nat) : List Value := (strVals (marks k j)) ++ xs.drop j
theorem marked_zero (k : Nat) (xs : List Value) : marked k xs 0 = xs := by simp [marked, marks, strVals]
theorem marked_len {k j : Nat} {xs : List Value} (h : j ≤ xs.length) : (marked k xs j).length = xs.length := by
  simp [marked, marks, strVals]
  omega
theorem marked_set {k j : Nat} {xs : List Value} (h : j < xs.length) : (marked k xs j).set j (.string (mk (k + j))) = marked k xs (j + 1) := by
  have hl : (strVals (marks k j)).length = j := by simp [marks, strVals]
  have e : xs.drop j = xs[j] :: xs.drop (j + 1) := List.drop_eq_getElem_cons h
  unfold marked
  rw [List.set_append_right _ _ (by omega), hl, Nat.sub_self, e, List.set_cons_zero]
  have e2 : strVals (marks k (j + 1)) = strVals (marks k j) ++ [.string (mk (k + j))] := by simp [marks, strVals, List.range_succ]
  rw [e2, List.append_assoc]
  rfl
theorem marked_all {k : Nat} {xs : List Value} {n : Nat} (h : xs.length = n) : marked k xs n = strVals (marks k n) := by
  unfold marked
  rw [List.drop_of_length_le (by omega), List.append_nil]

set_option maxHeartbeats 800000 in
theorem markS_any (v : Value) (b n k : Nat) (xs : List Value) (w : World) (hn : n ≤ 2305843009213693952) (hk0 : 0 < k) (hk : k ≤ 2305843009213693952) (hown : w.ownsRow b 9 1 v n xs) :
    Calls Try.prog 30 #[v, .int .i64 k] w fun e w' => e = .returned (.int .i64 ((k : Int) + n)) ∧ w'.ownsRow b 9 1 v n (strVals (marks k n)) ∧ w.grownBy w' v.ownBlock := by
  have hl : xs.length = n := by have := hown.1; simpa using this
  by_cases hz : n = 0
  · obtain ⟨a1, c1, rfl⟩ := owns_slice hown
    subst hz
    have hx : xs = strVals (marks k 0) := by rw [List.length_eq_zero_iff.1 hl]; rfl
    rw [hx] at hown
    have HO := hidOf hown
    clear hown hx hl
    go_enter Try.func30, Try.ntmps30
    go_wp2
    go_loop [1, 5] (fun q i => i = .int .i64 0 ∧ q = .int .i64 k) (fun _ _ => 0)
    case atStart => exact ⟨rfl, rfl⟩
    case round =>
      obtain ⟨rfl, rfl⟩ := hrel
      go_wp2
      go_ret
      exact ⟨ret_int (by omega), HO.out, World.grownBy.refl _ _⟩
  · rcases hown.2 with ⟨_, e⟩ | ⟨g, cap, cur, rfl, _⟩
    · omega
    go_enter Try.func30, Try.ntmps30
    go_wp2
    go_loopw [1, 5] (fun q i wr => ∃ (j : Nat), j ≤ n ∧ i = .int .i64 j ∧ q = .int .i64 ((k : Int) + j) ∧ wr.ownsRow b 9 1 (.slice (some ⟨g, 0, none⟩) n cap) n (marked k xs j) ∧ w.grownBy wr (some g)) (fun _ i _ => n - (intOf i).toNat)
    case atStart => exact ⟨0, Nat.zero_le _, rfl, by go_num, by rw [marked_zero]; exact hown, World.grownBy.refl _ _⟩
    case round =>
      obtain ⟨j, hj, rfl, rfl, ho, hg⟩ := hrel
      by_cases hlt : j < n
      · have hA : (0 : Int) ≤ (j : Int) := by omega
        have hB : (j : Int) < (n : Int) := by omega
        go_wp2_with fail
        rw [show ((k : Int) + (j : Int)) = ((k + j : Nat) : Int) by omega]
        refine (markText_any (k + j) _ (by omega) (by omega)).mono ?_
        rintro e w1 ⟨rfl, hb1⟩
        have ho1 := owns_below ho hb1
        have hc := ho1.cellAt j (by omega)
        rw [List.getElem?_eq_getElem (by rw [marked_len (by omega)]; omega)] at hc
        have hf := ho1.frozenAt j
        have hst := ho1.stored j (.string (mk (k + j)))
        rw [marked_set (by omega)] at hst
        have HS := hidOf hst
        clear hst
        go_wp2
        go_roundw
        case rel => exact ⟨j + 1, by omega, by go_num, by go_num, HS.out.1, grownBy_trans (grownBy_trans hg (grownBy_of_below hb1 _)) HS.out.2⟩
        case measure => simp [intOf]; omega
      · have hjn : j = n := by omega
        subst hjn
        go_wp2
        go_ret
        exact ⟨rfl, by rw [← marked_all hl]; exact ho, hg⟩

set_option maxHeartbeats 800000 in
theorem heldS_any (v : Value) (b n k : Nat) (w : World) (hn : n ≤ 2305843009213693952) (hk0 : 0 < k) (hk : k ≤ 2305843009213693952) (hown : w.ownsRow b 9 1 v n (strVals (marks k n))) :
    Calls Try.prog 35 #[v, .int .i64 k] w fun e w' => e = .returned (.int .i64 ((k : Int) + n)) ∧ Below w.heap.size w w' := by
  by_cases hz : n = 0
  · obtain ⟨a1, c1, rfl⟩ := owns_slice hown
    subst hz
    clear hown
    go_enter Try.func35, Try.ntmps35
    go_wp2
    go_loop [1, 5] (fun q i => i = .int .i64 0 ∧ q = .int .i64 k) (fun _ _ => 0)
    case atStart => exact ⟨rfl, rfl⟩
    case round =>
      obtain ⟨rfl, rfl⟩ := hrel
      go_wp2
      go_ret
      exact ⟨ret_int (by omega), Below.refl _ _⟩
  · rcases hown.2 with ⟨_, e⟩ | ⟨g, cap, cur, rfl, _⟩
    · omega
    go_enter Try.func35, Try.ntmps35
    go_wp2
    go_loopw [1, 5] (fun q i wr => ∃ (j : Nat), j ≤ n ∧ i = .int .i64 j ∧ q = .int .i64 ((k : Int) + j) ∧ Below w.heap.size w wr) (fun _ i _ => n - (intOf i).toNat)
    case atStart => exact ⟨0, Nat.zero_le _, rfl, by go_num, Below.refl _ _⟩
    case round =>
      obtain ⟨j, hj, rfl, rfl, hb⟩ := hrel
      by_cases hlt : j < n
      · have hA : (0 : Int) ≤ (j : Int) := by omega
        have hB : (j : Int) < (n : Int) := by omega
        have ho := owns_below hown hb
        have hc := ho.cellAt j (by omega)
        rw [show (strVals (marks k n))[j]? = some (.string (mk (k + j))) by simp [strVals, marks, hlt]] at hc
        have hsz := hb.size
        have hgl := (hown.lt g rfl).2
        go_wp2
        rw [show ((k : Int) + (j : Int)) = ((k + j : Nat) : Int) by omega]
        go_region_held3 (fun w' => w'.cell? ⟨g, j, none⟩ = some (.string (mk (k + j)))) (first | (simpa using hc) | (rw [hb1.cell (by simp; omega)]; simpa using hc)) (first | (go_at_call 51; refine (markText_any (k + j) _ (by omega) (by omega)).mono ?_; rintro e w1 ⟨rfl, hb1⟩))
        go_wp2
        go_roundw
        case rel => exact ⟨j + 1, by omega, by go_num, by go_num, hb.drew.trans (hb1.mono hsz)⟩
        case measure => simp [intOf]; omega
      · have hjn : j = n := by omega
        subst hjn
        go_wp2
        go_ret
        exact ⟨rfl, hb⟩

/-- From the mark 1 on, as the laws call them. -/
theorem markS_one (v : Value) (b n : Nat) (xs : List Value) (w : World) (hn : n ≤ 2305843009213693952) (hown : w.ownsRow b 9 1 v n xs) :
    Calls Try.prog 30 #[v, .int .i64 1] w fun e w' => e = .returned (.int .i64 (1 + (n : Int))) ∧ w'.ownsRow b 9 1 v n (strVals (marks 1 n)) ∧ w.grownBy w' v.ownBlock :=
  markS_any v b n 1 xs w hn (by omega) (by omega) hown
theorem heldS_one (v : Value) (b n : Nat) (w : World) (hn : n ≤ 2305843009213693952) (hown : w.ownsRow b 9 1 v n (strVals (marks 1 n))) :
    Calls Try.prog 35 #[v, .int .i64 1] w fun e w' => e = .returned (.int .i64 (1 + (n : Int))) ∧ Below w.heap.size w w' :=
  heldS_any v b n 1 w hn (by omega) (by omega) hown
end Go.Proofs.Ytdlpepmdjbmmmaa
