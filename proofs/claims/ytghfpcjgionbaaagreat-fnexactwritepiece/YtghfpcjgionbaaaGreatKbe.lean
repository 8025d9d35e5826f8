/- What the laws' helpers on lists of texts do: eqStringS tells two lists alike, markStringS writes its marks, heldStringS finds them again. -/
import Derived.Test.YtghfpcjgionbaaaGreatKau
import Derived.Test.YtghfpcjgionbaaaGreatCutLib
import Derived.BigQuiet
import Derived.Deep.QuietTactic
import Derived.Deep.RegionHeld3
import Derived.Laws.OwnMore
import Derived.Test.YtghfpcjgionbaaaGreatKaa
import Derived.Test.YtghfpcjgionbaaaGreatKbd
import Derived.Test.YtghfpcjgionbaaaGreatMkPc
import Derived.Test.YtghfpcjgionbaaaGreatTopPc
namespace Go.Proofs.YtghfpcjgionbaaaGreat
open Go.RowKit

/-- The marks from k on. -/
def marks (k n : Nat) : List ByteArray := (List.range n).map fun i => mk (k + i)
theorem marks_len (k n : Nat) : (marks k n).length = n := by simp [marks]


set_option maxHeartbeats 800000 in
theorem eqS_same (v1 v2 : Value) (b1 b2 n : Nat) (ss : List ByteArray) (w : World) (hn : n ≤ 4611686018427387904)
    (h1 : w.ownsRow b1 9 1 v1 n (strVals ss)) (h2 : w.ownsRow b2 9 1 v2 n (strVals ss)) :
    Calls Tryz.prog 51 #[v1, v2] w fun e w' => e = .returned (.bool true) ∧ ∃ q, w' = w.drewN q := by
  have hl : ss.length = n := by have := h1.1; simpa [strVals] using this
  by_cases hz : n = 0
  · obtain ⟨a1, c1, rfl⟩ := owns_slice h1
    obtain ⟨a2, c2, rfl⟩ := owns_slice h2
    subst hz
    clear h1 h2 hl
    go_enter Tryz.func51, Tryz.ntmps51
    go_wp2
    go_loop [5] (fun i => i = .int .i64 0) (fun _ => 0)
    case atStart => rfl
    case round =>
      subst hrel
      go_wp2
      go_ret
      exact ⟨rfl, 0, rfl⟩
  · rcases h1.2 with ⟨_, e⟩ | ⟨g1, cap1, cur1, rfl, _⟩
    · omega
    rcases h2.2 with ⟨_, e⟩ | ⟨g2, cap2, cur2, rfl, _⟩
    · omega
    have hc1 : ∀ (j : Nat), j < n → w.cell? ⟨g1, j, none⟩ = some (.string (ss.getD j ByteArray.empty)) := fun j hj => by
      rw [h1.cellAt j (by omega)]
      simp [strVals, List.getD, List.getElem?_eq_getElem (show j < ss.length by omega)]
    have hc2 : ∀ (j : Nat), j < n → w.cell? ⟨g2, j, none⟩ = some (.string (ss.getD j ByteArray.empty)) := fun j hj => by
      rw [h2.cellAt j (by omega)]
      simp [strVals, List.getD, List.getElem?_eq_getElem (show j < ss.length by omega)]
    clear h1 h2 hl
    go_enter Tryz.func51, Tryz.ntmps51
    go_wp2
    go_loopw [5] (fun i wr => ∃ (k q : Nat), k ≤ n ∧ i = .int .i64 k ∧ wr = w.drewN q) (fun i _ => n - (intOf i).toNat)
    case atStart => exact ⟨0, 0, Nat.zero_le _, rfl, rfl⟩
    case round =>
      obtain ⟨k, q, hk, rfl, rfl⟩ := hrel
      by_cases hlt : k < n
      · obtain ⟨t, ht⟩ : ∃ t, t = ss.getD k ByteArray.empty := ⟨_, rfl⟩
        have d1 := hc1 k hlt
        have d2 := hc2 k hlt
        rw [← ht] at d1 d2
        clear ht
        have hA : (0 : Int) ≤ (k : Int) := by omega
        have hB : (k : Int) < (n : Int) := by omega
        clear hc1 hc2
        go_wp2
        go_quiet (fail)
        go_wp2
        go_roundw
        case rel => exact ⟨k + 1, q + nq, by omega, by go_num, rfl⟩
        case measure => simp [intOf]; omega
      · go_wp2
        go_ret
        exact ⟨rfl, q, rfl⟩

/-- What markStringS has written behind j rounds. -/
def marked (k : Nat) (xs : List Value) (j : Nat) : List Value := (strVals (marks k j)) ++ xs.drop j
theorem marked_zero (k : Nat) (xs : List Value) : marked k xs 0 = xs := by simp [marked, marks, strVals]
theorem marked_len {k j : Nat} {xs : List Value} (h : j ≤ xs.length) : (marked k xs j).length = xs.length := by
  simp [marked, marks, strVals]
  omega
theorem marked_set {k j : Nat} {xs : List Value} (h : j < xs.length) : (marked k xs j).set j (.string (mk (k + j))) = marked k xs (j + 1) := by
  have hl : (strVals (marks k j)).length = j := by simp [marks, strVals]
  have e : xs.drop j = xs[j] :: xs.drop (j + 1) := List.drop_eq_getElem_cons h
  unfold marked
  rw [List.set_append_right _ _ (by omega), hl, Nat.sub_self, e, List.set_cons_zero]
  have e2 : strVals (marks k (j + 1)) = strVals (marks k j) ++ [.string (mk (k + j))] := by simp [marks, strVals, List.range_succ]
  rw [e2, List.append_assoc]
  rfl
theorem marked_all {k : Nat} {xs : List Value} {n : Nat} (h : xs.length = n) : marked k xs n = strVals (marks k n) := by
  unfold marked
  rw [List.drop_of_length_le (by omega), List.append_nil]

set_option maxHeartbeats 800000 in
theorem markS_any (v : Value) (b n k : Nat) (xs : List Value) (w : World) (hn : n ≤ 2305843009213693952) (hk0 : 0 < k) (hk : k ≤ 2305843009213693952) (hown : w.ownsRow b 9 1 v n xs) :
    Calls Tryz.prog 52 #[v, .int .i64 k] w fun e w' => e = .returned (.int .i64 ((k : Int) + n)) ∧ w'.ownsRow b 9 1 v n (strVals (marks k n)) ∧ w.grownBy w' v.ownBlock := by
  have hl : xs.length = n := by have := hown.1; simpa using this
  by_cases hz : n = 0
  · obtain ⟨a1, c1, rfl⟩ := owns_slice hown
    subst hz
    have hx : xs = strVals (marks k 0) := by rw [List.length_eq_zero_iff.1 hl]; rfl
    rw [hx] at hown
    have HO := hidOf hown
    clear hown hx hl
    go_enter Tryz.func52, Tryz.ntmps52
    go_wp2
    go_loop [1, 5] (fun q i => i = .int .i64 0 ∧ q = .int .i64 k) (fun _ _ => 0)
    case atStart => exact ⟨rfl, rfl⟩
    case round =>
      obtain ⟨rfl, rfl⟩ := hrel
      go_wp2
      go_ret
      exact ⟨ret_int (by omega), HO.out, World.grownBy.refl _ _⟩
  · rcases hown.2 with ⟨_, e⟩ | ⟨g, cap, cur, rfl, _⟩
    · omega
    go_enter Tryz.func52, Tryz.ntmps52
    go_wp2
    go_loopw [1, 5] (fun q i wr => ∃ (j : Nat), j ≤ n ∧ i = .int .i64 j ∧ q = .int .i64 ((k : Int) + j) ∧ wr.ownsRow b 9 1 (.slice (some ⟨g, 0, none⟩) n cap) n (marked k xs j) ∧ w.grownBy wr (some g)) (fun _ i _ => n - (intOf i).toNat)
    case atStart => exact ⟨0, Nat.zero_le _, rfl, by go_num, by rw [marked_zero]; exact hown, World.grownBy.refl _ _⟩
    case round =>
      obtain ⟨j, hj, rfl, rfl, ho, hg⟩ := hrel
      by_cases hlt : j < n
      · have hA : (0 : Int) ≤ (j : Int) := by omega
        have hB : (j : Int) < (n : Int) := by omega
        go_wp2_with fail
        rw [show ((k : Int) + (j : Int)) = ((k + j : Nat) : Int) by omega]
        refine (markText_any (k + j) _ (by omega) (by omega)).mono ?_
        rintro e w1 ⟨rfl, hb1⟩
        have ho1 := owns_below ho hb1
        have hc := ho1.cellAt j (by omega)
        rw [List.getElem?_eq_getElem (by rw [marked_len (by omega)]; omega)] at hc
        have hf := ho1.frozenAt j
        have hst := ho1.stored j (.string (mk (k + j)))
        rw [marked_set (by omega)] at hst
        have HS := hidOf hst
        clear hst
        go_wp2
        go_roundw
        case rel => exact ⟨j + 1, by omega, by go_num, by go_num, HS.out.1, grownBy_trans (grownBy_trans hg (grownBy_of_below hb1 _)) HS.out.2⟩
        case measure => simp [intOf]; omega
      · have hjn : j = n := by omega
        subst hjn
        go_wp2
        go_ret
        exact ⟨rfl, by rw [← marked_all hl]; exact ho, hg⟩

set_option maxHeartbeats 800000 in
theorem heldS_any (v : Value) (b n k : Nat) (w : World) (hn : n ≤ 2305843009213693952) (hk0 : 0 < k) (hk : k ≤ 2305843009213693952) (hown : w.ownsRow b 9 1 v n (strVals (marks k n))) :
    Calls Tryz.prog 53 #[v, .int .i64 k] w fun e w' => e = .returned (.int .i64 ((k : Int) + n)) ∧ Below w.heap.size w w' := by
  by_cases hz : n = 0
  · obtain ⟨a1, c1, rfl⟩ := owns_slice hown
    subst hz
    clear hown
    go_enter Tryz.func53, Tryz.ntmps53
    go_wp2
    go_loop [1, 5] (fun q i => i = .int .i64 0 ∧ q = .int .i64 k) (fun _ _ => 0)
    case atStart => exact ⟨rfl, rfl⟩
    case round =>
      obtain ⟨rfl, rfl⟩ := hrel
      go_wp2
      go_ret
      exact ⟨ret_int (by omega), Below.refl _ _⟩
  · rcases hown.2 with ⟨_, e⟩ | ⟨g, cap, cur, rfl, _⟩
    · omega
    go_enter Tryz.func53, Tryz.ntmps53
    go_wp2
    go_loopw [1, 5] (fun q i wr => ∃ (j : Nat), j ≤ n ∧ i = .int .i64 j ∧ q = .int .i64 ((k : Int) + j) ∧ Below w.heap.size w wr) (fun _ i _ => n - (intOf i).toNat)
    case atStart => exact ⟨0, Nat.zero_le _, rfl, by go_num, Below.refl _ _⟩
    case round =>
      obtain ⟨j, hj, rfl, rfl, hb⟩ := hrel
      by_cases hlt : j < n
      · have hA : (0 : Int) ≤ (j : Int) := by omega
        have hB : (j : Int) < (n : Int) := by omega
        have ho := owns_below hown hb
        have hc := ho.cellAt j (by omega)
        rw [show (strVals (marks k n))[j]? = some (.string (mk (k + j))) by simp [strVals, marks, hlt]] at hc
        have hsz := hb.size
        have hgl := (hown.lt g rfl).2
        go_wp2
        rw [show ((k : Int) + (j : Int)) = ((k + j : Nat) : Int) by omega]
        go_region_held3 (fun w' => w'.cell? ⟨g, j, none⟩ = some (.string (mk (k + j)))) (first | (simpa using hc) | (rw [hb1.cell (by simp; omega)]; simpa using hc)) (first | (go_at_call 80; refine (markText_any (k + j) _ (by omega) (by omega)).mono ?_; rintro e w1 ⟨rfl, hb1⟩))
        go_wp2
        go_roundw
        case rel => exact ⟨j + 1, by omega, by go_num, by go_num, hb.drew.trans (hb1.mono hsz)⟩
        case measure => simp [intOf]; omega
      · have hjn : j = n := by omega
        subst hjn
        go_wp2
        go_ret
        exact ⟨rfl, hb⟩

/-- From the mark 1 on, as the laws call them. -/
theorem markS_one (v : Value) (b n : Nat) (xs : List Value) (w : World) (hn : n ≤ 2305843009213693952) (hown : w.ownsRow b 9 1 v n xs) :
    Calls Tryz.prog 52 #[v, .int .i64 1] w fun e w' => e = .returned (.int .i64 (1 + (n : Int))) ∧ w'.ownsRow b 9 1 v n (strVals (marks 1 n)) ∧ w.grownBy w' v.ownBlock :=
  markS_any v b n 1 xs w hn (by omega) (by omega) hown
theorem heldS_one (v : Value) (b n : Nat) (w : World) (hn : n ≤ 2305843009213693952) (hown : w.ownsRow b 9 1 v n (strVals (marks 1 n))) :
    Calls Tryz.prog 53 #[v, .int .i64 1] w fun e w' => e = .returned (.int .i64 (1 + (n : Int))) ∧ Below w.heap.size w w' :=
  heldS_any v b n 1 w hn (by omega) (by omega) hown
end Go.Proofs.YtghfpcjgionbaaaGreat
/- What the laws' helpers on what is written do: eqWritten tells two alike, markWritten writes its marks, heldWritten finds them again; what is written in a variable of its own. -/
namespace Go.Proofs.YtghfpcjgionbaaaGreat
open Go.RowKit

/-- Block b holds lines and a state. -/
structure WrAt (w : World) (b : Nat) (a : Option Addr) (n c : Nat) (s : Int) : Prop where
  lt : b < w.heap.size
  c0 : w.cell? ⟨b, 0, none⟩ = some (.slice a n c)
  c1 : w.cell? ⟨b, 1, none⟩ = some (.int .i64 s)
theorem WrAt.next {w w' : World} {b n c : Nat} {a : Option Addr} {s : Int} (h : WrAt w b a n c s) (hb : Below w.heap.size w w') : WrAt w' b a n c s :=
  ⟨Nat.lt_of_lt_of_le h.lt hb.size, by rw [hb.cell h.lt]; exact h.c0, by rw [hb.cell h.lt]; exact h.c1⟩
theorem WrAt.grown {w w' : World} {b n c : Nat} {a : Option Addr} {s : Int} {row : Option Nat} (h : WrAt w b a n c s) (hg : w.grownBy w' row) (hne : some b ≠ row) : WrAt w' b a n c s :=
  ⟨Nat.lt_of_lt_of_le h.lt hg.size, hg.cell h.c0 hne, hg.cell h.c1 hne⟩
theorem WrAt.same {w w' : World} {b n c : Nat} {a : Option Addr} {s : Int} (h : WrAt w b a n c s) (hs : w.heap.size ≤ w'.heap.size) (hg : w'.heap[b]? = w.heap[b]?) : WrAt w' b a n c s := by
  have e : ∀ j, w'.cell? ⟨b, j, none⟩ = w.cell? ⟨b, j, none⟩ := fun j => by unfold World.cell?; simp only [hg]
  exact ⟨Nat.lt_of_lt_of_le h.lt hs, (e 0).trans h.c0, (e 1).trans h.c1⟩
theorem wrBoxed (w : World) (a : Option Addr) (n c : Nat) (s : Int) (t : Nat) : ∃ W, W = w.alloc (.cells #[.slice a n c, .int .i64 s] t) ∧ WrAt W w.heap.size a n c s ∧ Below w.heap.size w W ∧ W.heap.size = w.heap.size + 1 := by
  refine ⟨_, rfl, ⟨by simp, ?_, ?_⟩, (Below.refl _ _).alloc (Nat.le_refl _) _, by simp⟩
  all_goals simp

set_option maxHeartbeats 1600000 in
theorem eqWr_same (a1 a2 : Option Addr) (c1 c2 b1 b2 n : Nat) (ss : List ByteArray) (sm : Int) (w : World) (hn : n ≤ 4611686018427387904)
    (k1 : w.ownsRow b1 9 1 (.slice a1 n c1) n (strVals ss)) (k2 : w.ownsRow b2 9 1 (.slice a2 n c2) n (strVals ss)) :
    Calls Tryz.prog 17 #[.agg #[.slice a1 n c1, .int .i64 sm], .agg #[.slice a2 n c2, .int .i64 sm]] w fun e w' => e = .returned (.bool true) ∧ Below w.heap.size w w' := by
  have h1 : (sm != sm) = false := by simp
  have HB : ∀ o1 o2 : Obj, Below w.heap.size w ((w.alloc o1).alloc o2) := fun o1 o2 => ((Below.refl _ _).alloc (Nat.le_refl _) _).alloc (by simp) _
  go_enter Tryz.func17, Tryz.ntmps17
  go_wp2_with fail
  refine (eqS_same (.slice a1 n c1) (.slice a2 n c2) b1 b2 n ss _ hn (owns_below k1 (HB _ _)) (owns_below k2 (HB _ _))).mono ?_
  have HB3 := HB (.cells #[.slice a1 n c1, .int .i64 sm] 46) (.cells #[.slice a2 n c2, .int .i64 sm] 46)
  have A0 := heap_alloc2_old w (.cells #[.slice a1 n c1, .int .i64 sm] 46) (.cells #[.slice a2 n c2, .int .i64 sm] 46)
  have A1 := heap_alloc2_new w (.cells #[.slice a1 n c1, .int .i64 sm] 46) (.cells #[.slice a2 n c2, .int .i64 sm] 46)
  generalize (w.alloc (.cells #[.slice a1 n c1, .int .i64 sm] 46)).alloc (.cells #[.slice a2 n c2, .int .i64 sm] 46) = W at *
  rintro e w4 ⟨rfl, q4, hq4⟩
  have hb : Below W.heap.size W w4 := by rw [hq4]; exact below_drewN _ _
  have B0 := (hb.block w.heap.size (Array.getElem?_eq_some_iff.1 A0).1).trans A0
  have B1 := (hb.block (w.heap.size + 1) (Array.getElem?_eq_some_iff.1 A1).1).trans A1
  have p3 : w4.cell? ⟨w.heap.size, 1, none⟩ = some (.int .i64 sm) := cell_of_row w4 _ 1 _ _ _ B0
  have r3 : w4.cell? ⟨w.heap.size + 1, 1, none⟩ = some (.int .i64 sm) := cell_of_row w4 _ 1 _ _ _ B1
  have HW := hidOf (HB3.trans (hb.mono HB3.size))
  clear HB HB3 hb A0 A1 B0 B1 k1 k2 hq4
  go_wp2
  go_ret
  exact ⟨rfl, HW.out⟩

set_option maxHeartbeats 1600000 in
theorem markWr_one (a : Option Addr) (c b n : Nat) (sm : Int) (xs : List Value) (w : World) (hn : n ≤ 1048576) (ho : w.ownsRow b 9 1 (.slice a n c) n xs) :
    Calls Tryz.prog 18 #[.agg #[.slice a n c, .int .i64 sm], .int .i64 1] w fun e w' => e = .returned (.int .i64 (1 + (n : Int))) ∧ w'.ownsRow b 9 1 (.slice a n c) n (strVals (marks 1 n)) ∧ w.grownBy w' (Value.slice a n c).ownBlock := by
  have HB : ∀ o1 : Obj, Below w.heap.size w (w.alloc o1) := fun o1 => (Below.refl _ _).alloc (Nat.le_refl _) _
  go_enter Tryz.func18, Tryz.ntmps18
  go_wp2_with fail
  refine (markS_one (.slice a n c) b n xs _ (by omega) (owns_below ho (HB _))).mono ?_
  rintro e w1 ⟨rfl, o1, g1⟩
  have G := hidOf (grownBy_trans (grownBy_of_below (HB _) _) g1)
  have O := hidOf o1
  clear g1 o1 ho
  go_wp2
  go_ret
  exact ⟨rfl, O.out, G.out⟩

set_option maxHeartbeats 1600000 in
theorem heldWr_one (a : Option Addr) (c b n : Nat) (sm : Int) (w : World) (hn : n ≤ 1048576) (ho : w.ownsRow b 9 1 (.slice a n c) n (strVals (marks 1 n))) :
    Calls Tryz.prog 19 #[.agg #[.slice a n c, .int .i64 sm], .int .i64 1] w fun e w' => e = .returned (.int .i64 (1 + (n : Int))) ∧ Below w.heap.size w w' := by
  have HB : ∀ o1 : Obj, Below w.heap.size w (w.alloc o1) := fun o1 => (Below.refl _ _).alloc (Nat.le_refl _) _
  have hp : ¬ (1 + (n : Int) < 0) := by omega
  go_enter Tryz.func19, Tryz.ntmps19
  go_wp2_with fail
  refine (heldS_one (.slice a n c) b n _ (by omega) (owns_below ho (HB _))).mono ?_
  rintro e w1 ⟨rfl, hb1⟩
  have B1 := hidOf ((HB _).trans (hb1.mono (HB _).size))
  clear hb1 ho
  go_wp2
  go_ret
  exact ⟨rfl, B1.out⟩
end Go.Proofs.YtghfpcjgionbaaaGreat
/- The law on WritePiece: two answers alike, the arguments as they were, and what is answered owns its memory. -/
namespace Go.Proofs.YtghfpcjgionbaaaGreat
open Go.RowKit


set_option maxHeartbeats 8000000 in
theorem lawWritePiece (p : Pc) (l : Pl) (wd bud : Int) (w : World) (hbd : -9223372036854775808 ≤ bud ∧ bud ≤ 9223372036854775807) (hok : PcOk p) (hp : PcIn w p l) :
    Calls Tryz.prog 4 #[pcV p l, .int .i64 wd, .int .i64 bud] w fun e w' => e = .returned (.bool true) ∧ Below w.heap.size w w' := by
  show Calls _ _ #[.agg #[.int .i64 p.indent, .slice l.a1 p.rules.length l.c1, .slice l.a2 p.chunks.length l.c2, .slice l.a3 p.spans.length l.c3, .slice l.a4 p.ties.length l.c4], _, _] _ _
  have hbd1 := hbd.1
  have hbd2 := hbd.2
  go_enter Tryz.func4, Tryz.ntmps4
  go_wp2_with fail
  obtain ⟨W0, hW0, X0, B0, S0⟩ := boxed w p l 27
  rw [← hW0]
  have I0 := hp.below B0 (Nat.le_refl _)
  have hX : w.heap.size < W0.heap.size := by omega
  clear hW0 S0 hp
  refine (szPc_any p l _ hok I0).mono ?_
  rintro e w1 ⟨r, rfl, hr, A1⟩
  rcases hr with rfl | ⟨hr0, hF⟩
  · go_wp2
    go_ret
    exact ⟨rfl, B0.trans (A1.mono B0.size)⟩
  obtain ⟨-, c0, c1, c2, c3, c4⟩ := X0.below A1 hX
  go_wp2_with fail
  refine (toPc_any p l _ hF (I0.below A1 (Nat.le_refl _))).mono ?_
  rintro e w2 ⟨g1, g2, g3, g4, rfl, O2, hb2⟩
  have A2 := A1.trans (hb2.mono A1.size)
  clear c0 c1 c2 c3 c4 hb2
  obtain ⟨ss, s, hsl, qS, qI⟩ := write_key p wd bud hbd hF
  obtain ⟨n, hn⟩ : ∃ n, n = ss.length := ⟨_, rfl⟩
  unfold WrAns at qS qI
  rw [← hn] at hsl qS qI
  clear hn
  go_wp2_with fail
  refine (qS _ _ O2.is).mono ?_
  rintro e w3a ⟨hb3, a0, d0, rfl, ho0⟩
  have A3a := A2.trans (hb3.mono A2.size)
  have L0 := hidOf (fun q h => (ho0.lt q h).2)
  clear O2 hb3 qS
  obtain ⟨-, c0, c1, c2, c3, c4⟩ := X0.below A3a hX
  have HX3 := fun ob : Obj => X0.below (A3a.alloc A3a.size ob) hX
  have x0 := fun ob => (HX3 ob).c0
  have x1 := fun ob => (HX3 ob).c1
  have x2 := fun ob => (HX3 ob).c2
  have x3 := fun ob => (HX3 ob).c3
  have x4 := fun ob => (HX3 ob).c4
  clear HX3
  obtain ⟨w3, hw3, Z0, hb3, S3⟩ := wrBoxed w3a a0 n d0 s 46
  have A3 := A3a.trans (hb3.mono A3a.size)
  have ho0 := owns_below ho0 hb3
  have j0 := hidOf S3
  clear hb3 S3
  go_wp2_with fail
  rw [← hw3]
  clear hw3 c0 c1 c2 c3 c4 x0 x1 x2 x3 x4
  refine (toPc_any p l _ hF (I0.below A3 (Nat.le_refl _))).mono ?_
  rintro e w4 ⟨k1, k2, k3, k4, rfl, O4, hb4⟩
  have A4 := A3.trans (hb4.mono A3.size)
  have ho0 := owns_below ho0 hb4
  have Z0 := Z0.next hb4
  have j5 := hb4.size
  clear hb4
  go_wp2_with fail
  obtain ⟨W4, hW4, X4, hb5, S4⟩ := boxed w4 p (plOf p k1 k2 k3 k4) 37
  rw [← hW4]
  have A5 := A4.trans (hb5.mono A4.size)
  have O5 := O4.below hb5
  have ho0 := owns_below ho0 hb5
  have Z0 := Z0.next hb5
  have hX4 : w4.heap.size < W4.heap.size := by omega
  clear hW4 S4
  refine (qI _ _ (Nat.le_refl _) O5.is).mono ?_
  rintro e w6a ⟨hb6, a1, d1, rfl, ho1⟩
  have A6a := A5.trans (hb6.mono A5.size)
  have O6a := O5.below hb6
  have ho0a := owns_below ho0 hb6
  have Z0a := Z0.next hb6
  have E6a := hb6
  have L1 := hidOf (fun q h => ho1.lt q h)
  clear hb6 O5 hb5 ho0 Z0
  have HZ := fun ob : Obj => Z0a.next ((Below.refl w6a.heap.size w6a).alloc (Nat.le_refl _) ob)
  have u0 := fun ob => (HZ ob).c0
  have u1 := fun ob => (HZ ob).c1
  clear HZ
  obtain ⟨w6, hw6, Z1, hb6, S6⟩ := wrBoxed w6a a1 n d1 s 46
  have A6 := A6a.trans (hb6.mono A6a.size)
  have E6 := E6a.trans (hb6.mono E6a.size)
  have O6 := O6a.below hb6
  have ho0 := owns_below ho0a hb6
  have ho1 := owns_below ho1 hb6
  have Z0 := Z0a.next hb6
  clear hb6 S6 ho0a Z0a O6a
  go_wp2_with fail
  rw [← hw6]
  clear hw6 u0 u1
  refine (eqWr_same a1 a0 d1 d0 _ _ n ss s _ (by omega) ho1 ho0).mono ?_
  rintro e w7 ⟨rfl, hb7⟩
  have A7 := A6.trans (hb7.mono A6.size)
  have E7 := E6.trans (hb7.mono E6.size)
  have O7 := O6.below hb7
  have ho0 := owns_below ho0 hb7
  have ho1 := owns_below ho1 hb7
  have Z0 := Z0.next hb7
  have Z1 := Z1.next hb7
  clear hb7 O6 E6
  obtain ⟨-, c0, c1, c2, c3, c4⟩ := X0.below A7 hX
  obtain ⟨-, b0, b1', b2', b3, b4⟩ := X4.below E7 hX4
  have hz0 : w.heap.size < w7.heap.size := by have := A7.size; omega
  have hz4 : w4.heap.size < w7.heap.size := by have := E7.size; omega
  have Dr := (Below.refl w7.heap.size w7).drew
  have IA := (I0.below A7 (Nat.le_refl _)).below Dr (Nat.le_refl _)
  have IX := O7.is.below Dr (Nat.le_refl _)
  go_wp2
  go_region_held3 (fun W => (W.cell? ⟨w4.heap.size, 0, none⟩ = some (.int .i64 p.indent) ∧ W.cell? ⟨w4.heap.size, 1, none⟩ = some (.slice (some ⟨k1, 0, none⟩) p.rules.length p.rules.length) ∧ W.cell? ⟨w4.heap.size, 2, none⟩ = some (.slice (some ⟨k2, 0, none⟩) p.chunks.length p.chunks.length) ∧ W.cell? ⟨w4.heap.size, 3, none⟩ = some (.slice (some ⟨k3, 0, none⟩) p.spans.length p.spans.length) ∧ W.cell? ⟨w4.heap.size, 4, none⟩ = some (.slice (some ⟨k4, 0, none⟩) p.ties.length p.ties.length)) ∧ W.cell? ⟨w.heap.size, 0, none⟩ = some (.int .i64 p.indent) ∧ W.cell? ⟨w.heap.size, 1, none⟩ = some (.slice l.a1 p.rules.length l.c1) ∧ W.cell? ⟨w.heap.size, 2, none⟩ = some (.slice l.a2 p.chunks.length l.c2) ∧ W.cell? ⟨w.heap.size, 3, none⟩ = some (.slice l.a3 p.spans.length l.c3) ∧ W.cell? ⟨w.heap.size, 4, none⟩ = some (.slice l.a4 p.ties.length l.c4)) (first | trivial | go_keep)
    ((first
    | (go_at_call 8; refine (toPc_any p l _ hF IA).mono ?_; rintro e w8 ⟨m1, m2, m3, m4, rfl, O8, hb8⟩; have hc8 := bcelld hb8; have hz8 : w.heap.size < w8.heap.size := Nat.lt_of_lt_of_le hz0 hb8.size; have hy8 : w4.heap.size < w8.heap.size := Nat.lt_of_lt_of_le hz4 hb8.size)
    | (go_at_call 11; refine (eqPc_same p _ _ _ hF (IX.below hb8 (Nat.le_refl _)) O8.is).mono ?_; rintro e w9 ⟨rfl, hb9⟩; have hc9 := (bcell hb9).1)))
  have A8 := A7.drew.trans (hb8.mono A7.size)
  have A9 := A8.trans (hb9.mono A8.size)
  have E8 := E7.drew.trans (hb8.mono E7.size)
  have E9 := E8.trans (hb9.mono E8.size)
  have O9 := ((O7.below Dr).below hb8).below hb9
  have ho0 := owns_below (owns_below (owns_below ho0 Dr) hb8) hb9
  have ho1 := owns_below (owns_below (owns_below ho1 Dr) hb8) hb9
  have Z0 := ((Z0.next Dr).next hb8).next hb9
  have Z1 := ((Z1.next Dr).next hb8).next hb9
  clear c0 c1 c2 c3 c4 b0 b1' b2' b3 b4 hc8 hc9 hz0 hz4 hz8 hy8 IA IX hb8 hb9 O8 A8 E8 Dr E7 O7
  obtain ⟨-, b0, b1', b2', b3, b4⟩ := X4.below E9 hX4
  have j1 := O9.b1
  have j2 := O9.b2
  have j3 := O9.b3
  have j4 := O9.b4
  have i1 := (O4.rules.lt k1 rfl).2
  have i2 := (O4.chunks.lt k2 rfl).2
  have i3 := (O4.spans.lt k3 rfl).2
  have i4 := (O4.ties.lt k4 rfl).2
  have j6 := A3.size
  have j7 := E6a.size
  have j8 := A4.size
  have j9 := A3a.size
  go_wp2_with fail
  refine (markPc_any _ p k1 k2 k3 k4 _ hF O9).mono ?_
  rintro e w10 ⟨r10, hr10, rfl, T10⟩
  have A10 := T10.below A9 A9.size (by omega) (by omega) (by omega) (by omega)
  have J0 := j0.out
  have ho0 := own_turned T10 ho0 (fun e => by have := L0.out _ e; omega) (fun e => by have := L0.out _ e; omega) (fun e => by have := L0.out _ e; omega) (fun e => by have := L0.out _ e; omega)
  have ho1 := own_turned T10 ho1 (fun e => by have := (L1.out _ e).1; omega) (fun e => by have := (L1.out _ e).1; omega) (fun e => by have := (L1.out _ e).1; omega) (fun e => by have := (L1.out _ e).1; omega)
  have Z0 := Z0.same T10.size (T10.block _ Z0.lt (by omega) (by omega) (by omega) (by omega))
  have Z1 := Z1.same T10.size (T10.block _ Z1.lt (by omega) (by omega) (by omega) (by omega))
  clear b0 b1' b2' b3 b4 T10 O9 O4 X4 E9 A9 A7 J0 j1 j2 j3 j4 i1 i2 i3 i4
  have z0 := Z0.c0
  have z1 := Z0.c1
  have z2 := Z1.c0
  have z3 := Z1.c1
  go_wp2_with fail
  refine (eqWr_same a1 a0 d1 d0 _ _ n ss s _ (by omega) ho1 ho0).mono ?_
  rintro e w11 ⟨rfl, hb11⟩
  have A11 := A10.trans (hb11.mono A10.size)
  have ho0 := owns_below ho0 hb11
  have ho1 := owns_below ho1 hb11
  have Z0 := Z0.next hb11
  have Z1 := Z1.next hb11
  have J0 := j0.out
  have n01 : (Value.slice a0 n d0).ownBlock = none ∨ (Value.slice a0 n d0).ownBlock ≠ (Value.slice a1 n d1).ownBlock := by
    cases hv : (Value.slice a0 n d0).ownBlock with
    | none => exact .inl rfl
    | some q =>
      right
      intro he
      have h1 := L0.out q hv
      have h2 := (L1.out q he.symm).1
      omega
  have n0 : some w3a.heap.size ≠ (Value.slice a1 n d1).ownBlock := fun e => by have := (L1.out _ e.symm).1; omega
  have n1 : some w6a.heap.size ≠ (Value.slice a1 n d1).ownBlock := fun e => by have := (L1.out _ e.symm).2; omega
  clear hb11 A10 z0 z1 z2 z3 J0
  have z2 := Z1.c0
  have z3 := Z1.c1
  go_wp2_with fail
  refine (markWr_one a1 d1 _ n s _ _ (by omega) ho1).mono ?_
  rintro e w12 ⟨rfl, ho1m, hg12⟩
  have A12 : Below W0.heap.size W0 w12 := A11.grown hg12 A11.size (fun k hk => by have := (L1.out k hk).1; omega)
  have ho0 := World.ownsRow.kept ho0 hg12 n01
  have Z0 := Z0.grown hg12 n0
  have Z1 := Z1.grown hg12 n1
  clear hg12 ho1 A11 n01 n0 n1 z2 z3
  have z2 := Z1.c0
  have z3 := Z1.c1
  go_wp2_with fail
  refine (heldWr_one a1 d1 _ n s _ (by omega) ho1m).mono ?_
  rintro e w13 ⟨rfl, hb13⟩
  have A13 := A12.trans (hb13.mono A12.size)
  have ho0 := owns_below ho0 hb13
  have ho1 := owns_below ho1m hb13
  have Z0 := Z0.next hb13
  have Z1 := Z1.next hb13
  have hq : ((1 : Int) + (n : Int) != 1 + (n : Int)) = false := by simp
  have hq0 : ¬ (1 + (n : Int) < 0) := by omega
  clear hb13 ho1m A12 z2 z3
  obtain ⟨-, c0, c1, c2, c3, c4⟩ := X0.below A13 hX
  go_wp2_with fail
  refine (toPc_any p l _ hF (I0.below A13 (Nat.le_refl _))).mono ?_
  rintro e w14 ⟨y1, y2, y3, y4, rfl, O14, hb14⟩
  have A14 := A13.trans (hb14.mono A13.size)
  have ho0 := owns_below ho0 hb14
  have ho1 := owns_below ho1 hb14
  have Z0 := Z0.next hb14
  have Z1 := Z1.next hb14
  clear hb14 c0 c1 c2 c3 c4
  go_wp2_with fail
  refine (qI _ _ (Nat.le_refl _) O14.is).mono ?_
  rintro e w15a ⟨hb15, a2, d2, rfl, ho2⟩
  have A15a := A14.trans (hb15.mono A14.size)
  have ho0a := owns_below ho0 hb15
  have ho1a := owns_below ho1 hb15
  have Z0a := Z0.next hb15
  have Z1a := Z1.next hb15
  clear hb15 O14 ho0 ho1 Z0 Z1
  have HZ := fun ob : Obj => Z0a.next ((Below.refl w15a.heap.size w15a).alloc (Nat.le_refl _) ob)
  have u0 := fun ob => (HZ ob).c0
  have u1 := fun ob => (HZ ob).c1
  clear HZ
  obtain ⟨w15, hw15, Z2, hb15, S15⟩ := wrBoxed w15a a2 n d2 s 46
  have A15 := A15a.trans (hb15.mono A15a.size)
  have ho0 := owns_below ho0a hb15
  have ho1 := owns_below ho1a hb15
  have ho2 := owns_below ho2 hb15
  have Z1 := Z1a.next hb15
  clear hb15 S15 ho0a ho1a Z0a Z1a
  go_wp2_with fail
  rw [← hw15]
  clear hw15 u0 u1
  refine (eqWr_same a2 a0 d2 d0 _ _ n ss s _ (by omega) ho2 ho0).mono ?_
  rintro e w16 ⟨rfl, hb16⟩
  have A16 := A15.trans (hb16.mono A15.size)
  have ho1 := owns_below ho1 hb16
  have Z1 := Z1.next hb16
  clear hb16 ho2 ho0 Z2
  have z2 := Z1.c0
  have z3 := Z1.c1
  go_wp2_with fail
  refine (heldWr_one a1 d1 _ n s _ (by omega) ho1).mono ?_
  rintro e w17 ⟨rfl, hb17⟩
  clear z2 z3
  go_wp2
  go_ret
  have A17 := A16.trans (hb17.mono A16.size)
  exact ⟨rfl, B0.trans (A17.mono B0.size)⟩
end Go.Proofs.YtghfpcjgionbaaaGreat
