/- An argument that is a number lies in its bounds. -/
import Derived.Test.YtghfpcjgionbaaaGreatLib
import Derived.Test.YtghfpcjgionbaaaGreatCutLib
import Derived.Laws.OwnMore
import Derived.Maps.AppendAt
import Derived.Test.YtghfpcjgionbaaaGreatProg
import Derived.BigQuiet
import Derived.Deep.QuietTactic
namespace Go.Proofs.YtghfpcjgionbaaaGreat
open Go.RowKit

theorem wf_in {n : Int} (h : (Lit.int .i64 n).wf = true) : -9223372036854775808 ≤ n ∧ n ≤ 9223372036854775807 := by
  have h1 := h
  simp only [Lit.wf, Bool.and_eq_true, decide_eq_true_eq] at h1
  exact ⟨h1.1, h1.2⟩
end Go.Proofs.YtghfpcjgionbaaaGreat
/- Lists of numbers in memory. (NdLib, ToNd, EqNd, OpenNd bear elder copies of parts of this.) -/
namespace Go.Proofs.YtghfpcjgionbaaaGreat
open Go.RowKit

/-- A list of numbers that lies in memory, at a place. -/
def KidsAt (w : World) (a : Option Addr) (ks : List Int) : Prop :=
  0 < ks.length → ∃ b off, a = some ⟨b, off, none⟩ ∧ b < w.heap.size ∧ ∀ j z, ks[j]? = some z → w.cell? ⟨b, off + j, none⟩ = some (.int .i64 z)
theorem KidsAt.below {w w' : World} {a : Option Addr} {ks : List Int} {B : Nat} (h : KidsAt w a ks) (hb : Below B w w') (hB : w.heap.size ≤ B) : KidsAt w' a ks := by
  intro hn
  obtain ⟨b, off, ha, hlt, hc⟩ := h hn
  exact ⟨b, off, ha, Nat.lt_of_lt_of_le hlt hb.size, fun j z hz => by rw [hb.cell (Nat.lt_of_lt_of_le hlt hB)]; exact hc j z hz⟩
def intVals (ks : List Int) : List Value := ks.map (Value.int .i64)
theorem intVals_len (ks : List Int) : (intVals ks).length = ks.length := by simp [intVals]
theorem KidsAt.of_own {w : World} {base e n c : Nat} {a : Option Addr} {ks : List Int} (h : w.ownsRow base e 1 (.slice a n c) n (intVals ks)) : KidsAt w a ks := by
  have hl : ks.length = n := by have := h.1; simp [intVals] at this; omega
  intro hn
  obtain ⟨g, rfl⟩ := owns_at h (by omega)
  refine ⟨g, 0, rfl, (h.lt g rfl).2, fun j z hz => ?_⟩
  have hj : j < ks.length := (List.getElem?_eq_some_iff.1 hz).1
  rw [Nat.zero_add, h.cellAt j (by omega)]
  simp [intVals, hz]
/-- A list of numbers, in memory of its own. -/
def IntsAns (ks : List Int) (e0 : Nat) (w : World) (e : Ending) (w' : World) : Prop :=
  Below w.heap.size w w' ∧ ∃ a c, e = .returned (.slice a ks.length c) ∧ w'.ownsRow w.heap.size e0 1 (.slice a ks.length c) ks.length (intVals ks)
theorem ints_mk {ks : List Int} {e0 : Nat} {w w' : World} {v : Value} (hb : Below w.heap.size w w') (h : w'.ownsRow w.heap.size e0 1 v ks.length (intVals ks)) : IntsAns ks e0 w (.returned v) w' := by
  obtain ⟨a, c, rfl⟩ := owns_slice h
  exact ⟨hb, a, c, rfl, h⟩
theorem size_alloc1 (w : World) (o : Obj) : (w.alloc o).heap.size = w.heap.size + 1 := by simp
/-- Behind a box: a list with nothing in it, and a list of one. -/
theorem own_none1 (w : World) (o : Obj) (t s : Nat) : ((w.alloc o).alloc (.cells #[] t)).ownsRow (w.heap.size + 1) t s (.slice (some ⟨w.heap.size + 1, 0, none⟩) 0 0) 0 [] := by
  have h := World.ownsRow_made (e := t) (size := s) (base := w.heap.size + 1) (w.alloc o) #[] 0 (by simp) (Nat.zero_le _) (by simp)
  rw [size_alloc1] at h
  exact h
theorem cell_one_new1 (w : World) (o : Obj) (x : Value) (t : TypeId) : ∀ j u, [x][j]? = some u → ((w.alloc o).alloc (.cells #[x] t)).cell? ((⟨w.heap.size + 1, 0, none⟩ : Addr).add j) = some u := by
  have h := cell_one_new (w.alloc o) x t
  rw [size_alloc1] at h
  exact h
/-- The marks from k on. -/
def marksI (k n : Nat) : List Int := (List.range n).map fun i => ((k + i : Nat) : Int)
theorem marksI_len (k n : Nat) : (marksI k n).length = n := by simp [marksI]
theorem marksI_at {k n j : Nat} (h : j < n) : (marksI k n)[j]? = some ((k + j : Nat) : Int) := by simp [marksI, h]
/-- What was made later lies in another place. -/
theorem own_later {w1 w2 : World} {b1 b2 e1 e2 s1 s2 n1 n2 : Nat} {v1 v2 : Value} {xs ys : List Value} (h1 : w1.ownsRow b1 e1 s1 v1 n1 xs) (hb : w1.heap.size ≤ b2) (h2 : w2.ownsRow b2 e2 s2 v2 n2 ys) : v2.ownBlock = none ∨ v2.ownBlock ≠ v1.ownBlock := by
  cases hv : v2.ownBlock with
  | none => exact Or.inl rfl
  | some g =>
    right
    intro he
    have := (h2.lt g hv).1
    have := (h1.lt g he.symm).2
    omega
theorem own_before {w1 w2 : World} {b1 b2 e1 e2 s1 s2 n1 n2 : Nat} {v1 v2 : Value} {xs ys : List Value} (h1 : w1.ownsRow b1 e1 s1 v1 n1 xs) (hb : w1.heap.size ≤ b2) (h2 : w2.ownsRow b2 e2 s2 v2 n2 ys) : v1.ownBlock = none ∨ v1.ownBlock ≠ v2.ownBlock := by
  cases hv : v1.ownBlock with
  | none => exact Or.inl rfl
  | some g =>
    right
    intro he
    have := (h1.lt g hv).2
    have := (h2.lt g he.symm).1
    omega
end Go.Proofs.YtghfpcjgionbaaaGreat
/- Rows of other types lie apart. -/
namespace Go.Proofs.YtghfpcjgionbaaaGreat
open Go.RowKit

/-- What lies in blocks of other types lies apart. -/
theorem types_apart {w : World} {B1 B2 e1 e2 s1 s2 n1 n2 : Nat} {v1 v2 : Value} {xs ys : List Value} (h1 : w.ownsRow B1 e1 s1 v1 n1 xs) (h2 : w.ownsRow B2 e2 s2 v2 n2 ys) (hne : e1 ≠ e2) : v1.ownBlock = none ∨ v1.ownBlock ≠ v2.ownBlock := by
  rcases h1.2 with ⟨rfl, _⟩ | ⟨g, cap, cur, rfl, _, hg, _⟩
  · exact .inl rfl
  · right
    rcases h2.2 with ⟨rfl, _⟩ | ⟨g', cap', cur', rfl, _, hg', _⟩
    · intro e
      cases e
    · intro e
      have e' : g = g' := by injection e
      subst e'
      rw [hg] at hg'
      cases hg'
      exact hne rfl
end Go.Proofs.YtghfpcjgionbaaaGreat
/- What spec.Compare answers. -/
namespace Go.Proofs.YtghfpcjgionbaaaGreat
open Go.RowKit

def cmp1 (x y : Int) : Int := if x < y then -1 else if y < x then 1 else 0
/-- Which list is ahead. -/
def cmpL : List Int → List Int → Int
  | [], [] => 0
  | [], _ :: _ => -1
  | _ :: _, [] => 1
  | a :: us, b :: bs => if a < b then -1 else if b < a then 1 else cmpL us bs
theorem cmp_lt {us bs : List Int} {k : Nat} {x y : Int} (hx : us[k]? = some x) (hy : bs[k]? = some y) (h : x < y) : cmpL (us.drop k) (bs.drop k) = -1 := by
  have h1 := (List.getElem?_eq_some_iff.1 hx)
  have h2 := (List.getElem?_eq_some_iff.1 hy)
  rw [List.drop_eq_getElem_cons h1.1, List.drop_eq_getElem_cons h2.1, cmpL, h1.2, h2.2, if_pos h]
theorem cmp_gt {us bs : List Int} {k : Nat} {x y : Int} (hx : us[k]? = some x) (hy : bs[k]? = some y) (h : y < x) : cmpL (us.drop k) (bs.drop k) = 1 := by
  have h1 := (List.getElem?_eq_some_iff.1 hx)
  have h2 := (List.getElem?_eq_some_iff.1 hy)
  rw [List.drop_eq_getElem_cons h1.1, List.drop_eq_getElem_cons h2.1, cmpL, h1.2, h2.2, if_neg (by omega), if_pos h]
theorem cmp_eq {us bs : List Int} {k : Nat} {x y : Int} (hx : us[k]? = some x) (hy : bs[k]? = some y) (h1 : ¬ x < y) (h2 : ¬ y < x) : cmpL (us.drop k) (bs.drop k) = cmpL (us.drop (k + 1)) (bs.drop (k + 1)) := by
  have e1 := (List.getElem?_eq_some_iff.1 hx)
  have e2 := (List.getElem?_eq_some_iff.1 hy)
  rw [List.drop_eq_getElem_cons e1.1, List.drop_eq_getElem_cons e2.1, cmpL, e1.2, e2.2, if_neg h1, if_neg h2]
theorem cmp_end {us bs : List Int} {k : Nat} (h : us.length ≤ k) (h2 : bs.length ≤ k) : cmpL (us.drop k) (bs.drop k) = 0 := by
  rw [List.drop_of_length_le h, List.drop_of_length_le h2, cmpL]
theorem cmp_short {us bs : List Int} {k : Nat} (h : us.length ≤ k) (h2 : k < bs.length) : cmpL (us.drop k) (bs.drop k) = -1 := by
  rw [List.drop_of_length_le h, List.drop_eq_getElem_cons h2, cmpL]
theorem cmp_long {us bs : List Int} {k : Nat} (h : k < us.length) (h2 : bs.length ≤ k) : cmpL (us.drop k) (bs.drop k) = 1 := by
  rw [List.drop_of_length_le h2, List.drop_eq_getElem_cons h, cmpL]
theorem cmp_back : ∀ (us bs : List Int), cmpL bs us = - cmpL us bs
  | [], [] => rfl
  | [], _ :: _ => rfl
  | _ :: _, [] => rfl
  | a :: us, b :: bs => by
    rw [cmpL, cmpL]
    by_cases h1 : a < b
    · rw [if_neg (by omega), if_pos h1, if_pos h1]; rfl
    · by_cases h2 : b < a
      · rw [if_pos h2, if_neg h1, if_pos h2]
      · rw [if_neg h2, if_neg h1, if_neg h1, if_neg h2]; exact cmp_back us bs
theorem cmp_in (us bs : List Int) : cmpL us bs = -1 ∨ cmpL us bs = 0 ∨ cmpL us bs = 1 := by
  induction us generalizing bs with
  | nil => cases bs <;> simp [cmpL]
  | cons a us ih =>
    cases bs with
    | nil => simp [cmpL]
    | cons b bs =>
      rw [cmpL]
      split
      · exact .inl rfl
      · split
        · exact .inr (.inr rfl)
        · exact ih bs

set_option maxHeartbeats 4000000 in
theorem sCmp_any (a1 a2 : Option Addr) (c1 c2 : Nat) (us bs : List Int) (w : World) (hm0 : us.length ≤ 1048576) (hn0 : bs.length ≤ 1048576) (h1 : KidsAt w a1 us) (h2 : KidsAt w a2 bs) :
    Calls Tryz.prog 31 #[.slice a1 us.length c1, .slice a2 bs.length c2] w fun e w' => e = .returned (.int .i64 (cmpL us bs)) ∧ Below w.heap.size w w' := by
  unfold KidsAt at h1 h2
  obtain ⟨n, hn⟩ : ∃ n, n = us.length := ⟨_, rfl⟩
  obtain ⟨m, hm⟩ : ∃ m, m = bs.length := ⟨_, rfl⟩
  rw [← hn] at h1 hm0 ⊢
  rw [← hm] at h2 hn0 ⊢
  have HN := hidOf hn
  have HM := hidOf hm
  clear hn hm
  go_enter Tryz.func31, Tryz.ntmps31
  go_wp2
  go_loopw [5] (fun i wr => ∃ k q : Nat, k ≤ n ∧ k ≤ m ∧ i = .int .i64 k ∧ wr = w.drewN q ∧ Hid (cmpL (us.drop k) (bs.drop k) = cmpL us bs)) (fun i _ => n - (intOf i).toNat)
  case atStart => exact ⟨0, 0, Nat.zero_le _, Nat.zero_le _, rfl, rfl, hidOf rfl⟩
  case round =>
    obtain ⟨k, q, hk, hk2, rfl, rfl, HC⟩ := hrel
    have hA : (0 : Int) ≤ (k : Int) := by omega
    by_cases hlt : k < n
    · have hB : (k : Int) < (n : Int) := by omega
      by_cases hlt2 : k < m
      · have hB2 : (k : Int) < (m : Int) := by omega
        obtain ⟨x, ex⟩ : ∃ x, us[k]? = some x := ⟨_, List.getElem?_eq_getElem (by rw [← HN.out]; exact hlt)⟩
        obtain ⟨y, ey⟩ : ∃ y, bs[k]? = some y := ⟨_, List.getElem?_eq_getElem (by rw [← HM.out]; exact hlt2)⟩
        obtain ⟨b1, o1, rfl, hb1, hc1⟩ := h1 (by omega)
        obtain ⟨b2, o2, rfl, hb2, hc2⟩ := h2 (by omega)
        have p1 := hc1 k x ex
        have p2 := hc2 k y ey
        have EX := hidOf ex
        have EY := hidOf ey
        clear ex ey hc1 hc2 h1 h2
        by_cases g1 : x < y
        · have d1 : decide (x < y) = true := by simp [g1]
          have G := hidOf g1
          clear g1
          go_wp2
          go_quiet (fail)
          go_wp2
          go_ret
          exact ⟨ret_int (by rw [← HC.out, cmp_lt EX.out EY.out G.out]), bel_drewN (below_drewN _ _) _⟩
        · have d1 : decide (x < y) = false := by simp [g1]
          by_cases g2 : y < x
          · have d2 : decide (x > y) = true := by simpa using g2
            have G := hidOf g2
            clear g1 g2
            go_wp2
            go_quiet (fail)
            go_wp2
            go_quiet (fail)
            go_wp2
            go_ret
            exact ⟨ret_int (by rw [← HC.out, cmp_gt EX.out EY.out G.out]), bel_drewN (bel_drewN (below_drewN _ _) _) _⟩
          · have d2 : decide (x > y) = false := by simpa using g2
            have G1 := hidOf g1
            have G2 := hidOf g2
            clear g1 g2
            go_wp2
            go_quiet (fail)
            go_wp2
            go_quiet (fail)
            go_wp2
            go_roundw
            case rel => exact ⟨k + 1, _, by omega, by omega, by go_num, rfl, hidOf (by rw [← HC.out, cmp_eq EX.out EY.out (by have := G1.out; omega) (by have := G2.out; omega)])⟩
            case measure => simp [intOf]; omega
      · clear h1 h2
        have hlm : ¬ (n : Int) < (m : Int) := by omega
        have hlm2 : (n : Int) > (m : Int) := by omega
        go_wp2
        go_ret
        exact ⟨ret_int (by rw [← HC.out, cmp_long (by rw [← HN.out]; exact hlt) (by rw [← HM.out]; omega)]), below_drewN _ _⟩
    · clear h1 h2
      by_cases hlt2 : n < m
      · have hlm : (n : Int) < (m : Int) := by omega
        go_wp2
        go_ret
        exact ⟨ret_int (by rw [← HC.out, cmp_short (by rw [← HN.out]; omega) (by rw [← HM.out]; omega)]), below_drewN _ _⟩
      · have hlm : ¬ (n : Int) < (m : Int) := by omega
        have hlm2 : ¬ (n : Int) > (m : Int) := by omega
        go_wp2
        go_ret
        exact ⟨ret_int (by rw [← HC.out, cmp_end (by rw [← HN.out]; omega) (by rw [← HM.out]; omega)]), below_drewN _ _⟩
end Go.Proofs.YtghfpcjgionbaaaGreat
/- Heaps as plain lists: what is less than what, two that change places, how one goes up and how one goes down. -/
namespace Go.Proofs.YtghfpcjgionbaaaGreat

section
variable {α : Type} (lt : α → α → Bool)

/-- Whether the one at i is there and less than the one at j. -/
def ltAt (xs : List α) (i j : Nat) : Bool := match xs[i]?, xs[j]? with
  | some x, some y => lt x y
  | _, _ => false
/-- The ones at i and j in each other's places. -/
def swp (xs : List α) (i j : Nat) : List α := match xs[i]?, xs[j]? with
  | some x, some y => (xs.set i y).set j x
  | _, _ => xs
/-- The place above. -/
def par (i : Nat) : Nat := (i + 1) / 2 - 1
def upF : Nat → List α → Nat → List α
  | 0, xs, _ => xs
  | f + 1, xs, i => if (decide (0 < i) && ltAt lt xs i (par i)) = true then upF f (swp xs i (par i)) (par i) else xs
/-- The one at i goes up as long as it is less than the one above it. -/
def up (xs : List α) (i : Nat) : List α := upF lt i xs i
/-- The place of the lesser one of the two below. -/
def low (xs : List α) (i : Nat) : Nat := if ltAt lt xs (2 * i + 2) (2 * i + 1) = true then 2 * i + 2 else 2 * i + 1
def dnF : Nat → List α → Nat → List α
  | 0, xs, _ => xs
  | f + 1, xs, i => if ltAt lt xs (low lt xs i) i = true then dnF f (swp xs i (low lt xs i)) (low lt xs i) else xs
/-- The one at i goes down as long as the lesser one below it is less. -/
def dn (xs : List α) (i : Nat) : List α := dnF lt (xs.length - i) xs i
/-- One more, which goes up. -/
def pushL (xs : List α) (x : α) : List α := up lt (xs ++ [x]) xs.length
/-- The list without its first, the last one in its place. -/
def cutL (xs : List α) : List α := match xs[xs.length - 1]? with
  | some y => (xs.set 0 y).take (xs.length - 1)
  | none => []
/-- The same, as a heap. -/
def restL (xs : List α) : List α := dn lt (cutL xs) 0
/-- No one is less than the one above it. -/
def heapB (xs : List α) : Bool := (List.range xs.length).all fun i => !(decide (0 < i) && ltAt lt xs i (par i))

variable {lt}
theorem ltAt_of {xs : List α} {i j : Nat} {x y : α} (hx : xs[i]? = some x) (hy : xs[j]? = some y) : ltAt lt xs i j = lt x y := by
  unfold ltAt
  rw [hx, hy]
theorem ltAt_out {xs : List α} {i j : Nat} (h : xs.length ≤ i) : ltAt lt xs i j = false := by
  unfold ltAt
  rw [List.getElem?_eq_none h]
theorem ltAt_in {xs : List α} {i j : Nat} (h : ltAt lt xs i j = true) : i < xs.length ∧ j < xs.length := by
  unfold ltAt at h
  split at h
  · rename_i x y hx hy
    exact ⟨(List.getElem?_eq_some_iff.1 hx).1, (List.getElem?_eq_some_iff.1 hy).1⟩
  · cases h
theorem swp_len (xs : List α) (i j : Nat) : (swp xs i j).length = xs.length := by
  unfold swp
  split <;> simp
theorem swp_of {xs : List α} {i j : Nat} {x y : α} (hx : xs[i]? = some x) (hy : xs[j]? = some y) : swp xs i j = (xs.set i y).set j x := by
  unfold swp
  rw [hx, hy]
theorem swp_i {xs : List α} {i j : Nat} (hi : i < xs.length) (hj : j < xs.length) (hne : i ≠ j) : (swp xs i j)[i]? = xs[j]? := by
  rw [swp_of (List.getElem?_eq_getElem hi) (List.getElem?_eq_getElem hj), List.getElem?_set_ne (Ne.symm hne), List.getElem?_set_self hi, List.getElem?_eq_getElem hj]
theorem swp_j {xs : List α} {i j : Nat} (hi : i < xs.length) (hj : j < xs.length) : (swp xs i j)[j]? = xs[i]? := by
  rw [swp_of (List.getElem?_eq_getElem hi) (List.getElem?_eq_getElem hj), List.getElem?_set_self (by simpa using hj), List.getElem?_eq_getElem hi]
theorem swp_k {xs : List α} {i j k : Nat} (h1 : k ≠ i) (h2 : k ≠ j) : (swp xs i j)[k]? = xs[k]? := by
  unfold swp
  split
  · rw [List.getElem?_set_ne (Ne.symm h2), List.getElem?_set_ne (Ne.symm h1)]
  · rfl
/-- Which one stands at k when i and j have changed places. -/
def sw (i j k : Nat) : Nat := if k = i then j else if k = j then i else k
theorem swp_at {xs : List α} {i j : Nat} (hi : i < xs.length) (hj : j < xs.length) (hne : i ≠ j) (k : Nat) : (swp xs i j)[k]? = xs[sw i j k]? := by
  unfold sw
  split
  · rename_i e
    rw [e, swp_i hi hj hne]
  · split
    · rename_i e
      rw [e, swp_j hi hj]
    · exact swp_k (by assumption) (by assumption)
theorem sw_inj {i j k l : Nat} (hne : i ≠ j) (h : k ≠ l) : sw i j k ≠ sw i j l := by
  unfold sw
  split <;> split <;> (try split) <;> (try split) <;> omega
theorem swp_mem {xs : List α} {i j : Nat} {x : α} (h : x ∈ swp xs i j) : x ∈ xs := by
  unfold swp at h
  split at h
  · rename_i a b ha hb
    rcases List.mem_or_eq_of_mem_set h with h | rfl
    · rcases List.mem_or_eq_of_mem_set h with h | rfl
      · exact h
      · exact List.mem_of_getElem? hb
    · exact List.mem_of_getElem? ha
  · exact h
theorem par_lt {i : Nat} (h : 0 < i) : par i < i := by unfold par; omega
theorem par_int (i : Nat) (h : 0 < i) : ((par i : Nat) : Int) = ((i : Int) + 1) / 2 - 1 := by unfold par; omega
theorem upF_fuel : ∀ (f g : Nat) (xs : List α) (i : Nat), i ≤ f → i ≤ g → upF lt f xs i = upF lt g xs i
  | 0, 0, _, _, _, _ => rfl
  | 0, g + 1, xs, i, h, _ => by
    have : i = 0 := by omega
    subst this
    simp [upF]
  | f + 1, 0, xs, i, _, h => by
    have : i = 0 := by omega
    subst this
    simp [upF]
  | f + 1, g + 1, xs, i, hf, hg => by
    rw [upF, upF]
    split
    · rename_i h
      have h0 : 0 < i := by simp at h; exact h.1
      have := par_lt h0
      exact upF_fuel f g _ _ (by omega) (by omega)
    · rfl
theorem up_yes {xs : List α} {i : Nat} (h0 : 0 < i) (h : ltAt lt xs i (par i) = true) : up lt xs i = up lt (swp xs i (par i)) (par i) := by
  unfold up
  obtain ⟨m, rfl⟩ : ∃ m, i = m + 1 := ⟨i - 1, by omega⟩
  have := par_lt h0
  rw [upF, if_pos (by simp [h])]
  exact upF_fuel _ _ _ _ (by omega) (Nat.le_refl _)
theorem up_no {xs : List α} {i : Nat} (h : (decide (0 < i) && ltAt lt xs i (par i)) = false) : up lt xs i = xs := by
  unfold up
  cases i with
  | zero => rfl
  | succ m => rw [upF, if_neg (by rw [h]; simp)]
theorem upF_len : ∀ (f : Nat) (xs : List α) (i : Nat), (upF lt f xs i).length = xs.length
  | 0, _, _ => rfl
  | f + 1, xs, i => by
    rw [upF]
    split
    · rw [upF_len f, swp_len]
    · rfl
theorem up_len (xs : List α) (i : Nat) : (up lt xs i).length = xs.length := upF_len _ _ _
theorem pushL_len (xs : List α) (x : α) : (pushL lt xs x).length = xs.length + 1 := by unfold pushL; rw [up_len]; simp
theorem low_gt (xs : List α) (i : Nat) : i < low lt xs i := by unfold low; split <;> omega
theorem low_in (xs : List α) (i : Nat) : low lt xs i = 2 * i + 1 ∨ low lt xs i = 2 * i + 2 := by unfold low; split <;> omega
theorem low_par (xs : List α) (i : Nat) : par (low lt xs i) = i := by rcases low_in (lt := lt) xs i with h | h <;> rw [h] <;> unfold par <;> omega
theorem dnF_fuel : ∀ (f g : Nat) (xs : List α) (i : Nat), xs.length - i ≤ f → xs.length - i ≤ g → dnF lt f xs i = dnF lt g xs i
  | 0, 0, _, _, _, _ => rfl
  | 0, g + 1, xs, i, h, _ => by
    rw [dnF, dnF, if_neg]
    rw [ltAt_out (by have := low_gt (lt := lt) xs i; omega)]
    simp
  | f + 1, 0, xs, i, _, h => by
    rw [dnF, dnF, if_neg]
    rw [ltAt_out (by have := low_gt (lt := lt) xs i; omega)]
    simp
  | f + 1, g + 1, xs, i, hf, hg => by
    rw [dnF, dnF]
    split
    · have := low_gt (lt := lt) xs i
      exact dnF_fuel f g _ _ (by rw [swp_len]; omega) (by rw [swp_len]; omega)
    · rfl
theorem dn_yes {xs : List α} {i : Nat} (h : ltAt lt xs (low lt xs i) i = true) : dn lt xs i = dn lt (swp xs i (low lt xs i)) (low lt xs i) := by
  unfold dn
  have h1 := (ltAt_in h).1
  have h2 := low_gt (lt := lt) xs i
  obtain ⟨m, hm⟩ : ∃ m, xs.length - i = m + 1 := ⟨xs.length - i - 1, by omega⟩
  rw [hm, dnF, if_pos h, swp_len]
  exact dnF_fuel _ _ _ _ (by rw [swp_len]; omega) (by rw [swp_len]; exact Nat.le_refl _)
theorem dn_no {xs : List α} {i : Nat} (h : ltAt lt xs (low lt xs i) i = false) : dn lt xs i = xs := by
  unfold dn
  cases xs.length - i with
  | zero => rfl
  | succ m => rw [dnF, if_neg (by rw [h]; simp)]
theorem dnF_len : ∀ (f : Nat) (xs : List α) (i : Nat), (dnF lt f xs i).length = xs.length
  | 0, _, _ => rfl
  | f + 1, xs, i => by
    rw [dnF]
    split
    · rw [dnF_len f, swp_len]
    · rfl
theorem dn_len (xs : List α) (i : Nat) : (dn lt xs i).length = xs.length := dnF_len _ _ _
theorem cutL_len (xs : List α) : (cutL xs).length = xs.length - 1 := by
  unfold cutL
  split
  · simp
  · rename_i h
    have := List.getElem?_eq_none_iff.1 h
    simp
    omega
theorem restL_len (xs : List α) : (restL lt xs).length = xs.length - 1 := by unfold restL; rw [dn_len, cutL_len]
theorem cutL_of {xs : List α} {y : α} (h : xs[xs.length - 1]? = some y) : cutL xs = (xs.set 0 y).take (xs.length - 1) := by
  unfold cutL
  rw [h]
theorem heapB_no {xs : List α} {i : Nat} (h0 : 0 < i) (h : ltAt lt xs i (par i) = true) : heapB lt xs = false := by
  unfold heapB
  rw [List.all_eq_false]
  exact ⟨i, List.mem_range.2 (ltAt_in h).1, by simp [h0, h]⟩
theorem heapB_yes {xs : List α} (h : ∀ i, 0 < i → i < xs.length → ltAt lt xs i (par i) = false) : heapB lt xs = true := by
  unfold heapB
  rw [List.all_eq_true]
  intro i hi
  have := List.mem_range.1 hi
  by_cases h0 : 0 < i
  · rw [h i h0 this]; simp
  · simp [h0]
theorem heapB_at {xs : List α} (h : heapB lt xs = true) (i : Nat) (h0 : 0 < i) : ltAt lt xs i (par i) = false := by
  by_cases hi : i < xs.length
  · unfold heapB at h
    have := List.all_eq_true.1 h i (List.mem_range.2 hi)
    simpa [h0] using this
  · exact ltAt_out (by omega)

section
variable {β : Type} (f : β → α)
theorem ltAt_map (xs : List β) (i j : Nat) : ltAt (fun x y => lt (f x) (f y)) xs i j = ltAt lt (xs.map f) i j := by
  unfold ltAt
  rw [List.getElem?_map, List.getElem?_map]
  cases xs[i]? <;> cases xs[j]? <;> rfl
theorem swp_map (xs : List β) (i j : Nat) : (swp xs i j).map f = swp (xs.map f) i j := by
  unfold swp
  rw [List.getElem?_map, List.getElem?_map]
  cases xs[i]? <;> cases xs[j]? <;> simp [List.map_set]
theorem upF_map : ∀ (k : Nat) (xs : List β) (i : Nat), (upF (fun x y => lt (f x) (f y)) k xs i).map f = upF lt k (xs.map f) i
  | 0, _, _ => rfl
  | k + 1, xs, i => by
    rw [upF, upF, ltAt_map, ← swp_map, ← upF_map k]
    split <;> rfl
theorem up_map (xs : List β) (i : Nat) : (up (fun x y => lt (f x) (f y)) xs i).map f = up lt (xs.map f) i := upF_map f _ _ _
theorem low_map (xs : List β) (i : Nat) : low (fun x y => lt (f x) (f y)) xs i = low lt (xs.map f) i := by
  unfold low
  rw [ltAt_map]
theorem dnF_map : ∀ (k : Nat) (xs : List β) (i : Nat), (dnF (fun x y => lt (f x) (f y)) k xs i).map f = dnF lt k (xs.map f) i
  | 0, _, _ => rfl
  | k + 1, xs, i => by
    rw [dnF, dnF, ltAt_map, low_map, ← swp_map, ← dnF_map k]
    split <;> rfl
theorem dn_map (xs : List β) (i : Nat) : (dn (fun x y => lt (f x) (f y)) xs i).map f = dn lt (xs.map f) i := by
  unfold dn
  rw [dnF_map, List.length_map]
theorem cutL_map (xs : List β) : (cutL xs).map f = cutL (xs.map f) := by
  unfold cutL
  rw [List.length_map, List.getElem?_map]
  cases xs[xs.length - 1]? <;> simp [List.map_set, List.map_take]
theorem pushL_map (xs : List β) (x : β) : (pushL (fun x y => lt (f x) (f y)) xs x).map f = pushL lt (xs.map f) (f x) := by
  unfold pushL
  rw [up_map]
  simp
theorem restL_map (xs : List β) : (restL (fun x y => lt (f x) (f y)) xs).map f = restL lt (xs.map f) := by
  unfold restL
  rw [dn_map, cutL_map]
theorem heapB_map (xs : List β) : heapB (fun x y => lt (f x) (f y)) xs = heapB lt (xs.map f) := by
  unfold heapB
  rw [List.length_map]
  congr 1
  funext i
  rw [ltAt_map]
end
end
end Go.Proofs.YtghfpcjgionbaaaGreat
