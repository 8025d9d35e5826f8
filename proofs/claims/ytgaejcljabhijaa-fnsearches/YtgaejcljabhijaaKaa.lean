/- Rows of other types lie apart. -/
import Derived.Test.YtgaejcljabhijaaLib
import Derived.Test.YtgaejcljabhijaaProg
import Derived.Test.YtgaejcljabhijaaIntLib
import Derived.BigQuiet
import Derived.Deep.QuietTactic
import Derived.Test.YtgaejcljabhijaaRowLib
namespace Go.Proofs.Ytgaejcljabhijaa
open Go.RowKit

/-- What lies in blocks of other types lies apart. -/
theorem types_apart {w : World} {B1 B2 e1 e2 s1 s2 n1 n2 : Nat} {v1 v2 : Value} {xs ys : List Value} (h1 : w.ownsRow B1 e1 s1 v1 n1 xs) (h2 : w.ownsRow B2 e2 s2 v2 n2 ys) (hne : e1 ≠ e2) : v1.ownBlock = none ∨ v1.ownBlock ≠ v2.ownBlock := by
  rcases h1.2 with ⟨rfl, _⟩ | ⟨g, cap, cur, rfl, _, hg, _⟩
  · exact .inl rfl
  · right
    rcases h2.2 with ⟨rfl, _⟩ | ⟨g', cap', cur', rfl, _, hg', _⟩
    · intro e
      cases e
    · intro e
      have e' : g = g' := by injection e
      subst e'
      rw [hg] at hg'
      cases hg'
      exact hne rfl
end Go.Proofs.Ytgaejcljabhijaa
/- What spec.Compare answers. -/
namespace Go.Proofs.Ytgaejcljabhijaa
open Go.RowKit

def cmp1 (x y : Int) : Int := if x < y then -1 else if y < x then 1 else 0
/-- Which list is ahead. -/
def cmpL : List Int → List Int → Int
  | [], [] => 0
  | [], _ :: _ => -1
  | _ :: _, [] => 1
  | a :: us, b :: bs => if a < b then -1 else if b < a then 1 else cmpL us bs
theorem cmp_lt {us bs : List Int} {k : Nat} {x y : Int} (hx : us[k]? = some x) (hy : bs[k]? = some y) (h : x < y) : cmpL (us.drop k) (bs.drop k) = -1 := by
  have h1 := (List.getElem?_eq_some_iff.1 hx)
  have h2 := (List.getElem?_eq_some_iff.1 hy)
  rw [List.drop_eq_getElem_cons h1.1, List.drop_eq_getElem_cons h2.1, cmpL, h1.2, h2.2, if_pos h]
theorem cmp_gt {us bs : List Int} {k : Nat} {x y : Int} (hx : us[k]? = some x) (hy : bs[k]? = some y) (h : y < x) : cmpL (us.drop k) (bs.drop k) = 1 := by
  have h1 := (List.getElem?_eq_some_iff.1 hx)
  have h2 := (List.getElem?_eq_some_iff.1 hy)
  rw [List.drop_eq_getElem_cons h1.1, List.drop_eq_getElem_cons h2.1, cmpL, h1.2, h2.2, if_neg (by omega), if_pos h]
theorem cmp_eq {us bs : List Int} {k : Nat} {x y : Int} (hx : us[k]? = some x) (hy : bs[k]? = some y) (h1 : ¬ x < y) (h2 : ¬ y < x) : cmpL (us.drop k) (bs.drop k) = cmpL (us.drop (k + 1)) (bs.drop (k + 1)) := by
  have e1 := (List.getElem?_eq_some_iff.1 hx)
  have e2 := (List.getElem?_eq_some_iff.1 hy)
  rw [List.drop_eq_getElem_cons e1.1, List.drop_eq_getElem_cons e2.1, cmpL, e1.2, e2.2, if_neg h1, if_neg h2]
theorem cmp_end {us bs : List Int} {k : Nat} (h : us.length ≤ k) (h2 : bs.length ≤ k) : cmpL (us.drop k) (bs.drop k) = 0 := by
  rw [List.drop_of_length_le h, List.drop_of_length_le h2, cmpL]
theorem cmp_short {us bs : List Int} {k : Nat} (h : us.length ≤ k) (h2 : k < bs.length) : cmpL (us.drop k) (bs.drop k) = -1 := by
  rw [List.drop_of_length_le h, List.drop_eq_getElem_cons h2, cmpL]
theorem cmp_long {us bs : List Int} {k : Nat} (h : k < us.length) (h2 : bs.length ≤ k) : cmpL (us.drop k) (bs.drop k) = 1 := by
  rw [List.drop_of_length_le h2, List.drop_eq_getElem_cons h, cmpL]
theorem cmp_back : ∀ (us bs : List Int), cmpL bs us = - cmpL us bs
  | [], [] => rfl
  | [], _ :: _ => rfl
  | _ :: _, [] => rfl
  | a :: us, b :: bs => by
    rw [cmpL, cmpL]
    by_cases h1 : a < b
    · rw [if_neg (by omega), if_pos h1, if_pos h1]; rfl
    · by_cases h2 : b < a
      · rw [if_pos h2, if_neg h1, if_pos h2]
      · rw [if_neg h2, if_neg h1, if_neg h1, if_neg h2]; exact cmp_back us bs
theorem cmp_in (us bs : List Int) : cmpL us bs = -1 ∨ cmpL us bs = 0 ∨ cmpL us bs = 1 := by
  induction us generalizing bs with
  | nil => cases bs <;> simp [cmpL]
  | cons a us ih =>
    cases bs with
    | nil => simp [cmpL]
    | cons b bs =>
      rw [cmpL]
      split
      · exact .inl rfl
      · split
        · exact .inr (.inr rfl)
        · exact ih bs

set_option maxHeartbeats 4000000 in
theorem sCmp_any (a1 a2 : Option Addr) (c1 c2 : Nat) (us bs : List Int) (w : World) (hm0 : us.length ≤ 1048576) (hn0 : bs.length ≤ 1048576) (h1 : KidsAt w a1 us) (h2 : KidsAt w a2 bs) :
    Calls Try.prog 45 #[.slice a1 us.length c1, .slice a2 bs.length c2] w fun e w' => e = .returned (.int .i64 (cmpL us bs)) ∧ Below w.heap.size w w' := by
  unfold KidsAt at h1 h2
  obtain ⟨n, hn⟩ : ∃ n, n = us.length := ⟨_, rfl⟩
  obtain ⟨m, hm⟩ : ∃ m, m = bs.length := ⟨_, rfl⟩
  rw [← hn] at h1 hm0 ⊢
  rw [← hm] at h2 hn0 ⊢
  have HN := hidOf hn
  have HM := hidOf hm
  clear hn hm
  go_enter Try.func45, Try.ntmps45
  go_wp2
  go_loopw [5] (fun i wr => ∃ k q : Nat, k ≤ n ∧ k ≤ m ∧ i = .int .i64 k ∧ wr = w.drewN q ∧ Hid (cmpL (us.drop k) (bs.drop k) = cmpL us bs)) (fun i _ => n - (intOf i).toNat)
  case atStart => exact ⟨0, 0, Nat.zero_le _, Nat.zero_le _, rfl, rfl, hidOf rfl⟩
  case round =>
    obtain ⟨k, q, hk, hk2, rfl, rfl, HC⟩ := hrel
    have hA : (0 : Int) ≤ (k : Int) := by omega
    by_cases hlt : k < n
    · have hB : (k : Int) < (n : Int) := by omega
      by_cases hlt2 : k < m
      · have hB2 : (k : Int) < (m : Int) := by omega
        obtain ⟨x, ex⟩ : ∃ x, us[k]? = some x := ⟨_, List.getElem?_eq_getElem (by rw [← HN.out]; exact hlt)⟩
        obtain ⟨y, ey⟩ : ∃ y, bs[k]? = some y := ⟨_, List.getElem?_eq_getElem (by rw [← HM.out]; exact hlt2)⟩
        obtain ⟨b1, o1, rfl, hb1, hc1⟩ := h1 (by omega)
        obtain ⟨b2, o2, rfl, hb2, hc2⟩ := h2 (by omega)
        have p1 := hc1 k x ex
        have p2 := hc2 k y ey
        have EX := hidOf ex
        have EY := hidOf ey
        clear ex ey hc1 hc2 h1 h2
        by_cases g1 : x < y
        · have d1 : decide (x < y) = true := by simp [g1]
          have G := hidOf g1
          clear g1
          go_wp2
          go_quiet (fail)
          go_wp2
          go_ret
          exact ⟨ret_int (by rw [← HC.out, cmp_lt EX.out EY.out G.out]), bel_drewN (below_drewN _ _) _⟩
        · have d1 : decide (x < y) = false := by simp [g1]
          by_cases g2 : y < x
          · have d2 : decide (x > y) = true := by simpa using g2
            have G := hidOf g2
            clear g1 g2
            go_wp2
            go_quiet (fail)
            go_wp2
            go_quiet (fail)
            go_wp2
            go_ret
            exact ⟨ret_int (by rw [← HC.out, cmp_gt EX.out EY.out G.out]), bel_drewN (bel_drewN (below_drewN _ _) _) _⟩
          · have d2 : decide (x > y) = false := by simpa using g2
            have G1 := hidOf g1
            have G2 := hidOf g2
            clear g1 g2
            go_wp2
            go_quiet (fail)
            go_wp2
            go_quiet (fail)
            go_wp2
            go_roundw
            case rel => exact ⟨k + 1, _, by omega, by omega, by go_num, rfl, hidOf (by rw [← HC.out, cmp_eq EX.out EY.out (by have := G1.out; omega) (by have := G2.out; omega)])⟩
            case measure => simp [intOf]; omega
      · clear h1 h2
        have hlm : ¬ (n : Int) < (m : Int) := by omega
        have hlm2 : (n : Int) > (m : Int) := by omega
        go_wp2
        go_ret
        exact ⟨ret_int (by rw [← HC.out, cmp_long (by rw [← HN.out]; exact hlt) (by rw [← HM.out]; omega)]), below_drewN _ _⟩
    · clear h1 h2
      by_cases hlt2 : n < m
      · have hlm : (n : Int) < (m : Int) := by omega
        go_wp2
        go_ret
        exact ⟨ret_int (by rw [← HC.out, cmp_short (by rw [← HN.out]; omega) (by rw [← HM.out]; omega)]), below_drewN _ _⟩
      · have hlm : ¬ (n : Int) < (m : Int) := by omega
        have hlm2 : ¬ (n : Int) > (m : Int) := by omega
        go_wp2
        go_ret
        exact ⟨ret_int (by rw [← HC.out, cmp_end (by rw [← HN.out]; omega) (by rw [← HM.out]; omega)]), below_drewN _ _⟩
end Go.Proofs.Ytgaejcljabhijaa
/- Heaps as plain lists: what is less than what, two that change places, how one goes up and how one goes down. -/
namespace Go.Proofs.Ytgaejcljabhijaa

section
variable {α : Type} (lt : α → α → Bool)

/-- Whether the one at i is there and less than the one at j. -/
def ltAt (xs : List α) (i j : Nat) : Bool := match xs[i]?, xs[j]? with
  | some x, some y => lt x y
  | _, _ => false
/-- The ones at i and j in each other's places. -/
def swp (xs : List α) (i j : Nat) : List α := match xs[i]?, xs[j]? with
  | some x, some y => (xs.set i y).set j x
  | _, _ => xs
/-- The place above. -/
def par (i : Nat) : Nat := (i + 1) / 2 - 1
def upF : Nat → List α → Nat → List α
  | 0, xs, _ => xs
  | f + 1, xs, i => if (decide (0 < i) && ltAt lt xs i (par i)) = true then upF f (swp xs i (par i)) (par i) else xs
/-- The one at i goes up as long as it is less than the one above it. -/
def up (xs : List α) (i : Nat) : List α := upF lt i xs i
/-- The place of the lesser one of the two below. -/
def low (xs : List α) (i : Nat) : Nat := if ltAt lt xs (2 * i + 2) (2 * i + 1) = true then 2 * i + 2 else 2 * i + 1
def dnF : Nat → List α → Nat → List α
  | 0, xs, _ => xs
  | f + 1, xs, i => if ltAt lt xs (low lt xs i) i = true then dnF f (swp xs i (low lt xs i)) (low lt xs i) else xs
/-- The one at i goes down as long as the lesser one below it is less. -/
def dn (xs : List α) (i : Nat) : List α := dnF lt (xs.length - i) xs i
/-- One more, which goes up. -/
def pushL (xs : List α) (x : α) : List α := up lt (xs ++ [x]) xs.length
/-- The list without its first, the last one in its place. -/
def cutL (xs : List α) : List α := match xs[xs.length - 1]? with
  | some y => (xs.set 0 y).take (xs.length - 1)
  | none => []
/-- The same, as a heap. -/
def restL (xs : List α) : List α := dn lt (cutL xs) 0
/-- No one is less than the one above it. -/
def heapB (xs : List α) : Bool := (List.range xs.length).all fun i => !(decide (0 < i) && ltAt lt xs i (par i))

variable {lt}
theorem ltAt_of {xs : List α} {i j : Nat} {x y : α} (hx : xs[i]? = some x) (hy : xs[j]? = some y) : ltAt lt xs i j = lt x y := by
  unfold ltAt
  rw [hx, hy]
theorem ltAt_out {xs : List α} {i j : Nat} (h : xs.length ≤ i) : ltAt lt xs i j = false := by
  unfold ltAt
  rw [List.getElem?_eq_none h]
theorem ltAt_in {xs : List α} {i j : Nat} (h : ltAt lt xs i j = true) : i < xs.length ∧ j < xs.length := by
  unfold ltAt at h
  split at h
  · rename_i x y hx hy
    exact ⟨(List.getElem?_eq_some_iff.1 hx).1, (List.getElem?_eq_some_iff.1 hy).1⟩
  · cases h
theorem swp_len (xs : List α) (i j : Nat) : (swp xs i j).length = xs.length := by
  unfold swp
  split <;> simp
theorem swp_of {xs : List α} {i j : Nat} {x y : α} (hx : xs[i]? = some x) (hy : xs[j]? = some y) : swp xs i j = (xs.set i y).set j x := by
  unfold swp
  rw [hx, hy]
theorem swp_i {xs : List α} {i j : Nat} (hi : i < xs.length) (hj : j < xs.length) (hne : i ≠ j) : (swp xs i j)[i]? = xs[j]? := by
  rw [swp_of (List.getElem?_eq_getElem hi) (List.getElem?_eq_getElem hj), List.getElem?_set_ne (Ne.symm hne), List.getElem?_set_self hi, List.getElem?_eq_getElem hj]
theorem swp_j {xs : List α} {i j : Nat} (hi : i < xs.length) (hj : j < xs.length) : (swp xs i j)[j]? = xs[i]? := by
  rw [swp_of (List.getElem?_eq_getElem hi) (List.getElem?_eq_getElem hj), List.getElem?_set_self (by simpa using hj), List.getElem?_eq_getElem hi]
theorem swp_k {xs : List α} {i j k : Nat} (h1 : k ≠ i) (h2 : k ≠ j) : (swp xs i j)[k]? = xs[k]? := by
  unfold swp
  split
  · rw [List.getElem?_set_ne (Ne.symm h2), List.getElem?_set_ne (Ne.symm h1)]
  · rfl
/-- Which one stands at k when i and j have changed places. -/
def sw (i j k : Nat) : Nat := if k = i then j else if k = j then i else k
theorem swp_at {xs : List α} {i j : Nat} (hi : i < xs.length) (hj : j < xs.length) (hne : i ≠ j) (k : Nat) : (swp xs i j)[k]? = xs[sw i j k]? := by
  unfold sw
  split
  · rename_i e
    rw [e, swp_i hi hj hne]
  · split
    · rename_i e
      rw [e, swp_j hi hj]
    · exact swp_k (by assumption) (by assumption)
theorem sw_inj {i j k l : Nat} (hne : i ≠ j) (h : k ≠ l) : sw i j k ≠ sw i j l := by
  unfold sw
  split <;> split <;> (try split) <;> (try split) <;> omega
theorem swp_mem {xs : List α} {i j : Nat} {x : α} (h : x ∈ swp xs i j) : x ∈ xs := by
  unfold swp at h
  split at h
  · rename_i a b ha hb
    rcases List.mem_or_eq_of_mem_set h with h | rfl
    · rcases List.mem_or_eq_of_mem_set h with h | rfl
      · exact h
      · exact List.mem_of_getElem? hb
    · exact List.mem_of_getElem? ha
  · exact h
theorem par_lt {i : Nat} (h : 0 < i) : par i < i := by unfold par; omega
theorem par_int (i : Nat) (h : 0 < i) : ((par i : Nat) : Int) = ((i : Int) + 1) / 2 - 1 := by unfold par; omega
theorem upF_fuel : ∀ (f g : Nat) (xs : List α) (i : Nat), i ≤ f → i ≤ g → upF lt f xs i = upF lt g xs i
  | 0, 0, _, _, _, _ => rfl
  | 0, g + 1, xs, i, h, _ => by
    have : i = 0 := by omega
    subst this
    simp [upF]
  | f + 1, 0, xs, i, _, h => by
    have : i = 0 := by omega
    subst this
    simp [upF]
  | f + 1, g + 1, xs, i, hf, hg => by
    rw [upF, upF]
    split
    · rename_i h
      have h0 : 0 < i := by simp at h; exact h.1
      have := par_lt h0
      exact upF_fuel f g _ _ (by omega) (by omega)
    · rfl
theorem up_yes {xs : List α} {i : Nat} (h0 : 0 < i) (h : ltAt lt xs i (par i) = true) : up lt xs i = up lt (swp xs i (par i)) (par i) := by
  unfold up
  obtain ⟨m, rfl⟩ : ∃ m, i = m + 1 := ⟨i - 1, by omega⟩
  have := par_lt h0
  rw [upF, if_pos (by simp [h])]
  exact upF_fuel _ _ _ _ (by omega) (Nat.le_refl _)
theorem up_no {xs : List α} {i : Nat} (h : (decide (0 < i) && ltAt lt xs i (par i)) = false) : up lt xs i = xs := by
  unfold up
  cases i with
  | zero => rfl
  | succ m => rw [upF, if_neg (by rw [h]; simp)]
theorem upF_len : ∀ (f : Nat) (xs : List α) (i : Nat), (upF lt f xs i).length = xs.length
  | 0, _, _ => rfl
  | f + 1, xs, i => by
    rw [upF]
    split
    · rw [upF_len f, swp_len]
    · rfl
theorem up_len (xs : List α) (i : Nat) : (up lt xs i).length = xs.length := upF_len _ _ _
theorem pushL_len (xs : List α) (x : α) : (pushL lt xs x).length = xs.length + 1 := by unfold pushL; rw [up_len]; simp
theorem low_gt (xs : List α) (i : Nat) : i < low lt xs i := by unfold low; split <;> omega
theorem low_in (xs : List α) (i : Nat) : low lt xs i = 2 * i + 1 ∨ low lt xs i = 2 * i + 2 := by unfold low; split <;> omega
theorem low_par (xs : List α) (i : Nat) : par (low lt xs i) = i := by rcases low_in (lt := lt) xs i with h | h <;> rw [h] <;> unfold par <;> omega
theorem dnF_fuel : ∀ (f g : Nat) (xs : List α) (i : Nat), xs.length - i ≤ f → xs.length - i ≤ g → dnF lt f xs i = dnF lt g xs i
  | 0, 0, _, _, _, _ => rfl
  | 0, g + 1, xs, i, h, _ => by
    rw [dnF, dnF, if_neg]
    rw [ltAt_out (by have := low_gt (lt := lt) xs i; omega)]
    simp
  | f + 1, 0, xs, i, _, h => by
    rw [dnF, dnF, if_neg]
    rw [ltAt_out (by have := low_gt (lt := lt) xs i; omega)]
    simp
  | f + 1, g + 1, xs, i, hf, hg => by
    rw [dnF, dnF]
    split
    · have := low_gt (lt := lt) xs i
      exact dnF_fuel f g _ _ (by rw [swp_len]; omega) (by rw [swp_len]; omega)
    · rfl
theorem dn_yes {xs : List α} {i : Nat} (h : ltAt lt xs (low lt xs i) i = true) : dn lt xs i = dn lt (swp xs i (low lt xs i)) (low lt xs i) := by
  unfold dn
  have h1 := (ltAt_in h).1
  have h2 := low_gt (lt := lt) xs i
  obtain ⟨m, hm⟩ : ∃ m, xs.length - i = m + 1 := ⟨xs.length - i - 1, by omega⟩
  rw [hm, dnF, if_pos h, swp_len]
  exact dnF_fuel _ _ _ _ (by rw [swp_len]; omega) (by rw [swp_len]; exact Nat.le_refl _)
theorem dn_no {xs : List α} {i : Nat} (h : ltAt lt xs (low lt xs i) i = false) : dn lt xs i = xs := by
  unfold dn
  cases xs.length - i with
  | zero => rfl
  | succ m => rw [dnF, if_neg (by rw [h]; simp)]
theorem dnF_len : ∀ (f : Nat) (xs : List α) (i : Nat), (dnF lt f xs i).length = xs.length
  | 0, _, _ => rfl
  | f + 1, xs, i => by
    rw [dnF]
    split
    · rw [dnF_len f, swp_len]
    · rfl
theorem dn_len (xs : List α) (i : Nat) : (dn lt xs i).length = xs.length := dnF_len _ _ _
theorem cutL_len (xs : List α) : (cutL xs).length = xs.length - 1 := by
  unfold cutL
  split
  · simp
  · rename_i h
    have := List.getElem?_eq_none_iff.1 h
    simp
    omega
theorem restL_len (xs : List α) : (restL lt xs).length = xs.length - 1 := by unfold restL; rw [dn_len, cutL_len]
theorem cutL_of {xs : List α} {y : α} (h : xs[xs.length - 1]? = some y) : cutL xs = (xs.set 0 y).take (xs.length - 1) := by
  unfold cutL
  rw [h]
theorem heapB_no {xs : List α} {i : Nat} (h0 : 0 < i) (h : ltAt lt xs i (par i) = true) : heapB lt xs = false := by
  unfold heapB
  rw [List.all_eq_false]
  exact ⟨i, List.mem_range.2 (ltAt_in h).1, by simp [h0, h]⟩
theorem heapB_yes {xs : List α} (h : ∀ i, 0 < i → i < xs.length → ltAt lt xs i (par i) = false) : heapB lt xs = true := by
  unfold heapB
  rw [List.all_eq_true]
  intro i hi
  have := List.mem_range.1 hi
  by_cases h0 : 0 < i
  · rw [h i h0 this]; simp
  · simp [h0]
theorem heapB_at {xs : List α} (h : heapB lt xs = true) (i : Nat) (h0 : 0 < i) : ltAt lt xs i (par i) = false := by
  by_cases hi : i < xs.length
  · unfold heapB at h
    have := List.all_eq_true.1 h i (List.mem_range.2 hi)
    simpa [h0] using this
  · exact ltAt_out (by omega)

section
variable {β : Type} (f : β → α)
theorem ltAt_map (xs : List β) (i j : Nat) : ltAt (fun x y => lt (f x) (f y)) xs i j = ltAt lt (xs.map f) i j := by
  unfold ltAt
  rw [List.getElem?_map, List.getElem?_map]
  cases xs[i]? <;> cases xs[j]? <;> rfl
theorem swp_map (xs : List β) (i j : Nat) : (swp xs i j).map f = swp (xs.map f) i j := by
  unfold swp
  rw [List.getElem?_map, List.getElem?_map]
  cases xs[i]? <;> cases xs[j]? <;> simp [List.map_set]
theorem upF_map : ∀ (k : Nat) (xs : List β) (i : Nat), (upF (fun x y => lt (f x) (f y)) k xs i).map f = upF lt k (xs.map f) i
  | 0, _, _ => rfl
  | k + 1, xs, i => by
    rw [upF, upF, ltAt_map, ← swp_map, ← upF_map k]
    split <;> rfl
theorem up_map (xs : List β) (i : Nat) : (up (fun x y => lt (f x) (f y)) xs i).map f = up lt (xs.map f) i := upF_map f _ _ _
theorem low_map (xs : List β) (i : Nat) : low (fun x y => lt (f x) (f y)) xs i = low lt (xs.map f) i := by
  unfold low
  rw [ltAt_map]
theorem dnF_map : ∀ (k : Nat) (xs : List β) (i : Nat), (dnF (fun x y => lt (f x) (f y)) k xs i).map f = dnF lt k (xs.map f) i
  | 0, _, _ => rfl
  | k + 1, xs, i => by
    rw [dnF, dnF, ltAt_map, low_map, ← swp_map, ← dnF_map k]
    split <;> rfl
theorem dn_map (xs : List β) (i : Nat) : (dn (fun x y => lt (f x) (f y)) xs i).map f = dn lt (xs.map f) i := by
  unfold dn
  rw [dnF_map, List.length_map]
theorem cutL_map (xs : List β) : (cutL xs).map f = cutL (xs.map f) := by
  unfold cutL
  rw [List.length_map, List.getElem?_map]
  cases xs[xs.length - 1]? <;> simp [List.map_set, List.map_take]
theorem pushL_map (xs : List β) (x : β) : (pushL (fun x y => lt (f x) (f y)) xs x).map f = pushL lt (xs.map f) (f x) := by
  unfold pushL
  rw [up_map]
  simp
theorem restL_map (xs : List β) : (restL (fun x y => lt (f x) (f y)) xs).map f = restL lt (xs.map f) := by
  unfold restL
  rw [dn_map, cutL_map]
theorem heapB_map (xs : List β) : heapB (fun x y => lt (f x) (f y)) xs = heapB lt (xs.map f) := by
  unfold heapB
  rw [List.length_map]
  congr 1
  funext i
  rw [ltAt_map]
end
end
end Go.Proofs.Ytgaejcljabhijaa
/- States as plain records, and lists of them in memory. -/
namespace Go.Proofs.Ytgaejcljabhijaa
open Go.RowKit

/-- A state. -/
structure St where
  vals : List Int
  sum : Int
/-- Whether one is less than another one. -/
def stLess (x y : St) : Bool := decide (x.sum < y.sum) || (decide (x.sum = y.sum) && decide (cmpL x.vals y.vals < 0))
/-- A state whose Vals lie at a place. -/
structure Sp where
  st : St
  a : Option Addr
  c : Nat
def spLess : Sp → Sp → Bool := fun p q => stLess p.st q.st
def spCells (p : Sp) : List Value := [.slice p.a p.st.vals.length p.c, .int .i64 p.st.sum]
theorem spCells_len (p : Sp) : (spCells p).length = 2 := rfl
def Sp.blk (p : Sp) : Option Nat := (Value.slice p.a p.st.vals.length p.c).ownBlock
/-- A list of states that lies in memory. -/
def StsAt (w : World) (a : Option Addr) (ps : List Sp) : Prop := RowsAt 2 spCells w a ps ∧ ∀ p ∈ ps, KidsAt w p.a p.st.vals
theorem StsAt.below {w w' : World} {a : Option Addr} {ps : List Sp} {B : Nat} (h : StsAt w a ps) (hb : Below B w w') (hB : w.heap.size ≤ B) : StsAt w' a ps := ⟨h.1.below hb hB, fun p hp => (h.2 p hp).below hb hB⟩
/-- No Vals are longer than the law looks at. -/
def Few (ps : List Sp) : Prop := ∀ p ∈ ps, p.st.vals.length ≤ 1048576
theorem Few.swp {ps : List Sp} (h : Few ps) (i j : Nat) : Few (swp ps i j) := fun p hp => h p (swp_mem hp)
/-- The two cells of a state in a row. -/
theorem sp2 {w : World} {b o : Nat} {p : Sp} (h : ∀ j, j < 2 → w.cell? ⟨b, o + j, none⟩ = (spCells p)[j]?) :
    w.cell? ⟨b, o, none⟩ = some (.slice p.a p.st.vals.length p.c) ∧ w.cell? ⟨b, o + 1, none⟩ = some (.int .i64 p.st.sum) := ⟨h 0 (by omega), h 1 (by omega)⟩
/-- A list of states in memory of its own: the list, the Vals of each, no two of them in one place. -/
structure Own (w : World) (B : Nat) (a : Option Addr) (c : Nat) (ps : List Sp) : Prop where
  row : w.ownsRow B 74 2 (.slice a ps.length c) ps.length (rowVals spCells ps)
  each : ∀ p ∈ ps, w.ownsRow B 3 1 (.slice p.a p.st.vals.length p.c) p.st.vals.length (intVals p.st.vals)
  apart : ∀ (i j : Nat) (p q : Sp), i ≠ j → ps[i]? = some p → ps[j]? = some q → ∀ g, p.blk = some g → q.blk ≠ some g
theorem Own.sts {w : World} {B : Nat} {a : Option Addr} {c : Nat} {ps : List Sp} (h : Own w B a c ps) : StsAt w a ps := ⟨RowsAt.of_own spCells_len h.row rfl, fun p hp => KidsAt.of_own (h.each p hp)⟩
theorem Own.below {w w' : World} {B : Nat} {a : Option Addr} {c : Nat} {ps : List Sp} (h : Own w B a c ps) (hb : Below w.heap.size w w') : Own w' B a c ps := ⟨owns_below h.row hb, fun p hp => owns_below (h.each p hp) hb, h.apart⟩
theorem Own.base {w : World} {B B' : Nat} {a : Option Addr} {c : Nat} {ps : List Sp} (h : Own w B a c ps) (hb : B' ≤ B) : Own w B' a c ps := ⟨ownsRow_base h.row hb, fun p hp => ownsRow_base (h.each p hp) hb, h.apart⟩
/-- The same where one row of another one has turned. -/
theorem Own.other {w w' : World} {B : Nat} {a : Option Addr} {c : Nat} {ps : List Sp} {g : Option Nat} (h : Own w B a c ps) (hg : w.grownBy w' g) (h1 : (Value.slice a ps.length c).ownBlock = none ∨ (Value.slice a ps.length c).ownBlock ≠ g) (h2 : ∀ p ∈ ps, p.blk = none ∨ p.blk ≠ g) : Own w' B a c ps :=
  ⟨h.row.kept hg h1, fun p hp => (h.each p hp).kept hg (h2 p hp), h.apart⟩
theorem rowVals_set2 : ∀ (ps : List Sp) (k : Nat) (x : Sp), k < ps.length → ((rowVals spCells ps).set (k * 2) (.slice x.a x.st.vals.length x.c)).set (k * 2 + 1) (.int .i64 x.st.sum) = rowVals spCells (ps.set k x)
  | [], k, x, h => by simp at h
  | p :: ps, 0, x, _ => by
    show ((spCells p ++ rowVals spCells ps).set 0 _).set 1 _ = spCells x ++ rowVals spCells ps
    rfl
  | p :: ps, k + 1, x, h => by
    have ih := rowVals_set2 ps k x (by simpa using h)
    show ((spCells p ++ rowVals spCells ps).set ((k + 1) * 2) _).set ((k + 1) * 2 + 1) _ = spCells p ++ rowVals spCells (ps.set k x)
    rw [← ih, show (k + 1) * 2 = k * 2 + 2 by omega]
    rfl
/-- One state in the row's place k. -/
theorem row_set {w : World} {B g c : Nat} {ps : List Sp} {k : Nat} (x : Sp) (h : w.ownsRow B 74 2 (.slice (some ⟨g, 0, none⟩) ps.length c) ps.length (rowVals spCells ps)) (hk : k < ps.length) :
    ((w.setCell ⟨g, k * 2, none⟩ (.slice x.a x.st.vals.length x.c)).setCell ⟨g, k * 2 + 1, none⟩ (.int .i64 x.st.sum)).ownsRow B 74 2 (.slice (some ⟨g, 0, none⟩) (ps.set k x).length c) (ps.set k x).length (rowVals spCells (ps.set k x)) ∧ w.grownBy ((w.setCell ⟨g, k * 2, none⟩ (.slice x.a x.st.vals.length x.c)).setCell ⟨g, k * 2 + 1, none⟩ (.int .i64 x.st.sum)) (some g) := by
  have s0 := h.stored (k * 2) (.slice x.a x.st.vals.length x.c)
  have s1 := s0.1.stored (k * 2 + 1) (.int .i64 x.st.sum)
  rw [rowVals_set2 ps k x hk] at s1
  rw [List.length_set]
  exact ⟨s1.1, grownBy_trans s0.2 s1.2⟩
/-- Two states change places. -/
theorem Own.swap {w : World} {B g c : Nat} {ps : List Sp} {i j : Nat} {x y : Sp} (h : Own w B (some ⟨g, 0, none⟩) c ps) (hx : ps[i]? = some x) (hy : ps[j]? = some y) (hne : i ≠ j) :
    Own ((((w.setCell ⟨g, i * 2, none⟩ (.slice y.a y.st.vals.length y.c)).setCell ⟨g, i * 2 + 1, none⟩ (.int .i64 y.st.sum)).setCell ⟨g, j * 2, none⟩ (.slice x.a x.st.vals.length x.c)).setCell ⟨g, j * 2 + 1, none⟩ (.int .i64 x.st.sum)) B (some ⟨g, 0, none⟩) c (swp ps i j) ∧ w.grownBy ((((w.setCell ⟨g, i * 2, none⟩ (.slice y.a y.st.vals.length y.c)).setCell ⟨g, i * 2 + 1, none⟩ (.int .i64 y.st.sum)).setCell ⟨g, j * 2, none⟩ (.slice x.a x.st.vals.length x.c)).setCell ⟨g, j * 2 + 1, none⟩ (.int .i64 x.st.sum)) (some g) := by
  have hi := (List.getElem?_eq_some_iff.1 hx).1
  have hj := (List.getElem?_eq_some_iff.1 hy).1
  have r1 := row_set y h.row hi
  have r2 := row_set x r1.1 (show j < (ps.set i y).length by simpa using hj)
  have hg := grownBy_trans r1.2 r2.2
  refine ⟨⟨?_, fun p hp => (h.each p (swp_mem hp)).kept hg (types_apart (h.each p (swp_mem hp)) h.row (by decide)), fun k l p q hkl hp hq => ?_⟩, hg⟩
  · rw [swp_of hx hy]
    exact r2.1
  · rw [swp_at hi hj hne] at hp hq
    exact h.apart _ _ p q (sw_inj hne hkl) hp hq
theorem cmp_tr : ∀ {a b c : List Int}, ¬ cmpL b a < 0 → ¬ cmpL c b < 0 → ¬ cmpL c a < 0
  | [], _, [], _, _ => by simp [cmpL]
  | [], _, _ :: _, _, _ => by simp [cmpL]
  | _ :: _, [], _, h, _ => by simp [cmpL] at h
  | _ :: _, _ :: _, [], _, h => by simp [cmpL] at h
  | x :: a, y :: b, z :: c, h1, h2 => by
    rw [cmpL] at h1 h2 ⊢
    by_cases e1 : y < x
    · rw [if_pos e1] at h1; omega
    · by_cases e2 : z < y
      · rw [if_pos e2] at h2; omega
      · rw [if_neg e1] at h1
        rw [if_neg e2] at h2
        by_cases e3 : x < z
        · rw [if_neg (by omega), if_pos e3]; omega
        · rw [if_neg (by omega), if_neg e3]
          rw [if_neg (by omega)] at h1 h2
          exact cmp_tr h1 h2
theorem stLess_as {x y : St} (h : stLess x y = true) : stLess y x = false := by
  unfold stLess at *
  simp only [Bool.or_eq_true, Bool.and_eq_true, decide_eq_true_eq, Bool.or_eq_false_iff, Bool.and_eq_false_iff, decide_eq_false_iff_not] at *
  have := cmp_back x.vals y.vals
  omega
theorem stLess_tr {x y z : St} (h1 : stLess y x = false) (h2 : stLess z y = false) : stLess z x = false := by
  unfold stLess at *
  simp only [Bool.or_eq_false_iff, Bool.and_eq_false_iff, decide_eq_false_iff_not] at *
  refine ⟨by omega, ?_⟩
  by_cases e : z.sum = x.sum
  · right
    exact cmp_tr (h1.2.resolve_left (by omega)) (h2.2.resolve_left (by omega))
  · exact .inl e
end Go.Proofs.Ytgaejcljabhijaa
/- What impl.Compare answers. -/
namespace Go.Proofs.Ytgaejcljabhijaa
open Go.RowKit

set_option maxHeartbeats 1600000 in
theorem cmpI_any (x y : Int) (w : World) : Calls Try.prog 136 #[.int .i64 x, .int .i64 y] w fun e w' => e = .returned (.int .i64 (cmp1 x y)) ∧ w' = w := by
  have hx : (x != x) = false := by simp
  have hy : (y != y) = false := by simp
  unfold cmp1
  by_cases h1 : x < y
  · rw [if_pos h1]
    go_enter Try.func136, Try.ntmps136
    go_wp2
    go_ret
    exact ⟨rfl, rfl⟩
  · by_cases h2 : y < x
    · rw [if_neg h1, if_pos h2]
      have h3 : x > y := h2
      go_enter Try.func136, Try.ntmps136
      go_wp2
      go_ret
      exact ⟨rfl, rfl⟩
    · rw [if_neg h1, if_neg h2]
      have h3 : ¬ x > y := h2
      go_enter Try.func136, Try.ntmps136
      go_wp2
      go_ret
      exact ⟨rfl, rfl⟩

set_option maxHeartbeats 4000000 in
theorem slCmp_any (a1 a2 : Option Addr) (c1 c2 : Nat) (us bs : List Int) (w : World) (hm0 : us.length ≤ 1048576) (hn0 : bs.length ≤ 1048576) (h1 : KidsAt w a1 us) (h2 : KidsAt w a2 bs) :
    Calls Try.prog 131 #[.slice a1 us.length c1, .slice a2 bs.length c2] w fun e w' => e = .returned (.int .i64 (cmpL us bs)) ∧ w' = w := by
  unfold KidsAt at h1 h2
  obtain ⟨n, hn⟩ : ∃ n, n = us.length := ⟨_, rfl⟩
  obtain ⟨m, hm⟩ : ∃ m, m = bs.length := ⟨_, rfl⟩
  rw [← hn] at h1 hm0 ⊢
  rw [← hm] at h2 hn0 ⊢
  have HN := hidOf hn
  have HM := hidOf hm
  clear hn hm
  go_enter Try.func131, Try.ntmps131
  go_wp2
  go_loop [11] (fun i => ∃ k : Nat, k ≤ n ∧ k ≤ m ∧ i = .int .i64 k ∧ Hid (cmpL (us.drop k) (bs.drop k) = cmpL us bs)) (fun i => n - (intOf i).toNat)
  case atStart => exact ⟨0, Nat.zero_le _, Nat.zero_le _, rfl, hidOf rfl⟩
  case round =>
    obtain ⟨k, hk, hk2, rfl, HC⟩ := hrel
    have hA : (0 : Int) ≤ (k : Int) := by omega
    by_cases hlt : k < n
    · have hB : (k : Int) < (n : Int) := by omega
      obtain ⟨x, ex⟩ : ∃ x, us[k]? = some x := ⟨_, List.getElem?_eq_getElem (by rw [← HN.out]; exact hlt)⟩
      obtain ⟨b1, o1, rfl, hb1, hc1⟩ := h1 (by omega)
      have p1 := hc1 k x ex
      by_cases hlt2 : k < m
      · have hB2 : (k : Int) < (m : Int) := by omega
        obtain ⟨y, ey⟩ : ∃ y, bs[k]? = some y := ⟨_, List.getElem?_eq_getElem (by rw [← HM.out]; exact hlt2)⟩
        obtain ⟨b2, o2, rfl, hb2, hc2⟩ := h2 (by omega)
        have p2 := hc2 k y ey
        have EX := hidOf ex
        have EY := hidOf ey
        clear ex ey hc1 hc2 h1 h2
        have hq := fun W => cmpI_any x y W
        by_cases g1 : x < y
        · rw [show cmp1 x y = -1 by unfold cmp1; rw [if_pos g1]] at hq
          have G := hidOf g1
          clear g1
          go_wp2_with (go_at_call 136; refine (hq _).mono ?_; rintro e w ⟨rfl, rfl⟩)
          go_ret
          exact ⟨ret_int (by rw [← HC.out, cmp_lt EX.out EY.out G.out]), rfl⟩
        · by_cases g2 : y < x
          · rw [show cmp1 x y = 1 by unfold cmp1; rw [if_neg g1, if_pos g2]] at hq
            have G := hidOf g2
            clear g1 g2
            go_wp2_with (go_at_call 136; refine (hq _).mono ?_; rintro e w ⟨rfl, rfl⟩)
            go_ret
            exact ⟨ret_int (by rw [← HC.out, cmp_gt EX.out EY.out G.out]), rfl⟩
          · rw [show cmp1 x y = 0 by unfold cmp1; rw [if_neg g1, if_neg g2]] at hq
            have G1 := hidOf g1
            have G2 := hidOf g2
            clear g1 g2
            go_wp2_with (go_at_call 136; refine (hq _).mono ?_; rintro e w ⟨rfl, rfl⟩)
            go_round
            case rel => exact ⟨k + 1, by omega, by omega, by go_num, hidOf (by rw [← HC.out, cmp_eq EX.out EY.out (by have := G1.out; omega) (by have := G2.out; omega)])⟩
            case measure => simp [intOf]; omega
      · have hB2 : (k : Int) ≥ (m : Int) := by omega
        clear ex hc1 h1 h2
        go_wp2
        go_ret
        exact ⟨ret_int (by rw [← HC.out, cmp_long (by rw [← HN.out]; exact hlt) (by rw [← HM.out]; omega)]), rfl⟩
    · clear h1 h2
      by_cases hlt2 : n < m
      · go_wp2
        go_ret
        exact ⟨ret_int (by rw [← HC.out, cmp_short (by rw [← HN.out]; omega) (by rw [← HM.out]; omega)]), rfl⟩
      · go_wp2
        go_ret
        exact ⟨ret_int (by rw [← HC.out, cmp_end (by rw [← HN.out]; omega) (by rw [← HM.out]; omega)]), rfl⟩

set_option maxHeartbeats 1600000 in
theorem iCmp_any (a1 a2 : Option Addr) (c1 c2 : Nat) (us bs : List Int) (w : World) (hm0 : us.length ≤ 1048576) (hn0 : bs.length ≤ 1048576) (h1 : KidsAt w a1 us) (h2 : KidsAt w a2 bs) :
    Calls Try.prog 122 #[.slice a1 us.length c1, .slice a2 bs.length c2] w fun e w' => e = .returned (.int .i64 (cmpL us bs)) ∧ w' = w := by
  go_enter Try.func122, Try.ntmps122
  go_wp2_with fail
  refine (slCmp_any a1 a2 c1 c2 us bs _ hm0 hn0 h1 h2).mono ?_
  rintro e w ⟨rfl, rfl⟩
  go_wp2
  go_ret
  exact ⟨rfl, rfl⟩

end Go.Proofs.Ytgaejcljabhijaa
/- What StateLess answers, on both sides. -/
namespace Go.Proofs.Ytgaejcljabhijaa
open Go.RowKit

set_option maxHeartbeats 1600000 in
theorem iSL_any (p q : Sp) (w : World) (hp : p.st.vals.length ≤ 1048576) (hq : q.st.vals.length ≤ 1048576) (k1 : KidsAt w p.a p.st.vals) (k2 : KidsAt w q.a q.st.vals) :
    Calls Try.prog 108 #[.agg #[.slice p.a p.st.vals.length p.c, .int .i64 p.st.sum], .agg #[.slice q.a q.st.vals.length q.c, .int .i64 q.st.sum]] w fun e w' => e = .returned (.bool (spLess p q)) ∧ Below w.heap.size w w' := by
  have HB : ∀ o1 o2 : Obj, Below w.heap.size w ((w.alloc o1).alloc o2) := fun o1 o2 => ((Below.refl _ _).alloc (Nat.le_refl _) _).alloc (by simp) _
  by_cases h1 : p.st.sum < q.st.sum
  · clear k1 k2
    go_enter Try.func108, Try.ntmps108
    go_wp2
    go_ret
    exact ⟨ret_bool (by simp [spLess, stLess, h1]), HB _ _⟩
  · by_cases h2 : p.st.sum = q.st.sum
    · have hE : (p.st.sum == q.st.sum) = true := by simpa using h2
      have hC : ∀ W : World, Below w.heap.size w W → Calls Try.prog 122 #[.slice p.a p.st.vals.length p.c, .slice q.a q.st.vals.length q.c] W fun e w' => e = .returned (.int .i64 (cmpL p.st.vals q.st.vals)) ∧ w' = W := fun W hW => iCmp_any p.a q.a p.c q.c p.st.vals q.st.vals W hp hq (k1.below hW (Nat.le_refl _)) (k2.below hW (Nat.le_refl _))
      have HR := hidOf (show spLess p q = decide (cmpL p.st.vals q.st.vals < 0) by simp [spLess, stLess, h2])
      have HC := hidOf hC
      have H1 := hidOf h1
      clear k1 k2 hC h2
      generalize cmpL p.st.vals q.st.vals = z at *
      by_cases h3 : z < 0
      · go_enter Try.func108, Try.ntmps108
        go_wp2_with (go_at_call 122; refine (HC.out _ (HB _ _)).mono ?_; rintro e w1 ⟨rfl, rfl⟩)
        go_ret
        exact ⟨ret_bool (by rw [HR.out]; try simpa using h3), HB _ _⟩
      · go_enter Try.func108, Try.ntmps108
        go_wp2_with (go_at_call 122; refine (HC.out _ (HB _ _)).mono ?_; rintro e w1 ⟨rfl, rfl⟩)
        go_ret
        exact ⟨ret_bool (by rw [HR.out]; try simpa using h3), HB _ _⟩
    · have hE : (p.st.sum == q.st.sum) = false := by simpa using h2
      clear k1 k2
      go_enter Try.func108, Try.ntmps108
      go_wp2
      go_ret
      exact ⟨ret_bool (by simp [spLess, stLess, h1, h2]), HB _ _⟩

set_option maxHeartbeats 1600000 in
theorem sSL_any (p q : Sp) (w : World) (hp : p.st.vals.length ≤ 1048576) (hq : q.st.vals.length ≤ 1048576) (k1 : KidsAt w p.a p.st.vals) (k2 : KidsAt w q.a q.st.vals) :
    Calls Try.prog 84 #[.agg #[.slice p.a p.st.vals.length p.c, .int .i64 p.st.sum], .agg #[.slice q.a q.st.vals.length q.c, .int .i64 q.st.sum]] w fun e w' => e = .returned (.bool (spLess p q)) ∧ Below w.heap.size w w' := by
  have HB : ∀ o1 o2 : Obj, Below w.heap.size w ((w.alloc o1).alloc o2) := fun o1 o2 => ((Below.refl _ _).alloc (Nat.le_refl _) _).alloc (by simp) _
  by_cases h1 : p.st.sum < q.st.sum
  · clear k1 k2
    go_enter Try.func84, Try.ntmps84
    go_wp2
    go_ret
    exact ⟨ret_bool (by simp [spLess, stLess, h1]), HB _ _⟩
  · by_cases h2 : p.st.sum = q.st.sum
    · have hE : (p.st.sum == q.st.sum) = true := by simpa using h2
      have hC : ∀ W : World, Below w.heap.size w W → Calls Try.prog 45 #[.slice p.a p.st.vals.length p.c, .slice q.a q.st.vals.length q.c] W fun e w' => e = .returned (.int .i64 (cmpL p.st.vals q.st.vals)) ∧ Below W.heap.size W w' := fun W hW => sCmp_any p.a q.a p.c q.c p.st.vals q.st.vals W hp hq (k1.below hW (Nat.le_refl _)) (k2.below hW (Nat.le_refl _))
      have HR := hidOf (show spLess p q = decide (cmpL p.st.vals q.st.vals < 0) by simp [spLess, stLess, h2])
      have HC := hidOf hC
      have H1 := hidOf h1
      clear k1 k2 hC h2
      generalize cmpL p.st.vals q.st.vals = z at *
      by_cases h3 : z < 0
      · go_enter Try.func84, Try.ntmps84
        go_wp2_with (go_at_call 45; refine (HC.out _ (HB _ _)).mono ?_; rintro e w1 ⟨rfl, hb1⟩)
        go_ret
        exact ⟨ret_bool (by rw [HR.out]; try simpa using h3), (HB _ _).trans (hb1.mono (HB _ _).size)⟩
      · go_enter Try.func84, Try.ntmps84
        go_wp2_with (go_at_call 45; refine (HC.out _ (HB _ _)).mono ?_; rintro e w1 ⟨rfl, hb1⟩)
        go_ret
        exact ⟨ret_bool (by rw [HR.out]; try simpa using h3), (HB _ _).trans (hb1.mono (HB _ _).size)⟩
    · have hE : (p.st.sum == q.st.sum) = false := by simpa using h2
      clear k1 k2
      go_enter Try.func84, Try.ntmps84
      go_wp2
      go_ret
      exact ⟨ret_bool (by simp [spLess, stLess, h1, h2]), HB _ _⟩
end Go.Proofs.Ytgaejcljabhijaa
