/- Heaps as plain lists: what is less than what, two that change places, how one goes up and how one goes down. -/
import Derived.Test.YtghfpcjgionbaaaLib
namespace Go.Proofs.Ytghfpcjgionbaaa

section
variable {α : Type} (lt : α → α → Bool)

/-- Whether the one at i is there and less than the one at j. -/
def ltAt (xs : List α) (i j : Nat) : Bool := match xs[i]?, xs[j]? with
  | some x, some y => lt x y
  | _, _ => false
/-- The ones at i and j in each other's places. -/
def swp (xs : List α) (i j : Nat) : List α := match xs[i]?, xs[j]? with
  | some x, some y => (xs.set i y).set j x
  | _, _ => xs
/-- The place above. -/
def par (i : Nat) : Nat := (i + 1) / 2 - 1
def upF : Nat → List α → Nat → List α
  | 0, xs, _ => xs
  | f + 1, xs, i => if (decide (0 < i) && ltAt lt xs i (par i)) = true then upF f (swp xs i (par i)) (par i) else xs
/-- The one at i goes up as long as it is less than the one above it. -/
def up (xs : List α) (i : Nat) : List α := upF lt i xs i
/-- The place of the lesser one of the two below. -/
def low (xs : List α) (i : Nat) : Nat := if ltAt lt xs (2 * i + 2) (2 * i + 1) = true then 2 * i + 2 else 2 * i + 1
def dnF : Nat → List α → Nat → List α
  | 0, xs, _ => xs
  | f + 1, xs, i => if ltAt lt xs (low lt xs i) i = true then dnF f (swp xs i (low lt xs i)) (low lt xs i) else xs
/-- The one at i goes down as long as the lesser one below it is less. -/
def dn (xs : List α) (i : Nat) : List α := dnF lt (xs.length - i) xs i
/-- One more, which goes up. -/
def pushL (xs : List α) (x : α) : List α := up lt (xs ++ [x]) xs.length
/-- The list without its first, the last one in its place. -/
def cutL (xs : List α) : List α := match xs[xs.length - 1]? with
  | some y => (xs.set 0 y).take (xs.length - 1)
  | none => []
/-- The same, as a heap. -/
def restL (xs : List α) : List α := dn lt (cutL xs) 0
/-- No one is less than the one above it. -/
def heapB (xs : List α) : Bool := (List.range xs.length).all fun i => !(decide (0 < i) && ltAt lt xs i (par i))

variable {lt}
theorem ltAt_of {xs : List α} {i j : Nat} {x y : α} (hx : xs[i]? = some x) (hy : xs[j]? = some y) : ltAt lt xs i j = lt x y := by
  unfold ltAt
  rw [hx, hy]
theorem ltAt_out {xs : List α} {i j : Nat} (h : xs.length ≤ i) : ltAt lt xs i j = false := by
  unfold ltAt
  rw [List.getElem?_eq_none h]
theorem ltAt_in {xs : List α} {i j : Nat} (h : ltAt lt xs i j = true) : i < xs.length ∧ j < xs.length := by
  unfold ltAt at h
  split at h
  · rename_i x y hx hy
    exact ⟨(List.getElem?_eq_some_iff.1 hx).1, (List.getElem?_eq_some_iff.1 hy).1⟩
  · cases h
theorem swp_len (xs : List α) (i j : Nat) : (swp xs i j).length = xs.length := by
  unfold swp
  split <;> simp
theorem swp_of {xs : List α} {i j : Nat} {x y : α} (hx : xs[i]? = some x) (hy : xs[j]? = some y) : swp xs i j = (xs.set i y).set j x := by
  unfold swp
  rw [hx, hy]
theorem swp_i {xs : List α} {i j : Nat} (hi : i < xs.length) (hj : j < xs.length) (hne : i ≠ j) : (swp xs i j)[i]? = xs[j]? := by
  rw [swp_of (List.getElem?_eq_getElem hi) (List.getElem?_eq_getElem hj), List.getElem?_set_ne (Ne.symm hne), List.getElem?_set_self hi, List.getElem?_eq_getElem hj]
theorem swp_j {xs : List α} {i j : Nat} (hi : i < xs.length) (hj : j < xs.length) : (swp xs i j)[j]? = xs[i]? := by
  rw [swp_of (List.getElem?_eq_getElem hi) (List.getElem?_eq_getElem hj), List.getElem?_set_self (by simpa using hj), List.getElem?_eq_getElem hi]
theorem swp_k {xs : List α} {i j k : Nat} (h1 : k ≠ i) (h2 : k ≠ j) : (swp xs i j)[k]? = xs[k]? := by
  unfold swp
  split
  · rw [List.getElem?_set_ne (Ne.symm h2), List.getElem?_set_ne (Ne.symm h1)]
  · rfl
/-- Which one stands at k when i and j have changed places. -/
def sw (i j k : Nat) : Nat := if k = i then j else if k = j then i else k
theorem swp_at {xs : List α} {i j : Nat} (hi : i < xs.length) (hj : j < xs.length) (hne : i ≠ j) (k : Nat) : (swp xs i j)[k]? = xs[sw i j k]? := by
  unfold sw
  split
  · rename_i e
    rw [e, swp_i hi hj hne]
  · split
    · rename_i e
      rw [e, swp_j hi hj]
    · exact swp_k (by assumption) (by assumption)
theorem sw_inj {i j k l : Nat} (hne : i ≠ j) (h : k ≠ l) : sw i j k ≠ sw i j l := by
  unfold sw
  split <;> split <;> (try split) <;> (try split) <;> omega
theorem swp_mem {xs : List α} {i j : Nat} {x : α} (h : x ∈ swp xs i j) : x ∈ xs := by
  unfold swp at h
  split at h
  · rename_i a b ha hb
    rcases List.mem_or_eq_of_mem_set h with h | rfl
    · rcases List.mem_or_eq_of_mem_set h with h | rfl
      · exact h
      · exact List.mem_of_getElem? hb
    · exact List.mem_of_getElem? ha
  · exact h
theorem par_lt {i : Nat} (h : 0 < i) : par i < i := by unfold par; omega
theorem par_int (i : Nat) (h : 0 < i) : ((par i : Nat) : Int) = ((i : Int) + 1) / 2 - 1 := by unfold par; omega
theorem upF_fuel : ∀ (f g : Nat) (xs : List α) (i : Nat), i ≤ f → i ≤ g → upF lt f xs i = upF lt g xs i
  | 0, 0, _, _, _, _ => rfl
  | 0, g + 1, xs, i, h, _ => by
    have : i = 0 := by omega
    subst this
    simp [upF]
  | f + 1, 0, xs, i, _, h => by
    have : i = 0 := by omega
    subst this
    simp [upF]
  | f + 1, g + 1, xs, i, hf, hg => by
    rw [upF, upF]
    split
    · rename_i h
      have h0 : 0 < i := by simp at h; exact h.1
      have := par_lt h0
      exact upF_fuel f g _ _ (by omega) (by omega)
    · rfl
theorem up_yes {xs : List α} {i : Nat} (h0 : 0 < i) (h : ltAt lt xs i (par i) = true) : up lt xs i = up lt (swp xs i (par i)) (par i) := by
  unfold up
  obtain ⟨m, rfl⟩ : ∃ m, i = m + 1 := ⟨i - 1, by omega⟩
  have := par_lt h0
  rw [upF, if_pos (by simp [h])]
  exact upF_fuel _ _ _ _ (by omega) (Nat.le_refl _)
theorem up_no {xs : List α} {i : Nat} (h : (decide (0 < i) && ltAt lt xs i (par i)) = false) : up lt xs i = xs := by
  unfold up
  cases i with
  | zero => rfl
  | succ m => rw [upF, if_neg (by rw [h]; simp)]
theorem upF_len : ∀ (f : Nat) (xs : List α) (i : Nat), (upF lt f xs i).length = xs.length
  | 0, _, _ => rfl
  | f + 1, xs, i => by
    rw [upF]
    split
    · rw [upF_len f, swp_len]
    · rfl
theorem up_len (xs : List α) (i : Nat) : (up lt xs i).length = xs.length := upF_len _ _ _
theorem pushL_len (xs : List α) (x : α) : (pushL lt xs x).length = xs.length + 1 := by unfold pushL; rw [up_len]; simp
theorem low_gt (xs : List α) (i : Nat) : i < low lt xs i := by unfold low; split <;> omega
theorem low_in (xs : List α) (i : Nat) : low lt xs i = 2 * i + 1 ∨ low lt xs i = 2 * i + 2 := by unfold low; split <;> omega
theorem low_par (xs : List α) (i : Nat) : par (low lt xs i) = i := by rcases low_in (lt := lt) xs i with h | h <;> rw [h] <;> unfold par <;> omega
theorem dnF_fuel : ∀ (f g : Nat) (xs : List α) (i : Nat), xs.length - i ≤ f → xs.length - i ≤ g → dnF lt f xs i = dnF lt g xs i
  | 0, 0, _, _, _, _ => rfl
  | 0, g + 1, xs, i, h, _ => by
    rw [dnF, dnF, if_neg]
    rw [ltAt_out (by have := low_gt (lt := lt) xs i; omega)]
    simp
  | f + 1, 0, xs, i, _, h => by
    rw [dnF, dnF, if_neg]
    rw [ltAt_out (by have := low_gt (lt := lt) xs i; omega)]
    simp
  | f + 1, g + 1, xs, i, hf, hg => by
    rw [dnF, dnF]
    split
    · have := low_gt (lt := lt) xs i
      exact dnF_fuel f g _ _ (by rw [swp_len]; omega) (by rw [swp_len]; omega)
    · rfl
theorem dn_yes {xs : List α} {i : Nat} (h : ltAt lt xs (low lt xs i) i = true) : dn lt xs i = dn lt (swp xs i (low lt xs i)) (low lt xs i) := by
  unfold dn
  have h1 := (ltAt_in h).1
  have h2 := low_gt (lt := lt) xs i
  obtain ⟨m, hm⟩ : ∃ m, xs.length - i = m + 1 := ⟨xs.length - i - 1, by omega⟩
  rw [hm, dnF, if_pos h, swp_len]
  exact dnF_fuel _ _ _ _ (by rw [swp_len]; omega) (by rw [swp_len]; exact Nat.le_refl _)
theorem dn_no {xs : List α} {i : Nat} (h : ltAt lt xs (low lt xs i) i = false) : dn lt xs i = xs := by
  unfold dn
  cases xs.length - i with
  | zero => rfl
  | succ m => rw [dnF, if_neg (by rw [h]; simp)]
theorem dnF_len : ∀ (f : Nat) (xs : List α) (i : Nat), (dnF lt f xs i).length = xs.length
  | 0, _, _ => rfl
  | f + 1, xs, i => by
    rw [dnF]
    split
    · rw [dnF_len f, swp_len]
    · rfl
theorem dn_len (xs : List α) (i : Nat) : (dn lt xs i).length = xs.length := dnF_len _ _ _
theorem cutL_len (xs : List α) : (cutL xs).length = xs.length - 1 := by
  unfold cutL
  split
  · simp
  · rename_i h
    have := List.getElem?_eq_none_iff.1 h
    simp
    omega
theorem restL_len (xs : List α) : (restL lt xs).length = xs.length - 1 := by unfold restL; rw [dn_len, cutL_len]
theorem cutL_of {xs : List α} {y : α} (h : xs[xs.length - 1]? = some y) : cutL xs = (xs.set 0 y).take (xs.length - 1) := by
  unfold cutL
  rw [h]
theorem heapB_no {xs : List α} {i : Nat} (h0 : 0 < i) (h : ltAt lt xs i (par i) = true) : heapB lt xs = false := by
  unfold heapB
  rw [List.all_eq_false]
  exact ⟨i, List.mem_range.2 (ltAt_in h).1, by simp [h0, h]⟩
theorem heapB_yes {xs : List α} (h : ∀ i, 0 < i → i < xs.length → ltAt lt xs i (par i) = false) : heapB lt xs = true := by
  unfold heapB
  rw [List.all_eq_true]
  intro i hi
  have := List.mem_range.1 hi
  by_cases h0 : 0 < i
  · rw [h i h0 this]; simp
  · simp [h0]
theorem heapB_at {xs : List α} (h : heapB lt xs = true) (i : Nat) (h0 : 0 < i) : ltAt lt xs i (par i) = false := by
  by_cases hi : i < xs.length
  · unfold heapB at h
    have := List.all_eq_true.1 h i (List.mem_range.2 hi)
    simpa [h0] using this
  · exact ltAt_out (by omega)

section
variable {β : Type} (f : β → α)
theorem ltAt_map (xs : List β) (i j : Nat) : ltAt (fun x y => lt (f x) (f y)) xs i j = ltAt lt (xs.map f) i j := by
  unfold ltAt
  rw [List.getElem?_map, List.getElem?_map]
  cases xs[i]? <;> cases xs[j]? <;> rfl
theorem swp_map (xs : List β) (i j : Nat) : (swp xs i j).map f = swp (xs.map f) i j := by
  unfold swp
  rw [List.getElem?_map, List.getElem?_map]
  cases xs[i]? <;> cases xs[j]? <;> simp [List.map_set]
theorem upF_map : ∀ (k : Nat) (xs : List β) (i : Nat), (upF (fun x y => lt (f x) (f y)) k xs i).map f = upF lt k (xs.map f) i
  | 0, _, _ => rfl
  | k + 1, xs, i => by
    rw [upF, upF, ltAt_map, ← swp_map, ← upF_map k]
    split <;> rfl
theorem up_map (xs : List β) (i : Nat) : (up (fun x y => lt (f x) (f y)) xs i).map f = up lt (xs.map f) i := upF_map f _ _ _
theorem low_map (xs : List β) (i : Nat) : low (fun x y => lt (f x) (f y)) xs i = low lt (xs.map f) i := by
  unfold low
  rw [ltAt_map]
theorem dnF_map : ∀ (k : Nat) (xs : List β) (i : Nat), (dnF (fun x y => lt (f x) (f y)) k xs i).map f = dnF lt k (xs.map f) i
  | 0, _, _ => rfl
  | k + 1, xs, i => by
    rw [dnF, dnF, ltAt_map, low_map, ← swp_map, ← dnF_map k]
    split <;> rfl
theorem dn_map (xs : List β) (i : Nat) : (dn (fun x y => lt (f x) (f y)) xs i).map f = dn lt (xs.map f) i := by
  unfold dn
  rw [dnF_map, List.length_map]
theorem cutL_map (xs : List β) : (cutL xs).map f = cutL (xs.map f) := by
  unfold cutL
  rw [List.length_map, List.getElem?_map]
  cases xs[xs.length - 1]? <;> simp [List.map_set, List.map_take]
theorem pushL_map (xs : List β) (x : β) : (pushL (fun x y => lt (f x) (f y)) xs x).map f = pushL lt (xs.map f) (f x) := by
  unfold pushL
  rw [up_map]
  simp
theorem restL_map (xs : List β) : (restL (fun x y => lt (f x) (f y)) xs).map f = restL lt (xs.map f) := by
  unfold restL
  rw [dn_map, cutL_map]
theorem heapB_map (xs : List β) : heapB (fun x y => lt (f x) (f y)) xs = heapB lt (xs.map f) := by
  unfold heapB
  rw [List.length_map]
  congr 1
  funext i
  rw [ltAt_map]
end
end
end Go.Proofs.Ytghfpcjgionbaaa
