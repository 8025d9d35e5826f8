/- What is so of what changed: done to what was it is what is, and back; as many lines are kept as both have in common. -/
import Derived.Test.YtdlpepmdjbmmmaaDfLib
import Derived.Test.YtdlpepmdjbmmmaaApLib
import Derived.Test.YtdlpepmdjbmmmaaKeI
namespace Go.Proofs.Ytdlpepmdjbmmmaa
open Go.RowKit

theorem sD (y : ByteArray) (ls ds : List ByteArray) : stp ⟨2, y⟩ (y :: ls) ds = some (ls, ds) := stp_two rfl rfl
theorem sA (y : ByteArray) (ls ds : List ByteArray) : stp ⟨3, y⟩ ls ds = some (ls, ds ++ [y]) := stp_three rfl
theorem sK {x y : ByteArray} (h : y = x) (ls ds : List ByteArray) : stp ⟨1, x⟩ (y :: ls) ds = some (ls, ds ++ [x]) := stp_one rfl h
theorem apl_adds : ∀ (b d : List ByteArray), aplF [] d (b.map fun y => (⟨3, y⟩ : Ed)) = some (d ++ b)
  | [], d => by rw [List.map_nil, aplF_end rfl, List.append_nil]
  | y :: b, d => by
    rw [List.map_cons, aplF_yes (sA _ _ _), apl_adds b]
    simp
theorem apl_drops : ∀ (b d : List ByteArray), aplF b d (b.map fun y => (⟨2, y⟩ : Ed)) = some d
  | [], d => by rw [List.map_nil, aplF_end rfl]
  | y :: b, d => by rw [List.map_cons, aplF_yes (sD _ _ _), apl_drops b]
theorem apl_dif : ∀ (a b d : List ByteArray), aplF a d (dif a b) = some (d ++ b)
  | [], b, d => by rw [dif_nil]; exact apl_adds b d
  | x :: a, [], d => by rw [dif_end, aplF_yes (sD _ _ _)]; exact apl_dif a [] d
  | x :: a, y :: b, d => by
    by_cases h : x = y
    · rw [dif_same _ _ h, aplF_yes (sK rfl _ _), apl_dif a b]
      simp [h]
    · by_cases hc : com (x :: a) b ≤ com a (y :: b)
      · rw [dif_drop _ _ h hc, aplF_yes (sD _ _ _)]
        exact apl_dif a (y :: b) d
      · rw [dif_add _ _ h hc, aplF_yes (sA _ _ _), apl_dif (x :: a) b]
        simp
theorem turn_add (y : ByteArray) : turn ⟨3, y⟩ = ⟨2, y⟩ := rfl
theorem turn_drop (y : ByteArray) : turn ⟨2, y⟩ = ⟨3, y⟩ := rfl
theorem turn_keep (y : ByteArray) : turn ⟨1, y⟩ = ⟨1, y⟩ := rfl
theorem apl_back : ∀ (a b d : List ByteArray), aplF b d ((dif a b).map turn) = some (d ++ a)
  | [], b, d => by
    rw [dif_nil, List.map_map, show (turn ∘ fun y => (⟨3, y⟩ : Ed)) = fun y => ⟨2, y⟩ from rfl, apl_drops, List.append_nil]
  | x :: a, [], d => by
    rw [dif_end, List.map_cons, turn_drop, aplF_yes (sA _ _ _), apl_back a []]
    simp
  | x :: a, y :: b, d => by
    by_cases h : x = y
    · rw [dif_same _ _ h, List.map_cons, turn_keep, aplF_yes (sK h.symm _ _), apl_back a b]
      simp
    · by_cases hc : com (x :: a) b ≤ com a (y :: b)
      · rw [dif_drop _ _ h hc, List.map_cons, turn_drop, aplF_yes (sA _ _ _), apl_back a (y :: b)]
        simp
      · rw [dif_add _ _ h hc, List.map_cons, turn_add, aplF_yes (sD _ _ _)]
        exact apl_back (x :: a) b d
theorem kept_is (xs : List Ed) : kept xs = (xs.filter fun x => x.kind == 1).length := by unfold kept keptN; rw [List.take_length]
theorem kept_dif : ∀ (a b : List ByteArray), ((dif a b).filter fun x => x.kind == 1).length = com a b
  | [], b => by
    rw [dif_nil, com_nil]
    have : ((b.map fun y => (⟨3, y⟩ : Ed)).filter fun x => x.kind == 1) = [] := by
      rw [List.filter_eq_nil_iff]
      intro e he
      obtain ⟨y, _, rfl⟩ := List.mem_map.1 he
      simp
    rw [this]
    rfl
  | x :: a, [] => by
    rw [dif_end, List.filter_cons]
    have := kept_dif a []
    rw [com_nil2] at this ⊢
    simpa using this
  | x :: a, y :: b => by
    by_cases h : x = y
    · rw [dif_same _ _ h, com_same _ _ h, List.filter_cons]
      have := kept_dif a b
      simpa using this
    · by_cases hc : com (x :: a) b ≤ com a (y :: b)
      · rw [dif_drop _ _ h hc, com_other _ _ h, List.filter_cons]
        have := kept_dif a (y :: b)
        rw [show max (com a (y :: b)) (com (x :: a) b) = com a (y :: b) by omega]
        simpa using this
      · rw [dif_add _ _ h hc, com_other _ _ h, List.filter_cons]
        have := kept_dif (x :: a) b
        rw [show max (com a (y :: b)) (com (x :: a) b) = com (x :: a) b by omega]
        simpa using this
theorem len_dif : ∀ (a b : List ByteArray), (dif a b).length + com a b = a.length + b.length
  | [], b => by rw [dif_nil, com_nil]; simp
  | x :: a, [] => by
    rw [dif_end]
    have := len_dif a []
    rw [com_nil2] at this ⊢
    simp at this ⊢
    omega
  | x :: a, y :: b => by
    by_cases h : x = y
    · rw [dif_same _ _ h, com_same _ _ h]
      have := len_dif a b
      simp
      omega
    · by_cases hc : com (x :: a) b ≤ com a (y :: b)
      · rw [dif_drop _ _ h hc, com_other _ _ h]
        have := len_dif a (y :: b)
        rw [show max (com a (y :: b)) (com (x :: a) b) = com a (y :: b) by omega]
        simp at this ⊢
        omega
      · rw [dif_add _ _ h hc, com_other _ _ h]
        have := len_dif (x :: a) b
        rw [show max (com a (y :: b)) (com (x :: a) b) = com (x :: a) b by omega]
        simp at this ⊢
        omega
theorem com_swap : ∀ (a b : List ByteArray), com a b = com b a
  | [], b => by rw [com_nil, com_nil2]
  | x :: a, [] => by rw [com_nil, com_nil2]
  | x :: a, y :: b => by
    by_cases h : x = y
    · rw [com_same _ _ h, com_same _ _ h.symm, com_swap a b]
    · rw [com_other _ _ h, com_other _ _ (fun e => h e.symm), com_swap a (y :: b), com_swap (x :: a) b]
      omega
end Go.Proofs.Ytdlpepmdjbmmmaa
