/- Numbers by their places in a map: what it has, how many. -/
import Derived.Test.YtlpbhhgikgbfhaaDoorPaLib
import Derived.Maps.Range
import Derived.Maps.OwnSet
namespace Go.Proofs.YtlpbhhgikgbfhaaDoor
open Go.RowKit Go.Maps

abbrev Dt := DataW Unit
/-- A pair of numbers that are within their range. -/
abbrev IP := { p : Int × Int // (Lit.int .i64 p.1).wf = true ∧ (Lit.int .i64 p.2).wf = true }
def putP (D : Dt) (p : Int × Int) : Dt := D.put (.int .i64 p.1) (.lit (.int .i64 p.2))
def insD (ys : List IP) : Dt := ys.foldl (fun D y => putP D y.1) (.map [])
theorem insD_snoc (pre : List IP) (x : IP) : insD (pre ++ [x]) = (insD pre).put (.int .i64 x.1.1) (.lit (.int .i64 x.1.2)) := by simp [insD, putP]
/-- The map reads as these pairs. -/
def Reads2 (D : Dt) (l : List (Int × Int)) : Prop :=
  IsMap D ∧ (∀ k, has D k = true ↔ ∃ x ∈ l, k = .int .i64 x.1) ∧ ∀ x ∈ l, ∀ zd, D.atKey (.int .i64 x.1) zd = .lit (.int .i64 x.2)
theorem reads_put {D : Dt} {l : List (Int × Int)} (h : Reads2 D l) {p : Int × Int} (hn : ∀ x ∈ l, x.1 ≠ p.1) : Reads2 (putP D p) (l ++ [p]) := by
  obtain ⟨h1, h2, h3⟩ := h
  have hk : WideAt.IsKeyLit (.int .i64 p.1) := trivial
  refine ⟨h1.put _ _, fun k => ?_, fun x hx zd => ?_⟩
  · by_cases e : k = .int .i64 p.1
    · subst e
      rw [putP, has_put_same h1 hk]
      exact ⟨fun _ => ⟨p, by simp, rfl⟩, fun _ => rfl⟩
    · rw [putP, has_put_other e, h2 k]
      constructor
      · rintro ⟨x, hx, rfl⟩
        exact ⟨x, by simp [hx], rfl⟩
      · rintro ⟨x, hx, rfl⟩
        rcases List.mem_append.1 hx with hx | hx
        · exact ⟨x, hx, rfl⟩
        · obtain rfl := List.mem_singleton.1 hx
          exact absurd rfl e
  · rcases List.mem_append.1 hx with hx | hx
    · rw [putP, atKey_put_other (by intro e; injection e with _ e; exact hn x hx e)]
      exact h3 x hx zd
    · obtain rfl := List.mem_singleton.1 hx
      rw [putP, atKey_put_same h1 hk]
theorem reads_all : ∀ (ys : List IP) (D : Dt) (l : List (Int × Int)), Reads2 D l → (l ++ ys.map (·.1)).Pairwise (fun x y => x.1 ≠ y.1) → Reads2 (ys.foldl (fun D y => putP D y.1) D) (l ++ ys.map (·.1))
  | [], D, l, h, _ => by simpa using h
  | y :: ys, D, l, h, hp => by
    have e : l ++ (y :: ys).map (·.1) = (l ++ [y.1]) ++ ys.map (·.1) := by simp
    rw [e] at hp ⊢
    refine reads_all ys _ _ (reads_put h fun x hx => ?_) hp
    have h1 := (List.pairwise_append.1 hp).1
    exact (List.pairwise_append.1 h1).2.2 x hx y.1 (by simp)
theorem insD_reads {ys : List IP} (hp : (ys.map (·.1)).Pairwise (fun x y => x.1 ≠ y.1)) : Reads2 (insD ys) (ys.map (·.1)) :=
  reads_all ys (.map []) [] ⟨isMap_empty, fun k => ⟨fun h => by simp [has] at h, fun ⟨x, hx, _⟩ => by cases hx⟩, fun x hx => by cases hx⟩ hp
/-- Numbers and their places. -/
def numF (xs : List Int) (j : Nat) : Int × Int := ((j : Int), xs[j]?.getD 0)
def numd (xs : List Int) (k : Nat) : List (Int × Int) := (List.range k).map (numF xs)
theorem numd_succ (xs : List Int) (k : Nat) : numd xs (k + 1) = numd xs k ++ [numF xs k] := by simp [numd, List.range_succ]
theorem numd_len (xs : List Int) (k : Nat) : (numd xs k).length = k := by simp [numd]
theorem numd_apart (xs : List Int) (k : Nat) : (numd xs k).Pairwise (fun x y => x.1 ≠ y.1) := by
  rw [numd, List.pairwise_map]
  exact List.pairwise_lt_range.imp (fun {a b} h => by simp [numF]; omega)
/-- How many a map has, told by what it has: the places from c to n. -/
theorem size_of_has {D : Dt} (ht : ∃ es, D = .map es ∧ es.Pairwise (fun p q => p.1 ≠ q.1) ∧ ∀ p ∈ es, WideAt.IsKeyLit p.1) {c n : Nat} (hc : c ≤ n) (h : ∀ k, has D k = true ↔ ∃ i : Nat, c ≤ i ∧ i < n ∧ k = .int .i64 (i : Int)) : size D = n - c := by
  obtain ⟨es, rfl, hp, hkl⟩ := ht
  have hmem : ∀ k, k ∈ es.map (·.1) ↔ k ∈ (List.range' c (n - c)).map (fun i : Nat => Lit.int .i64 (i : Int)) := by
    intro k
    constructor
    · intro hk
      obtain ⟨p, hpm, rfl⟩ := List.mem_map.1 hk
      obtain ⟨i, h1, h2, e⟩ := (h p.1).1 (List.any_eq_true.2 ⟨p, hpm, WideAt.sameKey_self (hkl p hpm)⟩)
      rw [e]
      exact List.mem_map.2 ⟨i, List.mem_range'_1.2 (by omega), rfl⟩
    · intro hk
      obtain ⟨i, hi, rfl⟩ := List.mem_map.1 hk
      have hi' : c ≤ i ∧ i < n := by have := List.mem_range'_1.1 hi; omega
      obtain ⟨p, hpm, hpk⟩ := List.any_eq_true.1 ((h (.int .i64 (i : Int))).2 ⟨i, hi'.1, hi'.2, rfl⟩)
      exact List.mem_map.2 ⟨p, hpm, WideAt.sameKey_eq hpk⟩
  have hn1 : (es.map (·.1)).Nodup := by rw [List.Nodup, List.pairwise_map]; exact hp
  have hn2 : ((List.range' c (n - c)).map (fun i : Nat => Lit.int .i64 (i : Int))).Nodup := by
    rw [List.Nodup, List.pairwise_map]
    refine (List.pairwise_lt_range' (s := c) (n := n - c)).imp (fun {a b} h => ?_)
    intro e
    injection e with _ e
    omega
  have := ((List.perm_ext_iff_of_nodup hn1 hn2).2 hmem).length_eq
  simpa [size] using this
end Go.Proofs.YtlpbhhgikgbfhaaDoor
