/- Plain facts for the specification's way of reading: lists that begin with what is there already; names in brackets of which one is a key word. -/
import Derived.Test.YtabbfpkhlofccaaGreatDoorRdLib
import Derived.Test.YtabbfpkhlofccaaGreatDoorSignLib
namespace Go.Proofs.YtabbfpkhlofccaaGreatDoor
open Go.RowKit

section
variable {xs : List Sg}
theorem bnd_asc {α β γ : Type} (x : Rs α) (f : α → Ps → Rs β) (k : β → Ps → Rs γ) : bnd (bnd x f) k = bnd x fun a s => bnd (f a s) k := by
  match x with
  | none => rfl
  | some none => rfl
  | some (some (_, _)) => rfl
theorem bnd_ext {α β : Type} (x : Rs α) {f k : α → Ps → Rs β} (h : ∀ a s, f a s = k a s) : bnd x f = bnd x k := by
  match x with
  | none => rfl
  | some none => rfl
  | some (some (a, s)) => exact h a s
/-- A list that begins with one that is there already. -/
theorem listed_cons (one : Ps → Rs Nat) (en : ByteArray) (c : Int) : ∀ (f : Nat) (ks : List Int) (s : Ps), listedP xs one en f (c :: ks) s = bnd (listedP xs one en f ks s) fun l s1 => yes (c :: l) s1
  | 0, _, _ => rfl
  | f + 1, ks, s => by
    unfold listedP
    by_cases h : txt xs s.p = en
    · rw [if_pos h, if_pos h]
      rfl
    · rw [if_neg h, if_neg h, bnd_asc]
      refine bnd_ext _ fun k s1 => ?_
      by_cases h1 : txt xs s1.p = (⟨#[44]⟩ : ByteArray)
      · rw [if_pos h1, if_pos h1, List.cons_append, listed_cons one en c f]
      · rw [if_neg h1, if_neg h1, bnd_asc]
        rfl
/-- A call as the specification reads it. -/
theorem call_as (O : Bool → Ps → Rs Nat) (c : Nat) (s : Ps) (h : txt xs s.p = (⟨#[40]⟩ : ByteArray)) : callP xs O c s = bnd (listedP xs (O true) (⟨#[41]⟩ : ByteArray) (lim xs) [(c : Int)] s.next) fun ks s2 => addP 5 ByteArray.empty ks s2 := by
  unfold callP wantP
  rw [if_pos h, bnd_yes, listed_cons, bnd_asc]
  rfl
end
end Go.Proofs.YtabbfpkhlofccaaGreatDoor
/- What holds of the signs that a source is cut into: the first bytes of a sign's text tell its kind; no text is empty; there are few. -/
namespace Go.Proofs.YtabbfpkhlofccaaGreatDoor
open Go.RowKit

/-- The kind that a text tells by its first bytes. -/
def kOf (t : ByteArray) : Int :=
  if figB (by8 t 0) = true then 2 else if firB (by8 t 0) = true then 1 else if by8 t 0 = 39 then 3 else if by8 t 0 = 47 ∧ by8 t 1 = 47 then 5 else 4
structure SgOk (x : Sg) : Prop where
  kind : x.kind = kOf x.text
  some : 0 < x.text.size
  few : x.text.size ≤ 3000
theorem nt_two {r : ByteArray} (h : by8 r 0 = 47 ∧ by8 r 1 = 47) (hn : ntSz r ≠ 0) : 2 ≤ ntSz r := by
  have h2 : 2 ≤ r.size := by
    rcases Nat.lt_or_ge 1 r.size with h1 | h1
    · omega
    · rw [by8_past h1] at h
      exact absurd h.2 (by decide)
  unfold ntSz at hn ⊢
  split
  · rename_i h3
    rw [if_pos h3] at hn
    exact absurd rfl hn
  · obtain ⟨m, h4, _, h6, h7⟩ := trimB_has (r.extract 0 (spn plaB r 0))
    rw [h6]
    have e0 : 0 < spn plaB r 0 := (spn_pos (by omega)).2 (by rw [h.1]; decide)
    have e1 : 2 ≤ spn plaB r 0 := by
      have e := spn_yes (p := plaB) (s := r) (k := 0) (by omega) (by rw [h.1]; decide)
      rw [Nat.zero_add] at e
      have : 0 < spn plaB r 1 := (spn_pos (by omega)).2 (by rw [h.2]; decide)
      omega
    have hs : (r.extract 0 (spn plaB r 0)).size = spn plaB r 0 := by
      have := spn_le (p := plaB) (s := r) (k := 0) (Nat.zero_le _)
      simp
      omega
    rcases Nat.lt_or_ge m 2 with hm | hm
    · exfalso
      have := h7 1 (by omega) (by omega)
      rw [by8_ext (by omega), Nat.zero_add, h.2] at this
      exact absurd this (by decide)
    · exact hm
theorem hd_kind (r : ByteArray) (hn : (hd r).2 ≠ 0) : (hd r).1 = kOf (r.extract 0 (hd r).2) := by
  have hl := hd_le r
  have b0 : by8 (r.extract 0 (hd r).2) 0 = by8 r 0 := by rw [by8_ext (by omega)]
  unfold kOf
  rw [b0]
  by_cases h1 : figB (by8 r 0) = true
  · rw [if_pos h1, hd_fig h1]
  · have h1' : figB (by8 r 0) = false := by simpa using h1
    rw [if_neg h1]
    by_cases h2 : firB (by8 r 0) = true
    · rw [if_pos h2, hd_nam h1' h2]
    · have h2' : firB (by8 r 0) = false := by simpa using h2
      rw [if_neg h2]
      by_cases h3 : by8 r 0 = 39
      · rw [if_pos h3, hd_qt h1' h2' h3]
      · rw [if_neg h3]
        by_cases h4 : by8 r 0 = 47 ∧ by8 r 1 = 47
        · have h5 : 2 ≤ (hd r).2 := by
            rw [hd_nt h4] at hn ⊢
            exact nt_two h4 hn
          have b1 : by8 (r.extract 0 (hd r).2) 1 = by8 r 1 := by rw [by8_ext (by omega)]
          rw [b1, if_pos h4, hd_nt h4]
        · rw [if_neg (fun h => h4 ⟨h.1, ?_⟩), hd_mk h1' h2' h3 h4]
          have h5 := h.2
          rcases Nat.lt_or_ge 1 (hd r).2 with h6 | h6
          · rw [by8_ext (by omega), Nat.zero_add] at h5
            exact h5
          · rw [by8_past (by simp; omega)] at h5
            exact absurd h5 (by decide)
theorem lexF_ok (t : ByteArray) (ht : t.size ≤ 3000) : ∀ (f k ends : Nat) (pre : List Sg), (∀ x ∈ pre, SgOk x) → pre.length ≤ k → (∀ x ∈ (lexF t f k ends pre).1, SgOk x) ∧ (lexF t f k ends pre).1.length ≤ max k t.size
  | 0, k, ends, pre, h, hp => ⟨h, by show pre.length ≤ _; omega⟩
  | f + 1, k, ends, pre, h, hp => by
    rw [lexF]
    split
    · rename_i hk
      split
      · obtain ⟨h1, h2⟩ := lexF_ok t ht f (k + 1) ends pre h (by omega)
        exact ⟨h1, by omega⟩
      split
      · obtain ⟨h1, h2⟩ := lexF_ok t ht f (k + 1) (ends + 1) pre h (by omega)
        exact ⟨h1, by omega⟩
      split
      · exact ⟨fun x hx => by simp at hx, Nat.zero_le _⟩
      · rename_i hn
        have hl := hd_le (t.extract k t.size)
        rw [rest_size] at hl
        have hx : t.extract k (k + (hd (t.extract k t.size)).2) = (t.extract k t.size).extract 0 (hd (t.extract k t.size)).2 := by
          rw [ext_rest, Nat.add_zero, Nat.min_eq_left (by omega)]
        obtain ⟨h1, h2⟩ := lexF_ok t ht f (k + (hd (t.extract k t.size)).2) 0 (pre ++ [⟨(hd (t.extract k t.size)).1, t.extract k (k + (hd (t.extract k t.size)).2), k, decide (1 < ends)⟩]) (fun x hx' => by
          rcases List.mem_append.1 hx' with h3 | h3
          · exact h x h3
          · have e : x = ⟨(hd (t.extract k t.size)).1, t.extract k (k + (hd (t.extract k t.size)).2), k, decide (1 < ends)⟩ := by simpa using h3
            subst e
            refine ⟨?_, ?_, ?_⟩
            · show (hd (t.extract k t.size)).1 = kOf (t.extract k (k + (hd (t.extract k t.size)).2))
              rw [hx]
              exact hd_kind _ hn
            · show 0 < (t.extract k (k + (hd (t.extract k t.size)).2)).size
              simp
              omega
            · show (t.extract k (k + (hd (t.extract k t.size)).2)).size ≤ 3000
              simp
              omega) (by simp; omega)
        exact ⟨h1, by omega⟩
    · exact ⟨h, by show pre.length ≤ _; omega⟩
/-- The signs of a source. -/
theorem sgn_ok (t : ByteArray) : (∀ x ∈ (sgn t).1, SgOk x) ∧ (sgn t).1.length ≤ 3000 := by
  unfold sgn
  split
  · exact ⟨fun x hx => by simp at hx, Nat.zero_le _⟩
  · rename_i h
    obtain ⟨h1, h2⟩ := lexF_ok t (by omega) (t.size - 0) 0 0 [] (fun x hx => by simp at hx) (Nat.zero_le _)
    exact ⟨h1, by unfold lexA; omega⟩
end Go.Proofs.YtabbfpkhlofccaaGreatDoor
