/- What holds of the signs that a source is cut into: the first bytes of a sign's text tell its kind; no text is empty; there are few. -/
import Derived.Test.YtcbbnphpkgifoaaGreatDoorSignLib
import Derived.Test.YtcbbnphpkgifoaaGreatDoorKab
namespace Go.Proofs.YtcbbnphpkgifoaaGreatDoor
open Go.RowKit
def kOf (t : ByteArray) : Int :=
 if figB (by8 t 0) = true then 2 else if firB (by8 t 0) = true then 1 else if by8 t 0 = 39 then 3 else if by8 t 0 = 47 ∧ by8 t 1 = 47 then 5 else 4
structure SgOk (x : Sg) : Prop where
 kind : x.kind = kOf x.text
 some : 0 < x.text.size
 few : x.text.size ≤ 3000
theorem nt_two {r : ByteArray} (h : by8 r 0 = 47 ∧ by8 r 1 = 47) (hn : ntSz r ≠ 0) : 2 ≤ ntSz r := by
 have h2 : 2 ≤ r.size := by
  rcases Nat.lt_or_ge 1 r.size with h1 | h1
  ·omega
  ·rw [by8_past h1] at h
   exact absurd h.2 (by decide)
 unfold ntSz at hn ⊢
 split
 ·rename_i h3
  rw [if_pos h3] at hn
  exact absurd rfl hn
 ·obtain ⟨m, h4, _, h6, h7⟩ := trimB_has (r.extract 0 (spn plaB r 0))
  rw [h6]
  have e0 : 0 < spn plaB r 0 := (spn_pos (by omega)).2 (by rw [h.1]; decide)
  have e1 : 2 ≤ spn plaB r 0 := by
   have e := spn_yes (p := plaB) (s := r) (k := 0) (by omega) (by rw [h.1]; decide)
   rw [Nat.zero_add] at e
   have : 0 < spn plaB r 1 := (spn_pos (by omega)).2 (by rw [h.2]; decide)
   omega
  have hs : (r.extract 0 (spn plaB r 0)).size = spn plaB r 0 := by
   have := spn_le (p := plaB) (s := r) (k := 0) (Nat.zero_le _)
   simp
   omega
  rcases Nat.lt_or_ge m 2 with hm | hm
  ·exfalso
   have := h7 1 (by omega) (by omega)
   rw [by8_ext (by omega), Nat.zero_add, h.2] at this
   exact absurd this (by decide)
  ·exact hm
theorem hd_kind (r : ByteArray) (hn : (hd r).2 ≠ 0) : (hd r).1 = kOf (r.extract 0 (hd r).2) := by
 have hl := hd_le r
 have b0 : by8 (r.extract 0 (hd r).2) 0 = by8 r 0 := by rw [by8_ext (by omega)]
 unfold kOf
 rw [b0]
 by_cases h1 : figB (by8 r 0) = true
 ·rw [if_pos h1, hd_fig h1]
 ·have h1' : figB (by8 r 0) = false := by simpa using h1
  rw [if_neg h1]
  by_cases h2 : firB (by8 r 0) = true
  ·rw [if_pos h2, hd_nam h1' h2]
  ·have h2' : firB (by8 r 0) = false := by simpa using h2
   rw [if_neg h2]
   by_cases h3 : by8 r 0 = 39
   ·rw [if_pos h3, hd_qt h1' h2' h3]
   ·rw [if_neg h3]
    by_cases h4 : by8 r 0 = 47 ∧ by8 r 1 = 47
    ·have h5 : 2 ≤ (hd r).2 := by
      rw [hd_nt h4] at hn ⊢
      exact nt_two h4 hn
     have b1 : by8 (r.extract 0 (hd r).2) 1 = by8 r 1 := by rw [by8_ext (by omega)]
     rw [b1, if_pos h4, hd_nt h4]
    ·rw [if_neg (fun h => h4 ⟨h.1, ?_⟩), hd_mk h1' h2' h3 h4]
     have h5 := h.2
     rcases Nat.lt_or_ge 1 (hd r).2 with h6 | h6
     ·rw [by8_ext (by omega), Nat.zero_add] at h5
      exact h5
     ·rw [by8_past (by simp; omega)] at h5
      exact absurd h5 (by decide)
theorem lexF_ok (t : ByteArray) (ht : t.size ≤ 3000) : ∀ (f k ends : Nat) (pre : List Sg), (∀ x ∈ pre, SgOk x) → pre.length ≤ k → (∀ x ∈ (lexF t f k ends pre).1, SgOk x) ∧ (lexF t f k ends pre).1.length ≤ max k t.size
 | 0, k, ends, pre, h, hp => ⟨h, by show pre.length ≤ _; omega⟩
 | f + 1, k, ends, pre, h, hp => by
  rw [lexF]
  split
  ·rename_i hk
   split
   ·obtain ⟨h1, h2⟩ := lexF_ok t ht f (k + 1) ends pre h (by omega)
    exact ⟨h1, by omega⟩
   split
   ·obtain ⟨h1, h2⟩ := lexF_ok t ht f (k + 1) (ends + 1) pre h (by omega)
    exact ⟨h1, by omega⟩
   split
   ·exact ⟨fun x hx => by simp at hx, Nat.zero_le _⟩
   ·rename_i hn
    have hl := hd_le (t.extract k t.size)
    rw [rest_size] at hl
    have hx : t.extract k (k + (hd (t.extract k t.size)).2) = (t.extract k t.size).extract 0 (hd (t.extract k t.size)).2 := by
     rw [ext_rest, Nat.add_zero, Nat.min_eq_left (by omega)]
    obtain ⟨h1, h2⟩ := lexF_ok t ht f (k + (hd (t.extract k t.size)).2) 0 (pre ++ [⟨(hd (t.extract k t.size)).1, t.extract k (k + (hd (t.extract k t.size)).2), k, decide (1 < ends)⟩]) (fun x hx' => by
     rcases List.mem_append.1 hx' with h3 | h3
     ·exact h x h3
     ·have e : x = ⟨(hd (t.extract k t.size)).1, t.extract k (k + (hd (t.extract k t.size)).2), k, decide (1 < ends)⟩ := by simpa using h3
      subst e
      refine ⟨?_, ?_, ?_⟩
      ·show (hd (t.extract k t.size)).1 = kOf (t.extract k (k + (hd (t.extract k t.size)).2))
       rw [hx]
       exact hd_kind _ hn
      ·show 0 < (t.extract k (k + (hd (t.extract k t.size)).2)).size
       simp
       omega
      ·show (t.extract k (k + (hd (t.extract k t.size)).2)).size ≤ 3000
       simp
       omega) (by simp; omega)
    exact ⟨h1, by omega⟩
  ·exact ⟨h, by show pre.length ≤ _; omega⟩
theorem sgn_ok (t : ByteArray) : (∀ x ∈ (sgn t).1, SgOk x) ∧ (sgn t).1.length ≤ 3000 := by
 unfold sgn
 split
 ·exact ⟨fun x hx => by simp at hx, Nat.zero_le _⟩
 ·rename_i h
  obtain ⟨h1, h2⟩ := lexF_ok t (by omega) (t.size - 0) 0 0 [] (fun x hx => by simp at hx) (Nat.zero_le _)
  exact ⟨h1, by unfold lexA; omega⟩
theorem ext_size {r : ByteArray} {n : Nat} (h : n ≤ r.size) : (r.extract 0 n).size = n := by
 simp
 omega
theorem ext_by {r : ByteArray} {n j : Nat} (h : j < n) : by8 (r.extract 0 n) j = by8 r j := by rw [by8_ext (by omega), Nat.zero_add]
theorem ext_all (r : ByteArray) : r.extract 0 r.size = r := by simp
theorem ext_ext {r : ByteArray} {n m : Nat} (h : m ≤ n) : (r.extract 0 n).extract 0 m = r.extract 0 m := by
 apply str_ext
 rw [bytes_ext, bytes_ext, bytes_ext, List.drop_zero, List.drop_zero, List.drop_zero, List.take_take, Nat.min_eq_left h]
theorem trimB_last (s : ByteArray) : ∃ m, m ≤ s.size ∧ trimB s = s.extract 0 m ∧ (trimB s).size = m ∧ (0 < m → by8 s (m - 1) ≠ 32) := by
 have H : ∀ k, k ≤ s.size → (∀ j, k ≤ j → j < s.size → by8 s j = 32) → ∃ m, m ≤ s.size ∧ s.extract 0 m = trimB s ∧ (0 < m → by8 s (m - 1) ≠ 32) := by
  intro k
  induction k with
  | zero => exact fun hk h => ⟨0, hk, trimB_is hk h (fun h => by omega), fun h => by omega⟩
  | succ k ih =>
   intro hk h
   by_cases e : by8 s k = 32
   ·exact ih (by omega) (fun j h1 h2 => by
     by_cases e' : j = k
     ·subst e'; exact e
     ·exact h j (by omega) h2)
   ·exact ⟨k + 1, hk, trimB_is hk h (fun _ => by simpa using e), fun _ => by simpa using e⟩
 obtain ⟨m, h1, h2, h3⟩ := H s.size (Nat.le_refl _) (fun j h1 h2 => by omega)
 refine ⟨m, h1, h2.symm, ?_, h3⟩
 rw [← h2]
 exact ext_size h1
theorem hd_whole (r : ByteArray) (hn : (hd r).2 ≠ 0) (h4 : (hd r).1 ≠ 4) : hd (r.extract 0 (hd r).2) = hd r := by
 have hl := hd_le r
 have hs := ext_size hl
 have hb := fun j (h : j < (hd r).2) => ext_by (r := r) h
 have hpos : 0 < (hd r).2 := by omega
 by_cases h1 : figB (by8 r 0) = true
 ·have e := hd_fig h1
  have hsp := spn_le (p := figB) (s := r) (k := 0) (Nat.zero_le _)
  have ha := spn_all (p := figB) (s := r) (k := 0) (Nat.zero_le _)
  have hc : (hd r).2 = spn figB r 0 ∧ spn figB r 0 ≤ 12 := by
   rw [e] at hn ⊢
   unfold capN at hn ⊢
   split at hn
   ·exact absurd rfl hn
   ·rename_i h; rw [if_neg h]; exact ⟨rfl, by omega⟩
  have e2 : spn figB (r.extract 0 (hd r).2) 0 = (hd r).2 := spn_is _ 0 (by omega) (fun j hj => by rw [Nat.zero_add, hb j hj]; have := ha j (by omega); rwa [Nat.zero_add] at this) (fun h => by omega)
  rw [hd_fig (by rw [hb 0 hpos]; exact h1), e2, e]
  have hc1 : capN 12 (hd r).2 = (hd r).2 := by unfold capN; rw [if_neg (by omega)]
  rw [← e, hc1, e]
 have h1' : figB (by8 r 0) = false := by simpa using h1
 by_cases h2 : firB (by8 r 0) = true
 ·have e := hd_nam h1' h2
  have hsp := spn_le (p := namB) (s := r) (k := 0) (Nat.zero_le _)
  have ha := spn_all (p := namB) (s := r) (k := 0) (Nat.zero_le _)
  have hc : (hd r).2 = spn namB r 0 ∧ spn namB r 0 ≤ 30 := by
   rw [e] at hn ⊢
   unfold capN at hn ⊢
   split at hn
   ·exact absurd rfl hn
   ·rename_i h; rw [if_neg h]; exact ⟨rfl, by omega⟩
  have e2 : spn namB (r.extract 0 (hd r).2) 0 = (hd r).2 := spn_is _ 0 (by omega) (fun j hj => by rw [Nat.zero_add, hb j hj]; have := ha j (by omega); rwa [Nat.zero_add] at this) (fun h => by omega)
  rw [hd_nam (by rw [hb 0 hpos]; exact h1') (by rw [hb 0 hpos]; exact h2), e2]
  have hc1 : capN 30 (hd r).2 = (hd r).2 := by unfold capN; rw [if_neg (by omega)]
  rw [hc1]
  rw [e]
 have h2' : firB (by8 r 0) = false := by simpa using h2
 by_cases h3 : by8 r 0 = 39
 ·have e := hd_qt h1' h2' h3
  have ha := spn_all (p := texB) (s := r) (k := 1)
  obtain ⟨m, hm⟩ : ∃ m, m = spn texB r 1 := ⟨_, rfl⟩
  rw [← hm] at ha
  have hc : (hd r).2 = m + 2 ∧ 1 + m < r.size ∧ by8 r (1 + m) = 39 := by
   rw [e] at hn ⊢
   unfold qtSz at hn ⊢
   rw [← hm] at hn ⊢
   split at hn
   ·rename_i h; rw [if_pos h]; exact ⟨by show 1 + m + 1 = m + 2; omega, h⟩
   ·exact absurd rfl hn
  obtain ⟨c1, c2, c3⟩ := hc
  have e2 : spn texB (r.extract 0 (hd r).2) 1 = m := spn_is _ 1 (by omega) (fun j hj => by rw [hb _ (by omega)]; exact ha (by omega) j hj) (fun h => by rw [hb _ (by omega), c3]; decide)
  rw [hd_qt (by rw [hb 0 hpos]; exact h1') (by rw [hb 0 hpos]; exact h2') (by rw [hb 0 hpos]; exact h3)]
  have e3 : qtSz (r.extract 0 (hd r).2) = (hd r).2 := by
   unfold qtSz
   rw [e2, if_pos ⟨by omega, by rw [hb _ (by omega)]; exact c3⟩]
   omega
  rw [e3]
  rw [e]
 by_cases h5 : by8 r 0 = 47 ∧ by8 r 1 = 47
 ·have e := hd_nt h5
  have h2n : 2 ≤ (hd r).2 := by
   rw [e] at hn ⊢
   exact nt_two h5 hn
  have hsp := spn_le (p := plaB) (s := r) (k := 0) (Nat.zero_le _)
  have ha := spn_all (p := plaB) (s := r) (k := 0) (Nat.zero_le _)
  obtain ⟨m, hm1, hm2, hm3, hm4⟩ := trimB_last (r.extract 0 (spn plaB r 0))
  rw [ext_size (by omega)] at hm1
  have hc : (hd r).2 = m := by
   rw [e] at hn ⊢
   unfold ntSz at hn ⊢
   split at hn
   ·exact absurd rfl hn
   ·rename_i h; rw [if_neg h]; exact hm3
  rw [hd_nt ⟨by rw [hb 0 hpos]; exact h5.1, by rw [hb 1 (by omega)]; exact h5.2⟩]
  have e2 : spn plaB (r.extract 0 (hd r).2) 0 = (hd r).2 := spn_is _ 0 (by omega) (fun j hj => by rw [Nat.zero_add, hb j hj]; have := ha j (by omega); rwa [Nat.zero_add] at this) (fun h => by omega)
  have e3 : trimB (r.extract 0 (hd r).2) = r.extract 0 (hd r).2 := by
   have := trimB_is (s := r.extract 0 (hd r).2) (n := (hd r).2) (by omega) (fun j h6 h7 => by omega) (fun h6 => by
    rw [hb _ (by omega), hc]
    have := hm4 (by omega)
    rwa [ext_by (by omega)] at this)
   rw [← this, ext_ext (Nat.le_refl _)]
  have e4 : ntSz (r.extract 0 (hd r).2) = (hd r).2 := by
   unfold ntSz
   rw [e2, if_neg (by omega), ext_ext (Nat.le_refl _), e3, hs]
  rw [e4]
  rw [e]
 ·exact absurd (by rw [hd_mk h1' h2' h3 h5]) h4
def Whole (k : Int) (t : ByteArray) : Prop := hd t = (k, t.size)
theorem lexF_whole (t : ByteArray) : ∀ (f k ends : Nat) (pre : List Sg), (∀ x ∈ pre, x.kind ≠ 4 → Whole x.kind x.text) → ∀ x ∈ (lexF t f k ends pre).1, x.kind ≠ 4 → Whole x.kind x.text
 | 0, k, ends, pre, h => h
 | f + 1, k, ends, pre, h => by
  rw [lexF]
  split
  ·split
   ·exact lexF_whole t f (k + 1) ends pre h
   split
   ·exact lexF_whole t f (k + 1) (ends + 1) pre h
   split
   ·exact fun x hx => by simp at hx
   ·rename_i hk _ _ hn
    have hl := hd_le (t.extract k t.size)
    rw [rest_size] at hl
    have hx : t.extract k (k + (hd (t.extract k t.size)).2) = (t.extract k t.size).extract 0 (hd (t.extract k t.size)).2 := by
     rw [ext_rest, Nat.add_zero, Nat.min_eq_left (by omega)]
    refine lexF_whole t f _ 0 _ (fun x hx' => ?_)
    rcases List.mem_append.1 hx' with h3 | h3
    ·exact h x h3
    ·have e : x = ⟨(hd (t.extract k t.size)).1, t.extract k (k + (hd (t.extract k t.size)).2), k, decide (1 < ends)⟩ := by simpa using h3
     subst e
     intro h4
     show hd (t.extract k (k + (hd (t.extract k t.size)).2)) = ((hd (t.extract k t.size)).1, (t.extract k (k + (hd (t.extract k t.size)).2)).size)
     rw [hx, hd_whole _ hn h4, ext_size (hd_le _)]
  ·exact h
theorem sgn_whole (t : ByteArray) : ∀ x ∈ (sgn t).1, x.kind ≠ 4 → Whole x.kind x.text := by
 unfold sgn
 split
 ·exact fun x hx => by simp at hx
 ·exact lexF_whole t _ 0 0 [] (fun x hx => by simp at hx)
def NamT (t : ByteArray) : Prop := Whole 1 t ∧ kw t = false
def TxOk (k : Int) (t : ByteArray) : Prop :=
 if k = 1 ∨ k = 6 ∨ k = 12 ∨ k = 13 ∨ k = 20 ∨ k = 21 then NamT t
 else if k = 2 then Whole 2 t
 else if k = 3 then Whole 3 t
 else if k = 19 then Whole 5 t
 else if k = 7 then lvl t ≠ 0
 else t = ByteArray.empty
structure SafeNd (x : Nd) : Prop where
 text : TxOk x.kind x.text
 few : x.text.size ≤ 3000
 casc : x.kind = 10 → x.kids.length ≠ 1
def SA (s : Ps) : Prop := ∀ x ∈ s.ns, SafeNd x
def Iv {α : Type} (Q : α → Ps → Prop) (r : Rs α) : Prop := ∀ a s, r = yes a s → Q a s
structure SgsOk (xs : List Sg) : Prop where
 whole : ∀ x ∈ xs, x.kind ≠ 4 → Whole x.kind x.text
 few : ∀ x ∈ xs, x.text.size ≤ 3000
section
variable {α β : Type} {xs : List Sg}
theorem Iv.no {Q : α → Ps → Prop} : Iv Q (some none) := fun _ _ h => by simp at h
theorem Iv.out {Q : α → Ps → Prop} : Iv Q none := fun _ _ h => by simp at h
theorem Iv.ok {Q : α → Ps → Prop} {a : α} {s : Ps} (h : Q a s) : Iv Q (yes a s) := fun b t e => by simp only [Option.some.injEq, Prod.mk.injEq] at e; obtain ⟨rfl, rfl⟩ := e; exact h
theorem Iv.bnd {Q : α → Ps → Prop} {R : β → Ps → Prop} {x : Rs α} {f : α → Ps → Rs β} (h : Iv Q x) (hf : ∀ a s, Q a s → Iv R (f a s)) : Iv R (bnd x f) := by
 match x, h with
 | none, _ => exact Iv.out
 | some none, _ => exact Iv.no
 | some (some (a, s)), h => exact hf a s (h a s rfl)
abbrev QA : α → Ps → Prop := fun _ s => SA s
theorem knd_whole (h : SgsOk xs) {p : Nat} {k : Int} (hk : knd xs p = k) (h0 : k ≠ 0) (h4 : k ≠ 4) : Whole k (txt xs p) := by
 have hl := knd_lt hk h0
 unfold knd at hk
 unfold txt
 rw [List.getElem?_eq_getElem hl] at hk ⊢
 have hk' : xs[p].kind = k := hk
 have := h.whole xs[p] (List.getElem_mem _) (by rw [hk']; exact h4)
 rw [hk'] at this
 exact this
theorem txt_few (h : SgsOk xs) (p : Nat) : (txt xs p).size ≤ 3000 := by
 unfold txt
 cases hx : xs[p]? with
 | none => exact Nat.zero_le _
 | some x => exact h.few x (List.mem_of_getElem? hx)
theorem iv_want {t : ByteArray} {s : Ps} (h : SA s) : Iv QA (wantP xs t s) := by
 unfold wantP
 split
 ·exact Iv.ok h
 ·exact Iv.no
theorem iv_add {kind : Int} {t : ByteArray} {ks : List Int} {s : Ps} (h : SA s) (hx : SafeNd ⟨kind, t, ks, false⟩) : Iv QA (addP kind t ks s) := by
 unfold addP
 split
 ·exact Iv.no
 ·refine Iv.ok fun x hx' => ?_
  rcases List.mem_append.1 hx' with h1 | h1
  ·exact h x h1
  ·have : x = ⟨kind, t, ks, false⟩ := by simpa using h1
   subst this
   exact hx
theorem iv_add0 {kind : Int} {ks : List Int} {s : Ps} (h : SA s) (hk : TxOk kind ByteArray.empty) (h10 : kind ≠ 10) : Iv QA (addP kind ByteArray.empty ks s) := iv_add h ⟨hk, Nat.zero_le _, fun e => absurd e h10⟩
theorem iv_addn {kind : Int} {t : ByteArray} {ks : List Int} {s : Ps} (h : SA s) (hn : NamT t ∧ t.size ≤ 3000) (hk : kind = 1 ∨ kind = 6 ∨ kind = 12 ∨ kind = 13 ∨ kind = 20 ∨ kind = 21) : Iv QA (addP kind t ks s) :=
 iv_add h ⟨by unfold TxOk; rw [if_pos hk]; exact hn.1, hn.2, fun e => by have e' : kind = 10 := e; omega⟩
theorem nam_of (hg : SgsOk xs) {p : Nat} (h : isNm xs p = true) : NamT (txt xs p) ∧ (txt xs p).size ≤ 3000 := by
 unfold isNm at h
 simp only [Bool.and_eq_true, beq_iff_eq, Bool.not_eq_true'] at h
 exact ⟨⟨knd_whole hg h.1 (by decide) (by decide), h.2⟩, txt_few hg p⟩
theorem iv_name (hg : SgsOk xs) {s : Ps} (h : SA s) : Iv (fun t s1 => (NamT t ∧ t.size ≤ 3000) ∧ SA s1) (nameP xs s) := by
 unfold nameP
 split
 ·rename_i hn
  exact Iv.ok ⟨nam_of hg hn, h⟩
 ·exact Iv.no
theorem iv_leaf (hg : SgsOk xs) {s : Ps} {k : Int} {kind : Int} (h : SA s) (hk : knd xs s.p = k) (h0 : k ≠ 0) (h4 : k ≠ 4) (ht : ∀ t, Whole k t → TxOk kind t) (h10 : kind ≠ 10) : Iv QA (leafP xs kind s) :=
 iv_add (s := s.next) h ⟨ht _ (knd_whole hg hk h0 h4), txt_few hg _, fun e => absurd e h10⟩
theorem iv_leafn (hg : SgsOk xs) {s : Ps} (h : SA s) (hn : isNm xs s.p = true) : Iv QA (leafP xs 1 s) := iv_addn (s := s.next) h (nam_of hg hn) (.inl rfl)
theorem iv_node (hg : SgsOk xs) {s : Ps} (h : SA s) : Iv QA (nodeP xs s) := (iv_name hg h).bnd fun _ _ h1 => iv_addn h1.2 h1.1 (.inl rfl)
def Keeps (one : Ps → Rs Nat) : Prop := ∀ s : Ps, SA s → Iv QA (one s)
theorem iv_listed {one : Ps → Rs Nat} {en : ByteArray} (ho : Keeps one) : ∀ (f : Nat) (ks : List Int) (s : Ps), SA s → Iv QA (listedP xs one en f ks s)
 | 0, _, _, _ => Iv.out
 | f + 1, ks, s, h => by
  unfold listedP
  split
  ·exact Iv.ok h
  ·refine (ho s h).bnd fun k s1 h1 => ?_
   split
   ·exact iv_listed ho f _ s1.next h1
   ·exact (iv_want h1).bnd fun _ s2 h2 => Iv.ok h2
theorem iv_names (hg : SgsOk xs) {s : Ps} (h : SA s) : Iv QA (namesP xs s) := (iv_want h).bnd fun _ s1 h1 => iv_listed (fun _ h => iv_node hg h) _ _ s1 h1
section
variable {O : Bool → Ps → Rs Nat}
theorem iv_call {c : Nat} {s : Ps} (hO : Keeps (O true)) (h : SA s) : Iv QA (callP xs O c s) := (iv_want h).bnd fun _ s1 h1 => (iv_listed hO _ _ s1 h1).bnd fun _ _ h2 => iv_add0 h2 rfl (by decide)
theorem iv_arrow (hg : SgsOk xs) {s : Ps} (hO : Keeps (O false)) (h : SA s) : Iv QA (arrowP xs O s) := (iv_names hg h).bnd fun _ _ h1 => (iv_want h1).bnd fun _ s2 h2 => (hO s2 h2).bnd fun _ _ h3 => iv_add0 h3 rfl (by decide)
theorem iv_base (hg : SgsOk xs) {s : Ps} (hO : ∀ b, Keeps (O b)) (h : SA s) : Iv QA (baseP xs O s) := by
 unfold baseP
 split
 ·rename_i hn; exact iv_leafn hg h hn
 split
 ·rename_i hk; exact iv_leaf hg h hk (by decide) (by decide) (fun t ht => ht) (by decide)
 split
 ·rename_i hk; exact iv_leaf hg h hk (by decide) (by decide) (fun t ht => ht) (by decide)
 split
 ·exact (iv_listed (hO true) _ _ s.next h).bnd fun _ _ h1 => iv_add0 h1 rfl (by decide)
 split
 ·exact iv_arrow hg (hO false) h
 split
 ·exact (hO true s.next h).bnd fun _ _ h1 => (iv_want h1).bnd fun _ _ h2 => iv_add0 h2 rfl (by decide)
 ·exact Iv.no
theorem iv_tailL (hg : SgsOk xs) (hO : Keeps (O true)) : ∀ (f v : Nat) (s : Ps), SA s → Iv QA (tailL xs O f v s)
 | 0, _, _, _ => Iv.out
 | f + 1, v, s, h => by
  unfold tailL
  split
  ·exact (iv_call hO h).bnd fun k s1 h1 => iv_tailL hg hO f k s1 h1
  split
  ·exact (iv_name hg (s := s.next) h).bnd fun _ _ h1 => (iv_addn h1.2 h1.1 (.inr (.inl rfl))).bnd fun k s2 h2 => iv_tailL hg hO f k s2 h2
  ·exact Iv.ok h
theorem iv_tail (hg : SgsOk xs) {s : Ps} (hO : ∀ b, Keeps (O b)) (h : SA s) : Iv QA (tailP xs O s) := (iv_base hg hO h).bnd fun k s1 h1 => iv_tailL hg (hO true) _ k s1 h1
theorem iv_from (hg : SgsOk xs) {nx : Ps → Rs Nat} {p : Nat} (hm : lvl (txt xs p) ≠ 0) (hn : Keeps nx) : ∀ (f : Nat) (ks : List Int) (s : Ps), SA s → Iv QA (fromL xs nx (txt xs p) f ks s)
 | 0, _, _, _ => Iv.out
 | f + 1, ks, s, h => by
  unfold fromL
  split
  ·exact (hn s.next h).bnd fun k s1 h1 => iv_from hg hm hn f _ s1 h1
  ·exact iv_add h ⟨hm, txt_few hg _, fun e => by have e' : (7 : Int) = 10 := e; omega⟩
theorem iv_chL (hg : SgsOk xs) {nx : Ps → Rs Nat} {lv : Nat} (hv : lv ≠ 0) (hn : Keeps nx) : ∀ (f v : Nat) (s : Ps), SA s → Iv QA (chL xs nx lv f v s)
 | 0, _, _, _ => Iv.out
 | f + 1, v, s, h => by
  unfold chL
  split
  ·rename_i hl
   exact (iv_from hg (by rw [hl]; exact hv) hn _ _ s h).bnd fun k s1 h1 => iv_chL hg hv hn f k s1 h1
  ·exact Iv.ok h
theorem iv_chain (hg : SgsOk xs) (hO : ∀ b, Keeps (O b)) : ∀ (j : Nat), j ≤ 6 → ∀ (s : Ps), SA s → Iv QA (chainP xs O j s)
 | 0, _, _, h => iv_tail hg hO h
 | j + 1, hj, s, h => (iv_chain hg hO j (by omega) s h).bnd fun v s1 h1 => iv_chL hg (by omega) (fun u h2 => iv_chain hg hO j (by omega) u h2) _ v s1 h1
theorem iv_pick (hg : SgsOk xs) {s : Ps} (hO : ∀ b, Keeps (O b)) (h : SA s) : Iv QA (pickP xs O s) := by
 unfold pickP
 split
 ·exact Iv.no
 refine (iv_chain hg hO 6 (by omega) ⟨s.p, s.d + 1, s.ns⟩ h).bnd fun v s1 h1 => ?_
 split
 ·refine (hO false s1.next h1).bnd fun y s2 h2 => (iv_want h2).bnd fun _ s3 h3 => (hO false s3 h3).bnd fun n s4 h4 => ?_
  refine Iv.bnd (Q := QA) ?_ fun k s5 h5 => Iv.ok h5
  exact iv_add0 h4 rfl (by decide)
 ·exact Iv.ok h1
theorem iv_casL (hg : SgsOk xs) (hO : Keeps (O true)) : ∀ (f : Nat) (ks : List Int) (s : Ps), SA s → Iv QA (casL xs O f ks s)
 | 0, _, _, _ => Iv.out
 | f + 1, ks, s, h => by
  unfold casL
  split
  ·exact (iv_node hg (s := s.next) h).bnd fun c s1 h1 => (iv_call hO h1).bnd fun k s2 h2 => iv_casL hg hO f _ s2 h2
  ·exact Iv.ok h
theorem iv_value (hg : SgsOk xs) {s : Ps} (hO : ∀ b, Keeps (O b)) (h : SA s) : Iv QA (valueP xs O s) := by
 refine (iv_pick hg hO h).bnd fun v s1 h1 => (iv_casL hg (hO true) _ _ s1 h1).bnd fun ks s2 h2 => ?_
 split
 ·exact Iv.ok h2
 ·rename_i hk
  exact iv_add h2 ⟨rfl, Nat.zero_le _, fun _ => hk⟩
end
theorem iv_vp (hg : SgsOk xs) : ∀ (n : Nat) (b : Bool), Keeps (vpF xs n b)
 | 0, _ => fun _ _ => Iv.out
 | n + 1, true => fun _ h => iv_value hg (fun b => iv_vp hg n b) h
 | n + 1, false => fun _ h => iv_pick hg (fun b => iv_vp hg n b) h
theorem iv_val (hg : SgsOk xs) {s : Ps} (h : SA s) : Iv QA (valP xs s) := iv_vp hg _ _ s h
theorem sa_set {s : Ps} {k : Nat} {b : Bool} (h : SA s) : SA (setBl s k b) := by
 intro x hx
 unfold setBl at hx
 cases hk : s.ns[k]? with
 | none => rw [hk] at hx; exact h x hx
 | some y =>
  rw [hk] at hx
  rcases List.mem_or_eq_of_mem_set hx with h1 | h1
  ·exact h x h1
  ·have hy := h y (List.mem_of_getElem? hk)
   rw [h1]
   exact ⟨hy.text, hy.few, hy.casc⟩
theorem iv_body {one : Ps → Rs Nat} {en : ByteArray} (ho : Keeps one) : ∀ (f : Nat) (ks : List Int) (s : Ps), SA s → Iv QA (bodyP xs one en f ks s)
 | 0, _, _, _ => Iv.out
 | f + 1, ks, s, h => by
  unfold bodyP
  split
  ·exact Iv.ok h
  ·exact (ho s h).bnd fun k s1 h1 => iv_body ho f _ _ (sa_set h1)
theorem iv_hold (hg : SgsOk xs) {s : Ps} (h : SA s) : Iv QA (holdP xs s) := by
 refine (iv_name hg h).bnd fun t s1 h1 => ?_
 split
 ·exact (iv_val hg (s := s1.next) h1.2).bnd fun _ _ h2 => (iv_want h2).bnd fun _ _ h3 => iv_addn h3 h1.1 (.inr (.inr (.inl rfl)))
 ·exact (iv_want h1.2).bnd fun _ _ h3 => iv_addn h3 h1.1 (.inr (.inr (.inl rfl)))
theorem iv_cond (hg : SgsOk xs) {s : Ps} (h : SA s) : Iv QA (condP xs s) := (iv_want h).bnd fun _ _ h1 => (iv_val hg h1).bnd fun _ _ h2 => (iv_want h2).bnd fun _ _ h3 => Iv.ok h3
theorem iv_block {st : Ps → Rs Nat} {s : Ps} (ho : Keeps st) (h : SA s) : Iv QA (blockP xs st s) := by
 unfold blockP
 split
 ·exact Iv.no
 refine (iv_want (s := ⟨s.p, s.d + 1, s.ns⟩) h).bnd fun _ s1 h1 => (iv_body ho _ _ s1 h1).bnd fun ks s2 h2 => (iv_want h2).bnd fun _ s3 h3 => ?_
 exact iv_add0 (s := ⟨s3.p, s3.d - 1, s3.ns⟩) h3 rfl (by decide)
theorem iv_answ (hg : SgsOk xs) {s : Ps} (h : SA s) : Iv QA (answP xs s) := by
 unfold answP
 split
 ·exact (iv_want h).bnd fun _ _ h1 => iv_add0 h1 rfl (by decide)
 ·exact (iv_val hg h).bnd fun _ _ h1 => (iv_want h1).bnd fun _ _ h2 => iv_add0 h2 rfl (by decide)
theorem iv_choi (hg : SgsOk xs) {st : Ps → Rs Nat} {s : Ps} (ho : Keeps st) (h : SA s) : Iv QA (choiP xs st s) := by
 refine (iv_cond hg h).bnd fun v s1 h1 => (iv_block ho h1).bnd fun b s2 h2 => ?_
 split
 ·exact (iv_block ho (s := s2.next) h2).bnd fun _ _ h3 => iv_add0 h3 rfl (by decide)
 ·exact iv_add0 h2 rfl (by decide)
theorem iv_loop (hg : SgsOk xs) {st : Ps → Rs Nat} {s : Ps} (ho : Keeps st) (h : SA s) : Iv QA (loopP xs st s) := (iv_cond hg h).bnd fun _ _ h1 => (iv_block ho h1).bnd fun _ _ h2 => iv_add0 h2 rfl (by decide)
theorem iv_sett (hg : SgsOk xs) {s : Ps} (h : SA s) : Iv QA (settP xs s) := (iv_name hg h).bnd fun _ _ h1 => (iv_want h1.2).bnd fun _ _ h2 => (iv_val hg h2).bnd fun _ _ h3 => (iv_want h3).bnd fun _ _ h4 => iv_addn h4 h1.1 (.inr (.inr (.inr (.inl rfl))))
theorem iv_step (hg : SgsOk xs) {st : Ps → Rs Nat} {s : Ps} (ho : Keeps st) (h : SA s) : Iv QA (stepP xs st s) := by
 unfold stepP
 split
 ·rename_i hk; exact iv_leaf hg h hk (by decide) (by decide) (fun t ht => ht) (by decide)
 split
 ·exact iv_hold hg (s := s.next) h
 split
 ·exact iv_answ hg (s := s.next) h
 split
 ·exact iv_choi hg (s := s.next) ho h
 split
 ·exact iv_loop hg (s := s.next) ho h
 split
 ·exact iv_sett hg h
 ·exact (iv_val hg h).bnd fun _ _ h1 => (iv_want h1).bnd fun _ _ h2 => iv_add0 h2 rfl (by decide)
theorem iv_st (hg : SgsOk xs) : ∀ (n : Nat), Keeps (stF xs n)
 | 0 => fun _ _ => Iv.out
 | n + 1 => fun _ h => iv_step hg (iv_st hg n) h
theorem iv_meth (hg : SgsOk xs) {s : Ps} (h : SA s) : Iv QA (methP xs s) := (iv_name hg h).bnd fun _ _ h1 => (iv_names hg h1.2).bnd fun _ _ h2 => (iv_block (iv_st hg _) h2).bnd fun _ _ h3 => iv_addn h3 h1.1 (.inr (.inr (.inr (.inr (.inl rfl)))))
theorem iv_memb (hg : SgsOk xs) {s : Ps} (h : SA s) : Iv QA (membP xs s) := by
 unfold membP
 split
 ·rename_i hk; exact iv_leaf hg h hk (by decide) (by decide) (fun t ht => ht) (by decide)
 split
 ·exact iv_hold hg (s := s.next) h
 ·exact iv_meth hg h
theorem iv_clas (hg : SgsOk xs) {s : Ps} (h : SA s) : Iv QA (clasP xs s) := (iv_name hg h).bnd fun _ _ h1 => (iv_want h1.2).bnd fun _ _ h2 => (iv_body (fun _ h => iv_memb hg h) _ _ _ h2).bnd fun _ _ h3 => (iv_want h3).bnd fun _ _ h4 => iv_addn h4 h1.1 (.inr (.inr (.inr (.inr (.inr rfl)))))
theorem iv_fmem (hg : SgsOk xs) {s : Ps} (h : SA s) : Iv QA (fmemP xs s) := by
 unfold fmemP
 split
 ·exact iv_clas hg (s := s.next) h
 ·exact iv_memb hg h
theorem iv_file (hg : SgsOk xs) : Iv QA (fileP xs) := by
 refine (iv_body (fun _ h => iv_fmem hg h) _ _ ⟨0, 0, []⟩ (fun x hx => by cases hx)).bnd fun ks s h => ?_
 exact iv_add0 h rfl (by decide)
theorem sgs_of (t : ByteArray) : SgsOk (sgn t).1 := ⟨sgn_whole t, fun x hx => ((sgn_ok t).1 x hx).few⟩
end
end Go.Proofs.YtcbbnphpkgifoaaGreatDoor
