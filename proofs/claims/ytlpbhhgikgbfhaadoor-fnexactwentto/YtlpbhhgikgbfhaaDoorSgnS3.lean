/- What the specification tells of the sign at a place. -/
import Derived.Test.YtlpbhhgikgbfhaaDoorSgnS2
import Derived.Test.YtlpbhhgikgbfhaaDoorTrimS
import Derived.Deep.MidRow
import Derived.Laws.ResultCell
namespace Go.Proofs.YtlpbhhgikgbfhaaDoor
open Go.RowKit

theorem results_agg4 {P : Program} {fn : Func} {p u : Tmp} {ty : TypeId} (h : fn.results = #[.cell p ty, .tmp u]) (tmps : Array Value) (w : World) (g : Nat) (c0 c1 c2 c3 : Value) (d : TypeDesc)
    (hp : tmps.getD p undef = .pointer (some ⟨g, 0, none⟩)) (h0 : w.cell? ⟨g, 0, none⟩ = some c0) (h1 : w.cell? ⟨g, 1, none⟩ = some c1) (h2 : w.cell? ⟨g, 2, none⟩ = some c2) (h3 : w.cell? ⟨g, 3, none⟩ = some c3)
    (hu : P.underlying ty = some d) (hd : d.isRow = true) (hi : (P.info? ty).map (·.size) = some 4) :
    (results fn tmps).run P w = .ok (.tuple #[.agg #[c0, c1, c2, c3], tmps.getD u undef]) w := by
  have hr : w.rangeAt g 0 [c0, c1, c2, c3] := by
    intro j v hv
    match j with
    | 0 => simpa using h0.trans hv
    | 1 => simpa using h1.trans hv
    | 2 => simpa using h2.trans hv
    | 3 => simpa using h3.trans hv
    | j + 4 => simp at hv
  rw [results_cell_tmp h, hp]
  simp only [asAddr, Sem.run_pure, Result.andThen_ok]
  rw [run_loadVar_mid w g 0 ty [c0, c1, c2, c3] d hr hu hd (by simpa using hi)]
  rfl

/-- The sign at a place, as the specification tells it. -/
def SgAnsOk (t : ByteArray) (k : Nat) (kd : Int) (x : ByteArray) (n : Nat) : Prop :=
  ((hd (t.extract k t.size)).2 = 0 ∧ n = 0) ∨
  ((hd (t.extract k t.size)).2 ≠ 0 ∧ kd = (hd (t.extract k t.size)).1 ∧ x = t.extract k (k + (hd (t.extract k t.size)).2) ∧ (hd (t.extract k t.size)).2 ≤ n ∧ k + n ≤ t.size ∧ ∀ j, (hd (t.extract k t.size)).2 ≤ j → j < n → by8 t (k + j) = 32)
theorem sgOk_same {t : ByteArray} {k n : Nat} {kd : Int} (h : hd (t.extract k t.size) = (kd, n)) (hk : k ≤ t.size) : SgAnsOk t k kd (t.extract k (k + n)) n := by
  have hl := hd_le (t.extract k t.size)
  rw [rest_size, h] at hl
  simp only at hl
  unfold SgAnsOk
  rw [h]
  by_cases hn : n = 0
  · exact .inl ⟨hn, hn⟩
  · exact .inr ⟨hn, rfl, rfl, Nat.le_refl _, by omega, fun j h1 h2 => by simp only at h1; omega⟩
theorem sgOk_none {t : ByteArray} {k : Nat} {kd : Int} {x : ByteArray} (h : (hd (t.extract k t.size)).2 = 0) : SgAnsOk t k kd x 0 := .inl ⟨h, rfl⟩
theorem spn_rest0 (p : Int → Bool) (t : ByteArray) (k : Nat) : spn p (t.extract k t.size) 0 = spn p t k := by rw [spn_rest, Nat.add_zero]
theorem by8_rest0 (t : ByteArray) (k : Nat) : by8 (t.extract k t.size) 0 = by8 t k := by rw [by8_rest, Nat.add_zero]
theorem ext_rest0 {t : ByteArray} {k n : Nat} (h : k + n ≤ t.size) : (t.extract k t.size).extract 0 n = t.extract k (k + n) := by
  rw [ext_rest, Nat.add_zero, Nat.min_eq_left h]
/-- A note. -/
theorem sgOk_note {t : ByteArray} {k : Nat} (hk : k < t.size) (h : 0 < ntRaw t k) : SgAnsOk t k 5 (trimB (t.extract k (k + ntRaw t k))) (ntRaw t k) ∧ k + ntRaw t k ≤ t.size := by
  by_cases h47 : by8 t k = 47 ∧ by8 t (k + 1) = 47
  · by_cases hbad : k + spn plaB t k < t.size ∧ by8 t (k + spn plaB t k) ≠ 10
    · have : ntRaw t k = 0 := by unfold ntRaw; rw [if_pos h47, if_pos hbad]
      omega
    · have e : ntRaw t k = spn plaB t k := by unfold ntRaw; rw [if_pos h47, if_neg hbad]
      have hle := spn_le (p := plaB) (s := t) (k := k) (by omega)
      rw [← e] at hle hbad
      have hz : ntSz (t.extract k t.size) = (trimB (t.extract k (k + ntRaw t k))).size := by
        unfold ntSz
        rw [spn_rest0, ← e, by8_rest, rest_size, if_neg (fun h => hbad ⟨by omega, h.2⟩), ext_rest0 hle]
      have hh : hd (t.extract k t.size) = (5, (trimB (t.extract k (k + ntRaw t k))).size) := by
        rw [hd_nt (by rw [by8_rest0, by8_rest]; exact h47), hz]
      obtain ⟨m, hm1, hm2, hm3, hm4⟩ := trimB_has (t.extract k (k + ntRaw t k))
      have hsz : (t.extract k (k + ntRaw t k)).size = ntRaw t k := by simp; omega
      rw [hsz] at hm1 hm4
      have hpos : m ≠ 0 := by
        intro e0
        have := hm4 0 (by omega) h
        rw [by8_ext (by omega), Nat.add_zero] at this
        omega
      refine ⟨.inr ?_, hle⟩
      rw [hh]
      refine ⟨by rw [hm3]; exact hpos, rfl, ?_, by rw [hm3]; exact hm1, hle, fun j h1 h2 => ?_⟩
      · show trimB _ = t.extract k (k + (trimB (t.extract k (k + ntRaw t k))).size)
        rw [hm3, hm2]
        apply str_ext
        rw [bytes_ext, bytes_ext, bytes_ext, List.drop_zero, List.drop_take, List.drop_take, List.take_take]
        congr 1
        omega
      · have h3 := hm4 j (by rw [hm3] at h1; exact h1) h2
        rw [by8_ext (by omega)] at h3
        exact h3
  · have : ntRaw t k = 0 := by unfold ntRaw; rw [if_neg h47]
    omega
theorem mkPs_no47 : (mkPs.all fun p => p.1.head? != some 47) = true := by decide
theorem mkIs_no47 {l : List UInt8} (h : l.head? = some 47) : mkIs l = false := by
  unfold mkIs
  rw [List.any_eq_false]
  intro p hp he
  have h1 := List.all_eq_true.1 mkPs_no47 p hp
  have h2 : p.1 = l := by simpa using he
  rw [h2, h] at h1
  simp at h1
theorem by8_head {r : ByteArray} {c : UInt8} (hc : c ≠ 0) (h : by8 r 0 = (c.toNat : Int)) : ∀ n, 0 < n → (r.data.toList.take n).head? = some c := by
  intro n hn
  unfold by8 at h
  cases hl : r.data.toList with
  | nil =>
    rw [hl] at h
    have : c.toNat = 0 := by simp at h; omega
    exact absurd (UInt8.toNat_inj.1 (by rw [this]; rfl)) hc
  | cons u l =>
    rw [hl] at h
    simp only [List.getD_cons_zero] at h
    obtain ⟨m, rfl⟩ : ∃ m, n = m + 1 := ⟨n - 1, by omega⟩
    rw [List.take_succ_cons]
    simp only [List.head?_cons, Option.some.injEq]
    exact UInt8.toNat_inj.1 (by omega)
theorem mkSz_no47 {r : ByteArray} (h : by8 r 0 = 47) : mkSz r = 0 := by
  have hh := by8_head (r := r) (c := 47) (by decide) h
  unfold mkSz
  rw [if_neg (fun x => by rw [mkIs_no47 (hh 2 (by omega))] at x; exact absurd x.2 (by decide)), if_neg (fun x => by rw [mkIs_no47 (hh 1 (by omega))] at x; exact absurd x.2 (by decide))]
/-- Neither note, name, number nor text. -/
theorem sgOk_mark {t : ByteArray} {k : Nat} (hk : k < t.size) (hn : ntRaw t k = 0) (h1 : figB (by8 t k) = false) (h2 : firB (by8 t k) = false) (h3 : by8 t k ≠ 39) :
    SgAnsOk t k 4 (t.extract k (k + mkSz (t.extract k t.size))) (t.extract k (k + mkSz (t.extract k t.size))).size := by
  by_cases h47 : by8 t k = 47 ∧ by8 t (k + 1) = 47
  · have hz : mkSz (t.extract k t.size) = 0 := mkSz_no47 (by rw [by8_rest0]; exact h47.1)
    have hh : hd (t.extract k t.size) = (5, ntSz (t.extract k t.size)) := hd_nt (by rw [by8_rest0, by8_rest]; exact h47)
    have hle := spn_le (p := plaB) (s := t) (k := k) (by omega)
    have h0 : ntSz (t.extract k t.size) = 0 := by
      unfold ntRaw at hn
      rw [if_pos h47] at hn
      unfold ntSz
      rw [spn_rest0, by8_rest, rest_size]
      by_cases hbad : k + spn plaB t k < t.size ∧ by8 t (k + spn plaB t k) ≠ 10
      · rw [if_pos ⟨by omega, hbad.2⟩]
      · rw [if_neg hbad] at hn
        have : 0 < spn plaB t k := (spn_pos hk).2 (by rw [h47.1]; decide)
        omega
    have hsz : (t.extract k (k + mkSz (t.extract k t.size))).size = 0 := by rw [hz]; simp
    rw [hsz]
    exact sgOk_none (by rw [hh]; exact h0)
  · have hh : hd (t.extract k t.size) = (4, mkSz (t.extract k t.size)) := hd_mk (by rw [by8_rest0]; exact h1) (by rw [by8_rest0]; exact h2) (by rw [by8_rest0]; exact h3) (by rw [by8_rest0, by8_rest]; exact h47)
    have hl := hd_le (t.extract k t.size)
    rw [rest_size, hh] at hl
    simp only at hl
    have hsz : (t.extract k (k + mkSz (t.extract k t.size))).size = mkSz (t.extract k t.size) := by simp; omega
    rw [hsz]
    exact sgOk_same hh (by omega)
end Go.Proofs.YtlpbhhgikgbfhaaDoor
