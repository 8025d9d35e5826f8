/- Plain facts: signs one behind the other come back as the same signs. -/
import Derived.Test.YtmmefiaommfpkaaDoorSignLib
namespace Go.Proofs.YtmmefiaommfpkaaDoor
open Go.RowKit

/-- What stands behind a sign of a kind. -/
def sepB (kd : Int) : UInt8 := if kd = 5 then 10 else 32
/-- A sign of that kind may have that text. -/
def okSg (kd : Int) (T : List UInt8) : Bool :=
  ((kd == 1) && decide (1 ≤ T.length) && decide (T.length ≤ 30) && (T.all fun u => namB (u.toNat : Int)) && firB ((T.getD 0 0).toNat : Int)) ||
  ((kd == 2) && decide (1 ≤ T.length) && decide (T.length ≤ 12) && (T.all fun u => figB (u.toNat : Int))) ||
  ((kd == 3) && decide (2 ≤ T.length) && (T.getD 0 0 == 39) && (T.getD (T.length - 1) 0 == 39) && (((T.drop 1).take (T.length - 2)).all fun u => texB (u.toNat : Int))) ||
  ((kd == 5) && decide (2 ≤ T.length) && (T.getD 0 0 == 47) && (T.getD 1 0 == 47) && (T.all fun u => plaB (u.toNat : Int)) && (T.getD (T.length - 1) 0 != 32)) ||
  ((kd == 4) && mkIs T)
theorem by8_app {r : ByteArray} {T R : List UInt8} (h : r.data.toList = T ++ R) {j : Nat} (hj : j < T.length) : by8 r j = ((T.getD j 0).toNat : Int) := by
  unfold by8
  rw [h, List.getD_eq_getElem?_getD, List.getElem?_append_left hj, ← List.getD_eq_getElem?_getD]
theorem by8_sep {r : ByteArray} {T R : List UInt8} {c : UInt8} (h : r.data.toList = T ++ c :: R) : by8 r T.length = (c.toNat : Int) := by
  unfold by8
  rw [h, List.getD_eq_getElem?_getD, List.getElem?_append_right (Nat.le_refl _), Nat.sub_self]
  rfl
theorem size_app {r : ByteArray} {T R : List UInt8} (h : r.data.toList = T ++ R) : r.size = T.length + R.length := by
  have := congrArg List.length h
  simpa using this
/-- What follows a sign: nothing, or what stands between. -/
def Follows (kd : Int) (R : List UInt8) : Prop := R = [] ∨ ∃ S, R = sepB kd :: S
theorem follow_by8 {r : ByteArray} {T R : List UInt8} {kd : Int} (h : r.data.toList = T ++ R) (hf : Follows kd R) (hl : T.length < r.size) : by8 r T.length = ((sepB kd).toNat : Int) := by
  rcases hf with rfl | ⟨S, rfl⟩
  · have := size_app h
    simp at this
    omega
  · exact by8_sep h
theorem all_at {T : List UInt8} {p : Int → Bool} (h : (T.all fun u => p (u.toNat : Int)) = true) {j : Nat} (hj : j < T.length) : p ((T.getD j 0).toNat : Int) = true := by
  rw [List.all_eq_true] at h
  refine h _ ?_
  rw [List.getD_eq_getElem?_getD, List.getElem?_eq_getElem hj]
  exact List.getElem_mem _
theorem fir_fig {b : Int} (h : firB b = true) : figB b = false := by
  rw [Bool.eq_false_iff]
  intro hf
  simp [firB] at h
  simp [figB] at hf
  omega
theorem hd_name {r : ByteArray} {T R : List UInt8} (h : r.data.toList = T ++ R) (hf : Follows 1 R) (h1 : 1 ≤ T.length) (h2 : T.length ≤ 30) (h3 : (T.all fun u => namB (u.toNat : Int)) = true) (h4 : firB ((T.getD 0 0).toNat : Int) = true) : hd r = (1, T.length) := by
  have hs := size_app h
  have b0 := by8_app h (j := 0) (by omega)
  have hsp : spn namB r 0 = T.length := spn_is _ 0 (by omega) (fun j hj => by rw [Nat.zero_add, by8_app h hj]; exact all_at h3 hj) (fun hl => by rw [Nat.zero_add, follow_by8 h hf (by omega)]; rfl)
  rw [hd_nam (by rw [b0]; exact fir_fig h4) (by rw [b0]; exact h4), hsp]
  unfold capN
  rw [if_neg (by omega)]
theorem hd_number {r : ByteArray} {T R : List UInt8} (h : r.data.toList = T ++ R) (hf : Follows 2 R) (h1 : 1 ≤ T.length) (h2 : T.length ≤ 12) (h3 : (T.all fun u => figB (u.toNat : Int)) = true) : hd r = (2, T.length) := by
  have hs := size_app h
  have b0 := by8_app h (j := 0) (by omega)
  have hsp : spn figB r 0 = T.length := spn_is _ 0 (by omega) (fun j hj => by rw [Nat.zero_add, by8_app h hj]; exact all_at h3 hj) (fun hl => by rw [Nat.zero_add, follow_by8 h hf (by omega)]; rfl)
  rw [hd_fig (by rw [b0]; exact all_at h3 (by omega)), hsp]
  unfold capN
  rw [if_neg (by omega)]
theorem hd_quoted {r : ByteArray} {T R : List UInt8} (h : r.data.toList = T ++ R) (h1 : 2 ≤ T.length) (h2 : T.getD 0 0 = 39) (h3 : T.getD (T.length - 1) 0 = 39) (h4 : (((T.drop 1).take (T.length - 2)).all fun u => texB (u.toNat : Int)) = true) : hd r = (3, T.length) := by
  have hs := size_app h
  have b0 : by8 r 0 = 39 := by rw [by8_app h (j := 0) (by omega), h2]; rfl
  have bl : by8 r (1 + (T.length - 2)) = 39 := by rw [show 1 + (T.length - 2) = T.length - 1 by omega, by8_app h (by omega), h3]; rfl
  have hsp : spn texB r 1 = T.length - 2 := spn_is _ 1 (by omega) (fun j hj => by
    have := all_at h4 (j := j) (by simp; omega)
    rw [by8_app h (by omega)]
    rw [List.getD_eq_getElem?_getD, List.getElem?_take, if_pos hj, List.getElem?_drop, ← List.getD_eq_getElem?_getD] at this
    exact this) (fun _ => by rw [bl]; rfl)
  rw [hd_qt (by rw [b0]; rfl) (by rw [b0]; rfl) b0]
  unfold qtSz
  rw [hsp, if_pos ⟨by omega, bl⟩]
  congr 1
  omega
theorem hd_noted {r : ByteArray} {T R : List UInt8} (h : r.data.toList = T ++ R) (hf : Follows 5 R) (h1 : 2 ≤ T.length) (h2 : T.getD 0 0 = 47) (h3 : T.getD 1 0 = 47) (h4 : (T.all fun u => plaB (u.toNat : Int)) = true) (h5 : T.getD (T.length - 1) 0 ≠ 32) : hd r = (5, T.length) := by
  have hs := size_app h
  have b0 : by8 r 0 = 47 := by rw [by8_app h (j := 0) (by omega), h2]; rfl
  have b1 : by8 r 1 = 47 := by rw [by8_app h (j := 1) (by omega), h3]; rfl
  have hsp : spn plaB r 0 = T.length := spn_is _ 0 (by omega) (fun j hj => by rw [Nat.zero_add, by8_app h hj]; exact all_at h4 hj) (fun hl => by rw [Nat.zero_add, follow_by8 h hf (by omega)]; rfl)
  rw [hd_nt ⟨b0, b1⟩]
  unfold ntSz
  have hb5 : by8 r (T.length - 1) ≠ 32 := by
    rw [by8_app h (by omega)]
    intro e
    exact h5 (UInt8.toNat_inj.1 (by
      have e2 : (T.getD (T.length - 1) 0).toNat = 32 := by omega
      rw [e2]; rfl))
  have hz : (r.extract 0 T.length).size = T.length := by simp; omega
  have ht : (r.extract 0 T.length).extract 0 T.length = trimB (r.extract 0 T.length) := trimB_is (by omega) (fun j j1 j2 => by omega) (fun _ => by rw [by8_ext (by omega), Nat.zero_add]; exact hb5)
  rw [hsp, if_neg (fun hh => hh.2 (by rw [follow_by8 h hf hh.1]; rfl)), ← ht]
  congr 1
  simp
  omega
theorem mkPs_facts : (mkPs.all fun p => (decide (p.1.length = 1) || decide (p.1.length = 2)) && !figB ((p.1.getD 0 0).toNat : Int) && !firB ((p.1.getD 0 0).toNat : Int) && (p.1.getD 0 0 != 39) && (p.1.getD 0 0 != 47) && (p.1.getD 1 0 != 32) && (p.1.getD 0 0 != 32) && (p.1.getD 0 0 != 10)) = true := by decide
theorem mk_facts {T : List UInt8} (h : mkIs T = true) : (T.length = 1 ∨ T.length = 2) ∧ figB ((T.getD 0 0).toNat : Int) = false ∧ firB ((T.getD 0 0).toNat : Int) = false ∧ T.getD 0 0 ≠ 39 ∧ T.getD 0 0 ≠ 47 ∧ T.getD 1 0 ≠ 32 ∧ T.getD 0 0 ≠ 32 ∧ T.getD 0 0 ≠ 10 := by
  unfold mkIs at h
  rw [List.any_eq_true] at h
  obtain ⟨p, hp, he⟩ := h
  have h1 := List.all_eq_true.1 mkPs_facts p hp
  obtain rfl : p.1 = T := by simpa using he
  simp only [Bool.and_eq_true, Bool.or_eq_true, decide_eq_true_eq, Bool.not_eq_true', bne_iff_ne, ne_eq] at h1
  obtain ⟨⟨⟨⟨⟨⟨⟨a1, a2⟩, a3⟩, a4⟩, a5⟩, a6⟩, a7⟩, a8⟩ := h1
  exact ⟨a1, a2, a3, a4, a5, a6, a7, a8⟩
theorem toNat_ne {u c : UInt8} (h : u ≠ c) : ((u.toNat : Nat) : Int) ≠ ((c.toNat : Nat) : Int) := fun e => h (UInt8.toNat_inj.1 (by omega))
theorem hd_marked {r : ByteArray} {T R : List UInt8} (h : r.data.toList = T ++ R) (hf : Follows 4 R) (hm : mkIs T = true) : hd r = (4, T.length) := by
  have hs := size_app h
  obtain ⟨hl, h1, h2, h3, h4, h5, _, _⟩ := mk_facts hm
  have b0 := by8_app h (j := 0) (by omega)
  have n39 : by8 r 0 ≠ 39 := by rw [b0]; exact toNat_ne h3
  have n47 : by8 r 0 ≠ 47 := by rw [b0]; exact toNat_ne h4
  rw [hd_mk (by rw [b0]; exact h1) (by rw [b0]; exact h2) n39 (fun hh => n47 hh.1)]
  congr 1
  unfold mkSz
  rcases hl with hl | hl
  · have h2' : ¬ (2 ≤ r.size ∧ mkIs (r.data.toList.take 2) = true) := by
      rintro ⟨hz, hi⟩
      have hx := (mk_facts hi).2.2.2.2.2.1
      apply hx
      rcases hf with rfl | ⟨S, rfl⟩
      · simp at hs
        omega
      · rw [h]
        match T, hl with
        | [u], _ => rfl
    have h1' : mkIs (r.data.toList.take 1) = true := by
      rw [h, List.take_append_of_le_length (by omega), List.take_of_length_le (by omega)]
      exact hm
    rw [if_neg h2', if_pos ⟨by omega, h1'⟩, hl]
  · have h2' : mkIs (r.data.toList.take 2) = true := by
      rw [h, List.take_append_of_le_length (by omega), List.take_of_length_le (by omega)]
      exact hm
    rw [if_pos ⟨by omega, h2'⟩, hl]
/-- A text begins with a sign that may be: that sign is found, and it begins with neither blank nor line end. -/
theorem hd_ok {r : ByteArray} {T R : List UInt8} {kd : Int} (h : r.data.toList = T ++ R) (hf : Follows kd R) (hok : okSg kd T = true) : hd r = (kd, T.length) ∧ 0 < T.length ∧ by8 r 0 ≠ 32 ∧ by8 r 0 ≠ 10 := by
  unfold okSg at hok
  simp only [Bool.or_eq_true, Bool.and_eq_true, beq_iff_eq, decide_eq_true_eq, bne_iff_ne] at hok
  rcases hok with (((⟨⟨⟨⟨rfl, a1⟩, a2⟩, a3⟩, a4⟩ | ⟨⟨⟨rfl, a1⟩, a2⟩, a3⟩) | ⟨⟨⟨⟨rfl, a1⟩, a2⟩, a3⟩, a4⟩) | ⟨⟨⟨⟨⟨rfl, a1⟩, a2⟩, a3⟩, a4⟩, a5⟩) | ⟨rfl, a1⟩
  · refine ⟨hd_name h hf a1 a2 a3 a4, a1, ?_, ?_⟩ <;>
    · rw [by8_app h (j := 0) (by omega)]
      intro e
      rw [e] at a4
      exact absurd a4 (by decide)
  · refine ⟨hd_number h hf a1 a2 a3, a1, ?_, ?_⟩ <;>
    · rw [by8_app h (j := 0) (by omega)]
      intro e
      have := all_at a3 (j := 0) (by omega)
      rw [e] at this
      exact absurd this (by decide)
  · refine ⟨hd_quoted h a1 a2 a3 a4, by omega, ?_, ?_⟩ <;>
    · rw [by8_app h (j := 0) (by omega), a2]
      decide
  · refine ⟨hd_noted h hf a1 a2 a3 a4 a5, by omega, ?_, ?_⟩ <;>
    · rw [by8_app h (j := 0) (by omega), a2]
      decide
  · obtain ⟨hl, _, _, _, _, _, a7, a8⟩ := mk_facts a1
    refine ⟨hd_marked h hf a1, by omega, ?_, ?_⟩
    · rw [by8_app h (j := 0) (by omega)]
      exact toNat_ne a7
    · rw [by8_app h (j := 0) (by omega)]
      exact toNat_ne a8
/-- Signs one behind the other. -/
def flatL : List Sg → List UInt8
  | [] => []
  | [x] => x.text.data.toList
  | x :: y :: xs => x.text.data.toList ++ sepB x.kind :: flatL (y :: xs)
theorem flat_parts (x : Sg) (xs : List Sg) : ∃ R, flatL (x :: xs) = x.text.data.toList ++ R ∧ Follows x.kind R ∧ ((xs = [] ∧ R = []) ∨ (R = sepB x.kind :: flatL xs)) := by
  cases xs with
  | nil => exact ⟨[], by simp [flatL], .inl rfl, .inl ⟨rfl, rfl⟩⟩
  | cons y ys => exact ⟨_, rfl, .inr ⟨_, rfl⟩, .inr rfl⟩
theorem same2_mk (kd p q : Int) (s : ByteArray) (b c : Bool) : same2 ⟨kd, s, p, b⟩ ⟨kd, s, q, c⟩ = true := by simp [same2]
theorem lex_flat (t : ByteArray) : ∀ (xs : List Sg) (k e : Nat) (pre : List Sg), (∀ x ∈ xs, okSg x.kind x.text.data.toList = true) → t.data.toList.drop k = flatL xs → k ≤ t.size → ∃ ys, lexA t k e pre = (pre ++ ys, 0, true) ∧ sameAll ys xs = true
  | [], k, e, pre, _, h, hk => by
    have hs : t.size - k = 0 := by
      have := congrArg List.length h
      simpa [flatL] using this
    exact ⟨[], by rw [lexA_end (by omega), List.append_nil], rfl⟩
  | x :: xs, k, e, pre, hok, h, hk => by
    obtain ⟨R, hR, hf, hlast⟩ := flat_parts x xs
    have hr : (t.extract k t.size).data.toList = x.text.data.toList ++ R := by rw [rest_bytes, h, hR]
    obtain ⟨hhd, hpos, n32, n10⟩ := hd_ok hr hf (hok x (by simp))
    have hsz := size_app hr
    rw [rest_size] at hsz
    have hn : (hd (t.extract k t.size)).2 = x.text.data.toList.length := by rw [hhd]
    rw [by8_rest, Nat.add_zero] at n32 n10
    have hT : t.extract k (k + x.text.data.toList.length) = x.text := by
      apply str_ext
      rw [bytes_ext, List.drop_take, Nat.add_sub_cancel_left, h, hR, List.take_append_of_le_length (Nat.le_refl _), List.take_of_length_le (Nat.le_refl _)]
    have hdr : t.data.toList.drop (k + x.text.data.toList.length) = R := by
      rw [← List.drop_drop, h, hR, List.drop_append_of_le_length (Nat.le_refl _), List.drop_of_length_le (Nat.le_refl _), List.nil_append]
    rw [lexA_sign (by omega) n32 n10 (by rw [hn]; omega), hhd]
    simp only
    rw [hT]
    rcases hlast with ⟨rfl, rfl⟩ | hR2
    · refine ⟨[⟨x.kind, x.text, k, decide (1 < e)⟩], ?_, ?_⟩
      · simp at hsz
        rw [lexA_end (by simp; omega)]
      · obtain ⟨a, b, c, d⟩ := x
        simp [sameAll, same2_mk]
    · have hk1 : k + x.text.data.toList.length < t.size := by
        rw [hR2] at hsz
        simp only [List.length_cons] at hsz
        omega
      have hb : by8 t (k + x.text.data.toList.length) = ((sepB x.kind).toNat : Int) := by
        unfold by8
        rw [List.getD_eq_getElem?_getD, ← List.head?_drop, hdr, hR2]
        rfl
      have hdr2 : t.data.toList.drop (k + x.text.data.toList.length + 1) = flatL xs := by
        rw [← List.drop_drop, hdr, hR2]
        rfl
      have key : ∀ e', lexA t (k + x.text.data.toList.length) e' (pre ++ [⟨x.kind, x.text, k, decide (1 < e)⟩]) = lexA t (k + x.text.data.toList.length + 1) (if x.kind = 5 then e' + 1 else e') (pre ++ [⟨x.kind, x.text, k, decide (1 < e)⟩]) := by
        intro e'
        unfold sepB at hb
        by_cases h5 : x.kind = 5
        · rw [if_pos h5] at hb ⊢
          exact lexA_line hk1 hb
        · rw [if_neg h5] at hb ⊢
          exact lexA_blank hk1 hb
      obtain ⟨ys, hy1, hy2⟩ := lex_flat t xs (k + x.text.data.toList.length + 1) (if x.kind = 5 then 0 + 1 else 0) (pre ++ [⟨x.kind, x.text, k, decide (1 < e)⟩]) (fun y hy => hok y (by simp [hy])) hdr2 (by omega)
      refine ⟨⟨x.kind, x.text, k, decide (1 < e)⟩ :: ys, ?_, ?_⟩
      · rw [key, hy1]
        simp
      · obtain ⟨a, b, c, d⟩ := x
        simp [sameAll, same2_mk, hy2]
/-- A sign stands where it says. -/
def PlOk (t : ByteArray) (x : Sg) : Prop := ∃ p : Nat, x.place = p ∧ p + x.text.size ≤ t.size ∧ t.extract p (p + x.text.size) = x.text
theorem lex_place (t : ByteArray) : ∀ (d k e : Nat) (pre : List Sg), t.size - k ≤ d → (∀ x ∈ pre, PlOk t x) → ∀ x ∈ (lexA t k e pre).1, PlOk t x
  | d, k, e, pre, hd0, hpre => by
    by_cases hk : k < t.size
    · obtain ⟨d, rfl⟩ : ∃ e, d = e + 1 := ⟨d - 1, by omega⟩
      by_cases h32 : by8 t k = 32
      · rw [lexA_blank hk h32]; exact lex_place t d (k + 1) e pre (by omega) hpre
      · by_cases h10 : by8 t k = 10
        · rw [lexA_line hk h10]; exact lex_place t d (k + 1) (e + 1) pre (by omega) hpre
        · by_cases hn : (hd (t.extract k t.size)).2 = 0
          · rw [lexA_none hk h32 h10 hn]
            intro x hx
            cases hx
          · rw [lexA_sign hk h32 h10 hn]
            refine lex_place t d _ 0 _ (by omega) ?_
            intro x hx
            rw [List.mem_append] at hx
            rcases hx with hx | hx
            · exact hpre x hx
            · obtain rfl : x = _ := by simpa using hx
              have hl := hd_le (t.extract k t.size)
              rw [rest_size] at hl
              have hz : (t.extract k (k + (hd (t.extract k t.size)).2)).size = (hd (t.extract k t.size)).2 := by simp; omega
              refine ⟨k, rfl, ?_, ?_⟩
              · show k + (t.extract k (k + (hd (t.extract k t.size)).2)).size ≤ t.size
                rw [hz]; omega
              · show t.extract k (k + (t.extract k (k + (hd (t.extract k t.size)).2)).size) = _
                rw [hz]
    · rw [lexA_end hk]; exact hpre
theorem sgn_place (t : ByteArray) : ∀ x ∈ (sgn t).1, PlOk t x := by
  by_cases h : 3000 < t.size
  · rw [sgn_long h]
    intro x hx
    cases hx
  · rw [sgn_short h]
    exact lex_place t t.size 0 0 [] (by omega) (fun x hx => by cases hx)
theorem sgn_flat {t : ByteArray} {xs : List Sg} (h : t.data.toList = flatL xs) (hok : ∀ x ∈ xs, okSg x.kind x.text.data.toList = true) (hs : t.size ≤ 3000) : (sgn t).2.2 = true ∧ sameAll (sgn t).1 xs = true := by
  rw [sgn_short (by omega)]
  obtain ⟨ys, h1, h2⟩ := lex_flat t xs 0 0 [] hok (by rw [List.drop_zero]; exact h) (Nat.zero_le _)
  rw [h1]
  exact ⟨rfl, by simpa using h2⟩
end Go.Proofs.YtmmefiaommfpkaaDoor
