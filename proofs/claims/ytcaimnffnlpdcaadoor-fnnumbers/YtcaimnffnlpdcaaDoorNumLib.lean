/- What is written is read back: plain facts on numbers in bytes, short texts, decimal figures and hex figures. -/
import Derived.Test.YtcaimnffnlpdcaaDoorRsI
import Derived.Test.YtcaimnffnlpdcaaDoorHxI
import Derived.Test.YtcaimnffnlpdcaaDoorUxI
import Derived.Test.YtcaimnffnlpdcaaDoorRdI
namespace Go.Proofs.YtcaimnffnlpdcaaDoor

theorem by8_left (a b : ByteArray) (k : Nat) (h : k < a.size) : by8 (a ++ b) k = by8 a k := by
  unfold by8
  rw [ByteArray.data_append, Array.toList_append, List.getD_eq_getElem?_getD, List.getElem?_append_left (by simpa using h), ← List.getD_eq_getElem?_getD]
theorem by8_right (a b : ByteArray) (k : Nat) : by8 (a ++ b) (a.size + k) = by8 b k := by
  unfold by8
  have h : a.data.toList.length = a.size := by simp
  rw [ByteArray.data_append, Array.toList_append, List.getD_eq_getElem?_getD, List.getElem?_append_right (by omega), h, Nat.add_sub_cancel_left, ← List.getD_eq_getElem?_getD]
theorem by8_nums (bs : List Int) (k : Nat) (x : Int) (h : bs[k]? = some x) (h0 : 0 ≤ x) (h1 : x ≤ 255) : by8 (strOfNums bs) k = x := by
  unfold by8
  rw [strOfNums_data, List.getD_eq_getElem?_getD, List.getElem?_map, h]
  simp
  omega
theorem vb_range : ∀ (f n : Nat), n ≤ f → ∀ x ∈ vb n, 0 ≤ x ∧ x ≤ 255
  | 0, n, h, x, hx => by
    rw [vb_last n (by omega)] at hx
    simp at hx
    omega
  | f + 1, n, h, x, hx => by
    by_cases h1 : 127 < n
    · rw [vb_more n h1] at hx
      rcases List.mem_cons.1 hx with rfl | hx
      · omega
      · exact vb_range f (n / 128) (by omega) x hx
    · rw [vb_last n (by omega)] at hx
      simp at hx
      omega
theorem vb_pos (n : Nat) : 0 < (vb n).length := by
  by_cases h1 : 127 < n
  · rw [vb_more n h1]; simp
  · rw [vb_last n (by omega)]; simp
theorem rvF_back (S : ByteArray) (p : Nat) : ∀ (f r j : Nat) (sc m : Int), (vb r).length ≤ f → 0 ≤ sc → (∀ i x, (vb r)[i]? = some x → by8 S (j + i) = x ∧ j + i < S.size) → m + r * sc ≤ 1000000000 → (p < j → 0 < r) → rvF S p f j sc m = some (m + r * sc, j + (vb r).length)
  | 0, r, j, sc, m, h, _, _, _, _ => by have := vb_pos r; omega
  | f + 1, r, j, sc, m, h, hsc, hb, hm, hp => by
    by_cases h1 : 127 < r
    · rw [vb_more r h1] at h hb
      obtain ⟨e0, e1⟩ := hb 0 ((r : Int) % 128 + 128) rfl
      rw [Nat.add_zero] at e0 e1
      have hmod : by8 S j % 128 = (r : Int) % 128 := by rw [e0]; omega
      have hsum : m + (r : Int) % 128 * sc + ((r / 128 : Nat) : Int) * (sc * 128) = m + (r : Int) * sc := by
        have e : (r : Int) = (r : Int) % 128 + ((r / 128 : Nat) : Int) * 128 := by omega
        have : (r : Int) * sc = (r : Int) % 128 * sc + ((r / 128 : Nat) : Int) * (sc * 128) := by
          conv => lhs; rw [e]
          rw [Int.add_mul, Int.mul_assoc, Int.mul_comm 128 sc]
        omega
      rw [rvF_more e1 (by omega), hmod]
      have := rvF_back S p f (r / 128) (j + 1) (sc * 128) (m + (r : Int) % 128 * sc) (by simp at h; omega) (by omega) (fun i x hx => by
        have := hb (i + 1) x (by simpa using hx)
        rw [show j + (i + 1) = j + 1 + i by omega] at this
        exact this) (by rw [hsum]; exact hm) (fun _ => by omega)
      rw [this, hsum, vb_more r h1]
      simp
      omega
    · rw [vb_last r (by omega)] at h hb ⊢
      obtain ⟨e0, e1⟩ := hb 0 (r : Int) rfl
      rw [Nat.add_zero] at e0 e1
      have hmod : by8 S j % 128 = (r : Int) := by rw [e0]; omega
      rw [rvF_yes e1 (by omega) (by rw [hmod]; exact hm) (fun hz => by have := hp hz.1; omega), hmod]
      simp
theorem rv_back {S : ByteArray} {p n : Nat} (hn : n ≤ 1000000000) (hb : ∀ i x, (vb n)[i]? = some x → by8 S (p + i) = x ∧ p + i < S.size) : rv S p = some ((n : Int), p + (vb n).length) := by
  have := rvF_back S p 5 n p 1 0 (vb_len n (by omega)) (by omega) hb (by omega) (fun h => by omega)
  unfold rv
  rw [this]
  simp
theorem vb_get {n i : Nat} {x : Int} (h : (vb n)[i]? = some x) : (0 ≤ x ∧ x ≤ 255) ∧ i < (vb n).length := ⟨vb_range n n (Nat.le_refl _) x (List.mem_of_getElem? h), (List.getElem?_eq_some_iff.1 h).1⟩
/-- A number between two other bytes. -/
theorem rv_between (n : Nat) (hn : n ≤ 1000000000) : rv (⟨#[120]⟩ ++ strOfNums (vb n) ++ ⟨#[121]⟩) 1 = some ((n : Int), 1 + (vb n).length) := by
  refine rv_back hn (fun i x hx => ?_)
  obtain ⟨⟨h0, h1⟩, hi⟩ := vb_get hx
  have hs : (strOfNums (vb n)).size = (vb n).length := strOfNums_size _
  have h120 : (⟨#[120]⟩ : ByteArray).size = 1 := rfl
  refine ⟨?_, by rw [ByteArray.size_append, ByteArray.size_append, hs, h120]; omega⟩
  rw [by8_left _ _ _ (by rw [ByteArray.size_append, hs, h120]; omega), show 1 + i = (⟨#[120]⟩ : ByteArray).size + i by rw [h120], by8_right]
  exact by8_nums _ _ _ hx h0 h1
/-- A short text. -/
theorem rs_back (t : ByteArray) (ht : t.size ≤ 20000) : rsVal (strOfNums (vb t.size) ++ t) (rv (strOfNums (vb t.size) ++ t) 0) = .tuple #[.string t, .int .i64 ((strOfNums (vb t.size) ++ t).size : Int), .bool true] := by
  have hs : (strOfNums (vb t.size)).size = (vb t.size).length := strOfNums_size _
  have e := rv_back (S := strOfNums (vb t.size) ++ t) (p := 0) (n := t.size) (by omega) (fun i x hx => by
    obtain ⟨⟨h0, h1⟩, hi⟩ := vb_get hx
    refine ⟨?_, by rw [ByteArray.size_append, hs]; omega⟩
    rw [Nat.zero_add, by8_left _ _ _ (by rw [hs]; exact hi)]
    exact by8_nums _ _ _ hx h0 h1)
  rw [e]
  simp only [rsVal, Nat.zero_add, Int.toNat_natCast]
  rw [if_neg (by rw [ByteArray.size_append, hs]; omega)]
  have hx : (strOfNums (vb t.size) ++ t).extract (vb t.size).length ((vb t.size).length + t.size) = t := by
    apply ByteArray.ext
    apply Array.ext'
    rw [ByteArray.data_extract, Array.toList_extract, ByteArray.data_append, Array.toList_append]
    have hl : (strOfNums (vb t.size)).data.toList.length = (vb t.size).length := by rw [strOfNums_data]; simp
    have ht2 : t.data.toList.length = t.size := by simp
    rw [List.extract_eq_take_drop, ← hl, List.drop_left, Nat.add_sub_cancel_left]
    exact List.take_of_length_le (by omega)
  rw [hx, ByteArray.size_append, hs]
  simp
/-- Decimal figures. -/
theorem dec_digits : ∀ (f u : Nat), u ≤ f → ∀ (s : ByteArray) (rest : List UInt8), s.data.toList = Lib.decDigits u ++ rest → Dig s (Lib.decDigits u).length ∧ vl s (Lib.decDigits u).length = u
  | f, u, h, s, rest, hs => by
    by_cases h1 : u < 10
    · rw [dec_small h1] at hs ⊢
      have e : by8 s 0 = 48 + (u : Int) := by
        unfold by8
        rw [hs]
        simp
        omega
      refine ⟨fun j hj => ?_, ?_⟩
      · have : j = 0 := by simp at hj; omega
        subst this
        omega
      · simp [vl]
        omega
    · cases f with
      | zero => omega
      | succ f =>
        rw [dec_big h1] at hs ⊢
        rw [List.append_assoc] at hs
        obtain ⟨hd, hv⟩ := dec_digits f (u / 10) (by omega) s _ hs
        have e : by8 s (Lib.decDigits (u / 10)).length = 48 + ((u % 10 : Nat) : Int) := by
          unfold by8
          rw [hs, List.getD_eq_getElem?_getD, List.getElem?_append_right (Nat.le_refl _), Nat.sub_self]
          simp
          omega
        rw [List.length_append]
        refine ⟨dig_succ hd (by omega) (by omega), ?_⟩
        show vl s (Lib.decDigits (u / 10)).length * 10 + (by8 s (Lib.decDigits (u / 10)).length - 48).toNat = u
        rw [hv, e]
        omega
theorem rd_back (u : Nat) (hu : u ≤ 1000000000) : RdOk ⟨(Lib.decDigits u).toArray⟩ ∧ vl ⟨(Lib.decDigits u).toArray⟩ (⟨(Lib.decDigits u).toArray⟩ : ByteArray).size = u := by
  have hsz : (⟨(Lib.decDigits u).toArray⟩ : ByteArray).size = (Lib.decDigits u).length := by simp [ByteArray.size]
  obtain ⟨hd, hv⟩ := dec_digits u u (Nat.le_refl _) ⟨(Lib.decDigits u).toArray⟩ [] (by simp)
  have hp := dec_pos u
  rw [hsz]
  refine ⟨⟨by rw [hsz]; exact hp, ?_, by rw [hsz]; exact hd, by rw [hsz, hv]; exact hu⟩, hv⟩
  by_cases h1 : u < 10
  · left
    rw [hsz, dec_small h1]
    rfl
  · right
    intro e
    refine head_not 9 u (by omega) (by omega) ?_
    unfold by8 at e
    cases hl : Lib.decDigits u with
    | nil => rw [hl] at hp; simp at hp
    | cons a t =>
      rw [hl] at e
      simp at e
      have : a = 48 := by
        apply UInt8.toNat.inj
        show a.toNat = 48
        omega
      rw [this]
      rfl
/-- Hex figures. -/
theorem hv_fig (x : Int) (h0 : 0 ≤ x) (h1 : x < 16) : hv (fig x) = x ∧ 0 ≤ fig x ∧ fig x ≤ 255 := by
  unfold fig hv
  split
  · rw [if_pos (by omega)]; omega
  · rw [if_neg (by omega), if_pos (by omega)]; omega
theorem hexL_get (t : ByteArray) : ∀ (k j : Nat), j < k → (hexL t k)[2 * j]? = some (fig (by8 t j / 16)) ∧ (hexL t k)[2 * j + 1]? = some (fig (by8 t j % 16))
  | 0, j, h => by omega
  | k + 1, j, h => by
    have hl := hexL_len t k
    rw [hexL]
    by_cases e : j = k
    · subst e
      rw [List.getElem?_append_right (by omega), List.getElem?_append_right (by omega), hl]
      simp
    · obtain ⟨e1, e2⟩ := hexL_get t k j (by omega)
      rw [List.getElem?_append_left (by omega), List.getElem?_append_left (by omega)]
      exact ⟨e1, e2⟩
theorem hex_pair (t : ByteArray) (j : Nat) (h : j < t.size) : hv (by8 (strOfNums (hexL t t.size)) (2 * j)) = by8 t j / 16 ∧ hv (by8 (strOfNums (hexL t t.size)) (2 * j + 1)) = by8 t j % 16 := by
  obtain ⟨e1, e2⟩ := hexL_get t t.size j h
  have hr := by8_range t j
  have f1 := hv_fig (by8 t j / 16) (by omega) (by omega)
  have f2 := hv_fig (by8 t j % 16) (by omega) (by omega)
  rw [by8_nums _ _ _ e1 f1.2.1 f1.2.2, by8_nums _ _ _ e2 f2.2.1 f2.2.2]
  exact ⟨f1.1, f2.1⟩
theorem un_back (t : ByteArray) : ∀ k, k ≤ t.size → unL (strOfNums (hexL t t.size)) k = seg t 0 k
  | 0, _ => rfl
  | k + 1, h => by
    rw [unL, seg, un_back t k (by omega), (hex_pair t k (by omega)).1, (hex_pair t k (by omega)).2, Nat.zero_add]
    have : 16 * (by8 t k / 16) + by8 t k % 16 = by8 t k := by omega
    rw [this]
theorem hex_back (t : ByteArray) : UnAns (strOfNums (hexL t t.size)) (.returned (.tuple #[.string t, .bool true])) := by
  have hsz : (strOfNums (hexL t t.size)).size / 2 = t.size := by rw [strOfNums_size, hexL_len]; omega
  have hp : Pairs (strOfNums (hexL t t.size)) t.size := fun j hj => by
    have hr := by8_range t j
    rw [(hex_pair t j hj).1, (hex_pair t j hj).2]
    omega
  refine unAns_yes hp hsz.symm ?_
  rw [un_back t t.size (Nat.le_refl _), seg_str t 0 t.size (by omega)]
  congr 3
  simp
end Go.Proofs.YtcaimnffnlpdcaaDoor
