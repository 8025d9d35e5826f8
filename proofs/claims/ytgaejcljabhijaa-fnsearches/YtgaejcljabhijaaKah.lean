/- Lists of values in their order, counted on by one, and the cheapest of them, in plain words. -/
import Derived.Test.YtgaejcljabhijaaKad
import Derived.Test.YtgaejcljabhijaaKag
import Derived.Test.YtgaejcljabhijaaKaa
import Derived.Test.YtgaejcljabhijaaKae
namespace Go.Proofs.Ytgaejcljabhijaa
open Go.RowKit

/-- Values, each in 0 .. Values less 1. -/
def InV : List Ru → List Int → Prop
  | [], [] => True
  | r :: rs, v :: vs => (0 ≤ v ∧ v < r.values) ∧ InV rs vs
  | [], _ :: _ => False
  | _ :: _, [] => False
theorem inV_len : ∀ (rs : List Ru) (vs : List Int), InV rs vs → vs.length = rs.length
  | [], [], _ => rfl
  | r :: rs, v :: vs, h => by rw [List.length_cons, List.length_cons, inV_len rs vs h.2]
  | [], _ :: _, h => absurd h id
  | _ :: _, [], h => absurd h id
theorem inV_at : ∀ (rs : List Ru) (vs : List Int), InV rs vs → ∀ (j : Nat) (z : Int) (y : Ru), vs[j]? = some z → rs[j]? = some y → 0 ≤ z ∧ z < y.values
  | [], [], _, j, z, y, hz, _ => by simp at hz
  | r :: rs, v :: vs, h, 0, z, y, hz, hy => by
    simp only [List.getElem?_cons_zero, Option.some.injEq] at hz hy
    subst hz
    subst hy
    exact h.1
  | r :: rs, v :: vs, h, j + 1, z, y, hz, hy => inV_at rs vs h.2 j z y (by simpa using hz) (by simpa using hy)
  | [], _ :: _, h, _, _, _, _, _ => absurd h id
  | _ :: _, [], h, _, _, _, _, _ => absurd h id
theorem inV_mk : ∀ (rs : List Ru) (vs : List Int), vs.length = rs.length → (∀ (j : Nat) (z : Int) (y : Ru), vs[j]? = some z → rs[j]? = some y → 0 ≤ z ∧ z < y.values) → InV rs vs
  | [], [], _, _ => trivial
  | r :: rs, v :: vs, hl, h => ⟨h 0 v r rfl rfl, inV_mk rs vs (by simpa using hl) (fun j z y hz hy => h (j + 1) z y (by simpa using hz) (by simpa using hy))⟩
  | [], _ :: _, hl, _ => by simp at hl
  | _ :: _, [], hl, _ => by simp at hl
theorem inV_ok {p : Pc} {vs : List Int} (h : ValOk p vs) : InV p.rules vs := inV_mk _ _ h.len (fun j z y hz hy => by have := h.all j z y hz hy; omega)
theorem ok_inV {p : Pc} {vs : List Int} (h : InV p.rules vs) : ValOk p vs := ⟨inV_len _ _ h, fun j z y hz hy => by have := inV_at _ _ h j z y hz hy; omega⟩

/-- Values counted on by one: the last place counts fastest. -/
def nx : List Ru → List Int → Option (List Int)
  | r :: rs, v :: vs => match nx rs vs with
    | some u => some (v :: u)
    | none => if v + 1 < r.values then some ((v + 1) :: List.replicate vs.length 0) else none
  | [], _ => none
  | _ :: _, [] => none
/-- What a place, with all behind it carrying, makes of it. -/
theorem nx_here {rs : List Ru} {vs : List Int} {k : Nat} {y : Ru} {z : Int} (hy : rs[k]? = some y) (hz : vs[k]? = some z) (h : nx (rs.drop (k + 1)) (vs.drop (k + 1)) = none) :
    nx (rs.drop k) (vs.drop k) = if z + 1 < y.values then some ((z + 1) :: List.replicate (vs.length - (k + 1)) 0) else none := by
  have h1 := (List.getElem?_eq_some_iff.1 hy)
  have h2 := (List.getElem?_eq_some_iff.1 hz)
  rw [List.drop_eq_getElem_cons h1.1, List.drop_eq_getElem_cons h2.1, nx, h, h1.2, h2.2, List.length_drop]
theorem nx_lift : ∀ (k : Nat) (rs : List Ru) (vs u : List Int), k ≤ rs.length → k ≤ vs.length → nx (rs.drop k) (vs.drop k) = some u → nx rs vs = some (vs.take k ++ u)
  | 0, rs, vs, u, _, _, h => by simpa using h
  | k + 1, [], vs, u, h1, _, _ => by simp at h1
  | k + 1, r :: rs, [], u, _, h2, _ => by simp at h2
  | k + 1, r :: rs, v :: vs, u, h1, h2, h => by
    have ih := nx_lift k rs vs u (by simpa using h1) (by simpa using h2) (by simpa using h)
    rw [nx, ih]
    rfl
theorem nx_end (rs : List Ru) (vs : List Int) : nx (rs.drop vs.length) (vs.drop vs.length) = none := by
  rw [List.drop_of_length_le (Nat.le_refl vs.length)]
  cases rs.drop vs.length <;> rfl

/-- How many lists there are, and which of them one is. -/
def tot : List Ru → Int
  | [] => 1
  | r :: rs => r.values * tot rs
def rk : List Ru → List Int → Int
  | _ :: rs, v :: vs => v * tot rs + rk rs vs
  | [], _ => 0
  | _ :: _, [] => 0
theorem mul_step {v V T : Int} (hT : 0 ≤ T) (h : v < V) : v * T + T ≤ V * T := by
  have h1 : (v + 1) * T ≤ V * T := Int.mul_le_mul_of_nonneg_right (by omega) hT
  rw [Int.add_mul, Int.one_mul] at h1
  exact h1
theorem rk_bd : ∀ (rs : List Ru) (vs : List Int), InV rs vs → 0 ≤ rk rs vs ∧ rk rs vs < tot rs
  | [], [], _ => ⟨Int.le_refl _, by decide⟩
  | r :: rs, v :: vs, h => by
    have ih := rk_bd rs vs h.2
    have h1 := mul_step (T := tot rs) (by omega) h.1.2
    have h2 : 0 ≤ v * tot rs := Int.mul_nonneg h.1.1 (by omega)
    rw [rk, tot]
    omega
  | [], _ :: _, h => absurd h id
  | _ :: _, [], h => absurd h id
theorem inV_zero : ∀ (rs : List Ru) (vs : List Int), InV rs vs → InV rs (List.replicate vs.length 0)
  | [], [], _ => trivial
  | r :: rs, v :: vs, h => ⟨by have := h.1; omega, inV_zero rs vs h.2⟩
  | [], _ :: _, h => absurd h id
  | _ :: _, [], h => absurd h id
theorem rk_zero : ∀ (rs : List Ru) (n : Nat), rk rs (List.replicate n 0) = 0
  | [], n => by cases n <;> rfl
  | r :: rs, 0 => rfl
  | r :: rs, n + 1 => by
    rw [List.replicate_succ, rk, rk_zero rs n]
    omega
theorem nx_both : ∀ (rs : List Ru) (vs : List Int), InV rs vs → (∀ u, nx rs vs = some u → InV rs u ∧ rk rs u = rk rs vs + 1) ∧ (nx rs vs = none → rk rs vs + 1 = tot rs)
  | [], [], _ => ⟨fun u h => by simp [nx] at h, fun _ => rfl⟩
  | r :: rs, v :: vs, h => by
    obtain ⟨h1, h2⟩ := nx_both rs vs h.2
    cases hn : nx rs vs with
    | some u' =>
      refine ⟨fun u hu => ?_, fun hu => ?_⟩
      · rw [nx, hn] at hu
        have hu' : v :: u' = u := Option.some.inj hu
        subst hu'
        obtain ⟨a, b⟩ := h1 u' hn
        refine ⟨⟨h.1, a⟩, ?_⟩
        rw [rk, rk]
        omega
      · rw [nx, hn] at hu
        cases hu
    | none =>
      have h3 := h2 hn
      by_cases hc : v + 1 < r.values
      · refine ⟨fun u hu => ?_, fun hu => ?_⟩
        · rw [nx, hn] at hu
          simp only [if_pos hc, Option.some.injEq] at hu
          subst hu
          refine ⟨⟨by have := h.1; omega, inV_zero rs vs h.2⟩, ?_⟩
          rw [rk, rk, rk_zero, Int.add_mul, Int.one_mul]
          omega
        · rw [nx, hn] at hu
          simp only [if_pos hc] at hu
          cases hu
      · refine ⟨fun u hu => ?_, fun hu => ?_⟩
        · rw [nx, hn] at hu
          simp only [if_neg hc] at hu
          cases hu
        · have e : r.values = v + 1 := by have := h.1; omega
          rw [rk, tot, e, Int.add_mul, Int.one_mul]
          omega
  | [], _ :: _, h => absurd h id
  | _ :: _, [], h => absurd h id
/-- Which is ahead is told by that number. -/
theorem two_digits {T a b q s : Int} (hq : 0 ≤ q ∧ q < T) (hs : 0 ≤ s ∧ s < T) (h : a < b) : a * T + q < b * T + s := by
  have := mul_step (T := T) (by omega) h
  omega
theorem rk_inj : ∀ (rs : List Ru) (a b : List Int), InV rs a → InV rs b → rk rs a = rk rs b → a = b
  | [], [], [], _, _, _ => rfl
  | r :: rs, x :: a, y :: b, ha, hb, h => by
    have h1 := rk_bd rs a ha.2
    have h2 := rk_bd rs b hb.2
    rw [rk, rk] at h
    have e : x = y := by
      by_cases h3 : x < y
      · have := two_digits h1 h2 h3; omega
      · by_cases h4 : y < x
        · have := two_digits h2 h1 h4; omega
        · omega
    subst e
    rw [rk_inj rs a b ha.2 hb.2 (by omega)]
  | [], _ :: _, _, h, _, _ => absurd h id
  | [], [], _ :: _, _, h, _ => absurd h id
  | _ :: _, [], _, h, _, _ => absurd h id
  | _ :: _, _ :: _, [], _, h, _ => absurd h id
theorem rk_cmp : ∀ (rs : List Ru) (a b : List Int), InV rs a → InV rs b → cmpL a b < 0 → rk rs a < rk rs b
  | [], [], [], _, _, h => by simp [cmpL] at h
  | r :: rs, x :: a, y :: b, ha, hb, h => by
    have h1 := rk_bd rs a ha.2
    have h2 := rk_bd rs b hb.2
    rw [cmpL] at h
    rw [rk, rk]
    by_cases h3 : x < y
    · exact two_digits h1 h2 h3
    · rw [if_neg h3] at h
      by_cases h4 : y < x
      · rw [if_pos h4] at h
        omega
      · rw [if_neg h4] at h
        have e : x = y := by omega
        subst e
        have := rk_cmp rs a b ha.2 hb.2 h
        omega
  | [], _ :: _, _, h, _, _ => absurd h id
  | [], [], _ :: _, _, h, _ => absurd h id
  | _ :: _, [], _, h, _, _ => absurd h id
  | _ :: _, _ :: _, [], _, h, _ => absurd h id

/-- One list costs less than another. -/
def lessV (p : Pc) (wd : Int) (a b : List Int) : Bool := lessC (costOver p a wd) (costSum p a) (costOver p b wd) (costSum p b)
theorem lessC_iff {o1 s1 o2 s2 : Int} : lessC o1 s1 o2 s2 = true ↔ (o1 < o2 ∨ o1 = o2 ∧ s1 < s2) := by unfold lessC; rw [decide_eq_true_eq]
theorem lessC_no {o1 s1 o2 s2 : Int} : lessC o1 s1 o2 s2 = false ↔ ¬ (o1 < o2 ∨ o1 = o2 ∧ s1 < s2) := by unfold lessC; rw [decide_eq_false_iff_not]
/-- Of the first m lists, this one costs the least, and it is the first of those. -/
structure Upto (p : Pc) (wd : Int) (bs : List Int) (m : Int) : Prop where
  ties : TiesHold p bs
  lt : rk p.rules bs < m
  low : ∀ u, TiesHold p u → rk p.rules u < m → lessV p wd u bs = false ∧ (costOver p u wd = costOver p bs wd → costSum p u = costSum p bs → rk p.rules bs ≤ rk p.rules u)
/-- Of all. -/
def Best (p : Pc) (wd : Int) (bs : List Int) : Prop := Upto p wd bs (tot p.rules)
theorem Upto.skip {p : Pc} {wd : Int} {bs vs : List Int} (h : Upto p wd bs (rk p.rules vs)) (hv : InV p.rules vs) (hn : ¬ TiesHold p vs) : Upto p wd bs (rk p.rules vs + 1) := by
  refine ⟨h.ties, by have := h.lt; omega, fun u hu hm => ?_⟩
  by_cases e : rk p.rules u = rk p.rules vs
  · exact absurd (rk_inj _ _ _ (inV_ok hu.vals) hv e ▸ hu) hn
  · exact h.low u hu (by omega)
theorem Upto.keep {p : Pc} {wd : Int} {bs vs : List Int} (h : Upto p wd bs (rk p.rules vs)) (hv : InV p.rules vs) (hl : lessV p wd vs bs = false) : Upto p wd bs (rk p.rules vs + 1) := by
  refine ⟨h.ties, by have := h.lt; omega, fun u hu hm => ?_⟩
  by_cases e : rk p.rules u = rk p.rules vs
  · have e2 := rk_inj _ _ _ (inV_ok hu.vals) hv e
    subst e2
    exact ⟨hl, fun _ _ => by have := h.lt; omega⟩
  · exact h.low u hu (by omega)
theorem Upto.take {p : Pc} {wd : Int} {bs vs : List Int} (h : Upto p wd bs (rk p.rules vs)) (hv : InV p.rules vs) (ht : TiesHold p vs) (hl : lessV p wd vs bs = true) : Upto p wd vs (rk p.rules vs + 1) := by
  refine ⟨ht, by omega, fun u hu hm => ?_⟩
  by_cases e : rk p.rules u = rk p.rules vs
  · have e2 := rk_inj _ _ _ (inV_ok hu.vals) hv e
    subst e2
    refine ⟨?_, fun _ _ => Int.le_refl _⟩
    unfold lessV
    rw [lessC_no]
    omega
  · have h1 := (h.low u hu (by omega)).1
    unfold lessV at h1 hl ⊢
    rw [lessC_no] at h1
    rw [lessC_iff] at hl
    refine ⟨by rw [lessC_no]; omega, fun a b => ?_⟩
    exfalso
    omega
theorem Upto.first {p : Pc} {wd : Int} {z : List Int} (ht : TiesHold p z) (h0 : rk p.rules z = 0) : Upto p wd z (rk p.rules z + 1) := by
  refine ⟨ht, by omega, fun u hu hm => ?_⟩
  have h1 := rk_bd _ _ (inV_ok hu.vals)
  have e2 := rk_inj _ _ _ (inV_ok hu.vals) (inV_ok ht.vals) (by omega)
  subst e2
  refine ⟨?_, fun _ _ => Int.le_refl _⟩
  unfold lessV
  rw [lessC_no]
  omega
/-- There is one such list alone. -/
theorem best_one {p : Pc} {wd : Int} {a b : List Int} (ha : Best p wd a) (hb : Best p wd b) : a = b := by
  have h1 := ha.low b hb.ties hb.lt
  have h2 := hb.low a ha.ties ha.lt
  have e1 := h1.1
  have e2 := h2.1
  unfold lessV at e1 e2
  rw [lessC_no] at e1 e2
  have h3 := h1.2 (by omega) (by omega)
  have h4 := h2.2 (by omega) (by omega)
  exact rk_inj _ _ _ (inV_ok ha.ties.vals) (inV_ok hb.ties.vals) (by omega)
/-- All 0: each tie holds. -/
def zeros (p : Pc) : List Int := List.replicate p.rules.length 0
theorem zeros_len (p : Pc) : (zeros p).length = p.rules.length := by simp [zeros]
theorem zeros_ties {p : Pc} (h : Right p) : TiesHold p (zeros p) := by
  unfold zeros
  refine ⟨⟨by simp, fun j z y hz hy => ?_⟩, fun j x hx => ?_⟩
  · have hv := (h.rules.2 j y hy).1
    rw [List.getElem?_replicate] at hz
    split at hz
    · cases hz
      omega
    · cases hz
  · obtain ⟨⟨k0, k1⟩, ⟨u0, u1⟩, -⟩ := h.ties.all j x hx
    rw [show p.rules.length = (List.replicate p.rules.length (0 : Int)).length by simp] at k1 u1
    have h0 : ∀ {r : Nat} {z : Int}, (List.replicate p.rules.length (0 : Int))[r]? = some z → z = 0 := fun {r z} hz => by
      rw [List.getElem?_replicate] at hz
      split at hz
      · cases hz; rfl
      · cases hz
    obtain ⟨z, hz, e1⟩ := st_of k0 k1
    obtain ⟨z', hz', e2⟩ := st_of u0 u1
    have h1 := h0 hz
    have h2 := h0 hz'
    unfold TieOk
    rw [e1, e2, if_neg (by omega), if_neg (by omega)]
    rfl
theorem zeros_rk (p : Pc) : rk p.rules (zeros p) = 0 := rk_zero _ _
/-- How many there are, where the values are 2 or 3. -/
theorem prod_tot : ∀ (rs : List Ru) (c : Int), (∀ x ∈ rs, 2 ≤ x.values ∧ x.values ≤ 3) → prod c rs = c * tot rs
  | [], c, _ => by rw [prod, tot, Int.mul_one]
  | r :: rs, c, h => by
    rw [prod, if_pos (h r (List.mem_cons_self ..)), prod_tot rs _ (fun x hx => h x (List.mem_cons_of_mem _ hx)), tot, Int.mul_assoc]
theorem right_vals {p : Pc} (h : Right p) : ∀ x ∈ p.rules, 2 ≤ x.values ∧ x.values ≤ 3 := fun x hx => by
  obtain ⟨j, hj⟩ := List.mem_iff_getElem?.1 hx
  exact (h.rules.2 j x hj).1
theorem cnt_tot {p : Pc} (h : Right p) : cntOf p = tot p.rules := by
  unfold cntOf
  rw [List.take_of_length_le h.rules.1, prod_tot _ _ (right_vals h), Int.one_mul]
def pw3 : Nat → Int
  | 0 => 1
  | n + 1 => 3 * pw3 n
theorem tot_le : ∀ (rs : List Ru), (∀ x ∈ rs, 2 ≤ x.values ∧ x.values ≤ 3) → 1 ≤ tot rs ∧ tot rs ≤ pw3 rs.length
  | [], _ => ⟨Int.le_refl _, Int.le_refl _⟩
  | r :: rs, h => by
    have ih := tot_le rs (fun x hx => h x (List.mem_cons_of_mem _ hx))
    have hr := h r (List.mem_cons_self ..)
    have h1 : 2 * tot rs ≤ r.values * tot rs := Int.mul_le_mul_of_nonneg_right hr.1 (by omega)
    have h2 : r.values * tot rs ≤ 3 * tot rs := Int.mul_le_mul_of_nonneg_right hr.2 (by omega)
    rw [tot, List.length_cons, pw3]
    omega
theorem pw3_mono : ∀ {n m : Nat}, n ≤ m → pw3 n ≤ pw3 m := fun {n m} h => by
  have h1 : ∀ k, 1 ≤ pw3 k := fun k => by
    induction k with
    | zero => exact Int.le_refl _
    | succ k ih => rw [pw3]; omega
  induction h with
  | refl => exact Int.le_refl _
  | step _ ih => rename_i k _; rw [pw3]; have := h1 k; omega
theorem tot_few {p : Pc} (h : Right p) (h5 : p.rules.length ≤ 5) : 1 ≤ tot p.rules ∧ tot p.rules ≤ 243 := by
  have h1 := tot_le _ (right_vals h)
  have h2 := pw3_mono h5
  have h3 : pw3 5 = 243 := by decide
  omega

/-- There is a cheapest list. -/
theorem upto_is (p : Pc) (wd : Int) (h : Right p) : ∀ (k : Nat), (k : Int) < tot p.rules → ∃ vs bs, InV p.rules vs ∧ rk p.rules vs = k ∧ Upto p wd bs (rk p.rules vs + 1)
  | 0, _ => ⟨zeros p, zeros p, inV_ok (zeros_ties h).vals, zeros_rk p, Upto.first (zeros_ties h) (zeros_rk p)⟩
  | k + 1, hk => by
    obtain ⟨vs, bs, hI, hr, hU⟩ := upto_is p wd h k (by omega)
    cases hn : nx p.rules vs with
    | none => have := (nx_both _ _ hI).2 hn; omega
    | some u =>
      obtain ⟨hu, hru⟩ := (nx_both _ _ hI).1 u hn
      rw [← hru] at hU
      by_cases hT : TiesHold p u
      · cases hl : lessV p wd u bs with
        | false => exact ⟨u, bs, hu, by omega, hU.keep hu hl⟩
        | true => exact ⟨u, u, hu, by omega, hU.take hu hT hl⟩
      · exact ⟨u, bs, hu, by omega, hU.skip hu hT⟩
theorem best_is (p : Pc) (wd : Int) (h : Right p) : ∃ bs, Best p wd bs := by
  have h1 := tot_le _ (right_vals h)
  obtain ⟨k, hk⟩ := Int.eq_ofNat_of_zero_le (show 0 ≤ tot p.rules - 1 by omega)
  obtain ⟨vs, bs, -, hr, hU⟩ := upto_is p wd h k (by omega)
  refine ⟨bs, ?_⟩
  unfold Best
  rw [show tot p.rules = rk p.rules vs + 1 by omega]
  exact hU

/-- The numbers that lie in a block, from its beginning on. -/
def readI (w : World) (b n : Nat) : List Int := (List.range n).map fun j => match w.cell? ⟨b, j, none⟩ with
  | some (.int _ z) => z
  | _ => 0
theorem readI_eq {w : World} {b : Nat} {vs : List Int} (h : ∀ j z, vs[j]? = some z → w.cell? ⟨b, j, none⟩ = some (.int .i64 z)) : readI w b vs.length = vs := by
  apply List.ext_getElem?
  intro j
  unfold readI
  rw [List.getElem?_map]
  by_cases hj : j < vs.length
  · rw [List.getElem?_range hj, List.getElem?_eq_getElem hj]
    have := h j _ (List.getElem?_eq_getElem hj)
    simp [this]
  · rw [List.getElem?_eq_none (by simpa using hj), List.getElem?_eq_none (by omega)]
    rfl
end Go.Proofs.Ytgaejcljabhijaa
/- What goes up or down in a heap is neither lost nor made. -/
namespace Go.Proofs.Ytgaejcljabhijaa

section
variable {α : Type} {lt : α → α → Bool} (f : α → Int)
/-- What all of a list come to. -/
def totS : List α → Int
  | [] => 0
  | x :: xs => f x + totS xs
theorem tot_app : ∀ (xs ys : List α), totS f (xs ++ ys) = totS f xs + totS f ys
  | [], ys => by simp [totS]
  | x :: xs, ys => by
    rw [List.cons_append, totS, totS, tot_app xs ys]
    omega
theorem tot_set : ∀ (xs : List α) (i : Nat) (x y : α), xs[i]? = some x → totS f (xs.set i y) = totS f xs - f x + f y
  | [], i, x, y, h => by simp at h
  | z :: xs, 0, x, y, h => by
    have : z = x := by simpa using h
    subst this
    rw [List.set_cons_zero, totS, totS]
    omega
  | z :: xs, i + 1, x, y, h => by
    rw [List.set_cons_succ, totS, totS, tot_set xs i x y (by simpa using h)]
    omega
theorem tot_swp (xs : List α) (i j : Nat) : totS f (swp xs i j) = totS f xs := by
  unfold swp
  split
  · rename_i x y hx hy
    by_cases e : i = j
    · subst e
      rw [hx] at hy
      cases hy
      have hi := (List.getElem?_eq_some_iff.1 hx).1
      rw [tot_set f _ i x x (by rw [List.getElem?_set_self hi]), tot_set f xs i x x hx]
      omega
    · rw [tot_set f _ j y x (by rw [List.getElem?_set_ne e]; exact hy), tot_set f xs i x y hx]
      omega
  · rfl
theorem tot_upF : ∀ (k : Nat) (xs : List α) (i : Nat), totS f (upF lt k xs i) = totS f xs
  | 0, _, _ => rfl
  | k + 1, xs, i => by
    rw [upF]
    split
    · rw [tot_upF k, tot_swp]
    · rfl
theorem tot_dnF : ∀ (k : Nat) (xs : List α) (i : Nat), totS f (dnF lt k xs i) = totS f xs
  | 0, _, _ => rfl
  | k + 1, xs, i => by
    rw [dnF]
    split
    · rw [tot_dnF k, tot_swp]
    · rfl
theorem tot_push (xs : List α) (x : α) : totS f (pushL lt xs x) = totS f xs + f x := by
  unfold pushL up
  rw [tot_upF, tot_app]
  simp [totS]
theorem tot_take (xs : List α) (y : α) (h : xs[xs.length - 1]? = some y) : totS f (xs.take (xs.length - 1)) = totS f xs - f y := by
  have hl := (List.getElem?_eq_some_iff.1 h).1
  have e := tot_app f (xs.take (xs.length - 1)) (xs.drop (xs.length - 1))
  rw [List.take_append_drop, List.drop_eq_getElem_cons hl, List.drop_of_length_le (by omega)] at e
  have e2 : xs[xs.length - 1] = y := by rw [List.getElem?_eq_getElem hl] at h; cases h; rfl
  rw [e2] at e
  simp [totS] at e
  omega
theorem tot_rest (xs : List α) (x : α) (h : xs[0]? = some x) : totS f (restL lt xs) = totS f xs - f x := by
  unfold restL dn
  rw [tot_dnF]
  have h0 := (List.getElem?_eq_some_iff.1 h).1
  obtain ⟨y, hy⟩ : ∃ y, xs[xs.length - 1]? = some y := ⟨_, List.getElem?_eq_getElem (by omega)⟩
  rw [cutL_of hy]
  have hl : (xs.set 0 y).length = xs.length := by simp
  have h2 := tot_take f (xs.set 0 y) y (by
    rw [hl]
    by_cases e : xs.length - 1 = 0
    · rw [e, List.getElem?_set_self (by omega)]
    · rw [List.getElem?_set_ne (by omega)]
      exact hy)
  rw [hl] at h2
  rw [h2, tot_set f xs 0 x y h]
  omega
theorem dnF_mem : ∀ (k : Nat) (xs : List α) (i : Nat) (x : α), x ∈ dnF lt k xs i → x ∈ xs
  | 0, _, _, _, h => h
  | k + 1, xs, i, x, h => by
    rw [dnF] at h
    split at h
    · exact swp_mem (dnF_mem k _ _ x h)
    · exact h
theorem upF_mem : ∀ (k : Nat) (xs : List α) (i : Nat) (x : α), x ∈ upF lt k xs i → x ∈ xs
  | 0, _, _, _, h => h
  | k + 1, xs, i, x, h => by
    rw [upF] at h
    split at h
    · exact swp_mem (upF_mem k _ _ x h)
    · exact h
theorem cut_mem {xs : List α} {x : α} (h : x ∈ cutL xs) : ∃ j, 0 < j ∧ xs[j]? = some x := by
  obtain ⟨i, hi⟩ := List.mem_iff_getElem?.1 h
  have hl := (List.getElem?_eq_some_iff.1 hi).1
  rw [cutL_len] at hl
  obtain ⟨y, hy⟩ : ∃ y, xs[xs.length - 1]? = some y := ⟨_, List.getElem?_eq_getElem (by omega)⟩
  rw [cutL_of hy, List.getElem?_take, if_pos hl] at hi
  by_cases e : i = 0
  · subst e
    rw [List.getElem?_set_self (by omega)] at hi
    cases hi
    exact ⟨xs.length - 1, by omega, hy⟩
  · rw [List.getElem?_set_ne (by omega)] at hi
    exact ⟨i, by omega, hi⟩
theorem rest_mem {xs : List α} {x : α} (h : x ∈ restL lt xs) : ∃ j, 0 < j ∧ xs[j]? = some x := cut_mem (dnF_mem _ _ _ _ h)
end
end Go.Proofs.Ytgaejcljabhijaa
/- What is in a heap stays in it when another one is pushed, and when the first is popped. -/
namespace Go.Proofs.Ytgaejcljabhijaa

section
variable {α : Type} {lt : α → α → Bool}
theorem ind_nonneg (x : α) : ∀ (xs : List α), 0 ≤ totS (fun y => @ite Int (y = x) (Classical.propDecidable _) 1 0) xs
  | [] => Int.le_refl _
  | y :: xs => by
    have := ind_nonneg x xs
    rw [totS]
    split <;> omega
theorem mem_tot (x : α) : ∀ (xs : List α), x ∈ xs ↔ 0 < totS (fun y => @ite Int (y = x) (Classical.propDecidable _) 1 0) xs
  | [] => by simp [totS]
  | y :: xs => by
    have h := ind_nonneg x xs
    have ih := mem_tot x xs
    rw [totS, List.mem_cons]
    by_cases e : y = x
    · rw [if_pos e]
      exact ⟨fun _ => by omega, fun _ => .inl e.symm⟩
    · rw [if_neg e, Int.zero_add, ← ih]
      exact ⟨fun h => h.resolve_left (fun h => e h.symm), fun h => .inr h⟩
theorem mem_push {xs : List α} {x y : α} : y ∈ pushL lt xs x ↔ y ∈ xs ∨ y = x := by
  rw [mem_tot, tot_push, mem_tot y xs]
  have h := ind_nonneg y xs
  by_cases e : x = y
  · rw [if_pos e]
    exact ⟨fun _ => .inr e.symm, fun _ => by omega⟩
  · rw [if_neg e]
    exact ⟨fun h => .inl (by omega), fun h => (h.elim (fun h => by omega) (fun h => absurd h.symm e))⟩
theorem mem_rest {xs : List α} {x y : α} (h0 : xs[0]? = some x) (hy : y ∈ xs) : y = x ∨ y ∈ restL lt xs := by
  by_cases e : x = y
  · exact .inl e.symm
  · right
    rw [mem_tot] at hy ⊢
    rw [tot_rest (lt := lt) _ xs x h0, if_neg e]
    omega
end
end Go.Proofs.Ytgaejcljabhijaa
/- The search by trying, as a plain function: what it tells is the cheapest of all, or no dearer than what it began with. -/
namespace Go.Proofs.Ytgaejcljabhijaa
open Go.RowKit

/-- A tie is broken by the first values. -/
def brk (u : List Int) (x : Ti) : Bool := decide (0 ≤ x.kid) && decide (x.kid < (u.length : Int)) && decide (0 ≤ x.up) && decide (x.up < (u.length : Int)) && decide (0 < u.getD x.kid.toNat 0) && decide (u.getD x.up.toNat 0 = 0)
/-- No tie is broken. -/
def mayB (p : Pc) (u : List Int) : Bool := p.ties.all fun x => !brk u x
/-- One list is ahead of another: it costs less, or the same, and stands ahead. -/
def aheadB (p : Pc) (wd : Int) (u b : List Int) : Bool := lessV p wd u b || (decide (costOver p u wd = costOver p b wd) && decide (costSum p u = costSum p b) && decide (cmpL u b < 0))
/-- These first values are pushed. -/
def goodB (p : Pc) (wd : Int) (best u : List Int) : Bool := mayB p u && !(decide (costOver p best wd = 0) && decide (costSum p best < costSum p u))
/-- The next values, one behind the other. -/
def pushK (p : Pc) (wd : Int) (best u : List Int) : Nat → Nat → List St → List St
  | 0, _, h => h
  | c + 1, k, h => pushK p wd best u c (k + 1) (if goodB p wd best (u ++ [(k : Int)]) = true then pushL stLess h ⟨u ++ [(k : Int)], costSum p (u ++ [(k : Int)])⟩ else h)
/-- How many values the rule has. -/
def vOf (p : Pc) (n : Nat) : Nat := ((p.rules[n]?).map fun r => r.values.toNat).getD 0
/-- The first one of a heap. -/
def hd0 (h : List St) : St := (h[0]?).getD ⟨[], 0⟩
/-- The search: how many may still be popped, the heap, the best so far. -/
def srch (p : Pc) (wd : Int) : Nat → List St → List Int → List Int × Int
  | _, [], best => (best, 1)
  | 0, _ :: _, best => (best, 2)
  | f + 1, y :: ys, best =>
    if (hd0 (y :: ys)).vals.length = p.rules.length then srch p wd f (restL stLess (y :: ys)) (if aheadB p wd (hd0 (y :: ys)).vals best = true then (hd0 (y :: ys)).vals else best)
    else srch p wd f (pushK p wd best (hd0 (y :: ys)).vals (vOf p (hd0 (y :: ys)).vals.length) 0 (restL stLess (y :: ys))) best
theorem pre_in {rs : List Ru} {u : List Int} (h : PreV rs u) (hl : u.length = rs.length) : InV rs u := inV_mk rs u hl h.2
/-- What the first values cost no list that begins with them falls below. -/
theorem vcost_pre : ∀ (rs : List Ru) (u t : List Int), (∀ x ∈ rs, 0 ≤ x.cost) → (∀ z ∈ u ++ t, 0 ≤ z) → vcost rs u ≤ vcost rs (u ++ t)
  | [], _, _, _, _ => by simp [vcost]
  | r :: rs, [], t, hr, hz => by
    rw [List.nil_append]
    have : ∀ (rs : List Ru) (t : List Int), (∀ x ∈ rs, 0 ≤ x.cost) → (∀ z ∈ t, 0 ≤ z) → 0 ≤ vcost rs t := by
      intro rs
      induction rs with
      | nil => intro t _ _; simp [vcost]
      | cons r rs ih =>
        intro t hr hz
        cases t with
        | nil => simp [vcost]
        | cons z t =>
          rw [vcost]
          have h1 := ih t (fun x hx => hr x (List.mem_cons_of_mem _ hx)) (fun y hy => hz y (List.mem_cons_of_mem _ hy))
          have h2 := Int.mul_nonneg (hr r List.mem_cons_self) (hz z List.mem_cons_self)
          omega
    have h := this (r :: rs) t hr (by simpa using hz)
    rw [vcost]
    exact h
  | r :: rs, v :: u, t, hr, hz => by
    rw [List.cons_append, vcost, vcost]
    have := vcost_pre rs u t (fun x hx => hr x (List.mem_cons_of_mem _ hx)) (fun y hy => hz y (List.mem_cons_of_mem _ hy))
    omega
theorem spl_pre {u t : List Int} {x : Ch} (hx : 1 ≤ x.frm) (h : spl u x = true) : spl (u ++ t) x = true := by
  unfold spl at h ⊢
  rw [decide_eq_true_eq] at h ⊢
  by_cases hk : x.rule.toNat < u.length
  · rw [getD_pre hk]
    exact h
  · rw [List.getD_eq_getElem?_getD, List.getElem?_eq_none (by omega)] at h
    simp at h
    omega
theorem snSpl_pre {cs : List Ch} {u t : List Int} {x : Sn} (hc : ∀ (k : Nat) (y : Ch), x.frm.toNat ≤ k → k ≤ x.til.toNat → cs[k]? = some y → 1 ≤ y.frm) (h : snSpl cs u x = true) : snSpl cs (u ++ t) x = true := by
  unfold snSpl at h ⊢
  rw [List.any_eq_true] at h ⊢
  obtain ⟨y, hy, hs⟩ := h
  refine ⟨y, hy, spl_pre ?_ hs⟩
  obtain ⟨j, hj⟩ := List.mem_iff_getElem?.1 hy
  rw [List.getElem?_drop, List.getElem?_take] at hj
  split at hj
  · exact hc (x.frm.toNat + j) y (by omega) (by omega) hj
  · cases hj
theorem scost_pre {cs : List Ch} {u t : List Int} : ∀ (xs : List Sn), (∀ x ∈ xs, 0 ≤ x.cost ∧ ∀ (k : Nat) (y : Ch), x.frm.toNat ≤ k → k ≤ x.til.toNat → cs[k]? = some y → 1 ≤ y.frm) → scost cs u xs ≤ scost cs (u ++ t) xs
  | [], _ => by simp [scost]
  | x :: xs, h => by
    have ih := scost_pre (u := u) (t := t) xs (fun y hy => h y (List.mem_cons_of_mem _ hy))
    have hx := h x List.mem_cons_self
    rw [scost, scost]
    by_cases hs : snSpl cs u x = true
    · rw [if_pos hs, if_pos (snSpl_pre hx.2 hs)]
      omega
    · rw [if_neg hs]
      split <;> omega
theorem sum_pre {p : Pc} (hR : Right p) {u t : List Int} (hz : ∀ z ∈ u ++ t, 0 ≤ z) : costSum p u ≤ costSum p (u ++ t) := by
  unfold costSum
  have h1 := vcost_pre p.rules u t (fun x hx => by
    obtain ⟨j, hj⟩ := List.mem_iff_getElem?.1 hx
    exact (hR.rules.2 j x hj).2.1) hz
  have h2 := scost_pre (cs := p.chunks) (u := u) (t := t) p.spans (fun x hx => by
    obtain ⟨j, hj⟩ := List.mem_iff_getElem?.1 hx
    have hs := hR.spans.all j x hj
    refine ⟨hs.2.2.1, fun k y _ hk hy => ?_⟩
    have h3 := hs.1
    obtain ⟨-, ⟨_, _, h5, _⟩, _⟩ := (hR.chunks.texts k y hy).2 (by omega)
    exact h5)
  omega
/-- A tie that is broken by the first values stays broken. -/
theorem brk_pre {u t : List Int} {x : Ti} (h : brk u x = true) : ¬ TieOk (u ++ t) x := by
  unfold brk at h
  simp only [Bool.and_eq_true, decide_eq_true_eq] at h
  obtain ⟨⟨⟨⟨⟨h1, h2⟩, h3⟩, h4⟩, h5⟩, h6⟩ := h
  intro hT
  unfold TieOk at hT
  have e1 : st (u ++ t) x.kid = 2 := by
    unfold st
    rw [if_pos ⟨h1, by rw [List.length_append]; omega⟩, getD_pre (by omega), if_pos h5]
  have e2 : st (u ++ t) x.up = 1 := by
    unfold st
    rw [if_pos ⟨h3, by rw [List.length_append]; omega⟩, getD_pre (by omega), if_neg (by omega)]
  rw [e1, e2] at hT
  simp [holdB] at hT
theorem may_ties {p : Pc} (hR : Right p) {v : List Int} (hv : InV p.rules v) (h : mayB p v = true) : TiesHold p v := by
  refine ⟨ok_inV hv, fun j x hx => ?_⟩
  unfold mayB at h
  rw [List.all_eq_true] at h
  have hb := h x (List.mem_of_getElem? hx)
  have hl := inV_len _ _ hv
  obtain ⟨⟨k1, k2⟩, ⟨u1, u2⟩, _⟩ := hR.ties.all j x hx
  unfold TieOk
  have hu0 : 0 ≤ v.getD x.up.toNat 0 := by
    rw [List.getD_eq_getElem?_getD]
    cases e : v[x.up.toNat]? with
    | none => simp
    | some z =>
      obtain ⟨y, hy⟩ : ∃ y, p.rules[x.up.toNat]? = some y := ⟨_, List.getElem?_eq_getElem (by omega)⟩
      have := (inV_at _ _ hv _ z y e hy).1
      simpa using this
  unfold brk at hb
  by_cases hk : 0 < v.getD x.kid.toNat 0
  · by_cases hu : 0 < v.getD x.up.toNat 0
    · have e1 : st v x.kid = 2 := by unfold st; rw [if_pos ⟨k1, by omega⟩, if_pos hk]
      have e2 : st v x.up = 2 := by unfold st; rw [if_pos ⟨u1, by omega⟩, if_pos hu]
      rw [e1, e2]
      rfl
    · exfalso
      have : v.getD x.up.toNat 0 = 0 := by omega
      rw [decide_eq_true k1, decide_eq_true u1, decide_eq_true hk, decide_eq_true this, decide_eq_true (show x.kid < (v.length : Int) by omega), decide_eq_true (show x.up < (v.length : Int) by omega)] at hb
      cases hb
  · have e1 : st v x.kid = 1 := by unfold st; rw [if_pos ⟨k1, by omega⟩, if_neg hk]
    have e2 : 1 ≤ st v x.up := by unfold st; rw [if_pos ⟨u1, by omega⟩]; split <;> omega
    rw [e1]
    unfold holdB
    simp [e2]
end Go.Proofs.Ytgaejcljabhijaa
