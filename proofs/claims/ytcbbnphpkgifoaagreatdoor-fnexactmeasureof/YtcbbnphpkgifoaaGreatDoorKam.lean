/- A name with a comma behind it is a value that ends there: names in brackets that are no arrow can't be read on. -/
import Derived.Test.YtcbbnphpkgifoaaGreatDoorKab
import Derived.Test.YtcbbnphpkgifoaaGreatDoorSpI12
namespace Go.Proofs.YtcbbnphpkgifoaaGreatDoor
open Go.RowKit
section
variable {xs : List Sg} {O : Bool → Ps → Rs Nat}
theorem comma_ne : ¬ ((⟨#[44]⟩ : ByteArray) : ByteArray) = (⟨#[40]⟩ : ByteArray) ∧ ¬ ((⟨#[44]⟩ : ByteArray) : ByteArray) = (⟨#[46]⟩ : ByteArray) ∧ ¬ ((⟨#[44]⟩ : ByteArray) : ByteArray) = (⟨#[63]⟩ : ByteArray) ∧ ¬ ((⟨#[44]⟩ : ByteArray) : ByteArray) = (⟨#[46, 46]⟩ : ByteArray) ∧ ¬ ((⟨#[44]⟩ : ByteArray) : ByteArray) = (⟨#[41]⟩ : ByteArray) ∧ lvl (⟨#[44]⟩ : ByteArray) = 0 := by decide
theorem tailL_comma {f v : Nat} {s : Ps} (h : txt xs s.p = (⟨#[44]⟩ : ByteArray)) : tailL xs O (f + 1) v s = yes v s := by
 unfold tailL
 rw [h, if_neg comma_ne.1, if_neg comma_ne.2.1]
theorem chL_comma {nx : Ps → Rs Nat} {lv f v : Nat} {s : Ps} (hl : lv ≠ 0) (h : txt xs s.p = (⟨#[44]⟩ : ByteArray)) : chL xs nx lv (f + 1) v s = yes v s := by
 unfold chL
 rw [h, comma_ne.2.2.2.2.2, if_neg (fun e => hl e.symm)]
def OnlyAt {α : Type} (p : Nat) (r : Rs α) : Prop := ∀ a s, r = yes a s → s.p = p
theorem OnlyAt.bnd {α β : Type} {p p' : Nat} {x : Rs α} {f : α → Ps → Rs β} (h : OnlyAt p x) (hf : ∀ a s, s.p = p → OnlyAt p' (f a s)) : OnlyAt p' (bnd x f) := by
 match x, h with
 | none, _ => exact fun _ _ e => by cases e
 | some none, _ => exact fun _ _ e => by cases e
 | some (some (a, s)), h => exact hf a s (h a s rfl)
theorem OnlyAt.ok {α : Type} {a : α} {s : Ps} : OnlyAt s.p (yes a s) := fun _ _ e => by injection e with e; injection e with e; injection e with _ e; rw [e]
theorem at_leaf {k : Int} {s : Ps} : OnlyAt (s.p + 1) (leafP xs k s) := by
 unfold leafP addP
 intro a t e
 split at e
 ·cases e
 ·injection e with e
  injection e with e
  injection e with _ e
  rw [← e]
  rfl
theorem at_base {s : Ps} (hn : isNm xs s.p = true) : OnlyAt (s.p + 1) (baseP xs O s) := by
 unfold baseP
 rw [if_pos hn]
 exact at_leaf
theorem at_tail {s : Ps} (hn : isNm xs s.p = true) (h : txt xs (s.p + 1) = (⟨#[44]⟩ : ByteArray)) : OnlyAt (s.p + 1) (tailP xs O s) := by
 unfold tailP
 refine (at_base hn).bnd fun k s1 h1 => ?_
 unfold lim
 rw [tailL_comma (by rw [h1]; exact h), ← h1]
 exact OnlyAt.ok
theorem at_chain {s : Ps} (hn : isNm xs s.p = true) (h : txt xs (s.p + 1) = (⟨#[44]⟩ : ByteArray)) : ∀ j, j ≤ 6 → OnlyAt (s.p + 1) (chainP xs O j s)
 | 0, _ => at_tail hn h
 | j + 1, hj => by
  unfold chainP
  refine (at_chain hn h j (by omega)).bnd fun k s1 h1 => ?_
  unfold lim
  rw [chL_comma (by omega) (by rw [h1]; exact h), ← h1]
  exact OnlyAt.ok
theorem at_pick {s : Ps} (hn : isNm xs s.p = true) (h : txt xs (s.p + 1) = (⟨#[44]⟩ : ByteArray)) : OnlyAt (s.p + 1) (pickP xs O s) := by
 unfold pickP
 split
 ·exact fun _ _ e => by cases e
 refine (at_chain (s := ⟨s.p, s.d + 1, s.ns⟩) hn h 6 (Nat.le_refl _)).bnd fun k s1 h1 => ?_
 have h1' : s1.p = s.p + 1 := h1
 rw [if_neg (by rw [h1', h]; exact comma_ne.2.2.1), ← h1']
 exact OnlyAt.ok (s := ⟨s1.p, s1.d - 1, s1.ns⟩)
theorem at_value {s : Ps} (hn : isNm xs s.p = true) (h : txt xs (s.p + 1) = (⟨#[44]⟩ : ByteArray)) : OnlyAt (s.p + 1) (valueP xs O s) := by
 unfold valueP
 refine (at_pick hn h).bnd fun k s1 h1 => ?_
 unfold lim casL
 rw [if_neg (by rw [h1, h]; exact comma_ne.2.2.2.1), bnd_yes, if_pos (show [(k : Int)].length = 1 from rfl), ← h1]
 exact OnlyAt.ok
theorem at_vp {n : Nat} {s : Ps} (hn : isNm xs s.p = true) (h : txt xs (s.p + 1) = (⟨#[44]⟩ : ByteArray)) : OnlyAt (s.p + 1) (vpF xs n true s) := by
 cases n with
 | zero => exact fun _ _ e => by cases e
 | succ n => exact at_value hn h
theorem base_comma {n : Nat} {s : Ps} {o : Option (Nat × Ps)} (hp : txt xs s.p = (⟨#[40]⟩ : ByteArray)) (hk : knd xs s.p = 4) (ha : arrB xs s.p = false) (hn : isNm xs (s.p + 1) = true) (h : txt xs (s.p + 2) = (⟨#[44]⟩ : ByteArray)) (hr : baseP xs (vpF xs n) s = some o) : o = none := by
 unfold baseP at hr
 have h0 : ¬ isNm xs s.p = true := by
  unfold isNm
  rw [hk]
  simp
 rw [if_neg h0, if_neg (by rw [hk]; decide), if_neg (by rw [hk]; decide), if_neg (by rw [hp]; decide), if_neg (by rw [ha]; decide), if_pos hp] at hr
 have hA := at_vp (xs := xs) (n := n) (s := s.next) hn h
 match hv : vpF xs n true s.next, hr with
 | none, hr => cases hr
 | some none, hr => injection hr with hr; exact hr.symm
 | some (some (k, s1)), hr =>
  have h1 : s1.p = s.p + 2 := hA k s1 hv
  rw [bnd_yes] at hr
  unfold wantP at hr
  rw [if_neg (by rw [h1, h]; exact comma_ne.2.2.2.2.1), bnd_no] at hr
  injection hr with hr
  exact hr.symm
end
section
variable (xs : List Sg)
def arwL : Nat → Nat → Nat
 | 0, a => a
 | f + 1, a => if a + 1 < xs.length ∧ knd xs a = 1 then (if txt xs (a + 1) = (⟨#[44]⟩ : ByteArray) then arwL f (a + 2) else a + 1) else a
def arwB (p : Nat) : Bool := decide (txt xs p = (⟨#[40]⟩ : ByteArray)) && (decide (txt xs (arwL xs (lim xs) (p + 1)) = (⟨#[41]⟩ : ByteArray)) && decide (txt xs (arwL xs (lim xs) (p + 1) + 1) = (⟨#[61, 62]⟩ : ByteArray)))
def NmPath : Nat → Nat → Prop
 | 0, a => knd xs a = 1 ∧ isNm xs a = false
 | j + 1, a => isNm xs a = true ∧ txt xs (a + 1) = (⟨#[44]⟩ : ByteArray) ∧ NmPath j (a + 2)
end
section
variable {xs : List Sg}
theorem isNm_knd {a : Nat} (h : isNm xs a = true) : knd xs a = 1 := by
 unfold isNm at h
 simp only [Bool.and_eq_true, beq_iff_eq] at h
 exact h.1
theorem arw_path (hm : ∀ p, txt xs p = (⟨#[41]⟩ : ByteArray) → knd xs p = 4) : ∀ (f a : Nat), txt xs (arwL xs f a) = (⟨#[41]⟩ : ByteArray) → arrL xs f a = arwL xs f a ∨ ∃ j, NmPath xs j a
 | 0, a, _ => .inl rfl
 | f + 1, a, h => by
  unfold arwL at h ⊢
  unfold arrL
  by_cases hc : a + 1 < xs.length ∧ knd xs a = 1
  ·rw [if_pos hc] at h ⊢
   by_cases hn : isNm xs a = true
   ·rw [if_pos hn]
    by_cases ht : txt xs (a + 1) = (⟨#[44]⟩ : ByteArray)
    ·rw [if_pos ht] at h ⊢
     rw [if_pos ht]
     rcases arw_path hm f (a + 2) h with h1 | ⟨j, h1⟩
     ·exact .inl h1
     ·exact .inr ⟨j + 1, hn, ht, h1⟩
    ·rw [if_neg ht, if_neg ht]
     exact .inl rfl
   ·exact .inr ⟨0, hc.2, by simpa using hn⟩
  ·rw [if_neg hc] at h ⊢
   by_cases hn : isNm xs a = true
   ·have h1 := isNm_knd hn
    have h2 := hm a h
    omega
   ·rw [if_neg hn]
    exact .inl rfl
theorem arr_arw (hm : ∀ p, txt xs p = (⟨#[41]⟩ : ByteArray) → knd xs p = 4) : ∀ (f a : Nat), txt xs (arrL xs f a) = (⟨#[41]⟩ : ByteArray) → arwL xs f a = arrL xs f a
 | 0, a, _ => rfl
 | f + 1, a, h => by
  unfold arrL at h ⊢
  unfold arwL
  by_cases hn : isNm xs a = true
  ·rw [if_pos hn] at h ⊢
   by_cases ht : txt xs (a + 1) = (⟨#[44]⟩ : ByteArray)
   ·have hl := txt_lt ht (lit_ne _ _)
    rw [if_pos ht] at h ⊢
    rw [if_pos ⟨hl, isNm_knd hn⟩, if_pos ht]
    exact arr_arw hm f (a + 2) h
   ·rw [if_neg ht] at h ⊢
    have hl := txt_lt h (lit_ne _ _)
    rw [if_pos ⟨hl, isNm_knd hn⟩, if_neg ht]
  ·rw [if_neg hn] at h ⊢
   have h2 := hm a h
   rw [if_neg (fun e => by have := e.2; omega)]
theorem arw_cases (hm : ∀ p, txt xs p = (⟨#[41]⟩ : ByteArray) → knd xs p = 4) (p : Nat) : arwB xs p = arrB xs p ∨ (arwB xs p = true ∧ arrB xs p = false ∧ txt xs p = (⟨#[40]⟩ : ByteArray) ∧ ∃ j, NmPath xs j (p + 1)) := by
 by_cases hA : arrB xs p = true
 ·left
  rw [hA]
  unfold arrB at hA
  unfold arwB
  simp only [Bool.and_eq_true, decide_eq_true_eq] at hA ⊢
  obtain ⟨h1, h2, h3⟩ := hA
  rw [arr_arw hm _ _ h2]
  exact ⟨h1, h2, h3⟩
 ·by_cases hB : arwB xs p = true
  ·right
   have hB' := hB
   unfold arwB at hB'
   simp only [Bool.and_eq_true, decide_eq_true_eq] at hB'
   obtain ⟨h1, h2, h3⟩ := hB'
   refine ⟨hB, by simpa using hA, h1, ?_⟩
   rcases arw_path hm _ _ h2 with h4 | h4
   ·exfalso
    apply hA
    unfold arrB
    simp only [Bool.and_eq_true, decide_eq_true_eq]
    rw [h4]
    exact ⟨h1, h2, h3⟩
   ·exact h4
  ·left
   rw [Bool.not_eq_true] at hA hB
   rw [hA, hB]
theorem name_no {s : Ps} (h : isNm xs s.p = false) : nodeP xs s = some none := by
 unfold nodeP nameP
 rw [if_neg (by rw [h]; decide)]
 rfl
theorem listed_path (hm : ∀ p, txt xs p = (⟨#[41]⟩ : ByteArray) → knd xs p = 4) {o : Option (List Int × Ps)} : ∀ (j f : Nat) (ks : List Int) (s : Ps), NmPath xs j s.p → listedP xs (nodeP xs) (⟨#[41]⟩ : ByteArray) f ks s = some o → o = none
 | _, 0, _, _, _, h => by simp [listedP] at h
 | 0, f + 1, ks, s, hp, h => by
  unfold listedP at h
  rw [if_neg (fun e => by have := hm _ e; have := hp.1; omega), name_no hp.2] at h
  injection h with h
  exact h.symm
 | j + 1, f + 1, ks, s, hp, h => by
  obtain ⟨h1, h2, h3⟩ := hp
  unfold listedP at h
  rw [if_neg (fun e => by have := hm _ e; have := isNm_knd h1; omega)] at h
  have hN : nodeP xs s = addP 1 (txt xs s.p) [] s.next := by
   unfold nodeP nameP
   rw [if_pos h1, bnd_yes]
  match hx : addP 1 (txt xs s.p) [] s.next, hN with
  | none, _ => unfold addP at hx; split at hx <;> cases hx
  | some none, hN =>
   rw [hN] at h
   injection h with h
   exact h.symm
  | some (some (k, s1)), hN =>
   have hp1 : s1.p = s.p + 1 := by
    unfold addP at hx
    split at hx
    ·cases hx
    ·injection hx with hx
     injection hx with hx
     injection hx with _ hx
     rw [← hx]
     rfl
   rw [hN, bnd_yes, if_pos (by rw [hp1]; exact h2)] at h
   exact listed_path hm j f _ _ (show NmPath xs j (s1.p + 1) by rw [hp1]; exact h3) h
theorem names_path (hm : ∀ p, txt xs p = (⟨#[41]⟩ : ByteArray) → knd xs p = 4) {s : Ps} {j : Nat} {o : Option (List Int × Ps)} (hp : NmPath xs j (s.p + 1)) (h : namesP xs s = some o) : o = none := by
 unfold namesP wantP at h
 by_cases ht : txt xs s.p = (⟨#[40]⟩ : ByteArray)
 ·rw [if_pos ht, bnd_yes] at h
  exact listed_path hm j _ _ s.next hp h
 ·rw [if_neg ht] at h
  injection h with h
  exact h.symm
theorem base_kw {O : Bool → Ps → Rs Nat} (h1 : ∀ p, txt xs p = (⟨#[91]⟩ : ByteArray) → knd xs p = 4) (h2 : ∀ p, txt xs p = (⟨#[40]⟩ : ByteArray) → knd xs p = 4) {s : Ps} (hk : knd xs s.p = 1) (hn : isNm xs s.p = false) : baseP xs O s = some none := by
 have h3 : ¬ txt xs s.p = (⟨#[40]⟩ : ByteArray) := fun e => by have := h2 _ e; omega
 unfold baseP
 rw [if_neg (by rw [hn]; decide), if_neg (by rw [hk]; decide), if_neg (by rw [hk]; decide), if_neg (fun e => by have := h1 _ e; omega), if_neg (fun e => by unfold arrB at e; simp [h3] at e), if_neg h3]
theorem chain_no {O : Bool → Ps → Rs Nat} {s : Ps} (h : baseP xs O s = some none) : ∀ j, chainP xs O j s = some none
 | 0 => by unfold chainP tailP; rw [h]; rfl
 | j + 1 => by unfold chainP; rw [chain_no h j]; rfl
theorem value_no {O : Bool → Ps → Rs Nat} {s : Ps} (h : baseP xs O ⟨s.p, s.d + 1, s.ns⟩ = some none) : valueP xs O s = some none := by
 unfold valueP pickP
 by_cases hd : 20 < s.d + 1
 ·rw [if_pos hd]; rfl
 ·rw [if_neg hd, chain_no h 6]; rfl
theorem base_path (h1 : ∀ p, txt xs p = (⟨#[91]⟩ : ByteArray) → knd xs p = 4) (h2 : ∀ p, txt xs p = (⟨#[40]⟩ : ByteArray) → knd xs p = 4) {n j : Nat} {s : Ps} {o : Option (Nat × Ps)} (ht : txt xs s.p = (⟨#[40]⟩ : ByteArray)) (ha : arrB xs s.p = false) (hp : NmPath xs j (s.p + 1)) (hr : baseP xs (vpF xs n) s = some o) : o = none := by
 have hk := h2 _ ht
 cases j with
 | zero =>
  unfold baseP at hr
  have h3 : ¬ isNm xs s.p = true := by
   unfold isNm
   rw [hk]
   simp
  rw [if_neg h3, if_neg (by rw [hk]; decide), if_neg (by rw [hk]; decide), if_neg (by rw [ht]; decide), if_neg (by rw [ha]; decide), if_pos ht] at hr
  cases n with
  | zero => simp [vpF, bnd] at hr
  | succ n =>
   have hv : vpF xs (n + 1) true s.next = some none := value_no (base_kw h1 h2 (s := ⟨s.p + 1, s.d + 1, s.ns⟩) hp.1 hp.2)
   rw [hv] at hr
   injection hr with hr
   exact hr.symm
 | succ j => exact base_comma ht hk ha hp.1 hp.2.1 hr
end
theorem Sd.signs {B g : Nat} {xs : List Sg} {A : Nat → Prop} {w : World} {s : Ps} {bd : Bool} (h : Sd B g xs A w bd s) (h0 : 0 < xs.length) : ∃ b sc, b < w.heap.size ∧ w.cell? ⟨g, 0, none⟩ = some (.slice (some ⟨b, 0, none⟩) xs.length sc) ∧ ∀ p, p < xs.length → w.cell? ⟨b, p * 4, none⟩ = some (.int .i64 (knd xs p)) ∧ w.cell? ⟨b, p * 4 + 1, none⟩ = some (.string (txt xs p)) := by
 obtain ⟨b, sc, pl, hb, hc, -⟩ := h.sign 0 h0
 refine ⟨b, sc, hb, hc, fun p hp => ?_⟩
 obtain ⟨b', sc', pl', hb', hc', e0, e1, -⟩ := h.sign p hp
 rw [hc] at hc'
 injection hc' with hc'
 injection hc' with hc' _ _
 injection hc' with hc'
 injection hc' with hc'
 subst hc'
 exact ⟨e0, e1⟩
section
variable {B g : Nat} {xs : List Sg} {A : Nat → Prop} {w : World}
set_option maxHeartbeats 16000000 in
set_option maxRecDepth 100000 in
theorem sArrow {s : Ps} (h : SR B g xs A w (some s)) (hX : xs.length ≤ 3000) (hM : Marks xs) : Calls Tryz.prog 279 #[.pointer (some ⟨g, 0, none⟩)] w fun e w' => e = .returned (.bool (arwB xs s.p)) ∧ Below w.heap.size w w' := by
 have qI := sIs h 4 (⟨#[40]⟩ : ByteArray) (by decide)
 rw [isP_mark (hM (⟨#[40]⟩ : ByteArray) (by decide))] at qI
 obtain ⟨sa, sc, na, nc, -, c1, -, -, -, -⟩ := h.1.cells
 have hps := h.1.pos
 have hpi : (s.p : Int) ≤ 3000 := by omega
 have hw1 : IntKind.i64.wrap ((s.p : Int) + 1) = (s.p : Int) + 1 := IntWalk.i64_in _ ⟨by omega, by omega⟩
 have HS := hidOf h
 clear h
 by_cases ht : txt xs s.p = (⟨#[40]⟩ : ByteArray)
 ·rw [decide_eq_true ht] at qI
  have hlen := txt_lt ht (lit_ne _ _)
  have H0 := hidOf ht
  obtain ⟨L, hL⟩ : ∃ L, L = arwL xs (lim xs) (s.p + 1) := ⟨_, rfl⟩
  have HL := hidOf hL
  clear ht hL
  go_enter Tryz.func279, Tryz.ntmps279
  go_wp2_with fail
  refine qI.mono ?_
  rintro e w1 ⟨rfl, m, hm⟩
  have B1 : Below w.heap.size w w1 := by rw [hm]; exact drewN_below w m
  have HB1 := hidOf B1
  clear hm B1 qI c1
  go_wp2
  go_loopw [3] (fun i wr => ∃ (f a : Nat), i = .int .i64 (a : Int) ∧ a ≤ xs.length + 1 ∧ xs.length < a + f ∧ Below w.heap.size w wr ∧ Hid (arwL xs f a = L)) (fun i _ => xs.length + 2 - (intOf i).toNat)
  case atStart => exact ⟨lim xs, s.p + 1, by simp, by omega, by unfold lim; omega, HB1.out, hidOf HL.out.symm⟩
  case round =>
   obtain ⟨f, a, rfl, ha, hf, Br, HE⟩ := hrel
   clear HB1
   have S := HS.out.below Br
   have hgr := S.1.lt
   obtain ⟨b, sc, hbl, g0, hcs⟩ := S.1.signs (by omega)
   clear S
   have hw3 : IntKind.i64.wrap ((a : Int) + 1) = (a : Int) + 1 := IntWalk.i64_in _ ⟨by omega, by omega⟩
   by_cases hl : a + 1 < xs.length
   ·have hl1 : (a : Int) + 1 < (xs.length : Int) := by omega
    have hl2 : (a : Int) < (xs.length : Int) := by omega
    have hl3 : (0 : Int) ≤ (a : Int) := by omega
    have hl4 : (0 : Int) ≤ (a : Int) + 1 := by omega
    have hld : decide ((a : Int) + 1 < (xs.length : Int)) = true := decide_eq_true hl1
    obtain ⟨p0, p1⟩ := hcs a (by omega)
    cases f with
    | zero => omega
    | succ f =>
     have he := HE.out
     unfold arwL at he
     by_cases hk : knd xs a = 1
     ·rw [if_pos ⟨hl, hk⟩] at he
      have hkb : (knd xs a == 1) = true := by rw [hk]; rfl
      have HK := hidOf hk
      obtain ⟨e0, e1⟩ := hcs (a + 1) hl
      by_cases hc : txt xs (a + 1) = (⟨#[44]⟩ : ByteArray)
      ·rw [if_pos hc] at he
       have lc : ((txt xs (a + 1)).toList == [44]) = true := by rw [lit_beq]; exact decide_eq_true hc
       have hw4 : IntKind.i64.wrap ((a : Int) + 1 + 1) = (a : Int) + 1 + 1 := IntWalk.i64_in _ ⟨by omega, by omega⟩
       have HE2 := hidOf he
       clear hk hc he HE hcs
       go_wp2
       go_roundw
       case rel => exact ⟨f, a + 2, by rw [show ((a + 2 : Nat) : Int) = (a : Int) + 1 + 1 by omega], by omega, by omega, Br, hidOf (HE2.out.trans (by rfl))⟩
       case measure => simp [intOf]; omega
      ·rw [if_neg hc] at he
       have lc : ((txt xs (a + 1)).toList == [44]) = false := by rw [lit_beq]; exact decide_eq_false hc
       have HE3 := hidOf he.symm
       clear HE
       have HE := HE3
       clear HE3 hk hc he
       have hAw : arwB xs s.p = (decide (txt xs (a + 1) = (⟨#[41]⟩ : ByteArray)) && decide (txt xs (a + 1 + 1) = (⟨#[61, 62]⟩ : ByteArray))) := by
        unfold arwB
        rw [← HL.out, HE.out, decide_eq_true H0.out, Bool.true_and]
       have HA := hidOf hAw
       clear hAw HE
       have hw2 : IntKind.i64.wrap ((a : Int) + 1 + 1) = (a : Int) + 1 + 1 := IntWalk.i64_in _ ⟨by omega, by omega⟩
       by_cases hb1 : a + 1 + 1 < xs.length
       ·have hq1 : (a : Int) + 1 + 1 < (xs.length : Int) := by omega
        have hq2 : (a : Int) + 1 < (xs.length : Int) := by omega
        have hq3 : (0 : Int) ≤ (a : Int) + 1 := by omega
        have hq4 : (0 : Int) ≤ (a : Int) + 1 + 1 := by omega
        obtain ⟨d0, d1⟩ := hcs (a + 1) (by omega)
        obtain ⟨f0, f1⟩ := hcs (a + 1 + 1) hb1
        have hm1 := hM (⟨#[41]⟩ : ByteArray) (by decide) (a + 1)
        have hm2 := hM (⟨#[61, 62]⟩ : ByteArray) (by decide) (a + 1 + 1)
        obtain ⟨u1, hu1⟩ : ∃ u, u = txt xs (a + 1) := ⟨_, rfl⟩
        obtain ⟨u2, hu2⟩ : ∃ u, u = txt xs (a + 1 + 1) := ⟨_, rfl⟩
        obtain ⟨n1, hn1⟩ : ∃ u, u = knd xs (a + 1) := ⟨_, rfl⟩
        obtain ⟨n2, hn2⟩ : ∃ u, u = knd xs (a + 1 + 1) := ⟨_, rfl⟩
        rw [← hu1] at d1 HA hm1 lc e1
        rw [← hu2] at f1 HA hm2
        rw [← hn1] at d0 hm1 e0
        rw [← hn2] at f0 hm2
        clear hu1 hu2 hn1 hn2
        by_cases ht1 : u1 = (⟨#[41]⟩ : ByteArray)
        ·have hk1 := hm1 ht1
         have l1 : (u1.toList == [41]) = true := by rw [lit_beq]; exact decide_eq_true ht1
         have l1k : (n1 == 4) = true := by rw [hk1]; rfl
         by_cases ht2 : u2 = (⟨#[61, 62]⟩ : ByteArray)
         ·have hk2 := hm2 ht2
          have l2 : (u2.toList == [61, 62]) = true := by rw [lit_beq]; exact decide_eq_true ht2
          have l2k : (n2 == 4) = true := by rw [hk2]; rfl
          have HT := hidOf (And.intro ht1 ht2)
          clear ht1 ht2 hk1 hk2 hm1 hm2 hcs
          go_wp2
          go_ret
          exact ⟨ret_bool (by rw [HA.out, decide_eq_true HT.out.1, decide_eq_true HT.out.2]; rfl), Br⟩
         ·have l2 : (u2.toList == [61, 62]) = false := by rw [lit_beq]; exact decide_eq_false ht2
          have HT := hidOf ht2
          clear ht1 ht2 hk1 hm1 hm2 hcs
          go_wp2
          go_ret
          exact ⟨ret_bool (by rw [HA.out, decide_eq_false HT.out, Bool.and_false]), Br⟩
        ·have l1 : (u1.toList == [41]) = false := by rw [lit_beq]; exact decide_eq_false ht1
         have HT := hidOf ht1
         clear ht1 hm1 hm2 hcs
         go_wp2
         go_ret
         exact ⟨ret_bool (by rw [HA.out, decide_eq_false HT.out, Bool.false_and]), Br⟩
       ·have hq1 : ¬ (a : Int) + 1 + 1 < (xs.length : Int) := by omega
        have hqd : decide ((a : Int) + 1 + 1 < (xs.length : Int)) = false := decide_eq_false hq1
        have HT := hidOf (show txt xs (a + 1 + 1) ≠ (⟨#[61, 62]⟩ : ByteArray) from fun e => hb1 (txt_lt e (lit_ne _ _)))
        clear hcs
        go_wp2
        go_ret
        exact ⟨ret_bool (by rw [HA.out, decide_eq_false HT.out, Bool.and_false]), Br⟩
     ·rw [if_neg (fun e => hk e.2)] at he
      have hkb : (knd xs a == 1) = false := by rw [beq_eq_false_iff_ne]; exact hk
      have HE3 := hidOf he.symm
      clear HE
      have HE := HE3
      clear HE3 hk he
      have hAw : arwB xs s.p = (decide (txt xs (a) = (⟨#[41]⟩ : ByteArray)) && decide (txt xs (a + 1) = (⟨#[61, 62]⟩ : ByteArray))) := by
       unfold arwB
       rw [← HL.out, HE.out, decide_eq_true H0.out, Bool.true_and]
      have HA := hidOf hAw
      clear hAw HE
      have hw2 : IntKind.i64.wrap ((a : Int) + 1) = (a : Int) + 1 := IntWalk.i64_in _ ⟨by omega, by omega⟩
      have hb1 := hl
      have hq1 : (a : Int) + 1 < (xs.length : Int) := by omega
      have hq2 : (a : Int) < (xs.length : Int) := by omega
      have hq3 : (0 : Int) ≤ (a : Int) := by omega
      have hq4 : (0 : Int) ≤ (a : Int) + 1 := by omega
      obtain ⟨d0, d1⟩ := hcs (a) (by omega)
      obtain ⟨f0, f1⟩ := hcs (a + 1) hb1
      have hm1 := hM (⟨#[41]⟩ : ByteArray) (by decide) (a)
      have hm2 := hM (⟨#[61, 62]⟩ : ByteArray) (by decide) (a + 1)
      obtain ⟨u1, hu1⟩ : ∃ u, u = txt xs (a) := ⟨_, rfl⟩
      obtain ⟨u2, hu2⟩ : ∃ u, u = txt xs (a + 1) := ⟨_, rfl⟩
      obtain ⟨n1, hn1⟩ : ∃ u, u = knd xs (a) := ⟨_, rfl⟩
      obtain ⟨n2, hn2⟩ : ∃ u, u = knd xs (a + 1) := ⟨_, rfl⟩
      rw [← hu1] at d1 HA hm1 p1
      rw [← hu2] at f1 HA hm2
      rw [← hn1] at d0 hm1 hkb p0
      rw [← hn2] at f0 hm2
      clear hu1 hu2 hn1 hn2
      by_cases ht1 : u1 = (⟨#[41]⟩ : ByteArray)
      ·have hk1 := hm1 ht1
       have l1 : (u1.toList == [41]) = true := by rw [lit_beq]; exact decide_eq_true ht1
       have l1k : (n1 == 4) = true := by rw [hk1]; rfl
       by_cases ht2 : u2 = (⟨#[61, 62]⟩ : ByteArray)
       ·have hk2 := hm2 ht2
        have l2 : (u2.toList == [61, 62]) = true := by rw [lit_beq]; exact decide_eq_true ht2
        have l2k : (n2 == 4) = true := by rw [hk2]; rfl
        have HT := hidOf (And.intro ht1 ht2)
        clear ht1 ht2 hk1 hk2 hm1 hm2 hcs
        go_wp2
        go_ret
        exact ⟨ret_bool (by rw [HA.out, decide_eq_true HT.out.1, decide_eq_true HT.out.2]; rfl), Br⟩
       ·have l2 : (u2.toList == [61, 62]) = false := by rw [lit_beq]; exact decide_eq_false ht2
        have HT := hidOf ht2
        clear ht1 ht2 hk1 hm1 hm2 hcs
        go_wp2
        go_ret
        exact ⟨ret_bool (by rw [HA.out, decide_eq_false HT.out, Bool.and_false]), Br⟩
      ·have l1 : (u1.toList == [41]) = false := by rw [lit_beq]; exact decide_eq_false ht1
       have HT := hidOf ht1
       clear ht1 hm1 hm2 hcs
       go_wp2
       go_ret
       exact ⟨ret_bool (by rw [HA.out, decide_eq_false HT.out, Bool.false_and]), Br⟩
   ·have hl1 : ¬ (a : Int) + 1 < (xs.length : Int) := by omega
    have hld : decide ((a : Int) + 1 < (xs.length : Int)) = false := decide_eq_false hl1
    have he := HE.out
    have he2 : a = L := by
     cases f with
     | zero => exact he
     | succ f => unfold arwL at he; rw [if_neg (fun e => hl e.1)] at he; exact he
    have HE3 := hidOf he2.symm
    clear HE
    have HE := HE3
    clear HE3 he he2
    have hAw : arwB xs s.p = (decide (txt xs (a) = (⟨#[41]⟩ : ByteArray)) && decide (txt xs (a + 1) = (⟨#[61, 62]⟩ : ByteArray))) := by
     unfold arwB
     rw [← HL.out, HE.out, decide_eq_true H0.out, Bool.true_and]
    have HA := hidOf hAw
    clear hAw HE
    have hw2 : IntKind.i64.wrap ((a : Int) + 1) = (a : Int) + 1 := IntWalk.i64_in _ ⟨by omega, by omega⟩
    have hb1 := hl
    have hq1 : ¬ (a : Int) + 1 < (xs.length : Int) := by omega
    have hqd : decide ((a : Int) + 1 < (xs.length : Int)) = false := decide_eq_false hq1
    have HT := hidOf (show txt xs (a + 1) ≠ (⟨#[61, 62]⟩ : ByteArray) from fun e => hb1 (txt_lt e (lit_ne _ _)))
    clear hcs
    go_wp2
    go_ret
    exact ⟨ret_bool (by rw [HA.out, decide_eq_false HT.out, Bool.and_false]), Br⟩
 ·rw [decide_eq_false ht] at qI
  have HA := hidOf (show arwB xs s.p = false by unfold arwB; rw [decide_eq_false ht, Bool.false_and])
  clear ht
  go_enter Tryz.func279, Tryz.ntmps279
  go_wp2_with fail
  refine qI.mono ?_
  rintro e w1 ⟨rfl, m, hm⟩
  have B1 : Below w.heap.size w w1 := by rw [hm]; exact drewN_below w m
  have HB1 := hidOf B1
  clear hm B1 qI c1
  go_wp2
  go_ret
  exact ⟨ret_bool HA.out.symm, HB1.out⟩
end
end Go.Proofs.YtcbbnphpkgifoaaGreatDoor
