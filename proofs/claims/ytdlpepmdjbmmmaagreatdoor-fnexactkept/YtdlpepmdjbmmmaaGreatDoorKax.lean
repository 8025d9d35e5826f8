/- Nodes held against each other, over nodes in memory of their own (what NdLib bears besides, over NdL). -/
import Derived.Test.YtdlpepmdjbmmmaaGreatDoorKaa
import Derived.Laws.OwnMore
import Derived.Test.YtdlpepmdjbmmmaaGreatDoorProg
import Derived.BigQuiet
import Derived.Deep.QuietTactic
namespace Go.Proofs.YtdlpepmdjbmmmaaGreatDoor
open Go.RowKit

/-- The four cells of a node whose Kids lie at a place. -/
def ndCells (x : Nd) (a : Option Addr) (c : Nat) : List Value := [.int .i64 x.kind, .string x.text, .slice a x.kids.length c, .bool x.blank]
/-- A list of nodes that lies in memory. -/
def NdsAt (w : World) (v : Value) (xs : List Nd) : Prop :=
 ∃ (a : Option Addr) (c : Nat), v = .slice a xs.length c ∧ (0 < xs.length → ∃ b off, a = some ⟨b, off, none⟩ ∧ b < w.heap.size ∧ ∀ k x, xs[k]? = some x → ∃ (ka : Option Addr) (kc : Nat), (∀ j, j < 4 → w.cell? ⟨b, off + k * 4 + j, none⟩ = (ndCells x ka kc)[j]?) ∧ KidsAt w ka x.kids)
theorem NdsAt.below {w w' : World} {v : Value} {xs : List Nd} (h : NdsAt w v xs) (hb : Below w.heap.size w w') : NdsAt w' v xs := by
 obtain ⟨a, c, rfl, h⟩ := h
 refine ⟨a, c, rfl, fun hn => ?_⟩
 obtain ⟨b, off, ha, hlt, hc⟩ := h hn
 refine ⟨b, off, ha, Nat.lt_of_lt_of_le hlt hb.size, fun k x hx => ?_⟩
 obtain ⟨ka, kc, h4, hk⟩ := hc k x hx
 exact ⟨ka, kc, fun j hj => by rw [hb.cell hlt]; exact h4 j hj, hk.below hb (Nat.le_refl _)⟩
theorem nd4 {w : World} {b o : Nat} {x : Nd} {a : Option Addr} {c : Nat} (h : ∀ j, j < 4 → w.cell? ⟨b, o + j, none⟩ = (ndCells x a c)[j]?) :
  w.cell? ⟨b, o, none⟩ = some (.int .i64 x.kind) ∧ w.cell? ⟨b, o + 1, none⟩ = some (.string x.text) ∧ w.cell? ⟨b, o + 2, none⟩ = some (.slice a x.kids.length c) ∧ w.cell? ⟨b, o + 3, none⟩ = some (.bool x.blank) :=
 ⟨h 0 (by omega), h 1 (by omega), h 2 (by omega), h 3 (by omega)⟩
/-- No list of Kids is longer than the law looks at. -/
def KidsFew (xs : List Nd) : Prop := ∀ x ∈ xs, x.kids.length ≤ 1048576

/-- Lists of numbers held against each other. -/
theorem ints_len {ks ls : List Int} (h : ks.length ≠ ls.length) : (ks == ls) = false := by
 rw [beq_eq_false_iff_ne]
 rintro rfl
 exact h rfl
theorem ints_not {ks ls : List Int} {j : Nat} {x y : Int} (h1 : ks[j]? = some x) (h2 : ls[j]? = some y) (h : x ≠ y) : (ks == ls) = false := by
 rw [beq_eq_false_iff_ne]
 rintro rfl
 rw [h1] at h2
 injection h2 with h2
 exact h h2
theorem ints_yes {ks ls : List Int} (hl : ks.length = ls.length) (h : ∀ (j : Nat) (x y : Int), ks[j]? = some x → ls[j]? = some y → x = y) : (ks == ls) = true := by
 rw [beq_iff_eq]
 apply List.ext_getElem hl
 intro j h1 h2
 exact h j _ _ (List.getElem?_eq_getElem h1) (List.getElem?_eq_getElem h2)
/-- The same node. -/
def sameNd (x y : Nd) : Bool := (x.kind == y.kind) && (x.text.toList == y.text.toList) && (x.blank == y.blank) && (x.kids == y.kids)
def sameNds : List Nd → List Nd → Bool
 | [], [] => true
 | x :: xs, y :: ys => sameNd x y && sameNds xs ys
 | _, _ => false
theorem sameNds_len : ∀ {xs ys : List Nd}, xs.length ≠ ys.length → sameNds xs ys = false
 | [], [], h => by simp at h
 | [], _ :: _, _ => rfl
 | _ :: _, [], _ => rfl
 | x :: xs, y :: ys, h => by
  rw [sameNds, sameNds_len (fun e => h (by simp [e])), Bool.and_false]
theorem sameNds_not : ∀ {xs ys : List Nd} (k : Nat) {x y : Nd}, xs[k]? = some x → ys[k]? = some y → sameNd x y = false → sameNds xs ys = false
 | [], _, k, _, _, h, _, _ => by simp at h
 | _ :: _, [], k, _, _, _, h, _ => by simp at h
 | x :: xs, y :: ys, 0, _, _, h1, h2, h3 => by
  obtain rfl : x = _ := by simpa using h1
  obtain rfl : y = _ := by simpa using h2
  rw [sameNds, h3, Bool.false_and]
 | x :: xs, y :: ys, k + 1, _, _, h1, h2, h3 => by
  rw [sameNds, sameNds_not k (by simpa using h1) (by simpa using h2) h3, Bool.and_false]
theorem sameNds_yes : ∀ {xs ys : List Nd}, xs.length = ys.length → (∀ (k : Nat) (x y : Nd), xs[k]? = some x → ys[k]? = some y → sameNd x y = true) → sameNds xs ys = true
 | [], [], _, _ => rfl
 | [], _ :: _, h, _ => by simp at h
 | _ :: _, [], h, _ => by simp at h
 | x :: xs, y :: ys, h, hA => by
  rw [sameNds, hA 0 x y rfl rfl, sameNds_yes (by simpa using h) (fun k a b h1 h2 => hA (k + 1) a b (by simpa using h1) (by simpa using h2)), Bool.and_true]
/-- Nodes in memory of their own are nodes in memory. -/
theorem Nds.at {w : World} {B : Nat} {a : Option Addr} {c : Nat} {qs : List Np} (h : Nds w B a c qs) : NdsAt w (.slice a qs.length c) (qs.map Np.nd) := by
 refine ⟨a, c, by rw [List.length_map], fun hn => ?_⟩
 rw [List.length_map] at hn
 obtain ⟨b, rfl⟩ := owns_at h.row hn
 refine ⟨b, 0, rfl, (h.row.lt b rfl).2, fun k x hx => ?_⟩
 rw [List.getElem?_map] at hx
 obtain ⟨q, hq, rfl⟩ := Option.map_eq_some_iff.1 hx
 have hl : k < qs.length := (List.getElem?_eq_some_iff.1 hq).1
 refine ⟨q.a, q.c, fun j hj => ?_, KidsAt.of_own (h.each q (List.mem_of_getElem? hq))⟩
 rw [Nat.zero_add, h.row.cellAt (k * 4 + j) (by omega)]
 exact rowVals_at npCells_len qs k q hq j hj
end Go.Proofs.YtdlpepmdjbmmmaaGreatDoor
/- What impl.SameTree answers. -/
namespace Go.Proofs.YtdlpepmdjbmmmaaGreatDoor
open Go.RowKit

set_option maxHeartbeats 1600000 in
theorem eqInts_any (a1 a2 : Option Addr) (c1 c2 : Nat) (ks ls : List Int) (w : World) (hx0 : ks.length ≤ 4611686018427387904) (hy : ls.length ≤ 4611686018427387904) (h1 : KidsAt w a1 ks) (h2 : KidsAt w a2 ls) :
  Calls Tryz.prog 95 #[.slice a1 ks.length c1, .slice a2 ls.length c2] w fun e w' => e = .returned (.bool (ks == ls)) ∧ Below w.heap.size w w' := by
 have hx := hx0
 clear hx0
 by_cases hl : ks.length = ls.length
 ·unfold KidsAt at h1 h2
  rw [← hl] at h2
  rw [← hl] at hy
  obtain ⟨n, hn⟩ : ∃ n, n = ks.length := ⟨_, rfl⟩
  rw [← hn] at h1 h2 hx hy
  rw [← hl, ← hn]
  have HN := hidOf hn
  have HL := hidOf hl
  clear hn hl
  obtain ⟨u, hu⟩ : ∃ u, u = (ks == ls) := ⟨_, rfl⟩
  rw [← hu]
  have HU := hidOf hu
  clear hu
  go_enter Tryz.func95, Tryz.ntmps95
  go_wp2
  go_loopw [13] (fun i wr => ∃ k q : Nat, k ≤ n ∧ i = .int .i64 k ∧ wr = w.drewN q ∧ Hid (∀ (j : Nat) (x y : Int), j < k → ks[j]? = some x → ls[j]? = some y → x = y)) (fun i _ => n - (intOf i).toNat)
  case atStart => exact ⟨0, 0, Nat.zero_le _, rfl, rfl, hidOf fun j x y h => by omega⟩
  case round =>
   obtain ⟨k, q, hk, rfl, rfl, HA⟩ := hrel
   by_cases hlt : k < n
   ·obtain ⟨x, ex⟩ : ∃ x, ks[k]? = some x := ⟨_, List.getElem?_eq_getElem (by rw [← HN.out]; exact hlt)⟩
    obtain ⟨y, ey⟩ : ∃ y, ls[k]? = some y := ⟨_, List.getElem?_eq_getElem (by rw [← HL.out, ← HN.out]; exact hlt)⟩
    obtain ⟨b1, o1, rfl, hb1, hc1⟩ := h1 (by omega)
    obtain ⟨b2, o2, rfl, hb2, hc2⟩ := h2 (by omega)
    have p0 := hc1 k x ex
    have q0 := hc2 k y ey
    have EX := hidOf ex
    have EY := hidOf ey
    clear ex ey hc1 hc2 h1 h2
    have hA : (0 : Int) ≤ (k : Int) := by omega
    have hB : (k : Int) < (n : Int) := by omega
    cases hk1 : (x == y)
    ·have hm1 : (x != y) = true := by simp [bne, hk1]
     go_wp2
     go_quiet (fail)
     go_wp2
     go_ret
     exact ⟨ret_bool (by rw [HU.out, ints_not EX.out EY.out (by simpa using hk1)]), bel_drewN (below_drewN _ _) _⟩
    ·have hm1 : (x != y) = false := by simp [bne, hk1]
     go_wp2
     go_quiet (fail)
     go_wp2
     go_roundw
     case rel => exact ⟨k + 1, q + nq, by omega, by go_num, rfl, hidOf fun j x' y' h1 h2 h3 => by
      by_cases e : j = k
      ·subst e
       have e1 := EX.out
       have e2 := EY.out
       rw [h2] at e1
       rw [h3] at e2
       cases e1
       cases e2
       simpa using hk1
      ·exact HA.out j x' y' (by omega) h2 h3⟩
     case measure => simp [intOf]; omega
   ·go_wp2
    go_ret
    exact ⟨ret_bool (by rw [HU.out, ints_yes HL.out (fun j x y h2 h3 => HA.out j x y (by have := (List.getElem?_eq_some_iff.1 h2).1; rw [← HN.out] at this; omega) h2 h3)]), below_drewN _ _⟩
 ·have hne : ((ks.length : Int) == (ls.length : Int)) = false := by rw [beq_eq_false_iff_ne]; omega
  have HL := hidOf hl
  clear hl h1 h2
  go_enter Tryz.func95, Tryz.ntmps95
  go_wp2
  go_ret
  exact ⟨ret_bool (ints_len HL.out).symm, Below.refl _ _⟩

set_option maxHeartbeats 1600000 in
theorem sameNd_any (x y : Nd) (a1 a2 : Option Addr) (c1 c2 : Nat) (w : World) (hx : x.kids.length ≤ 4611686018427387904) (hy : y.kids.length ≤ 4611686018427387904) (h1 : KidsAt w a1 x.kids) (h2 : KidsAt w a2 y.kids) :
  Calls Tryz.prog 77 #[.agg #[.int .i64 x.kind, .string x.text, .slice a1 x.kids.length c1, .bool x.blank], .agg #[.int .i64 y.kind, .string y.text, .slice a2 y.kids.length c2, .bool y.blank]] w fun e w' => e = .returned (.bool (sameNd x y)) ∧ Below w.heap.size w w' := by
 have HB : ∀ o1 o2 : Obj, Below w.heap.size w ((w.alloc o1).alloc o2) := fun o1 o2 => ((Below.refl _ _).alloc (Nat.le_refl _) _).alloc (by simp) _
 by_cases hall : (x.kind == y.kind) = true ∧ (x.text.toList == y.text.toList) = true ∧ (x.blank == y.blank) = true
 ·obtain ⟨hk1, hk2, hk3⟩ := hall
  have HK := hidOf (And.intro hk1 (And.intro hk2 hk3))
  have he : (x.kids == y.kids) = sameNd x y := by simp only [sameNd, hk1, hk2, hk3, Bool.true_and]
  have HE := hidOf he
  clear he
  go_enter Tryz.func77, Tryz.ntmps77
  go_wp2_with fail
  refine (eqInts_any a1 a2 c1 c2 x.kids y.kids _ hx hy (h1.below (HB _ _) (Nat.le_refl _)) (h2.below (HB _ _) (Nat.le_refl _))).mono ?_
  rw [HE.out]
  rintro e w1 ⟨rfl, hb1⟩
  go_wp2
  go_ret
  exact ⟨rfl, (HB _ _).trans (hb1.mono (HB _ _).size)⟩
 ·have hs : sameNd x y = false := by
   cases e1 : (x.kind == y.kind) <;> cases e2 : (x.text.toList == y.text.toList) <;> cases e3 : (x.blank == y.blank) <;> simp_all [sameNd]
  rw [hs]
  clear hs h1 h2
  cases e1 : (x.kind == y.kind) <;> cases e2 : (x.text.toList == y.text.toList) <;> cases e3 : (x.blank == y.blank)
  case true.true.true => exact absurd ⟨e1, e2, e3⟩ hall
  all_goals clear hall
  all_goals go_enter Tryz.func77, Tryz.ntmps77
  all_goals go_wp2
  all_goals go_ret
  all_goals exact ⟨rfl, HB _ _⟩

set_option maxHeartbeats 1600000 in
theorem eqFuncN_any (v1 v2 : Value) (xs ys : List Nd) (w : World) (hx0 : xs.length ≤ 4611686018427387904) (hy : ys.length ≤ 4611686018427387904) (hf1 : KidsFew xs) (hf2 : KidsFew ys) (h1 : NdsAt w v1 xs) (h2 : NdsAt w v2 ys) :
  Calls Tryz.prog 76 #[v1, v2, .func (.func 77) #[] #[]] w fun e w' => e = .returned (.bool (sameNds xs ys)) ∧ Below w.heap.size w w' := by
 obtain ⟨a1, c1, rfl, h1⟩ := h1
 obtain ⟨a2, c2, rfl, h2⟩ := h2
 have hx := hx0
 clear hx0
 by_cases hl : xs.length = ys.length
 ·rw [← hl] at h2
  rw [← hl] at hy
  obtain ⟨n, hn⟩ : ∃ n, n = xs.length := ⟨_, rfl⟩
  rw [← hn] at h1 h2 hx hy
  rw [← hl, ← hn]
  have HN := hidOf hn
  have HL := hidOf hl
  clear hn hl
  go_enter Tryz.func76, Tryz.ntmps76
  go_wp2
  go_loopw [17] (fun i wr => ∃ k : Nat, k ≤ n ∧ i = .int .i64 k ∧ Below w.heap.size w wr ∧ Hid (∀ (j : Nat) (x y : Nd), j < k → xs[j]? = some x → ys[j]? = some y → sameNd x y = true)) (fun i _ => n - (intOf i).toNat)
  case atStart => exact ⟨0, Nat.zero_le _, rfl, Below.refl _ _, hidOf fun j x y h => by omega⟩
  case round =>
   obtain ⟨k, hk, rfl, hb, HA⟩ := hrel
   by_cases hlt : k < n
   ·obtain ⟨x, ex⟩ : ∃ x, xs[k]? = some x := ⟨_, List.getElem?_eq_getElem (by rw [← HN.out]; exact hlt)⟩
    obtain ⟨y, ey⟩ : ∃ y, ys[k]? = some y := ⟨_, List.getElem?_eq_getElem (by rw [← HL.out, ← HN.out]; exact hlt)⟩
    obtain ⟨b1, o1, rfl, hb1, hc1⟩ := h1 (by omega)
    obtain ⟨b2, o2, rfl, hb2, hc2⟩ := h2 (by omega)
    obtain ⟨ka1, kc1, f1, K1⟩ := hc1 k x ex
    obtain ⟨ka2, kc2, f2, K2⟩ := hc2 k y ey
    have G1 := hf1 x (List.mem_of_getElem? ex)
    have G2 := hf2 y (List.mem_of_getElem? ey)
    obtain ⟨p0, p1, p2, p3⟩ := nd4 (w := wr) (fun j hj => by rw [hb.cell hb1]; exact f1 j hj)
    have hq := fun ob : Obj => nd4 (w := wr.alloc ob) (b := b2) (o := o2 + k * 4) (x := y) (fun j hj => by rw [(hb.alloc hb.size ob).cell hb2]; exact f2 j hj)
    have q0 := fun ob => (hq ob).1
    have q1 := fun ob => (hq ob).2.1
    have q2 := fun ob => (hq ob).2.2.1
    have q3 := fun ob => (hq ob).2.2.2
    have EX := hidOf ex
    have EY := hidOf ey
    clear ex ey hc1 hc2 hq h1 h2 f1 f2
    have hA : (0 : Int) ≤ (k : Int) := by omega
    have hB : (k : Int) < (n : Int) := by omega
    go_wp2_with fail
    have HB2 : ∀ o1 o2 : Obj, Below w.heap.size w ((wr.alloc o1).alloc o2) := fun o1 o2 => (hb.alloc hb.size o1).alloc (by have := hb.size; simp; omega) o2
    refine (sameNd_any x y ka1 ka2 kc1 kc2 _ (by omega) (by omega) (K1.below (HB2 _ _) (Nat.le_refl _)) (K2.below (HB2 _ _) (Nat.le_refl _))).mono ?_
    cases hS : sameNd x y
    ·rintro e w1 ⟨rfl, hb1⟩
     have hB1 := (HB2 _ _).trans (hb1.mono (HB2 _ _).size)
     go_wp2
     go_ret
     exact ⟨ret_bool (sameNds_not k EX.out EY.out hS).symm, hB1⟩
    ·rintro e w1 ⟨rfl, hb1⟩
     have hB1 := (HB2 _ _).trans (hb1.mono (HB2 _ _).size)
     go_wp2
     go_roundw
     case rel => exact ⟨k + 1, by omega, by go_num, hB1, hidOf fun j x' y' h1 h2 h3 => by
      by_cases e : j = k
      ·subst e
       have e1 := EX.out
       have e2 := EY.out
       rw [h2] at e1
       rw [h3] at e2
       cases e1
       cases e2
       exact hS
      ·exact HA.out j x' y' (by omega) h2 h3⟩
     case measure => simp [intOf]; omega
   ·go_wp2
    go_ret
    exact ⟨ret_bool (sameNds_yes HL.out (fun j x y h2 h3 => HA.out j x y (by have := (List.getElem?_eq_some_iff.1 h2).1; rw [← HN.out] at this; omega) h2 h3)).symm, hb⟩
 ·have hne : ((xs.length : Int) == (ys.length : Int)) = false := by rw [beq_eq_false_iff_ne]; omega
  have HL := hidOf hl
  clear hl h1 h2
  go_enter Tryz.func76, Tryz.ntmps76
  go_wp2
  go_ret
  exact ⟨ret_bool (sameNds_len HL.out).symm, Below.refl _ _⟩

set_option maxHeartbeats 1600000 in
theorem iTreeSame_any (v1 v2 : Value) (xs ys : List Nd) (w : World) (hx : xs.length ≤ 4611686018427387904) (hy : ys.length ≤ 4611686018427387904) (hf1 : KidsFew xs) (hf2 : KidsFew ys) (h1 : NdsAt w v1 xs) (h2 : NdsAt w v2 ys) :
  Calls Tryz.prog 52 #[v1, v2] w fun e w' => e = .returned (.bool (sameNds xs ys)) ∧ Below w.heap.size w w' := by
 have hE := eqFuncN_any v1 v2 xs ys w hx hy hf1 hf2 h1 h2
 obtain ⟨a1, c1, rfl, h1⟩ := h1
 obtain ⟨a2, c2, rfl, h2⟩ := h2
 clear h1 h2
 go_enter Tryz.func52, Tryz.ntmps52
 go_wp2_with fail
 refine hE.mono ?_
 rintro e w1 ⟨rfl, hb1⟩
 go_wp2
 go_ret
 exact ⟨rfl, hb1⟩
end Go.Proofs.YtdlpepmdjbmmmaaGreatDoor
