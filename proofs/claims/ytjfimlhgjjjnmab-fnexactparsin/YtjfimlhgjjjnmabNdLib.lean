/- Nodes as plain records, and lists of numbers and of nodes in memory. -/
import Derived.Test.YtjfimlhgjjjnmabLib
import Derived.Test.YtjfimlhgjjjnmabCutLib
import Derived.Laws.OwnMore
namespace Go.Proofs.Ytjfimlhgjjjnmab
open Go.RowKit

/-- A node: what it holds, its Kids as plain numbers. -/
structure Nd where
  kind : Int
  text : ByteArray
  kids : List Int
  blank : Bool
/-- A list of numbers that lies in memory, at a place. -/
def KidsAt (w : World) (a : Option Addr) (ks : List Int) : Prop :=
  0 < ks.length → ∃ b off, a = some ⟨b, off, none⟩ ∧ b < w.heap.size ∧ ∀ j z, ks[j]? = some z → w.cell? ⟨b, off + j, none⟩ = some (.int .i64 z)
theorem KidsAt.below {w w' : World} {a : Option Addr} {ks : List Int} {B : Nat} (h : KidsAt w a ks) (hb : Below B w w') (hB : w.heap.size ≤ B) : KidsAt w' a ks := by
  intro hn
  obtain ⟨b, off, ha, hlt, hc⟩ := h hn
  exact ⟨b, off, ha, Nat.lt_of_lt_of_le hlt hb.size, fun j z hz => by rw [hb.cell (Nat.lt_of_lt_of_le hlt hB)]; exact hc j z hz⟩
/-- The same numbers where all but one row has stayed, and they lie in no part of it. -/
theorem KidsAt.grown {w w' : World} {a : Option Addr} {ks : List Int} {g : Nat} (h : KidsAt w a ks) (hg : w.grownBy w' (some g)) (hne : ∀ b off, a = some ⟨b, off, none⟩ → b ≠ g) : KidsAt w' a ks := by
  intro hn
  obtain ⟨b, off, ha, hlt, hc⟩ := h hn
  refine ⟨b, off, ha, Nat.lt_of_lt_of_le hlt hg.size, fun j z hz => ?_⟩
  have hbl := hg.block b hlt (fun e => hne b off ha (by injection e with e))
  rw [← hc j z hz]
  unfold World.cell?
  rw [hbl]
/-- The four cells of a node whose Kids lie at a place. -/
def ndCells (x : Nd) (a : Option Addr) (c : Nat) : List Value := [.int .i64 x.kind, .string x.text, .slice a x.kids.length c, .bool x.blank]
/-- A list of nodes that lies in memory. -/
def NdsAt (w : World) (v : Value) (xs : List Nd) : Prop :=
  ∃ (a : Option Addr) (c : Nat), v = .slice a xs.length c ∧ (0 < xs.length → ∃ b off, a = some ⟨b, off, none⟩ ∧ b < w.heap.size ∧ ∀ k x, xs[k]? = some x → ∃ (ka : Option Addr) (kc : Nat), (∀ j, j < 4 → w.cell? ⟨b, off + k * 4 + j, none⟩ = (ndCells x ka kc)[j]?) ∧ KidsAt w ka x.kids)
theorem NdsAt.below {w w' : World} {v : Value} {xs : List Nd} (h : NdsAt w v xs) (hb : Below w.heap.size w w') : NdsAt w' v xs := by
  obtain ⟨a, c, rfl, h⟩ := h
  refine ⟨a, c, rfl, fun hn => ?_⟩
  obtain ⟨b, off, ha, hlt, hc⟩ := h hn
  refine ⟨b, off, ha, Nat.lt_of_lt_of_le hlt hb.size, fun k x hx => ?_⟩
  obtain ⟨ka, kc, h4, hk⟩ := hc k x hx
  exact ⟨ka, kc, fun j hj => by rw [hb.cell hlt]; exact h4 j hj, hk.below hb (Nat.le_refl _)⟩
theorem nd4 {w : World} {b o : Nat} {x : Nd} {a : Option Addr} {c : Nat} (h : ∀ j, j < 4 → w.cell? ⟨b, o + j, none⟩ = (ndCells x a c)[j]?) :
    w.cell? ⟨b, o, none⟩ = some (.int .i64 x.kind) ∧ w.cell? ⟨b, o + 1, none⟩ = some (.string x.text) ∧ w.cell? ⟨b, o + 2, none⟩ = some (.slice a x.kids.length c) ∧ w.cell? ⟨b, o + 3, none⟩ = some (.bool x.blank) :=
  ⟨h 0 (by omega), h 1 (by omega), h 2 (by omega), h 3 (by omega)⟩
/-- No text and no list of Kids is longer than one may be. -/
def NdsOk (xs : List Nd) : Prop := ∀ x ∈ xs, x.text.size ≤ 9223372036854775807 ∧ x.kids.length ≤ 9223372036854775807
/-- No list of Kids is longer than the law looks at. -/
def KidsFew (xs : List Nd) : Prop := ∀ x ∈ xs, x.kids.length ≤ 1048576

/-- Lists of numbers held against each other. -/
theorem ints_len {ks ls : List Int} (h : ks.length ≠ ls.length) : (ks == ls) = false := by
  rw [beq_eq_false_iff_ne]
  rintro rfl
  exact h rfl
theorem ints_not {ks ls : List Int} {j : Nat} {x y : Int} (h1 : ks[j]? = some x) (h2 : ls[j]? = some y) (h : x ≠ y) : (ks == ls) = false := by
  rw [beq_eq_false_iff_ne]
  rintro rfl
  rw [h1] at h2
  injection h2 with h2
  exact h h2
theorem ints_yes {ks ls : List Int} (hl : ks.length = ls.length) (h : ∀ (j : Nat) (x y : Int), ks[j]? = some x → ls[j]? = some y → x = y) : (ks == ls) = true := by
  rw [beq_iff_eq]
  apply List.ext_getElem hl
  intro j h1 h2
  exact h j _ _ (List.getElem?_eq_getElem h1) (List.getElem?_eq_getElem h2)
/-- The same node. -/
def sameNd (x y : Nd) : Bool := (x.kind == y.kind) && (x.text.toList == y.text.toList) && (x.blank == y.blank) && (x.kids == y.kids)
def sameNds : List Nd → List Nd → Bool
  | [], [] => true
  | x :: xs, y :: ys => sameNd x y && sameNds xs ys
  | _, _ => false
theorem sameNds_len : ∀ {xs ys : List Nd}, xs.length ≠ ys.length → sameNds xs ys = false
  | [], [], h => by simp at h
  | [], _ :: _, _ => rfl
  | _ :: _, [], _ => rfl
  | x :: xs, y :: ys, h => by
    rw [sameNds, sameNds_len (fun e => h (by simp [e])), Bool.and_false]
theorem sameNds_not : ∀ {xs ys : List Nd} (k : Nat) {x y : Nd}, xs[k]? = some x → ys[k]? = some y → sameNd x y = false → sameNds xs ys = false
  | [], _, k, _, _, h, _, _ => by simp at h
  | _ :: _, [], k, _, _, _, h, _ => by simp at h
  | x :: xs, y :: ys, 0, _, _, h1, h2, h3 => by
    obtain rfl : x = _ := by simpa using h1
    obtain rfl : y = _ := by simpa using h2
    rw [sameNds, h3, Bool.false_and]
  | x :: xs, y :: ys, k + 1, _, _, h1, h2, h3 => by
    rw [sameNds, sameNds_not k (by simpa using h1) (by simpa using h2) h3, Bool.and_false]
theorem sameNds_yes : ∀ {xs ys : List Nd}, xs.length = ys.length → (∀ (k : Nat) (x y : Nd), xs[k]? = some x → ys[k]? = some y → sameNd x y = true) → sameNds xs ys = true
  | [], [], _, _ => rfl
  | [], _ :: _, h, _ => by simp at h
  | _ :: _, [], h, _ => by simp at h
  | x :: xs, y :: ys, h, hA => by
    rw [sameNds, hA 0 x y rfl rfl, sameNds_yes (by simpa using h) (fun k a b h1 h2 => hA (k + 1) a b (by simpa using h1) (by simpa using h2)), Bool.and_true]
end Go.Proofs.Ytjfimlhgjjjnmab
