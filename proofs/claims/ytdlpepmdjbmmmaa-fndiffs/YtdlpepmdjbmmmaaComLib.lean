/- How many lines two lists have in common, as a plain function; and a table of rows of numbers in memory. -/
import Derived.Test.YtdlpepmdjbmmmaaLib
import Derived.Test.YtdlpepmdjbmmmaaCutLib
import Derived.Laws.OwnMore
namespace Go.Proofs.Ytdlpepmdjbmmmaa
open Go.RowKit

def comR (x : ByteArray) (f : List ByteArray → Nat) : List ByteArray → Nat
  | [] => 0
  | y :: b => if x = y then f b + 1 else max (f (y :: b)) (comR x f b)
/-- How many lines both have in common. -/
def com : List ByteArray → List ByteArray → Nat
  | [] => fun _ => 0
  | x :: a => comR x (com a)
theorem com_nil (b : List ByteArray) : com [] b = 0 := rfl
theorem com_nil2 (a : List ByteArray) : com a [] = 0 := by cases a <;> rfl
theorem com_same {x y : ByteArray} (a b : List ByteArray) (h : x = y) : com (x :: a) (y :: b) = com a b + 1 := by
  show comR x (com a) (y :: b) = _
  rw [comR, if_pos h]
theorem com_other {x y : ByteArray} (a b : List ByteArray) (h : x ≠ y) : com (x :: a) (y :: b) = max (com a (y :: b)) (com (x :: a) b) := by
  show comR x (com a) (y :: b) = _
  rw [comR, if_neg h]
  rfl
theorem com_le : ∀ (a b : List ByteArray), com a b ≤ a.length
  | [], b => Nat.le_refl _
  | x :: a, [] => Nat.zero_le _
  | x :: a, y :: b => by
    by_cases h : x = y
    · rw [com_same a b h]
      have := com_le a b
      simp
      exact this
    · rw [com_other a b h]
      have h1 := com_le a (y :: b)
      have h2 := com_le (x :: a) b
      simp at h2 ⊢
      omega
theorem dropC {α : Type} {xs : List α} {k : Nat} {x : α} (h : xs[k]? = some x) : xs.drop k = x :: xs.drop (k + 1) := by
  have hlt := (List.getElem?_eq_some_iff.1 h).1
  rw [List.drop_eq_getElem_cons hlt, (List.getElem?_eq_some_iff.1 h).2]
/-- What the table says at a place. -/
def ct (a b : List ByteArray) (i k : Nat) : Int := (com (a.drop i) (b.drop k) : Int)
theorem ct_endA {a b : List ByteArray} {i k : Nat} (h : a.length ≤ i) : ct a b i k = 0 := by unfold ct; rw [List.drop_of_length_le h, com_nil]; rfl
theorem ct_endB {a b : List ByteArray} {i k : Nat} (h : b.length ≤ k) : ct a b i k = 0 := by unfold ct; rw [List.drop_of_length_le h, com_nil2]; rfl
theorem ct_same {a b : List ByteArray} {i k : Nat} {x y : ByteArray} (hx : a[i]? = some x) (hy : b[k]? = some y) (h : x = y) : ct a b i k = ct a b (i + 1) (k + 1) + 1 := by
  unfold ct; rw [dropC hx, dropC hy, com_same _ _ h]; rfl
theorem ct_other {a b : List ByteArray} {i k : Nat} {x y : ByteArray} (hx : a[i]? = some x) (hy : b[k]? = some y) (h : x ≠ y) : ct a b i k = max (ct a b (i + 1) k) (ct a b i (k + 1)) := by
  unfold ct; rw [dropC hx, dropC hy, com_other _ _ h]; omega
theorem ct_range (a b : List ByteArray) (i k : Nat) : 0 ≤ ct a b i k ∧ ct a b i k ≤ a.length := by
  unfold ct
  have := com_le (a.drop i) (b.drop k)
  rw [List.length_drop] at this
  omega

/-- Numbers in a row. -/
def nrow (f : Nat → Int) (N : Nat) : List Value := (List.range N).map fun j => .int .i64 (f j)
theorem nrow_len (f : Nat → Int) (N : Nat) : (nrow f N).length = N := by simp [nrow]
theorem nrow_at (f : Nat → Int) {N j : Nat} (h : j < N) : (nrow f N)[j]? = some (.int .i64 (f j)) := by simp [nrow, h]
def upd (f : Nat → Int) (k : Nat) (x : Int) : Nat → Int := fun j => if j = k then x else f j
theorem nrow_set (f : Nat → Int) {N k : Nat} (h : k < N) (x : Int) : (nrow f N).set k (.int .i64 x) = nrow (upd f k x) N := by
  apply List.ext_getElem?
  intro j
  by_cases hj : j < N
  · rw [nrow_at _ hj]
    unfold upd
    by_cases hjk : j = k
    · subst hjk
      rw [List.getElem?_set_self (by rw [nrow_len]; exact hj), if_pos rfl]
    · rw [List.getElem?_set_ne (by omega), nrow_at _ hj, if_neg hjk]
  · rw [List.getElem?_eq_none (by rw [List.length_set, nrow_len]; omega), List.getElem?_eq_none (by rw [nrow_len]; omega)]
theorem made_nrow (N : Nat) : (madeCells (Value.int .i64 0).cells (N * 1)).toList = nrow (fun _ => 0) N := by
  apply List.ext_getElem?
  intro j
  simp [madeCells, nrow, Value.cells, Nat.mod_one]
theorem made_nils (N : Nat) : (madeCells (Value.slice none 0 0).cells (N * 1)).toList = List.replicate N (Value.slice none 0 0) := by
  apply List.ext_getElem?
  intro j
  simp [madeCells, Value.cells, Nat.mod_one]
  by_cases h : j < N
  · simp [h]
  · simp [h]
abbrev slV (g m : Nat) : Value := .slice (some ⟨g, 0, none⟩) (m + 1) (m + 1)
/-- A table's first cells: nothing yet in the first m0, then rows. -/
def tabV (gs : Nat → Nat) (m0 n m : Nat) : List Value := (List.range (n + 1)).map fun j => if j < m0 then .slice none 0 0 else slV (gs j) m
theorem tabV_len (gs : Nat → Nat) (m0 n m : Nat) : (tabV gs m0 n m).length = n + 1 := by simp [tabV]
theorem tabV_at {gs : Nat → Nat} {m0 n m j : Nat} (h1 : m0 ≤ j) (h2 : j ≤ n) : (tabV gs m0 n m)[j]? = some (slV (gs j) m) := by
  simp [tabV, show j < n + 1 by omega, show ¬ j < m0 by omega]
theorem tabV_none {gs : Nat → Nat} {m0 n m j : Nat} (h1 : j < m0) (h2 : j ≤ n) : (tabV gs m0 n m)[j]? = some (.slice none 0 0) := by
  simp [tabV, show j < n + 1 by omega, h1]
theorem tabV_start (gs : Nat → Nat) (n m : Nat) : tabV gs (n + 1) n m = List.replicate (n + 1) (Value.slice none 0 0) := by
  apply List.ext_getElem?
  intro j
  by_cases h : j ≤ n
  · rw [tabV_none (by omega) h]; simp [show j < n + 1 by omega]
  · rw [List.getElem?_eq_none (by rw [tabV_len]; omega), List.getElem?_eq_none (by simp; omega)]
def updN (gs : Nat → Nat) (k g : Nat) : Nat → Nat := fun j => if j = k then g else gs j
theorem tabV_set (gs : Nat → Nat) (i n m g : Nat) (h : i ≤ n) : (tabV gs (i + 1) n m).set i (slV g m) = tabV (updN gs i g) i n m := by
  apply List.ext_getElem?
  intro j
  by_cases hj : j ≤ n
  · rcases Nat.lt_trichotomy j i with hji | hji | hji
    · rw [List.getElem?_set_ne (by omega), tabV_none (by omega) hj, tabV_none hji hj]
    · subst hji
      rw [List.getElem?_set_self (by rw [tabV_len]; omega), tabV_at (Nat.le_refl _) hj]
      simp [updN]
    · rw [List.getElem?_set_ne (by omega), tabV_at (by omega) hj, tabV_at (by omega) hj]
      simp [updN, show ¬ j = i by omega]
  · rw [List.getElem?_eq_none (by rw [List.length_set, tabV_len]; omega), List.getElem?_eq_none (by rw [tabV_len]; omega)]
/-- A table of n + 1 rows of m + 1 numbers in memory, its rows from m0 on. -/
structure Tb (w wr : World) (tI tR G c : Nat) (gs : Nat → Nat) (F : Nat → Nat → Int) (m0 n m : Nat) : Prop where
  below : Below w.heap.size w wr
  top : wr.ownsRow w.heap.size tR 1 (.slice (some ⟨G, 0, none⟩) (n + 1) c) (n + 1) (tabV gs m0 n m)
  row : ∀ j, m0 ≤ j → j ≤ n → wr.ownsRow w.heap.size tI 1 (slV (gs j) m) (m + 1) (nrow (F j) (m + 1))
  neG : ∀ j, m0 ≤ j → j ≤ n → gs j ≠ G
  ne : ∀ i j, m0 ≤ i → i ≤ n → m0 ≤ j → j ≤ n → i ≠ j → gs i ≠ gs j
section
variable {w wr : World} {tI tR G c : Nat} {gs : Nat → Nat} {F : Nat → Nat → Int} {m0 n m : Nat}
theorem Tb.more (h : Tb w wr tI tR G c gs F m0 n m) {W : World} (hb : Below wr.heap.size wr W) : Tb w W tI tR G c gs F m0 n m :=
  ⟨h.below.trans (hb.mono h.below.size), owns_below h.top hb, fun j h1 h2 => owns_below (h.row j h1 h2) hb, h.neG, h.ne⟩
theorem Tb.drew (h : Tb w wr tI tR G c gs F m0 n m) : Tb w wr.drew tI tR G c gs F m0 n m := h.more ⟨rfl, rfl, rfl, Nat.le_refl _, fun _ _ => rfl⟩
theorem Tb.topC (h : Tb w wr tI tR G c gs F m0 n m) {j : Nat} (h1 : m0 ≤ j) (h2 : j ≤ n) : wr.cell? ⟨G, j, none⟩ = some (slV (gs j) m) := by
  rw [h.top.cellAt j (by omega)]; exact tabV_at h1 h2
theorem Tb.rowC (h : Tb w wr tI tR G c gs F m0 n m) {j k : Nat} (h1 : m0 ≤ j) (h2 : j ≤ n) (h3 : k ≤ m) : wr.cell? ⟨gs j, k, none⟩ = some (.int .i64 (F j k)) := by
  rw [(h.row j h1 h2).cellAt k (by omega)]; exact nrow_at _ (by omega)
theorem Tb.rowF (h : Tb w wr tI tR G c gs F m0 n m) {j : Nat} (k : Nat) (h1 : m0 ≤ j) (h2 : j ≤ n) : wr.frozen? ⟨gs j, k, none⟩ = false := (h.row j h1 h2).frozenAt k
def upd2 (F : Nat → Nat → Int) (i k : Nat) (x : Int) : Nat → Nat → Int := fun j => if j = i then upd (F i) k x else F j
theorem Tb.set (h : Tb w wr tI tR G c gs F m0 n m) {i k : Nat} (h1 : m0 ≤ i) (h2 : i ≤ n) (h3 : k ≤ m) (x : Int) : Tb w (wr.setCell ⟨gs i, k, none⟩ (.int .i64 x)) tI tR G c gs (upd2 F i k x) m0 n m := by
  have s := (h.row i h1 h2).stored k (.int .i64 x)
  rw [nrow_set _ (by omega)] at s
  refine ⟨h.below.grown s.2 h.below.size (fun q hq => by cases hq; exact ((h.row i h1 h2).lt _ rfl).1), World.ownsRow.kept h.top s.2 (.inr (fun e => h.neG i h1 h2 (by injection e with e; exact e.symm))), fun j g1 g2 => ?_, h.neG, h.ne⟩
  by_cases hji : j = i
  · subst hji
    unfold upd2
    rw [if_pos rfl]
    exact s.1
  · unfold upd2
    rw [if_neg hji]
    exact World.ownsRow.kept (h.row j g1 g2) s.2 (.inr (fun e => h.ne j i g1 g2 h1 h2 hji (by injection e)))
theorem Tb.addRow {i : Nat} (h : Tb w wr tI tR G c gs F (i + 1) n m) (hi : i ≤ n) {w2 : World} (ho : w2.ownsRow wr.heap.size tI 1 (slV wr.heap.size m) (m + 1) (nrow (fun _ => 0) (m + 1))) (hg : wr.grownBy w2 none) :
    Tb w (w2.setCell ⟨G, i, none⟩ (slV wr.heap.size m)) tI tR G c (updN gs i wr.heap.size) (fun j => if j = i then (fun _ => 0) else F j) i n m := by
  have ht := World.ownsRow.kept h.top hg (.inr (by simp [Value.ownBlock]))
  have hs := ht.stored i (slV wr.heap.size m)
  rw [tabV_set gs i n m _ hi] at hs
  have hGl := (h.top.lt G rfl).2
  have hsz := h.below.size
  refine ⟨(h.below.grown hg hsz (fun k e => by cases e)).grown hs.2 (Nat.le_trans hsz hg.size) (fun k e => by cases e; exact (h.top.lt G rfl).1), hs.1, fun j h1 h2 => ?_, fun j h1 h2 => ?_, fun a b h1 h2 h3 h4 h5 => ?_⟩
  · by_cases hj : j = i
    · subst hj
      have e1 : updN gs j wr.heap.size j = wr.heap.size := by unfold updN; rw [if_pos rfl]
      have e2 : (if j = j then (fun _ => (0 : Int)) else F j) = fun _ => 0 := by rw [if_pos rfl]
      rw [e1, e2]
      exact World.ownsRow.kept (ownsRow_base ho hsz) hs.2 (.inr (fun e => by simp [Value.ownBlock] at e; omega))
    · simp only [updN, if_neg hj]
      have hr := h.row j (by omega) h2
      have hne := h.neG j (by omega) h2
      exact World.ownsRow.kept (World.ownsRow.kept hr hg (.inr (by simp [Value.ownBlock]))) hs.2 (.inr (fun e => by simp [Value.ownBlock] at e; omega))
  · by_cases hj : j = i
    · subst hj
      have e1 : updN gs j wr.heap.size j = wr.heap.size := by unfold updN; rw [if_pos rfl]
      rw [e1]
      omega
    · simp only [updN, if_neg hj]
      exact h.neG j (by omega) h2
  · have hl : ∀ j, i + 1 ≤ j → j ≤ n → gs j < wr.heap.size := fun j g1 g2 => ((h.row j g1 g2).lt _ rfl).2
    unfold updN
    by_cases ha : a = i
    · subst ha
      rw [if_pos rfl, if_neg (fun e => h5 e.symm)]
      have := hl b (by omega) h4
      omega
    · rw [if_neg ha]
      by_cases hb : b = i
      · rw [if_pos hb]
        have := hl a (by omega) h2
        omega
      · rw [if_neg hb]
        exact h.ne a b (by omega) h2 (by omega) h4 h5
end
/-- From a place on the table says what is so. -/
def Right (a b : List ByteArray) (F : Nat → Nat → Int) (n m i k : Nat) : Prop := (∀ j q, i < j → j ≤ n → q ≤ m → F j q = ct a b j q) ∧ ∀ q, k ≤ q → q ≤ m → F i q = ct a b i q
theorem Right.step {a b : List ByteArray} {F : Nat → Nat → Int} {n m i k : Nat} (h : Right a b F n m i (k + 1)) {x : Int} (hx : x = ct a b i k) : Right a b (upd2 F i k x) n m i k := by
  refine ⟨fun j q h1 h2 h3 => ?_, fun q h1 h2 => ?_⟩
  · unfold upd2; rw [if_neg (by omega)]; exact h.1 j q h1 h2 h3
  · unfold upd2 upd
    rw [if_pos rfl]
    by_cases hq : q = k
    · rw [if_pos hq, hx, hq]
    · rw [if_neg hq]; exact h.2 q (by omega) h2
/-- A table in memory of its own. -/
def TabAns (a b : List ByteArray) (tI tR n m : Nat) (w : World) (e : Ending) (w' : World) : Prop :=
  ∃ (G c : Nat) (gs : Nat → Nat) (F : Nat → Nat → Int), e = .returned (.slice (some ⟨G, 0, none⟩) (n + 1) c) ∧ Tb w w' tI tR G c gs F 0 n m ∧ ∀ j q, j ≤ n → q ≤ m → F j q = ct a b j q
end Go.Proofs.Ytdlpepmdjbmmmaa
