/- Lists of numbers in memory. (NdLib, ToNd, EqNd, OpenNd bear elder copies of parts of this.) -/
import Derived.Test.YtdlbnllkfnfgoaaLib
import Derived.Test.YtdlbnllkfnfgoaaCutLib
import Derived.Laws.OwnMore
import Derived.Maps.AppendAt
namespace Go.Proofs.Ytdlbnllkfnfgoaa
open Go.RowKit

/-- A list of numbers that lies in memory, at a place. -/
def KidsAt (w : World) (a : Option Addr) (ks : List Int) : Prop :=
  0 < ks.length → ∃ b off, a = some ⟨b, off, none⟩ ∧ b < w.heap.size ∧ ∀ j z, ks[j]? = some z → w.cell? ⟨b, off + j, none⟩ = some (.int .i64 z)
theorem KidsAt.below {w w' : World} {a : Option Addr} {ks : List Int} {B : Nat} (h : KidsAt w a ks) (hb : Below B w w') (hB : w.heap.size ≤ B) : KidsAt w' a ks := by
  intro hn
  obtain ⟨b, off, ha, hlt, hc⟩ := h hn
  exact ⟨b, off, ha, Nat.lt_of_lt_of_le hlt hb.size, fun j z hz => by rw [hb.cell (Nat.lt_of_lt_of_le hlt hB)]; exact hc j z hz⟩
def intVals (ks : List Int) : List Value := ks.map (Value.int .i64)
theorem intVals_len (ks : List Int) : (intVals ks).length = ks.length := by simp [intVals]
theorem KidsAt.of_own {w : World} {base e n c : Nat} {a : Option Addr} {ks : List Int} (h : w.ownsRow base e 1 (.slice a n c) n (intVals ks)) : KidsAt w a ks := by
  have hl : ks.length = n := by have := h.1; simp [intVals] at this; omega
  intro hn
  obtain ⟨g, rfl⟩ := owns_at h (by omega)
  refine ⟨g, 0, rfl, (h.lt g rfl).2, fun j z hz => ?_⟩
  have hj : j < ks.length := (List.getElem?_eq_some_iff.1 hz).1
  rw [Nat.zero_add, h.cellAt j (by omega)]
  simp [intVals, hz]
/-- A list of numbers, in memory of its own. -/
def IntsAns (ks : List Int) (e0 : Nat) (w : World) (e : Ending) (w' : World) : Prop :=
  Below w.heap.size w w' ∧ ∃ a c, e = .returned (.slice a ks.length c) ∧ w'.ownsRow w.heap.size e0 1 (.slice a ks.length c) ks.length (intVals ks)
theorem ints_mk {ks : List Int} {e0 : Nat} {w w' : World} {v : Value} (hb : Below w.heap.size w w') (h : w'.ownsRow w.heap.size e0 1 v ks.length (intVals ks)) : IntsAns ks e0 w (.returned v) w' := by
  obtain ⟨a, c, rfl⟩ := owns_slice h
  exact ⟨hb, a, c, rfl, h⟩
theorem size_alloc1 (w : World) (o : Obj) : (w.alloc o).heap.size = w.heap.size + 1 := by simp
/-- Behind a box: a list with nothing in it, and a list of one. -/
theorem own_none1 (w : World) (o : Obj) (t s : Nat) : ((w.alloc o).alloc (.cells #[] t)).ownsRow (w.heap.size + 1) t s (.slice (some ⟨w.heap.size + 1, 0, none⟩) 0 0) 0 [] := by
  have h := World.ownsRow_made (e := t) (size := s) (base := w.heap.size + 1) (w.alloc o) #[] 0 (by simp) (Nat.zero_le _) (by simp)
  rw [size_alloc1] at h
  exact h
theorem cell_one_new1 (w : World) (o : Obj) (x : Value) (t : TypeId) : ∀ j u, [x][j]? = some u → ((w.alloc o).alloc (.cells #[x] t)).cell? ((⟨w.heap.size + 1, 0, none⟩ : Addr).add j) = some u := by
  have h := cell_one_new (w.alloc o) x t
  rw [size_alloc1] at h
  exact h
/-- The marks from k on. -/
def marksI (k n : Nat) : List Int := (List.range n).map fun i => ((k + i : Nat) : Int)
theorem marksI_len (k n : Nat) : (marksI k n).length = n := by simp [marksI]
theorem marksI_at {k n j : Nat} (h : j < n) : (marksI k n)[j]? = some ((k + j : Nat) : Int) := by simp [marksI, h]
/-- What was made later lies in another place. -/
theorem own_later {w1 w2 : World} {b1 b2 e1 e2 s1 s2 n1 n2 : Nat} {v1 v2 : Value} {xs ys : List Value} (h1 : w1.ownsRow b1 e1 s1 v1 n1 xs) (hb : w1.heap.size ≤ b2) (h2 : w2.ownsRow b2 e2 s2 v2 n2 ys) : v2.ownBlock = none ∨ v2.ownBlock ≠ v1.ownBlock := by
  cases hv : v2.ownBlock with
  | none => exact Or.inl rfl
  | some g =>
    right
    intro he
    have := (h2.lt g hv).1
    have := (h1.lt g he.symm).2
    omega
theorem own_before {w1 w2 : World} {b1 b2 e1 e2 s1 s2 n1 n2 : Nat} {v1 v2 : Value} {xs ys : List Value} (h1 : w1.ownsRow b1 e1 s1 v1 n1 xs) (hb : w1.heap.size ≤ b2) (h2 : w2.ownsRow b2 e2 s2 v2 n2 ys) : v1.ownBlock = none ∨ v1.ownBlock ≠ v2.ownBlock := by
  cases hv : v1.ownBlock with
  | none => exact Or.inl rfl
  | some g =>
    right
    intro he
    have := (h1.lt g hv).2
    have := (h2.lt g he.symm).1
    omega
end Go.Proofs.Ytdlbnllkfnfgoaa
