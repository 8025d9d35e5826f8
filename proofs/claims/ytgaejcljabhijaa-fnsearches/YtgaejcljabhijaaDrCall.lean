/- The drawing calls beside a piece that is being drawn. -/
import Derived.Test.YtgaejcljabhijaaDrApp
namespace Go.Proofs.Ytgaejcljabhijaa
open Go.RowKit

section
variable {base : Nat} {w0 : World} {blk pb R : Nat} {a : Option Addr} {len cap : Nat} {w : World} {p : Pc} {l : Pl}

theorem below_ds (n : Int) (h : DS base w0 blk pb R a len cap w p l) (h0 : 0 < n) (h1 : n ≤ 2147483648) :
    Calls Try.prog 41 #[.pointer (some ⟨blk, 0, none⟩), .int .i64 n] w fun e w' => ∃ x : Nat, (x : Int) < n ∧ e = .returned (.int .i64 x) ∧ DS base w0 blk pb R a len cap w' p l ∧ w.grownBy w' (some blk) :=
  (below_any base w blk a len cap n h.cur h0 h1).mono fun e w' hh => by
    obtain ⟨x, hx, he, hc, hg⟩ := hh
    exact ⟨x, hx, he, h.draw hc hg, hg⟩
theorem once_ds (n : Int) (h : DS base w0 blk pb R a len cap w p l) (h0 : 0 < n) (h1 : n ≤ 2147483648) :
    Calls Try.prog 73 #[.pointer (some ⟨blk, 0, none⟩), .int .i64 n] w fun e w' => (∃ b : Bool, e = .returned (.bool b)) ∧ DS base w0 blk pb R a len cap w' p l ∧ w.grownBy w' (some blk) :=
  (once_any base w blk a len cap n h.cur h0 h1).mono fun e w' hh => by
    obtain ⟨b, he, hc, hg⟩ := hh
    exact ⟨⟨b, he⟩, h.draw hc hg, hg⟩
theorem pick_ds (lb n c : Nat) (L : List ByteArray) (h : DS base w0 blk pb R a len cap w p l) (hn0 : 0 < n) (hn : n ≤ 1000) (hL : L.length = n) (hlb : w0.heap.size ≤ lb) (hlt : lb < w.heap.size)
    (hcell : ∀ j, j < n → w.cell? ⟨lb, j, none⟩ = (strVals L)[j]?) :
    Calls Try.prog 74 #[.pointer (some ⟨blk, 0, none⟩), .slice (some ⟨lb, 0, none⟩) n c] w fun e w' => ∃ t : ByteArray, t ∈ L ∧ e = .returned (.string t) ∧ DS base w0 blk pb R a len cap w' p l ∧ w.grownBy w' (some blk) :=
  (pick_in base w blk a len cap lb n c L h.cur hn0 hn hL (by have := h.old; omega) hlt hcell).mono fun e w' hh => by
    obtain ⟨t, ht, he, hc, hg⟩ := hh
    exact ⟨t, ht, he, h.draw hc hg, hg⟩
end
theorem cells_at (w : World) (c : Array Value) (T : Nat) (L : List ByteArray) (h : c.toList = strVals L) (j : Nat) : (w.alloc (.cells c T)).cell? ⟨w.heap.size, j, none⟩ = (strVals L)[j]? := by
  rw [World.cell?_alloc_new, ← h]
  simp
/-- A struct that was laid into a block of its own, cell by cell. -/
theorem news_new (w : World) (cs : Array Value) (t : TypeId) : ∀ j u, cs.toList[j]? = some u → (w.alloc (.cells cs t)).cell? ((⟨w.heap.size, 0, none⟩ : Addr).add j) = some u := by
  intro j u hj
  have e : (⟨w.heap.size, 0, none⟩ : Addr).add j = ⟨w.heap.size, j, none⟩ := by unfold Addr.add; split <;> simp_all
  rw [e, World.cell?_alloc_new]
  simpa using hj
theorem infoRuD : (Try.prog.info? 69).map (fun i => (i.zero, i.size, i.bytes)) = some (some (.agg #[.int .i64 0, .int .i64 0]), 2, 16) := by kernel_rfl
theorem infoChD : (Try.prog.info? 110).map (fun i => (i.zero, i.size, i.bytes)) = some (some (.agg #[.string ByteArray.empty, .int .i64 0, .int .i64 0, .bool false, .int .i64 0]), 5, 48) := by kernel_rfl
theorem infoSnD : (Try.prog.info? 112).map (fun i => (i.zero, i.size, i.bytes)) = some (some (.agg #[.int .i64 0, .int .i64 0, .int .i64 0]), 3, 24) := by kernel_rfl
theorem infoTiD : (Try.prog.info? 82).map (fun i => (i.zero, i.size, i.bytes)) = some (some (.agg #[.int .i64 0, .int .i64 0]), 2, 16) := by kernel_rfl
theorem ruCells_one (x : Ru) : ∀ u ∈ ruCells x, u.oneCell' = true := by intro u hu; simp [ruCells] at hu; rcases hu with rfl | rfl <;> rfl
theorem tiCells_one (x : Ti) : ∀ u ∈ tiCells x, u.oneCell' = true := by intro u hu; simp [tiCells] at hu; rcases hu with rfl | rfl <;> rfl
theorem snCells_one (x : Sn) : ∀ u ∈ snCells x, u.oneCell' = true := by intro u hu; simp [snCells] at hu; rcases hu with rfl | rfl | rfl <;> rfl
theorem chCells_one (x : Ch) : ∀ u ∈ chCells x, u.oneCell' = true := by intro u hu; simp [chCells] at hu; rcases hu with rfl | rfl | rfl | rfl | rfl <;> rfl
/-- Texts out of a list of plain ones. -/
def plainL (t : ByteArray) : Bool := t.data.toList.all (fun b => decide (32 ≤ b.toNat) && decide (b.toNat ≤ 126))
theorem plain_of {t : ByteArray} (h : plainL t = true) : Plain t := by
  intro k hk
  unfold plainL at h
  rw [List.all_eq_true] at h
  have hk' : k < t.data.toList.length := by simpa using hk
  have := h _ (List.getElem_mem hk')
  unfold by8
  rw [List.getD_eq_getElem?_getD, List.getElem?_eq_getElem hk']
  simp at this ⊢
  omega
def txA : List ByteArray := [⟨#[97]⟩, ⟨#[99, 97, 108, 108, 40]⟩, ⟨#[115, 111, 109, 101, 32, 43, 32]⟩, ⟨#[97, 76, 111, 110, 103, 101, 114, 78, 97, 109, 101]⟩, ⟨#[120, 44]⟩]
def txB : List ByteArray := [⟨#[101, 110, 100, 59]⟩, ⟨#[41]⟩, ⟨#[]⟩]
theorem txA_ok : (txA.all fun t => plainL t && decide (t.size ≤ 11)) = true := by decide
theorem txB_ok : (txB.all fun t => plainL t && decide (t.size ≤ 11)) = true := by decide
theorem tx_plain {L : List ByteArray} (hL : (L.all fun t => plainL t && decide (t.size ≤ 11)) = true) {t : ByteArray} (ht : t ∈ L) : Plain t ∧ t.size ≤ 11 := by
  have := List.all_eq_true.1 hL t ht
  rw [Bool.and_eq_true, decide_eq_true_eq] at this
  exact ⟨plain_of this.1, this.2⟩
end Go.Proofs.Ytgaejcljabhijaa
