/- The drawn inputs of the law on signs. -/
import Derived.Test.YtmmefiaommfpkaaDoorDrawSg
import Derived.Test.YtmmefiaommfpkaaDoorDrawO
import Derived.Test.YtmmefiaommfpkaaDoorDrawL
namespace Go.Proofs.YtmmefiaommfpkaaDoor
open Go.RowKit

theorem dr_size {xs : List Sg} (h : DrOk xs) : ∀ x ∈ xs, x.text.size ≤ 12 := by
  intro x hx
  have := h x hx
  unfold drOk at this
  simp at this
  exact this.2
theorem dr_ok {xs : List Sg} (h : DrOk xs) : ∀ x ∈ xs, okSg x.kind x.text.data.toList = true := by
  intro x hx
  have := h x hx
  unfold drOk at this
  simp at this
  exact this.1

/-- A text of at most n bytes. -/
def StAns (w : World) (n : Nat) (e : Ending) (w' : World) : Prop := ∃ t : ByteArray, t.size ≤ n ∧ e = .returned (.string t) ∧ Below w.heap.size w w'
theorem st_mk {w w' : World} {n : Nat} {t : ByteArray} (ht : t.size ≤ n) (hb : Below w.heap.size w w') : StAns w n (.returned (.string t)) w' := ⟨t, ht, rfl, hb⟩

set_option maxHeartbeats 1600000 in
theorem sFlat_any (v : Value) (xs : List Sg) (w : World) (hn0 : xs.length ≤ 8) (hx0 : ∀ x ∈ xs, x.text.size ≤ 12) (hT : SgsAt w v xs) :
    Calls Tryd.prog 36 #[v] w fun e w' => ∃ t : ByteArray, t.size ≤ 200 ∧ e = .returned (.string t) ∧ w' = w := by
  obtain ⟨a, c, rfl, h⟩ := hT
  obtain ⟨n, hn⟩ : ∃ n, n = xs.length := ⟨_, rfl⟩
  rw [← hn] at h hn0 ⊢
  have HN := hidOf hn
  have HX := hidOf hx0
  clear hn hx0
  go_enter Tryd.func36, Tryd.ntmps36
  go_wp2
  go_loop [3, 4] (fun s i => ∃ (t : ByteArray) (k : Nat), k ≤ n ∧ i = .int .i64 k ∧ s = .string t ∧ t.size ≤ 13 * k) (fun _ i => n - (intOf i).toNat)
  case atStart => exact ⟨ByteArray.empty, 0, by omega, rfl, rfl, by simp⟩
  case round =>
    obtain ⟨t, k, hk, rfl, rfl, ht⟩ := hrel
    by_cases hlt : k < n
    · obtain ⟨y, ey⟩ : ∃ y, xs[k]? = some y := ⟨_, List.getElem?_eq_getElem (by rw [← HN.out]; exact hlt)⟩
      have hys := HX.out y (List.mem_of_getElem? ey)
      obtain ⟨b1, o1, rfl, hb1, hc1⟩ := h (by omega)
      obtain ⟨p0, p1, p2, p3⟩ := cells4 (w := w) (fun j hj => hc1 k y ey j hj)
      have hA : (0 : Int) ≤ (k : Int) := by omega
      have hB : (k : Int) < (n : Int) := by omega
      clear ey hc1 h p2 p3
      have h10 : (⟨#[10]⟩ : ByteArray).size = 1 := rfl
      have h32 : (⟨#[32]⟩ : ByteArray).size = 1 := rfl
      cases h5 : (y.kind == 5)
      · by_cases hnx : k + 1 < n
        · have hC : (k : Int) + 1 < (n : Int) := by omega
          go_wp2
          go_round
          case rel => exact ⟨_, k + 1, by omega, by go_num, rfl, by simp; omega⟩
          case measure => simp [intOf]; omega
        · have hC : ¬ (k : Int) + 1 < (n : Int) := by omega
          go_wp2
          go_round
          case rel => exact ⟨_, k + 1, by omega, by go_num, rfl, by simp; omega⟩
          case measure => simp [intOf]; omega
      · go_wp2
        go_round
        case rel => exact ⟨_, k + 1, by omega, by go_num, rfl, by simp; omega⟩
        case measure => simp [intOf]; omega
    · go_wp2
      go_ret
      exact ⟨t, by omega, rfl, rfl⟩

/-- Drawn signs. -/
def DsAns (w : World) (e : Ending) (w' : World) : Prop :=
  ∃ (v : Value) (xs : List Sg), e = .returned v ∧ xs.length ≤ 8 ∧ DrOk xs ∧ SgsAt w' v xs ∧ Below w.heap.size w w'

theorem drawSigns_any (base : Nat) (w : World) (a : Option Addr) (len cap : Nat) (hc : CodeAt base w a len) (hb : base ≤ w.heap.size) :
    Calls Tryd.prog 6 #[.slice a len cap] w fun e w' => DsAns w e w' := by
  have HC := hidOf hc
  clear hc
  go_enter Tryd.func6, Tryd.ntmps6
  go_wp2_with fail
  refine (new_any base _ a len cap HC.out hb).mono ?_
  rintro e w1 ⟨blk, rfl, hblk, hc1, hb1⟩
  have hs1 := hb1.size
  go_wp2_with fail
  refine (signs_any base _ blk a len cap hc1 (by omega)).mono ?_
  rintro e w2 ⟨v, xs, rfl, hl, hok, ho, hc2, hg2⟩
  obtain ⟨ao, cc, rfl⟩ := owns_slice ho
  have hat := SgsAt.of_own ho
  have HH := hidOf (And.intro hok (And.intro hat (hb1.grown hg2 hs1 (fun k hk => by cases hk; exact hblk))))
  clear hok ho hc2 hg2 hc1 hat
  go_wp2
  go_ret
  exact ⟨_, xs, rfl, hl, HH.out.1, HH.out.2.1, HH.out.2.2⟩

def kwL : List ByteArray := [⟨#[99, 108, 97, 115, 115]⟩, ⟨#[114, 101, 116, 117, 114, 110]⟩, ⟨#[120]⟩, ⟨#[]⟩, ⟨#[86, 97, 114]⟩]
theorem kwL_size : (kwL.all fun t => decide (t.size ≤ 10)) = true := by decide
theorem drawKey_any (base : Nat) (w : World) (a : Option Addr) (len cap : Nat) (hc : CodeAt base w a len) (hb : base ≤ w.heap.size) :
    Calls Tryd.prog 12 #[.slice a len cap] w fun e w' => StAns w 10 e w' := by
  have HC := hidOf hc
  clear hc
  go_enter Tryd.func12, Tryd.ntmps12
  go_wp2_with fail
  refine (new_any base _ a len cap HC.out hb).mono ?_
  rintro e w1 ⟨blk, rfl, hblk, hc1, hb1⟩
  have hs1 := hb1.size
  have hbl := hc1.lt
  have hca : ∀ o, Cur base (w1.alloc o) blk a len cap := fun o => hc1.kept (World.grownBy_alloc w1 o none) (fun k hk => by cases hk)
  go_wp2_with fail
  refine (pick_in base _ blk a len cap w1.heap.size 5 5 kwL (hca _) (by omega) (by omega) rfl (by omega) (by simp) (fun j _ => cells_at _ _ _ kwL rfl j)).mono ?_
  rintro e w3 ⟨t, ht, rfl, hc3, hg3⟩
  have hok := List.all_eq_true.1 kwL_size t ht
  have HH := hidOf (And.intro (of_decide_eq_true hok) ((hb1.alloc hs1 _).grown hg3 (by simp; omega) (fun k hk => by cases hk; exact hblk)))
  clear hok hc3 hg3 hc1 ht hca
  go_wp2
  go_ret
  exact st_mk HH.out.1 HH.out.2

def mwL : List ByteArray := [⟨#[38, 38]⟩, ⟨#[46, 46]⟩, ⟨#[38]⟩, ⟨#[]⟩, ⟨#[63]⟩, ⟨#[120]⟩]
theorem mwL_size : (mwL.all fun t => decide (t.size ≤ 10)) = true := by decide
theorem drawMark_any (base : Nat) (w : World) (a : Option Addr) (len cap : Nat) (hc : CodeAt base w a len) (hb : base ≤ w.heap.size) :
    Calls Tryd.prog 13 #[.slice a len cap] w fun e w' => StAns w 10 e w' := by
  have HC := hidOf hc
  clear hc
  go_enter Tryd.func13, Tryd.ntmps13
  go_wp2_with fail
  refine (new_any base _ a len cap HC.out hb).mono ?_
  rintro e w1 ⟨blk, rfl, hblk, hc1, hb1⟩
  have hs1 := hb1.size
  have hbl := hc1.lt
  have hca : ∀ o, Cur base (w1.alloc o) blk a len cap := fun o => hc1.kept (World.grownBy_alloc w1 o none) (fun k hk => by cases hk)
  go_wp2_with fail
  refine (pick_in base _ blk a len cap w1.heap.size 6 6 mwL (hca _) (by omega) (by omega) rfl (by omega) (by simp) (fun j _ => cells_at _ _ _ mwL rfl j)).mono ?_
  rintro e w3 ⟨t, ht, rfl, hc3, hg3⟩
  have hok := List.all_eq_true.1 mwL_size t ht
  have HH := hidOf (And.intro (of_decide_eq_true hok) ((hb1.alloc hs1 _).grown hg3 (by simp; omega) (fun k hk => by cases hk; exact hblk)))
  clear hok hc3 hg3 hc1 ht hca
  go_wp2
  go_ret
  exact st_mk HH.out.1 HH.out.2

/-- Two lists of drawn signs. -/
def DdAns (w : World) (e : Ending) (w' : World) : Prop :=
  ∃ (v1 v2 : Value) (xs ys : List Sg), e = .returned (.tuple #[v1, v2]) ∧ xs.length ≤ 8 ∧ ys.length ≤ 8 ∧ SgsAt w' v1 xs ∧ SgsAt w' v2 ys ∧ Below w.heap.size w w'
theorem drawSame_any (base : Nat) (w : World) (a : Option Addr) (len cap : Nat) (hc : CodeAt base w a len) (hb : base ≤ w.heap.size) :
    Calls Tryd.prog 11 #[.slice a len cap] w fun e w' => DdAns w e w' := by
  have HC := hidOf hc
  clear hc
  go_enter Tryd.func11, Tryd.ntmps11
  go_wp2_with fail
  refine (new_any base _ a len cap HC.out hb).mono ?_
  rintro e w1 ⟨blk, rfl, hblk, hc1, hb1⟩
  have hs1 := hb1.size
  go_wp2_with fail
  refine (signs_any base _ blk a len cap hc1 (by omega)).mono ?_
  rintro e w2 ⟨v, xs, rfl, hl, hok, ho, hc2, hg2⟩
  obtain ⟨ao, cc, rfl⟩ := owns_slice ho
  have hs2 := hg2.size
  have B2 := hb1.grown hg2 hs1 (fun k hk => by cases hk; exact hblk)
  have hbl := hc1.lt
  have hnb : (Value.slice ao xs.length cc).ownBlock = none ∨ (Value.slice ao xs.length cc).ownBlock ≠ some blk := by
    cases hv : (Value.slice ao xs.length cc).ownBlock with
    | none => exact .inl rfl
    | some g => exact .inr (fun e => by cases e; have := (ho.lt blk hv).1; omega)
  clear hok hc1
  go_wp2_with fail
  refine (once_any base _ blk a len cap 2 hc2 (by omega) (by omega)).mono ?_
  rintro e w3 ⟨b, rfl, hc3, hg3⟩
  have hs3 := hg3.size
  have ho3 := World.ownsRow.kept ho hg3 hnb
  have B3 := B2.grown hg3 (by omega) (fun k hk => by cases hk; exact hblk)
  clear ho hc2 hg3
  cases b
  · go_wp2_with fail
    refine (signs_any base _ blk a len cap hc3 (by omega)).mono ?_
    rintro e w4 ⟨v2, ys, rfl, hl2, _, ho4, hc4, hg4⟩
    obtain ⟨ao2, cc2, rfl⟩ := owns_slice ho4
    have hs4 := hg4.size
    have ho34 := World.ownsRow.kept ho3 hg4 hnb
    have B4 := B3.grown hg4 (by omega) (fun k hk => by cases hk; exact hblk)
    have HH := hidOf (And.intro (SgsAt.of_own ho34) (And.intro (SgsAt.of_own ho4) B4))
    clear ho34 ho4 B4 hc4 hg4 ho3 hc3 B3 B2
    go_wp2
    go_ret2
    exact ⟨_, _, xs, ys, rfl, hl, hl2, HH.out.1, HH.out.2.1, HH.out.2.2⟩
  · have HH := hidOf (And.intro (SgsAt.of_own ho3) B3)
    clear ho3 B3 hc3 B2
    go_wp2
    go_ret2
    exact ⟨_, _, xs, xs, rfl, hl, hl, HH.out.1, HH.out.1, HH.out.2⟩
end Go.Proofs.YtmmefiaommfpkaaDoor
