/- The drawn texts of the law on lines. -/
import Derived.Test.YtdpdlddbnpnabaaDoorDrawW
import Derived.Test.YtdpdlddbnpnabaaDoorDrawO
import Derived.Test.YtdpdlddbnpnabaaDoorDrawP
namespace Go.Proofs.YtdpdlddbnpnabaaDoor
open Go.RowKit

/-- The texts that l03Text draws from. -/
def words3 : List ByteArray := [⟨#[97]⟩, ⟨#[]⟩, ⟨#[116, 119, 111, 32, 119, 111, 114, 100, 115]⟩, ⟨#[32, 32, 105, 110]⟩, ⟨#[101, 110, 100, 32, 32]⟩]

set_option maxHeartbeats 1600000 in
theorem text3_any (base : Nat) (w : World) (blk : Nat) (a : Option Addr) (len cap : Nat) (hc : Cur base w blk a len cap) :
    Calls Tryd.prog 18 #[.pointer (some ⟨blk, 0, none⟩)] w fun e w' => TxAns base w blk a len cap 60 e w' := by
  have HC := hidOf (And.intro hc (grownBy_of_below (Below.refl _ w) (some blk)))
  clear hc
  go_enter Tryd.func18, Tryd.ntmps18
  go_wp2
  go_loopw [3, 4] (fun s i wr => ∃ (t : ByteArray) (k : Nat), k ≤ 5 ∧ t.size ≤ 10 * k ∧ s = .string t ∧ i = .int .i64 k ∧ Hid (Cur base wr blk a len cap ∧ w.grownBy wr (some blk))) (fun _ i _ => 5 - (intOf i).toNat)
  case atStart => exact ⟨ByteArray.empty, 0, by omega, by simp, rfl, rfl, HC⟩
  case round =>
    obtain ⟨t, k, hk, ht, rfl, rfl, HI⟩ := hrel
    go_wp2_with fail
    refine (below_any base _ blk a len cap 6 HI.out.1 (by omega) (by omega)).mono ?_
    rintro e w1 ⟨x, hx, rfl, hc1, hg1⟩
    have H1 := hidOf (And.intro hc1 (grown_two HI.out.2 hg1))
    clear hc1 hg1 HI
    by_cases hkx : k < x
    · have hA : (k : Int) < (x : Int) := by omega
      have hca : ∀ o, Cur base (w1.alloc o) blk a len cap := fun o => H1.out.1.kept (World.grownBy_alloc w1 o none) (fun k hk => by cases hk)
      go_wp2_with fail
      refine (pick_any base _ blk a len cap w1.heap.size 5 5 9 words3 (hca _) (by omega) (by omega) (by have := H1.out.1.lt; omega) (by simp) ?_ ?_).mono ?_
      · intro j hj
        rcases (show j = 0 ∨ j = 1 ∨ j = 2 ∨ j = 3 ∨ j = 4 by omega) with rfl | rfl | rfl | rfl | rfl <;> simp [words3]
      · intro j hj
        rcases (show j = 0 ∨ j = 1 ∨ j = 2 ∨ j = 3 ∨ j = 4 by omega) with rfl | rfl | rfl | rfl | rfl <;> decide
      · rintro e w2 ⟨u, hu, rfl, hc2, hg2⟩
        have H2 := hidOf (And.intro hc2 (grown_two (grown_row H1.out.2 (World.grownBy_alloc w1 _ none) (fun k hk => by cases hk)) hg2))
        clear hc2 hg2 hca H1
        go_wp2_with fail
        refine (once_any base _ blk a len cap 5 H2.out.1 (by omega) (by omega)).mono ?_
        rintro e w3 ⟨b, rfl, hc3, hg3⟩
        have H3 := hidOf (And.intro hc3 (grown_two H2.out.2 hg3))
        clear hc3 hg3 H2
        cases b
        · go_wp2
          go_roundw
          case rel => exact ⟨_, k + 1, by omega, by simp; have : (⟨#[10]⟩ : ByteArray).size = 1 := rfl; omega, rfl, by go_num, H3⟩
          case measure => simp [intOf]; omega
        · go_wp2
          go_roundw
          case rel => exact ⟨_, k + 1, by omega, by simp; omega, rfl, by go_num, H3⟩
          case measure => simp [intOf]; omega
    · have hA : ¬ (k : Int) < (x : Int) := by omega
      go_wp2
      go_ret
      exact tx_mk (by omega) H1.out.1 H1.out.2

theorem drawText_any (base : Nat) (w : World) (a : Option Addr) (len cap : Nat) (hc : CodeAt base w a len) (hb : base ≤ w.heap.size) :
    Calls Tryd.prog 6 #[.slice a len cap] w fun e w' => DTAns base w 60 e w' := by
  have HC := hidOf hc
  clear hc
  go_enter Tryd.func6, Tryd.ntmps6
  go_wp2_with fail
  refine (new_any base _ a len cap HC.out hb).mono ?_
  rintro e w1 ⟨blk, rfl, hbk, hc1, hb1⟩
  have H1 := hidOf (And.intro hc1 hb1)
  have hs1 := hb1.size
  clear hc1 hb1
  go_wp2_with fail
  refine (text3_any base _ blk a len cap H1.out.1).mono ?_
  rintro e w2 ⟨t, ht, rfl, hc2, hg2⟩
  have H2 : Hid (Below base w w2) := (H1.out.2.mono hb).grown hg2 (by omega) (fun k hk => by cases hk; omega)
  have HT := hidOf ht
  clear hc2 hg2 ht
  go_wp2
  go_ret
  exact dt_mk HT.out H2.out

/-- A drawn text, and a number about its length. -/
def DPAns (base : Nat) (w : World) (e : Ending) (w' : World) : Prop := ∃ (t : ByteArray) (n : Int), t.size ≤ 60 ∧ -1 ≤ n ∧ n < 24 ∧ e = .returned (.tuple #[.string t, .int .i64 n]) ∧ Below base w w'
theorem dp_mk {base : Nat} {w w' : World} {t : ByteArray} {n : Int} (ht : t.size ≤ 60) (h1 : -1 ≤ n) (h2 : n < 24) (hb : Below base w w') : DPAns base w (.returned (.tuple #[.string t, .int .i64 n])) w' := ⟨t, n, ht, h1, h2, rfl, hb⟩
theorem drawPlaceOf_any (base : Nat) (w : World) (a : Option Addr) (len cap : Nat) (hc : CodeAt base w a len) (hb : base ≤ w.heap.size) :
    Calls Tryd.prog 11 #[.slice a len cap] w fun e w' => DPAns base w e w' := by
  have HC := hidOf hc
  clear hc
  go_enter Tryd.func11, Tryd.ntmps11
  go_wp2_with fail
  refine (new_any base _ a len cap HC.out hb).mono ?_
  rintro e w1 ⟨blk, rfl, hbk, hc1, hb1⟩
  have H1 := hidOf (And.intro hc1 hb1)
  have hs1 := hb1.size
  clear hc1 hb1
  go_wp2_with fail
  refine (below_any base _ blk a len cap 24 H1.out.1 (by omega) (by omega)).mono ?_
  rintro e w2 ⟨y, hy, rfl, hc2, hg2⟩
  have hs2 := hg2.size
  have H2 : Hid (Cur base w2 blk a len cap ∧ Below base w w2) := ⟨hc2, (H1.out.2.mono hb).grown hg2 (by omega) (fun k hk => by cases hk; omega)⟩
  clear hc2 hg2
  go_wp2_with fail
  refine (text3_any base _ blk a len cap H2.out.1).mono ?_
  rintro e w3 ⟨t, ht, rfl, hc3, hg3⟩
  have H3 : Hid (Below base w w3) := H2.out.2.grown hg3 (by omega) (fun k hk => by cases hk; omega)
  have HT := hidOf ht
  clear hc3 hg3 ht
  go_wp2
  go_ret2
  exact dp_mk HT.out (by omega) (by omega) H3.out

def words3t : List ByteArray := [⟨#[]⟩, ⟨#[97]⟩, ⟨#[97, 32]⟩, ⟨#[32, 97, 32, 32]⟩, ⟨#[32, 32, 32]⟩, ⟨#[97, 32, 98]⟩]
theorem drawTrimmed_any (base : Nat) (w : World) (a : Option Addr) (len cap : Nat) (hc : CodeAt base w a len) (hb : base ≤ w.heap.size) :
    Calls Tryd.prog 13 #[.slice a len cap] w fun e w' => DTAns base w 4 e w' := by
  have HC := hidOf hc
  clear hc
  go_enter Tryd.func13, Tryd.ntmps13
  go_wp2_with fail
  refine (new_any base _ a len cap HC.out hb).mono ?_
  rintro e w1 ⟨blk, rfl, hbk, hc1, hb1⟩
  have H1 := hidOf (And.intro hc1 hb1)
  have hs1 := hb1.size
  have hca : ∀ o, Cur base (w1.alloc o) blk a len cap := fun o => hc1.kept (World.grownBy_alloc w1 o none) (fun k hk => by cases hk)
  clear hc1 hb1
  go_wp2_with fail
  refine (pick_any base _ blk a len cap w1.heap.size 6 6 4 words3t (hca _) (by omega) (by omega) (by have := H1.out.1.lt; omega) (by simp) ?_ ?_).mono ?_
  · intro j hj
    rcases (show j = 0 ∨ j = 1 ∨ j = 2 ∨ j = 3 ∨ j = 4 ∨ j = 5 by omega) with rfl | rfl | rfl | rfl | rfl | rfl <;> simp [words3t]
  · intro j hj
    rcases (show j = 0 ∨ j = 1 ∨ j = 2 ∨ j = 3 ∨ j = 4 ∨ j = 5 by omega) with rfl | rfl | rfl | rfl | rfl | rfl <;> decide
  · rintro e w2 ⟨t, ht, rfl, hc2, hg2⟩
    have H2 : Hid (Below base w w2) := ((H1.out.2.mono hb).alloc (by omega) _).grown hg2 (by simp; omega) (fun k hk => by cases hk; omega)
    have HT := hidOf ht
    clear hc2 hg2 ht
    go_wp2
    go_ret
    exact dt_mk HT.out H2.out
end Go.Proofs.YtdpdlddbnpnabaaDoor
