/- Drawn lines, texts and notes. -/
import Derived.Test.YtabbfpkhlofccaaGreatDoorDrWp
import Derived.Test.YtabbfpkhlofccaaGreatDoorCutLib
import Derived.Test.YtabbfpkhlofccaaGreatDoorProg
import Derived.WalkKit
import Derived.Laws.OwnMore
import Derived.BigQuiet
import Derived.Deep.QuietTactic
namespace Go.Proofs.YtabbfpkhlofccaaGreatDoor
open Go.RowKit

theorem any_bg {ws : List ByteArray} (hm : ∀ x ∈ ws, x ∈ any17) : ∀ k, k ≤ ws.length → bg ws k ≤ 14 * k := by
  intro k
  induction k with
  | zero => intro _; rw [bg_zero]; omega
  | succ k ih =>
    intro hk
    obtain ⟨x, hx⟩ : ∃ x, ws[k]? = some x := ⟨_, List.getElem?_eq_getElem (by omega)⟩
    have := any17_size x (hm x (List.mem_of_getElem? hx))
    have := ih (by omega)
    rw [bg_next hx]
    omega
/-- Drawn lines and a width. -/
def RgAns (base : Nat) (w : World) (e : Ending) (w' : World) : Prop :=
  ∃ (v : Value) (ls : List ByteArray) (z : Int), ls.length ≤ 61 ∧ (∀ x ∈ ls, x.size ≤ 854) ∧ z ≤ 9223372036854775807 ∧ e = .returned (.tuple #[v, .int .i64 z]) ∧ w'.ownsRow w.heap.size 9 1 v ls.length (strVals ls) ∧ Below base w w'
theorem rg_mk {base : Nat} {w w' : World} {v : Value} {ls : List ByteArray} {z : Int} (h1 : ls.length ≤ 61) (h2 : ∀ x ∈ ls, x.size ≤ 854) (hz : z ≤ 9223372036854775807) (h3 : w'.ownsRow w.heap.size 9 1 v ls.length (strVals ls)) (h4 : Below base w w') : RgAns base w (.returned (.tuple #[v, .int .i64 z])) w' := ⟨v, ls, z, h1, h2, hz, rfl, h3, h4⟩
set_option maxHeartbeats 1600000 in
set_option maxRecDepth 100000 in
theorem drawRag_any (base : Nat) (w : World) (a : Option Addr) (len cap : Nat) (hc : CodeAt base w a len) (hb : base ≤ w.heap.size) :
    Calls Tryz.prog 7 #[.slice a len cap] w fun e w' => RgAns base w e w' := by
  have HC := hidOf hc
  clear hc
  go_enter Tryz.func7, Tryz.ntmps7
  go_wp2_with fail
  refine (pair17_any base _ a len cap HC.out hb).mono ?_
  rintro e w1 ⟨v, ws, z, h1, h2, h3, rfl, h4, h5⟩
  have hbg := any_bg h2 _ (Nat.le_refl _)
  obtain ⟨av, cv, rfl⟩ := owns_slice h4
  have q := sGreedy_any (.slice av ws.length cv) w.heap.size ws.length ws 12 w1 (by omega) (by omega) h4
  have hgl := greedy_many ws 12
  have HGS := hidOf (greedy_sizes ws 12)
  obtain ⟨gs, hgs⟩ : ∃ gs, gs = greedy ws 12 := ⟨_, rfl⟩
  rw [← hgs] at q hgl HGS
  obtain ⟨n, hn⟩ : ∃ n, n = ws.length := ⟨_, rfl⟩
  rw [← hn] at q hgl h1 hbg HGS ⊢
  have H5 := hidOf h5
  have hs1 := h5.size
  have hgz : Hid (∀ x ∈ gs, x.size ≤ 854) := hidOf (fun x hx => by have := HGS.out x hx; omega)
  clear h2 h4 h5 hgs hn HGS
  go_wp2_with fail
  refine q.mono ?_
  rintro e w2 ⟨hb2, v2, rfl, ho2⟩
  have HO := hidOf ho2
  obtain ⟨a2, c2, rfl⟩ := owns_slice ho2
  have HB := hidOf (H5.out.trans (hb2.mono (Nat.le_trans hb hs1)))
  clear ho2
  go_wp2
  go_ret2
  exact rg_mk (by omega) hgz.out h3 (ownsRow_base HO.out hs1) HB.out

def TxAn (base : Nat) (w : World) (e : Ending) (w' : World) : Prop := ∃ t : ByteArray, t.size ≤ 100 ∧ e = .returned (.string t) ∧ Below base w w'
theorem txn_mk {base : Nat} {w w' : World} {t : ByteArray} (ht : t.size ≤ 100) (hb : Below base w w') : TxAn base w (.returned (.string t)) w' := ⟨t, ht, rfl, hb⟩
def txt17 : List ByteArray := [⟨#[]⟩, ⟨#[32]⟩, ⟨#[97]⟩, ⟨#[32, 97, 32, 32, 98, 32]⟩, ⟨#[97, 32, 98]⟩, ⟨#[111, 110, 101, 32, 116, 119, 111]⟩]
theorem txt17_size : ∀ x ∈ txt17, x.size ≤ 100 := by
  intro x hx
  have : x = ⟨#[]⟩ ∨ x = ⟨#[32]⟩ ∨ x = ⟨#[97]⟩ ∨ x = ⟨#[32, 97, 32, 32, 98, 32]⟩ ∨ x = ⟨#[97, 32, 98]⟩ ∨ x = ⟨#[111, 110, 101, 32, 116, 119, 111]⟩ := by simpa [txt17] using hx
  rcases this with rfl | rfl | rfl | rfl | rfl | rfl <;> decide
set_option maxHeartbeats 1600000 in
set_option maxRecDepth 100000 in
theorem drawTxt_any (base : Nat) (w : World) (a : Option Addr) (len cap : Nat) (hc : CodeAt base w a len) (hb : base ≤ w.heap.size) :
    Calls Tryz.prog 8 #[.slice a len cap] w fun e w' => TxAn base w e w' := by
  have HC := hidOf hc
  clear hc
  go_enter Tryz.func8, Tryz.ntmps8
  go_wp2_with fail
  refine (new_any base _ a len cap HC.out hb).mono ?_
  rintro e w1 ⟨blk, rfl, hbk, hc1, hb1⟩
  have hbl := hc1.lt
  have H1 := hidOf (And.intro hc1 hb1)
  have hs1 := hb1.size
  have hca : ∀ o, Cur base (w1.alloc o) blk a len cap := fun o => H1.out.1.kept (World.grownBy_alloc w1 o none) (fun k hk => by cases hk)
  clear hc1 hb1
  go_wp2_with fail
  refine (pick_in base _ blk a len cap w1.heap.size 6 6 txt17 (hca _) (by omega) (by omega) rfl (by omega) (by simp) (fun j hj => strCells_at w1 _ _ txt17 rfl j)).mono ?_
  rintro e w2 ⟨t, ht, rfl, hc2, hg2⟩
  have H2 : Hid (t.size ≤ 100 ∧ Below base w w2) := ⟨txt17_size t ht, (((H1.out.2.mono hb).alloc (by omega) _).grown hg2 (by simp; omega) (fun k hk => by cases hk; omega))⟩
  clear hc2 hg2 hca H1 ht
  go_wp2
  go_ret
  exact txn_mk H2.out.1 H2.out.2

/-- A drawn text, how far it is in, and a width. -/
def NtAn (base : Nat) (w : World) (e : Ending) (w' : World) : Prop := ∃ (t : ByteArray) (n z : Int), t ∈ notes17 ∧ z ≤ 9223372036854775807 ∧ e = .returned (.tuple #[.string t, .int .i64 n, .int .i64 z]) ∧ Below base w w'
theorem ntn_mk {base : Nat} {w w' : World} {t : ByteArray} {n z : Int} (ht : t ∈ notes17) (hz : z ≤ 9223372036854775807) (hb : Below base w w') : NtAn base w (.returned (.tuple #[.string t, .int .i64 n, .int .i64 z])) w' := ⟨t, n, z, ht, hz, rfl, hb⟩
def in17 : List Int := [0, 2, 60, 61, -1]
def wi17 : List Int := [10, 20, 5, -1, 9223372036854775807]
def nt17 : List ByteArray := notes17.take 6
set_option maxHeartbeats 3000000 in
set_option maxRecDepth 100000 in
theorem drawNt_any (base : Nat) (w : World) (a : Option Addr) (len cap : Nat) (hc : CodeAt base w a len) (hb : base ≤ w.heap.size) :
    Calls Tryz.prog 9 #[.slice a len cap] w fun e w' => NtAn base w e w' := by
  have HC := hidOf hc
  clear hc
  go_enter Tryz.func9, Tryz.ntmps9
  go_wp2_with fail
  refine (new_any base _ a len cap HC.out hb).mono ?_
  rintro e w1 ⟨blk, rfl, hbk, hc1, hb1⟩
  have hbl := hc1.lt
  have H1 := hidOf (And.intro hc1 hb1)
  have hs1 := hb1.size
  have hca : ∀ o, Cur base (w1.alloc o) blk a len cap := fun o => H1.out.1.kept (World.grownBy_alloc w1 o none) (fun k hk => by cases hk)
  clear hc1 hb1
  go_wp2_with fail
  refine (pickInt_in base _ blk a len cap w1.heap.size 5 5 in17 (hca _) (by omega) (by omega) rfl (by omega) (by simp) (fun j hj => intCells_at w1 _ _ in17 rfl j)).mono ?_
  rintro e w2 ⟨n, hn, rfl, hc2, hg2⟩
  have hs2 : w1.heap.size ≤ w2.heap.size := by have := hg2.size; simp at this; omega
  have H2 : Hid (Cur base w2 blk a len cap ∧ Below base w w2) := ⟨hc2, (((H1.out.2.mono hb).alloc (by omega) _).grown hg2 (by simp; omega) (fun k hk => by cases hk; omega))⟩
  have hca : ∀ o, Cur base (w2.alloc o) blk a len cap := fun o => H2.out.1.kept (World.grownBy_alloc w2 o none) (fun k hk => by cases hk)
  clear hc2 hg2 H1 hn
  go_wp2_with fail
  refine (pick_in base _ blk a len cap w2.heap.size 6 6 nt17 (hca _) (by omega) (by omega) rfl (by omega) (by simp) (fun j hj => strCells_at w2 _ _ nt17 rfl j)).mono ?_
  rintro e w3 ⟨t, ht, rfl, hc3, hg3⟩
  have hs3 : w2.heap.size ≤ w3.heap.size := by have := hg3.size; simp at this; omega
  have H3 : Hid (Cur base w3 blk a len cap ∧ Below base w w3) := ⟨hc3, ((H2.out.2.alloc (by omega) _).grown hg3 (by simp; omega) (fun k hk => by cases hk; omega))⟩
  have hca : ∀ o, Cur base (w3.alloc o) blk a len cap := fun o => H3.out.1.kept (World.grownBy_alloc w3 o none) (fun k hk => by cases hk)
  have HT := hidOf (show t ∈ notes17 from List.mem_of_mem_take ht)
  clear hc3 hg3 H2 ht
  go_wp2_with fail
  refine (pickInt_in base _ blk a len cap w3.heap.size 5 5 wi17 (hca _) (by omega) (by omega) rfl (by omega) (by simp) (fun j hj => intCells_at w3 _ _ wi17 rfl j)).mono ?_
  rintro e w4 ⟨z, hz, rfl, hc4, hg4⟩
  have hzb : z ≤ 9223372036854775807 := by
    have : z = 10 ∨ z = 20 ∨ z = 5 ∨ z = -1 ∨ z = 9223372036854775807 := by simpa [wi17] using hz
    omega
  have H4 : Hid (Below base w w4) := ((H3.out.2.alloc (by omega) _).grown hg4 (by simp; omega) (fun k hk => by cases hk; omega))
  clear hc4 hg4 hz hca H3
  go_wp2
  go_ret3
  exact ntn_mk HT.out hzb H4.out
end Go.Proofs.YtabbfpkhlofccaaGreatDoor
/- The law's own comparison tells two lists of texts alike. -/
namespace Go.Proofs.YtabbfpkhlofccaaGreatDoor
open Go.RowKit

set_option maxHeartbeats 800000 in
theorem same_any (v1 v2 : Value) (b1 b2 n : Nat) (ss : List ByteArray) (w : World) (hn : n ≤ 4611686018427387904)
    (h1 : w.ownsRow b1 9 1 v1 n (strVals ss)) (h2 : w.ownsRow b2 9 1 v2 n (strVals ss)) :
    Calls Tryz.prog 10 #[v1, v2] w fun e w' => e = .returned (.bool true) ∧ ∃ q, w' = w.drewN q := by
  have hl : ss.length = n := by have := h1.1; simpa [strVals] using this
  by_cases hz : n = 0
  · obtain ⟨a1, c1, rfl⟩ := owns_slice h1
    obtain ⟨a2, c2, rfl⟩ := owns_slice h2
    subst hz
    clear h1 h2 hl
    go_enter Tryz.func10, Tryz.ntmps10
    go_wp2
    go_loop [5] (fun i => i = .int .i64 0) (fun _ => 0)
    case atStart => rfl
    case round =>
      subst hrel
      go_wp2
      go_ret
      exact ⟨rfl, 0, rfl⟩
  · rcases h1.2 with ⟨_, e⟩ | ⟨g1, cap1, cur1, rfl, _⟩
    · omega
    rcases h2.2 with ⟨_, e⟩ | ⟨g2, cap2, cur2, rfl, _⟩
    · omega
    have hc1 : ∀ (j : Nat), j < n → w.cell? ⟨g1, j, none⟩ = some (.string (ss.getD j ByteArray.empty)) := fun j hj => by
      rw [h1.cellAt j (by omega)]
      simp [strVals, List.getD, List.getElem?_eq_getElem (show j < ss.length by omega)]
    have hc2 : ∀ (j : Nat), j < n → w.cell? ⟨g2, j, none⟩ = some (.string (ss.getD j ByteArray.empty)) := fun j hj => by
      rw [h2.cellAt j (by omega)]
      simp [strVals, List.getD, List.getElem?_eq_getElem (show j < ss.length by omega)]
    clear h1 h2 hl
    go_enter Tryz.func10, Tryz.ntmps10
    go_wp2
    go_loopw [5] (fun i wr => ∃ (k q : Nat), k ≤ n ∧ i = .int .i64 k ∧ wr = w.drewN q) (fun i _ => n - (intOf i).toNat)
    case atStart => exact ⟨0, 0, Nat.zero_le _, rfl, rfl⟩
    case round =>
      obtain ⟨k, q, hk, rfl, rfl⟩ := hrel
      by_cases hlt : k < n
      · obtain ⟨t, ht⟩ : ∃ t, t = ss.getD k ByteArray.empty := ⟨_, rfl⟩
        have d1 := hc1 k hlt
        have d2 := hc2 k hlt
        rw [← ht] at d1 d2
        clear ht
        have hA : (0 : Int) ≤ (k : Int) := by omega
        have hB : (k : Int) < (n : Int) := by omega
        clear hc1 hc2
        go_wp2
        go_quiet (fail)
        go_wp2
        go_roundw
        case rel => exact ⟨k + 1, q + nq, by omega, by go_num, rfl⟩
        case measure => simp [intOf]; omega
      · go_wp2
        go_ret
        exact ⟨rfl, q, rfl⟩

end Go.Proofs.YtabbfpkhlofccaaGreatDoor
