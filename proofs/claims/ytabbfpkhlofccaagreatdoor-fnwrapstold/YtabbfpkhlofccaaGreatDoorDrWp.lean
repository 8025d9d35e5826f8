/- Drawn words, right or not, widths, and notes. -/
import Derived.Test.YtabbfpkhlofccaaGreatDoorKaa
import Derived.Test.YtabbfpkhlofccaaGreatDoorKab
import Derived.Test.YtabbfpkhlofccaaGreatDoorGrS
import Derived.Test.YtabbfpkhlofccaaGreatDoorKai
namespace Go.Proofs.YtabbfpkhlofccaaGreatDoor
open Go.RowKit

/-- What may stand among drawn words. -/
def any17 : List ByteArray := words17 ++ [⟨#[]⟩, ⟨#[97, 32, 98]⟩, ⟨#[119]⟩]
theorem any17_of {x : ByteArray} (h : x ∈ words17) : x ∈ any17 := List.mem_append_left _ h
theorem any17_size : ∀ x ∈ any17, x.size ≤ 13 := by
  intro x hx
  rcases List.mem_append.1 hx with h | h
  · exact (words17_ok x h).2
  · have : x = ⟨#[]⟩ ∨ x = ⟨#[97, 32, 98]⟩ ∨ x = ⟨#[119]⟩ := by simpa using h
    rcases this with rfl | rfl | rfl <;> decide
/-- Drawn words, right or not. -/
def AnAns (base : Nat) (w : World) (blk : Nat) (a : Option Addr) (len cap : Nat) (e : Ending) (w' : World) : Prop :=
  ∃ (v : Value) (ws : List ByteArray), ws.length ≤ 61 ∧ (∀ x ∈ ws, x ∈ any17) ∧ e = .returned v ∧ w'.ownsRow w.heap.size 9 1 v ws.length (strVals ws) ∧ Cur base w' blk a len cap ∧ w.grownBy w' (some blk)
theorem an_mk {base : Nat} {w w' : World} {blk : Nat} {a : Option Addr} {len cap : Nat} {v : Value} {ws : List ByteArray} (h1 : ws.length ≤ 61) (h2 : ∀ x ∈ ws, x ∈ any17) (h3 : w'.ownsRow w.heap.size 9 1 v ws.length (strVals ws)) (h4 : Cur base w' blk a len cap) (h5 : w.grownBy w' (some blk)) : AnAns base w blk a len cap (.returned v) w' := ⟨v, ws, h1, h2, rfl, h3, h4, h5⟩

set_option maxHeartbeats 4000000 in
set_option maxRecDepth 100000 in
theorem any17_any (base : Nat) (w : World) (blk : Nat) (a : Option Addr) (len cap : Nat) (hc : Cur base w blk a len cap) :
    Calls Tryz.prog 56 #[.pointer (some ⟨blk, 0, none⟩)] w fun e w' => AnAns base w blk a len cap e w' := by
  obtain ⟨i0, hi, hz0, hz1, hz2⟩ := info_parts infoStrDw
  have hbl := hc.lt
  have hbo := hc.own
  have HC := hidOf hc
  clear hc
  go_enter Tryz.func56, Tryz.ntmps56
  go_wp2_with fail
  refine (words17_any base _ blk a len cap HC.out).mono ?_
  rintro e w1 ⟨v, ws, hwl, hwm, rfl, ho, hc1, hg1⟩
  have hs1 := hg1.size
  obtain ⟨av, cv, rfl⟩ := owns_slice ho
  obtain ⟨n, hn⟩ : ∃ n, n = ws.length := ⟨_, rfl⟩
  rw [← hn] at ho hwl ⊢
  have HN := hidOf hn
  have HM := hidOf hwm
  have H1 := hidOf (And.intro hc1 hg1)
  clear hc1 hg1 hn hwm
  have hne : (Value.slice av n cv).ownBlock = none ∨ (Value.slice av n cv).ownBlock ≠ some blk := by
    cases hv : (Value.slice av n cv).ownBlock with
    | none => exact .inl rfl
    | some g => right; intro e; have := (ho.lt g hv).1; cases e; omega
  go_wp2_with fail
  refine (below_any base _ blk a len cap 10 H1.out.1 (by omega) (by omega)).mono ?_
  rintro e w2 ⟨x, hx, rfl, hc2, hg2⟩
  have ho2 := ho.kept hg2 hne
  have hs2 := hg2.size
  have H2 := hidOf (And.intro hc2 (grown_two H1.out.2 hg2))
  have hrow : ∀ q, (Value.slice av n cv).ownBlock = some q → w.heap.size ≤ q := fun q hq => (ho2.lt q hq).1
  have hca : ∀ o, Cur base (w2.alloc o) blk a len cap := fun o => H2.out.1.kept (World.grownBy_alloc w2 o none) (fun k hk => by cases hk)
  have HCA := hidOf hca
  clear hc2 hg2 H1 ho hca
  by_cases hx0 : x = 0
  · have d0 : ((x : Int) == 0) = true := by simp [hx0]
    clear hx0
    go_wp2_with (at_builtin; refine wpList_append_own _ rfl _ _ 24 rfl w.heap.size 9 i0 (.string ByteArray.empty) 1 16 Tryz.underlying24 hi hz0 hz1 hz2 rfl (by decide) _ _ _ rfl (ho2.alloc _) ⟨w2.heap.size, 0, none⟩ 1 1 [.string ⟨#[]⟩] rfl rfl (cell_one_new _ _ _) (fun x hx => by simp at hx; subst hx; rfl) (by unfold maxLen; omega) (by omega) (by simp; omega) ?_; intro v' w4 hown' hgrow4 hnil4)
    go_ret
    have hl2 : (ws ++ [(⟨#[]⟩ : ByteArray)]).length = n + 1 := by simp [HN.out]
    refine an_mk (ws := ws ++ [⟨#[]⟩]) (by omega) (fun y hy => ?_) (by rw [hl2]; simpa [strVals] using hown') ((HCA.out _).kept hgrow4 (fun q hq => ⟨by have := hrow q hq; omega, by have := hrow q hq; omega⟩)) (grown_row (grown_row H2.out.2 (World.grownBy_alloc w2 _ none) (fun k hk => by cases hk)) hgrow4 (fun q hq => .inl (hrow q hq)))
    rcases List.mem_append.1 hy with h | h
    · exact any17_of (HM.out y h)
    · simp at h; rw [h]; simp [any17]
  · by_cases hx1 : x = 1
    · have d0 : ((x : Int) == 0) = false := by rw [beq_eq_false_iff_ne]; omega
      have d1 : ((x : Int) == 1) = true := by simp [hx1]
      clear hx0 hx1
      go_wp2_with (at_builtin; refine wpList_append_own _ rfl _ _ 24 rfl w.heap.size 9 i0 (.string ByteArray.empty) 1 16 Tryz.underlying24 hi hz0 hz1 hz2 rfl (by decide) _ _ _ rfl (ho2.alloc _) ⟨w2.heap.size, 0, none⟩ 1 1 [.string ⟨#[97, 32, 98]⟩] rfl rfl (cell_one_new _ _ _) (fun x hx => by simp at hx; subst hx; rfl) (by unfold maxLen; omega) (by omega) (by simp; omega) ?_; intro v' w4 hown' hgrow4 hnil4)
      go_ret
      have hl2 : (ws ++ [(⟨#[97, 32, 98]⟩ : ByteArray)]).length = n + 1 := by simp [HN.out]
      refine an_mk (ws := ws ++ [⟨#[97, 32, 98]⟩]) (by omega) (fun y hy => ?_) (by rw [hl2]; simpa [strVals] using hown') ((HCA.out _).kept hgrow4 (fun q hq => ⟨by have := hrow q hq; omega, by have := hrow q hq; omega⟩)) (grown_row (grown_row H2.out.2 (World.grownBy_alloc w2 _ none) (fun k hk => by cases hk)) hgrow4 (fun q hq => .inl (hrow q hq)))
      rcases List.mem_append.1 hy with h | h
      · exact any17_of (HM.out y h)
      · simp at h; rw [h]; simp [any17]
    · by_cases hx2 : x = 2
      · have d0 : ((x : Int) == 0) = false := by rw [beq_eq_false_iff_ne]; omega
        have d1 : ((x : Int) == 1) = false := by rw [beq_eq_false_iff_ne]; omega
        have d2 : ((x : Int) == 2) = true := by simp [hx2]
        clear hx0 hx1 hx2
        go_wp2
        go_loopw [3, 4] (fun v i wr => ∃ (k : Nat) (os : List ByteArray), k ≤ 61 ∧ os.length = k ∧ i = .int .i64 k ∧ Hid (∀ x ∈ os, x ∈ any17) ∧ wr.ownsRow w.heap.size 9 1 v k (strVals os) ∧ w.heap.size ≤ wr.heap.size ∧ Hid (Cur base wr blk a len cap ∧ w.grownBy wr (some blk))) (fun _ i _ => 61 - (intOf i).toNat)
        case atStart => exact ⟨0, [], by omega, rfl, rfl, hidOf (fun x hx => by cases hx), ownsRow_base (World.ownsRow_made w2 #[] 0 (Nat.le_refl _) (by decide) rfl) (by omega), by simp; omega, hidOf ⟨HCA.out _, grown_row H2.out.2 (World.grownBy_alloc w2 _ none) (fun k hk => by cases hk)⟩⟩
        case round =>
          obtain ⟨k, os, hk, hol, rfl, HM2, ho3, hsz, HI⟩ := hrel
          have HO := hidOf hol
          clear hol ho2
          obtain ⟨a1, c1, rfl⟩ := owns_slice ho3
          go_wp2_with fail
          refine (below_any base _ blk a len cap 2 HI.out.1 (by omega) (by omega)).mono ?_
          rintro e w3 ⟨y, hy, rfl, hc3, hg3⟩
          have hne3 : (Value.slice a1 k c1).ownBlock = none ∨ (Value.slice a1 k c1).ownBlock ≠ some blk := by
            cases hv : (Value.slice a1 k c1).ownBlock with
            | none => exact .inl rfl
            | some g => right; intro e; have := (ho3.lt g hv).1; cases e; omega
          have ho4 := ho3.kept hg3 hne3
          have hs3 := hg3.size
          have H3 := hidOf (And.intro hc3 (grown_two HI.out.2 hg3))
          have hrow3 : ∀ q, (Value.slice a1 k c1).ownBlock = some q → w.heap.size ≤ q := fun q hq => (ho4.lt q hq).1
          clear hc3 hg3 HI ho3
          by_cases hky : k < 60 + y
          · have hA : (k : Int) < 60 + (y : Int) := by omega
            go_wp2_with (at_builtin; refine wpList_append_own _ rfl _ _ 24 rfl w.heap.size 9 i0 (.string ByteArray.empty) 1 16 Tryz.underlying24 hi hz0 hz1 hz2 rfl (by decide) _ _ _ rfl (ho4.alloc _) ⟨w3.heap.size, 0, none⟩ 1 1 [.string ⟨#[119]⟩] rfl rfl (cell_one_new _ _ _) (fun x hx => by simp at hx; subst hx; rfl) (by unfold maxLen; omega) (by omega) (by simp; omega) ?_; intro v' w4 hown' hgrow4 hnil4)
            go_roundw
            case rel =>
              have hca := H3.out.1.kept (World.grownBy_alloc w3 (.cells #[.string ⟨#[119]⟩] 9) none) (fun k hk => by cases hk)
              refine ⟨k + 1, os ++ [⟨#[119]⟩], by omega, by simp [HO.out], by go_num, hidOf (fun y hy => ?_), by simpa [strVals] using hown', by have := hgrow4.size; simp at this; omega, hidOf ⟨hca.kept hgrow4 (fun q hq => ⟨by have := hrow3 q hq; omega, by have := hrow3 q hq; omega⟩), ?_⟩⟩
              · rcases List.mem_append.1 hy with h | h
                · exact HM2.out y h
                · simp at h; rw [h]; simp [any17]
              · exact grown_row (grown_row H3.out.2 (World.grownBy_alloc w3 _ none) (fun k hk => by cases hk)) hgrow4 (fun q hq => .inl (hrow3 q hq))
            case measure => simp [intOf]; omega
          · have hA : ¬ (k : Int) < 60 + (y : Int) := by omega
            go_wp2
            go_ret
            exact an_mk (by rw [HO.out]; exact hk) HM2.out (by rw [HO.out]; exact ho4) H3.out.1 H3.out.2
      · have d0 : ((x : Int) == 0) = false := by rw [beq_eq_false_iff_ne]; omega
        have d1 : ((x : Int) == 1) = false := by rw [beq_eq_false_iff_ne]; omega
        have d2 : ((x : Int) == 2) = false := by rw [beq_eq_false_iff_ne]; omega
        clear hx0 hx1 hx2
        go_wp2
        go_ret
        exact an_mk (by rw [← HN.out]; omega) (fun y hy => any17_of (HM.out y hy)) (by rw [← HN.out]; exact ho2) H2.out.1 H2.out.2
/-- Drawn words and a width. -/
def PrAns (base : Nat) (w : World) (e : Ending) (w' : World) : Prop :=
  ∃ (v : Value) (ws : List ByteArray) (z : Int), ws.length ≤ 61 ∧ (∀ x ∈ ws, x ∈ any17) ∧ z ≤ 9223372036854775807 ∧ e = .returned (.tuple #[v, .int .i64 z]) ∧ w'.ownsRow w.heap.size 9 1 v ws.length (strVals ws) ∧ Below base w w'
theorem pr_mk {base : Nat} {w w' : World} {v : Value} {ws : List ByteArray} {z : Int} (h1 : ws.length ≤ 61) (h2 : ∀ x ∈ ws, x ∈ any17) (hz : z ≤ 9223372036854775807) (h3 : w'.ownsRow w.heap.size 9 1 v ws.length (strVals ws)) (h4 : Below base w w') : PrAns base w (.returned (.tuple #[v, .int .i64 z])) w' := ⟨v, ws, z, h1, h2, hz, rfl, h3, h4⟩
def wid17 : List Int := [5, 10, 14, 20, 0, -1, 9223372036854775807]

set_option maxHeartbeats 1600000 in
set_option maxRecDepth 100000 in
theorem pair17_any (base : Nat) (w : World) (a : Option Addr) (len cap : Nat) (hc : CodeAt base w a len) (hb : base ≤ w.heap.size) :
    Calls Tryz.prog 25 #[.slice a len cap] w fun e w' => PrAns base w e w' := by
  have HC := hidOf hc
  clear hc
  go_enter Tryz.func25, Tryz.ntmps25
  go_wp2_with fail
  refine (new_any base _ a len cap HC.out hb).mono ?_
  rintro e w1 ⟨blk, rfl, hbk, hc1, hb1⟩
  have hbl := hc1.lt
  have H1 := hidOf (And.intro hc1 hb1)
  have hs1 := hb1.size
  have hca : ∀ o, Cur base (w1.alloc o) blk a len cap := fun o => H1.out.1.kept (World.grownBy_alloc w1 o none) (fun k hk => by cases hk)
  clear hc1 hb1
  go_wp2_with fail
  refine (pickInt_in base _ blk a len cap w1.heap.size 7 7 wid17 (hca _) (by omega) (by omega) rfl (by omega) (by simp) (fun j hj => intCells_at w1 _ _ wid17 rfl j)).mono ?_
  rintro e w2 ⟨z, hz, rfl, hc2, hg2⟩
  have hzb : z ≤ 9223372036854775807 := by
    have : z = 5 ∨ z = 10 ∨ z = 14 ∨ z = 20 ∨ z = 0 ∨ z = -1 ∨ z = 9223372036854775807 := by simpa [wid17] using hz
    omega
  have hs2 : w1.heap.size ≤ w2.heap.size := by have := hg2.size; simp at this; omega
  have H2 : Hid (Cur base w2 blk a len cap ∧ Below base w w2) := ⟨hc2, (((H1.out.2.mono hb).alloc (by omega) _).grown hg2 (by simp; omega) (fun k hk => by cases hk; omega))⟩
  clear hc2 hg2 hca H1 hz
  go_wp2_with fail
  refine (any17_any base _ blk a len cap H2.out.1).mono ?_
  rintro e w3 ⟨v, ws, h1, h2, rfl, h3, hc3, hg3⟩
  have H3 : Hid (ws.length ≤ 61 ∧ (∀ x ∈ ws, x ∈ any17) ∧ w3.ownsRow w.heap.size 9 1 v ws.length (strVals ws) ∧ Below base w w3) := ⟨h1, h2, ownsRow_base h3 (by omega), H2.out.2.grown hg3 (by omega) (fun k hk => by cases hk; omega)⟩
  obtain ⟨av, cv, rfl⟩ := owns_slice h3
  clear hc3 hg3 h1 h2 h3
  go_wp2
  go_ret2
  exact pr_mk H3.out.1 H3.out.2.1 hzb H3.out.2.2.1 H3.out.2.2.2
set_option maxHeartbeats 1600000 in
theorem drawGreedy_any (base : Nat) (w : World) (a : Option Addr) (len cap : Nat) (hc : CodeAt base w a len) (hb : base ≤ w.heap.size) :
    Calls Tryz.prog 6 #[.slice a len cap] w fun e w' => PrAns base w e w' := by
  have HC := hidOf hc
  clear hc
  go_enter Tryz.func6, Tryz.ntmps6
  go_wp2_with fail
  refine (pair17_any base _ a len cap HC.out hb).mono ?_
  rintro e w1 ⟨v, ws, z, h1, h2, h3, rfl, h4, h5⟩
  have H3 := hidOf (And.intro h1 (And.intro h2 (And.intro h3 (And.intro h4 h5))))
  obtain ⟨av, cv, rfl⟩ := owns_slice h4
  clear h1 h2 h3 h4 h5
  go_wp2
  go_ret2
  exact pr_mk H3.out.1 H3.out.2.1 H3.out.2.2.1 H3.out.2.2.2.1 H3.out.2.2.2.2
end Go.Proofs.YtabbfpkhlofccaaGreatDoor
