/- Answers that are true just when something holds. -/
import Derived.Test.YtabbfpkhlofccaaGreatDoorLib
import Derived.Test.YtabbfpkhlofccaaGreatDoorTrTx
namespace Go.Proofs.YtabbfpkhlofccaaGreatDoor
open Go.RowKit

/-- The world is as it was. -/
def TelQ (P : Prop) (w : World) (e : Ending) (w' : World) : Prop := ∃ b : Bool, e = .returned (.bool b) ∧ (b = true ↔ P) ∧ w' = w
theorem telQ_yes {P : Prop} {w : World} (h : P) : TelQ P w (.returned (.bool true)) w := ⟨true, rfl, by simp [h], rfl⟩
theorem telQ_no {P : Prop} {w : World} (h : ¬ P) : TelQ P w (.returned (.bool false)) w := ⟨false, rfl, by simp [h], rfl⟩
theorem TelQ.yes {P : Prop} {w w' : World} {e : Ending} (h : TelQ P w e w') (hp : P) : e = .returned (.bool true) ∧ w' = w := by
  obtain ⟨b, rfl, h1, rfl⟩ := h
  exact ⟨by rw [h1.2 hp], rfl⟩
theorem TelQ.no {P : Prop} {w w' : World} {e : Ending} (h : TelQ P w e w') (hp : ¬ P) : e = .returned (.bool false) ∧ w' = w := by
  obtain ⟨b, rfl, h1, rfl⟩ := h
  cases b
  · exact ⟨rfl, rfl⟩
  · exact absurd (h1.1 rfl) hp
/-- Nothing that was there has turned. -/
def TelB (P : Prop) (w : World) (e : Ending) (w' : World) : Prop := ∃ b : Bool, e = .returned (.bool b) ∧ (b = true ↔ P) ∧ Below w.heap.size w w'
theorem telB_yes {P : Prop} {w w' : World} (h : P) (hb : Below w.heap.size w w') : TelB P w (.returned (.bool true)) w' := ⟨true, rfl, by simp [h], hb⟩
theorem telB_no {P : Prop} {w w' : World} (h : ¬ P) (hb : Below w.heap.size w w') : TelB P w (.returned (.bool false)) w' := ⟨false, rfl, by simp [h], hb⟩
theorem TelB.yes {P : Prop} {w w' : World} {e : Ending} (h : TelB P w e w') (hp : P) : e = .returned (.bool true) ∧ Below w.heap.size w w' := by
  obtain ⟨b, rfl, h1, h2⟩ := h
  exact ⟨by rw [h1.2 hp], h2⟩
theorem TelB.no {P : Prop} {w w' : World} {e : Ending} (h : TelB P w e w') (hp : ¬ P) : e = .returned (.bool false) ∧ Below w.heap.size w w' := by
  obtain ⟨b, rfl, h1, h2⟩ := h
  cases b
  · exact ⟨rfl, h2⟩
  · exact absurd (h1.1 rfl) hp
theorem tel_same {b c : Bool} {P : Prop} (h1 : b = true ↔ P) (h2 : c = true ↔ P) : b = c := by
  cases b <;> cases c <;> simp_all
/-- An answer that is chosen ahead. -/
theorem tel_bool (P : Prop) : ∃ b : Bool, (b = true ↔ P) := by
  by_cases h : P
  · exact ⟨true, by simp [h]⟩
  · exact ⟨false, by simp [h]⟩
theorem TelB.is {P : Prop} {w w' : World} {e : Ending} {b : Bool} (h : TelB P w e w') (hb : b = true ↔ P) : e = .returned (.bool b) ∧ Below w.heap.size w w' := by
  obtain ⟨c, rfl, h1, h2⟩ := h
  exact ⟨by rw [tel_same h1 hb], h2⟩
theorem TelQ.is {P : Prop} {w w' : World} {e : Ending} {b : Bool} (h : TelQ P w e w') (hb : b = true ↔ P) : e = .returned (.bool b) ∧ w' = w := by
  obtain ⟨c, rfl, h1, h2⟩ := h
  exact ⟨by rw [tel_same h1 hb], h2⟩
end Go.Proofs.YtabbfpkhlofccaaGreatDoor
/- Texts and numbers of Kids by kind: the specification. -/
namespace Go.Proofs.YtabbfpkhlofccaaGreatDoor
open Go.RowKit

theorem lvl_cases {t : ByteArray} (h : lvl t ≠ 0) : t = (⟨#[124, 124]⟩ : ByteArray) ∨ t = (⟨#[38, 38]⟩ : ByteArray) ∨ t = (⟨#[61, 61]⟩ : ByteArray) ∨ t = (⟨#[60]⟩ : ByteArray) ∨ t = (⟨#[43]⟩ : ByteArray) ∨ t = (⟨#[45]⟩ : ByteArray) ∨ t = (⟨#[42]⟩ : ByteArray) := by
  unfold lvl at h
  repeat (split at h; · rename_i e; simp [e])
  exact absurd rfl h
theorem kind_cases {k : Int} (h : 1 ≤ k ∧ k ≤ 22) : k = 1 ∨ k = 2 ∨ k = 3 ∨ k = 4 ∨ k = 5 ∨ k = 6 ∨ k = 7 ∨ k = 8 ∨ k = 9 ∨ k = 10 ∨ k = 11 ∨ k = 12 ∨ k = 13 ∨ k = 14 ∨ k = 15 ∨ k = 16 ∨ k = 17 ∨ k = 18 ∨ k = 19 ∨ k = 20 ∨ k = 21 ∨ k = 22 := by omega
set_option maxHeartbeats 1600000 in
set_option maxRecDepth 100000 in
theorem sChain5 {t : ByteArray} (w : World) (h : lvl t ≠ 0) : Calls Tryz.prog 197 #[.string t] w (YesD w) := by
  rcases lvl_cases h with rfl | rfl | rfl | rfl | rfl | rfl | rfl
  all_goals clear h
  all_goals go_enter Tryz.func197, Tryz.ntmps197
  all_goals go_wp2
  all_goals go_ret
  all_goals exact ⟨rfl, 0, rfl⟩
set_option maxHeartbeats 3000000 in
set_option maxRecDepth 100000 in
theorem sText5 {k : Int} {t : ByteArray} (w : World) (hk : 1 ≤ k ∧ k ≤ 22) (hs : t.size ≤ 3000) (h : TxOk k t) : Calls Tryz.prog 176 #[.int .i64 k, .string t] w (YesD w) := by
  have hs2 : t.size ≤ 4194304 := by omega
  unfold TxOk at h
  rcases kind_cases hk with rfl | rfl | rfl | rfl | rfl | rfl | rfl | rfl | rfl | rfl | rfl | rfl | rfl | rfl | rfl | rfl | rfl | rfl | rfl | rfl | rfl | rfl
  all_goals simp at h
  all_goals clear hk
  all_goals first
    | (subst h
       go_enter Tryz.func176, Tryz.ntmps176
       go_wp2
       go_ret
       exact ⟨rfl, 0, rfl⟩)
    | (first
        | (have q := fun W => sName5 W h)
        | (have q := fun W => sNum5 W h)
        | (have q := fun W => sQuoted5 W hs2 h)
        | (have q := fun W => sNote5 W hs2 h)
        | (have q := fun W => sChain5 W h)
       clear h
       go_enter Tryz.func176, Tryz.ntmps176
       go_wp2_with fail
       refine (q _).mono ?_
       rintro e w1 ⟨rfl, m, rfl⟩
       go_wp2
       go_ret
       exact ⟨rfl, m, rfl⟩)
def CntAns (k : Int) (w : World) (e : Ending) (w' : World) : Prop := ∃ lo hi : Int, e = .returned (.tuple #[.int .i64 lo, .int .i64 hi]) ∧ w' = w ∧ ∀ n : Nat, (lo ≤ (n : Int) ∧ (n : Int) ≤ hi) ↔ CntK k n
set_option maxHeartbeats 3000000 in
set_option maxRecDepth 100000 in
theorem sCount5 {k : Int} (w : World) (hk : 1 ≤ k ∧ k ≤ 22) : Calls Tryz.prog 175 #[.int .i64 k] w (CntAns k w) := by
  rcases kind_cases hk with rfl | rfl | rfl | rfl | rfl | rfl | rfl | rfl | rfl | rfl | rfl | rfl | rfl | rfl | rfl | rfl | rfl | rfl | rfl | rfl | rfl | rfl
  all_goals clear hk
  all_goals go_enter Tryz.func175, Tryz.ntmps175
  all_goals go_wp2
  all_goals go_ret2
  all_goals exact ⟨_, _, rfl, rfl, fun n => by unfold CntK; simp; try omega⟩
set_option maxHeartbeats 1600000 in
set_option maxRecDepth 100000 in
theorem sStat5 (k : Int) (w : World) : Calls Tryz.prog 177 #[.int .i64 k] w (TelQ (StepK k) w) := by
  have hI := fun W => sIn2_any k 12 17 W
  by_cases h : 12 ≤ k ∧ k ≤ 17
  · rw [inB2_yes h] at hI
    go_enter Tryz.func177, Tryz.ntmps177
    go_wp2_with fail
    refine (hI _).mono ?_
    rintro e w ⟨rfl, rfl⟩
    go_wp2
    go_ret
    exact telQ_yes (.inl h)
  · rw [inB2_no h] at hI
    obtain ⟨b, hb⟩ : ∃ b, (k == 19) = b := ⟨_, rfl⟩
    go_enter Tryz.func177, Tryz.ntmps177
    go_wp2_with fail
    refine (hI _).mono ?_
    rintro e w ⟨rfl, rfl⟩
    go_wp2
    go_ret
    refine ⟨_, rfl, ?_, rfl⟩
    rw [← hb]
    unfold StepK
    simp
    omega
set_option maxHeartbeats 1600000 in
set_option maxRecDepth 100000 in
theorem sVal5 (k : Int) (w : World) : Calls Tryz.prog 198 #[.int .i64 k] w (TelQ (ValK k) w) := by
  have hI := fun W => sIn2_any k 1 11 W
  by_cases h : 1 ≤ k ∧ k ≤ 11
  · rw [inB2_yes h] at hI
    go_enter Tryz.func198, Tryz.ntmps198
    go_wp2_with fail
    refine (hI _).mono ?_
    rintro e w ⟨rfl, rfl⟩
    go_wp2
    go_ret
    exact telQ_yes h
  · rw [inB2_no h] at hI
    go_enter Tryz.func198, Tryz.ntmps198
    go_wp2_with fail
    refine (hI _).mono ?_
    rintro e w ⟨rfl, rfl⟩
    go_wp2
    go_ret
    exact telQ_no h
end Go.Proofs.YtabbfpkhlofccaaGreatDoor
