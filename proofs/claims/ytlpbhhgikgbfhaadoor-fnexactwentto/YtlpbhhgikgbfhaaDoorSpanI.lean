/- What impl.spanOf and the kinds of runes that it asks for answer. -/
import Derived.Test.YtlpbhhgikgbfhaaDoorProg
import Derived.Test.YtlpbhhgikgbfhaaDoorSignLib
import Derived.Lib.OthersKept
import Derived.Laws.RangeString
import Derived.Laws.RangeAny
import Derived.Shelf.Abstract
namespace Go.Proofs.YtlpbhhgikgbfhaaDoor
open Go.RowKit Go.Shelf

set_option maxHeartbeats 1600000 in
theorem fig_any (r : Int) (w : World) : Calls Tryd.prog 34 #[.int .i32 r] w fun e w' => e = .returned (.bool (figB r)) ∧ w' = w := by
  by_cases h1 : 48 ≤ r
  all_goals go_enter Tryd.func34, Tryd.ntmps34
  all_goals go_wp2
  all_goals go_ret
  all_goals exact ⟨ret_bool (by first | (simp [figB, *]; done) | (simp [figB]; omega)), rfl⟩

set_option maxHeartbeats 1600000 in
theorem pla_any (r : Int) (w : World) : Calls Tryd.prog 49 #[.int .i32 r] w fun e w' => e = .returned (.bool (plaB r)) ∧ w' = w := by
  by_cases h1 : 32 ≤ r
  all_goals go_enter Tryd.func49, Tryd.ntmps49
  all_goals go_wp2
  all_goals go_ret
  all_goals exact ⟨ret_bool (by first | (simp [plaB, *]; done) | (simp [plaB]; omega)), rfl⟩

set_option maxHeartbeats 1600000 in
theorem gap_any (r : Int) (w : World) : Calls Tryd.prog 20 #[.int .i32 r] w fun e w' => e = .returned (.bool (gapB r)) ∧ w' = w := by
  by_cases h1 : r = 32
  · subst h1
    go_enter Tryd.func20, Tryd.ntmps20
    go_wp2
    go_ret
    exact ⟨ret_bool (by simp [gapB]), rfl⟩
  · have h2 : (r == 32) = false := by simpa using h1
    clear h1
    go_enter Tryd.func20, Tryd.ntmps20
    go_wp2
    go_ret
    exact ⟨ret_bool (by simp [gapB, h2]), rfl⟩

set_option maxHeartbeats 1600000 in
theorem tex_any (r : Int) (w : World) : Calls Tryd.prog 48 #[.int .i32 r] w fun e w' => e = .returned (.bool (texB r)) ∧ w' = w := by
  go_enter Tryd.func48, Tryd.ntmps48
  go_wp2_with fail
  refine (pla_any r _).mono ?_
  cases h : plaB r
  all_goals rintro e w ⟨rfl, rfl⟩
  all_goals go_wp2
  all_goals go_ret
  all_goals exact ⟨ret_bool (by simp [texB, h]), rfl⟩

theorem no122 {r : Int} (h : 122 < r) (u : Bool) : (decide (r ≤ 122) || decide (r ≤ 90) || u) = u := by
  have e1 : ¬ r ≤ 122 := by omega
  have e2 : ¬ r ≤ 90 := by omega
  simp [e1, e2]
theorem no90 {r : Int} (h : 90 < r) (u : Bool) : (decide (r ≤ 90) || u) = u := by
  have e2 : ¬ r ≤ 90 := by omega
  simp [e2]

set_option maxHeartbeats 1600000 in
theorem nam_any (r : Int) (w : World) : Calls Tryd.prog 36 #[.int .i32 r] w fun e w' => e = .returned (.bool (namB r)) ∧ w' = w := by
  have key : (97 ≤ r ∧ r ≤ 122) ∨ (97 ≤ r ∧ 122 < r ∧ 65 ≤ r ∧ 90 < r ∧ (r == 95) = false) ∨ (r < 97 ∧ 65 ≤ r ∧ r ≤ 90) ∨ (r < 97 ∧ 65 ≤ r ∧ 90 < r ∧ (r == 95) = true) ∨ (r < 97 ∧ 65 ≤ r ∧ 90 < r ∧ (r == 95) = false) ∨ (r < 97 ∧ r < 65 ∧ (r == 95) = false) := by
    simp only [beq_iff_eq, beq_eq_false_iff_ne]
    omega
  rcases key with ⟨h1, h2⟩ | ⟨h1, h2, h3, h4, h5⟩ | ⟨h1, h3, h4⟩ | ⟨h1, h3, h4, h5⟩ | ⟨h1, h3, h4, h5⟩ | ⟨h1, h3, h5⟩
  · go_enter Tryd.func36, Tryd.ntmps36
    go_wp2
    go_ret
    exact ⟨ret_bool (by simp [namB, firB]; omega), rfl⟩
  · have hn : namB r = figB r := by
      have : firB r = false := by simp [firB, h5]; omega
      simp [namB, this]
    rw [hn]
    have hF := fig_any r w
    obtain ⟨u, hu⟩ : ∃ u, u = figB r := ⟨_, rfl⟩
    rw [← hu] at hF ⊢
    clear hu
    go_enter Tryd.func36, Tryd.ntmps36
    go_wp2_with fail
    refine hF.mono ?_
    rintro e w ⟨rfl, rfl⟩
    go_wp2
    go_ret
    first | exact ⟨rfl, rfl⟩ | exact ⟨ret_bool (no122 h2 u), rfl⟩ | exact ⟨ret_bool (no90 h4 u), rfl⟩
  · go_enter Tryd.func36, Tryd.ntmps36
    go_wp2
    go_ret
    exact ⟨ret_bool (by simp [namB, firB]; omega), rfl⟩
  · go_enter Tryd.func36, Tryd.ntmps36
    go_wp2
    go_ret
    exact ⟨ret_bool (by simp [namB, firB]; simp at h5; omega), rfl⟩
  · have hn : namB r = figB r := by
      have : firB r = false := by simp [firB, h5]; omega
      simp [namB, this]
    rw [hn]
    have hF := fig_any r w
    obtain ⟨u, hu⟩ : ∃ u, u = figB r := ⟨_, rfl⟩
    rw [← hu] at hF ⊢
    clear hu
    go_enter Tryd.func36, Tryd.ntmps36
    go_wp2_with fail
    refine hF.mono ?_
    rintro e w ⟨rfl, rfl⟩
    go_wp2
    go_ret
    first | exact ⟨rfl, rfl⟩ | exact ⟨ret_bool (no122 h2 u), rfl⟩ | exact ⟨ret_bool (no90 h4 u), rfl⟩
  · have hn : namB r = figB r := by
      have : firB r = false := by simp [firB, h5]; omega
      simp [namB, this]
    rw [hn]
    have hF := fig_any r w
    obtain ⟨u, hu⟩ : ∃ u, u = figB r := ⟨_, rfl⟩
    rw [← hu] at hF ⊢
    clear hu
    go_enter Tryd.func36, Tryd.ntmps36
    go_wp2_with fail
    refine hF.mono ?_
    rintro e w ⟨rfl, rfl⟩
    go_wp2
    go_ret
    first | exact ⟨rfl, rfl⟩ | exact ⟨ret_bool (no122 h2 u), rfl⟩ | exact ⟨ret_bool (no90 h4 u), rfl⟩

theorem width_one {s : ByteArray} {k : Nat} (h : k < s.size) (ha : by8 s k < 128) : Utf8.decode s k = ((by8 s k).toNat, 1) := by
  have e := by8_at s k h
  rw [decode_ascii s k h (by omega), ← e]
  rfl

set_option maxHeartbeats 4000000 in
set_option maxRecDepth 100000 in
theorem span_any (g : Nat) (p : Int → Bool) (hp : ∀ r, 128 ≤ r → p r = false) (hg : ∀ (r : Int) (W : World), Calls Tryd.prog g #[.int .i32 r] W fun e w' => e = .returned (.bool (p r)) ∧ w' = W) (eg : ∀ (args : Array Value) (w : World), (callFunc g args).run Tryd.prog w = .ok (.enter g args) w)
    (s : ByteArray) (w : World) (_ : s.size ≤ 4194304) :
    Calls Tryd.prog 19 #[.string s, .func (.func g) #[] #[]] w fun e w' => e = .returned (.int .i64 (spn p s 0)) ∧ Below w.heap.size w w' := by
  go_enter Tryd.func19, Tryd.ntmps19
  go_wp2
  go_loopw [] (fun wr => ∃ pos : Nat, pos ≤ s.size ∧ wr.heap[w.heap.size]? = some (.stringIter s pos) ∧ Below w.heap.size w wr ∧ Hid (∀ j, j < pos → p (by8 s j) = true)) (fun wr => s.size - wr.iterPos w.heap.size)
  case atStart =>
    refine ⟨0, Nat.zero_le _, World.iter_heap w s 0, ?_, hidOf fun j hj => by omega⟩
    exact (Below.refl _ w).alloc (Nat.le_refl _) _
  case round =>
    obtain ⟨pos, hpos, hit, hb, HA⟩ := hrel
    have hsz : w.heap.size < wr.heap.size := (Array.getElem?_eq_some_iff.1 hit).1
    by_cases hlt : pos < s.size
    · have hnx : ∀ ty, (Instr.next (.pointer (some ⟨w.heap.size, 0, none⟩)) true ty).run Tryd.prog wr = _ := fun ty => Lib.run_next_any_at wr w.heap.size s pos ty hit hlt
      have hbI := fun q => Lib.below_iterAt hb (k := w.heap.size) (Nat.le_refl _) s q
      have hitI := fun q => Lib.iterAt_heap wr w.heap.size s pos q hit
      have hr := by8_range s pos
      cases hP : p (by8 s pos)
      · have hd : p (((Utf8.decode s pos).1 : Nat) : Int) = false := by
          by_cases ha : by8 s pos < 128
          · rw [width_one hlt ha]
            show p (((by8 s pos).toNat : Nat) : Int) = false
            rw [Int.toNat_of_nonneg hr.1]
            exact hP
          · have e := by8_at s pos hlt
            exact hp _ (by have := (decode_high s pos hlt (by omega)).1; omega)
        have hcall := fun W => hg (((Utf8.decode s pos).1 : Nat) : Int) W
        rw [hd] at hcall
        have HP := hidOf hP
        clear hP hd
        go_wp2_with (go_at_fn g; refine (hcall _).mono ?_; rintro e w' ⟨rfl, rfl⟩)
        go_ret
        refine ⟨ret_int ?_, hbI _⟩
        rw [spn_is (p := p) (s := s) pos 0 (by omega) (fun j hj => by rw [Nat.zero_add]; exact HA.out j hj) (fun _ => by rw [Nat.zero_add]; exact HP.out)]
      · have ha : by8 s pos < 128 := by
          by_cases h : by8 s pos < 128
          · exact h
          · rw [hp _ (by omega)] at hP
            cases hP
        rw [width_one hlt ha] at hnx
        have hcall := fun W => hg (((by8 s pos).toNat : Nat) : Int) W
        rw [Int.toNat_of_nonneg hr.1, hP] at hcall
        simp only [Int.toNat_of_nonneg hr.1] at hnx
        have HP := hidOf hP
        clear hP ha
        go_wp2_with (go_at_fn g; refine (hcall _).mono ?_; rintro e w' ⟨rfl, rfl⟩)
        go_roundw
        case rel => exact ⟨pos + 1, by omega, hitI _, hbI _, hidOf fun j hj => by
          by_cases e : j = pos
          · subst e; exact HP.out
          · exact HA.out j (by omega)⟩
        case measure =>
          simp only [World.iterPos, hitI, hit]
          omega
    · have hnx : ∀ ty, (Instr.next (.pointer (some ⟨w.heap.size, 0, none⟩)) true ty).run Tryd.prog wr = _ := fun ty => Lib.run_next_end_at wr w.heap.size s pos ty hit hlt
      go_wp2
      go_ret
      refine ⟨ret_int ?_, hb⟩
      rw [spn_is (p := p) (s := s) s.size 0 (by omega) (fun j hj => by rw [Nat.zero_add]; exact HA.out j (by omega)) (fun h => by omega)]
theorem enFig : ∀ (args : Array Value) (w : World), (callFunc 34 args).run Tryd.prog w = .ok (.enter 34 args) w := enters_of Tryd.func34 (by kernel_rfl) rfl
theorem enNam : ∀ (args : Array Value) (w : World), (callFunc 36 args).run Tryd.prog w = .ok (.enter 36 args) w := enters_of Tryd.func36 (by kernel_rfl) rfl
theorem enPla : ∀ (args : Array Value) (w : World), (callFunc 49 args).run Tryd.prog w = .ok (.enter 49 args) w := enters_of Tryd.func49 (by kernel_rfl) rfl
theorem enTex : ∀ (args : Array Value) (w : World), (callFunc 48 args).run Tryd.prog w = .ok (.enter 48 args) w := enters_of Tryd.func48 (by kernel_rfl) rfl
theorem enGap : ∀ (args : Array Value) (w : World), (callFunc 20 args).run Tryd.prog w = .ok (.enter 20 args) w := enters_of Tryd.func20 (by kernel_rfl) rfl
theorem span_fig (s : ByteArray) (w : World) (hs : s.size ≤ 4194304) : Calls Tryd.prog 19 #[.string s, .func (.func 34) #[] #[]] w fun e w' => e = .returned (.int .i64 (spn figB s 0)) ∧ Below w.heap.size w w' :=
  span_any _ figB (fun r h => by simp [figB]; omega) fig_any enFig s w hs
theorem span_nam (s : ByteArray) (w : World) (hs : s.size ≤ 4194304) : Calls Tryd.prog 19 #[.string s, .func (.func 36) #[] #[]] w fun e w' => e = .returned (.int .i64 (spn namB s 0)) ∧ Below w.heap.size w w' :=
  span_any _ namB (fun r h => by simp [namB, firB, figB]; omega) nam_any enNam s w hs
theorem span_pla (s : ByteArray) (w : World) (hs : s.size ≤ 4194304) : Calls Tryd.prog 19 #[.string s, .func (.func 49) #[] #[]] w fun e w' => e = .returned (.int .i64 (spn plaB s 0)) ∧ Below w.heap.size w w' :=
  span_any _ plaB (fun r h => by simp [plaB]; omega) pla_any enPla s w hs
theorem span_tex (s : ByteArray) (w : World) (hs : s.size ≤ 4194304) : Calls Tryd.prog 19 #[.string s, .func (.func 48) #[] #[]] w fun e w' => e = .returned (.int .i64 (spn texB s 0)) ∧ Below w.heap.size w w' :=
  span_any _ texB (fun r h => by simp [texB, plaB]; omega) tex_any enTex s w hs
theorem span_gap (s : ByteArray) (w : World) (hs : s.size ≤ 4194304) : Calls Tryd.prog 19 #[.string s, .func (.func 20) #[] #[]] w fun e w' => e = .returned (.int .i64 (spn gapB s 0)) ∧ Below w.heap.size w w' :=
  span_any _ gapB (fun r h => by simp [gapB]; omega) gap_any enGap s w hs
end Go.Proofs.YtlpbhhgikgbfhaaDoor
