/- What impl.Neat answers: three functions in a list, each asked. -/
import Derived.Test.YtlejdjbhbkknlaaEachI
import Derived.Test.YtlejdjbhbkknlaaPlnP
import Derived.Deep.QuietTactic
import Derived.BigQuiet
import Derived.Laws.EntriesVeiled
namespace Go.Proofs.Ytlejdjbhbkknlaa
open Go.RowKit Go.Shelf

attribute [local go_sem] Oper.semAt_some

def EndsP (s : ByteArray) : Prop := s.size = 0 ∨ Lib.hasSuffix s.data.toList [10] = true
def LinesP (s : ByteArray) : Prop := ∀ t ∈ lns s, OkLn t
def GapsP (s : ByteArray) : Prop := Lib.hasPrefix s.data.toList [10] = false ∧ Lib.hasSuffix s.data.toList [10, 10] = false ∧ Lib.contains s.data.toList [10, 10, 10] = false

theorem suf_any (s p : ByteArray) (w : World) (hs : s.size ≤ 4194304) : Calls Try.prog 21 #[.string s, .string p] w fun e w' => e = .returned (.bool (Lib.hasSuffix s.data.toList p.data.toList)) ∧ w' = w := Try.strings_HasSuffix s p w (by omega)
theorem pref_any (s p : ByteArray) (w : World) : Calls Try.prog 23 #[.string s, .string p] w fun e w' => e = .returned (.bool (Lib.hasPrefix s.data.toList p.data.toList)) ∧ w' = w := Try.strings_HasPrefix s p w
theorem cont_any (s p : ByteArray) (m : Int) (w : World) (hs : s.size ≤ 4194304) (hm : w.cell? ⟨0, 0, none⟩ = some (.int .i64 m)) : Calls Try.prog 24 #[.string s, .string p] w fun e w' => e = .returned (.bool (Lib.contains s.data.toList p.data.toList)) ∧ w' = w := Try.strings_Contains s p m w (by omega) hm

set_option maxHeartbeats 1600000 in
theorem iEnds_any (s : ByteArray) (w : World) (hs : s.size ≤ 4194304) : Calls Try.prog 17 #[.string s] w fun e w' => TelQ (EndsP s) w e w' := by
  by_cases h0 : s.size = 0
  · have hE : s.toList.isEmpty = true := by rw [str_none, decide_eq_true_eq]; exact h0
    go_enter Try.func17, Try.ntmps17
    go_wp2_with fail
    go_ret
    exact telQ_yes (.inl h0)
  · have hE : s.toList.isEmpty = false := by rw [str_none, decide_eq_false_iff_not]; exact h0
    obtain ⟨b, hb⟩ : ∃ b, b = Lib.hasSuffix s.data.toList [10] := ⟨_, rfl⟩
    have q := suf_any s ⟨#[10]⟩ w hs
    rw [show (⟨#[10]⟩ : ByteArray).data.toList = [10] from rfl, ← hb] at q
    have HB := hidOf hb
    clear hb
    go_enter Try.func17, Try.ntmps17
    go_wp2_with (go_at_call 21; refine q.mono ?_; rintro e w1 ⟨rfl, rfl⟩)
    go_ret
    exact ⟨b, rfl, ⟨fun h => .inr (HB.out.symm.trans h), fun h => HB.out.trans (h.resolve_left h0)⟩, rfl⟩

set_option maxHeartbeats 1600000 in
theorem iGaps_any (s : ByteArray) (m : Int) (w : World) (hs : s.size ≤ 4194304) (hM : w.cell? ⟨0, 0, none⟩ = some (.int .i64 m)) : Calls Try.prog 19 #[.string s] w fun e w' => TelQ (GapsP s) w e w' := by
  obtain ⟨b1, h1⟩ : ∃ b, b = Lib.hasPrefix s.data.toList [10] := ⟨_, rfl⟩
  obtain ⟨b2, h2⟩ : ∃ b, b = Lib.hasSuffix s.data.toList [10, 10] := ⟨_, rfl⟩
  obtain ⟨b3, h3⟩ : ∃ b, b = Lib.contains s.data.toList [10, 10, 10] := ⟨_, rfl⟩
  have q1 := pref_any s ⟨#[10]⟩ w
  rw [show (⟨#[10]⟩ : ByteArray).data.toList = [10] from rfl, ← h1] at q1
  have q2 := suf_any s ⟨#[10, 10]⟩ w hs
  rw [show (⟨#[10, 10]⟩ : ByteArray).data.toList = [10, 10] from rfl, ← h2] at q2
  have q3 := cont_any s ⟨#[10, 10, 10]⟩ m w hs hM
  rw [show (⟨#[10, 10, 10]⟩ : ByteArray).data.toList = [10, 10, 10] from rfl, ← h3] at q3
  have HB := hidOf (show GapsP s ↔ (b1 = false ∧ b2 = false ∧ b3 = false) by rw [h1, h2, h3]; exact Iff.rfl)
  clear h1 h2 h3
  cases b1
  · cases b2
    · go_enter Try.func19, Try.ntmps19
      go_wp2_with (first | (go_at_call 21; refine q2.mono ?_; rintro e w1 ⟨rfl, rfl⟩) | (go_at_call 23; refine q1.mono ?_; rintro e w1 ⟨rfl, rfl⟩) | (go_at_call 24; refine q3.mono ?_; rintro e w1 ⟨rfl, rfl⟩))
      go_ret
      cases b3
      · exact telQ_yes (HB.out.2 (by simp))
      · exact telQ_no (fun h => by have := (HB.out.1 h).2.2; cases this)
    · go_enter Try.func19, Try.ntmps19
      go_wp2_with (first | (go_at_call 21; refine q2.mono ?_; rintro e w1 ⟨rfl, rfl⟩) | (go_at_call 23; refine q1.mono ?_; rintro e w1 ⟨rfl, rfl⟩) | (go_at_call 24; refine q3.mono ?_; rintro e w1 ⟨rfl, rfl⟩))
      go_ret
      exact telQ_no (fun h => by have := (HB.out.1 h).2.1; cases this)
  · go_enter Try.func19, Try.ntmps19
    go_wp2_with (first | (go_at_call 21; refine q2.mono ?_; rintro e w1 ⟨rfl, rfl⟩) | (go_at_call 23; refine q1.mono ?_; rintro e w1 ⟨rfl, rfl⟩) | (go_at_call 24; refine q3.mono ?_; rintro e w1 ⟨rfl, rfl⟩))
    go_ret
    exact telQ_no (fun h => by have := (HB.out.1 h).1; cases this)

set_option maxRecDepth 100000 in
set_option maxHeartbeats 4000000 in
theorem iNLines_any (s : ByteArray) (m : Int) (w : World) (hs : s.size ≤ 4194304) (hM0 : 0 < w.heap.size) (hM : w.cell? ⟨0, 0, none⟩ = some (.int .i64 m)) :
    Calls Try.prog 18 #[.string s] w fun e w' => TelB (LinesP s) w e w' := by
  refine (callsIn_wide (n := 4)).1 ?_
  refine callsIn_of_wp_marks Try.func18 rfl trivial ?_ rfl
  simp only [Try.ntmps18, List.size_toArray, List.length_cons, List.length_nil, Nat.reduceAdd, Nat.reduceSub, Array.replicate_succ, Array.replicate_zero, List.push_toArray, List.append_toArray, List.nil_append, List.cons_append]
  gi_wp2_with (refine ⟨trivial, ?_⟩; gi_at_call 20; refine (each_in _ s _).mono ?_; rintro e w' ⟨rfl, rfl⟩)
  have bO := Boxed.new w 4 (.bool false)
  have bN := Boxed.new (w.alloc (.cells #[.bool false] 4)) 9 (.string s)
  rw [World.size_alloc] at bN
  have hB0 : Below w.heap.size w ((w.alloc (.cells #[.bool false] 4)).alloc (.cells #[.string s] 9)) := ((Below.refl _ w).alloc (Nat.le_refl _) _).alloc (by simp) _
  have hMb := (hB0.cell (p := ⟨0, 0, none⟩) hM0).trans hM
  refine wpIn_rangeFunc_ownG rfl (by omega) (gf := 25) (lb := #[.pointer (some ⟨w.heap.size + 1, 0, none⟩)]) rfl trivial (enters_of Try.func25 (by kernel_rfl) rfl)
    (each_stops _ (by omega) (w.heap.size + 1) w.heap.size s hs m _ hM0 (by simp) bN.cell hMb) belowK_t (belowK_b (by simp; omega)) (Below.refl _ _) (fun _ => rfl)
    (fun pre W => ((∀ x ∈ pre, OkLn x.1) ∧ Boxed W w.heap.size 4 (.bool false)) ∧ Below w.heap.size w W)
    (fun c pre W => ((c = .ret ∧ ∃ x ∈ pre, ¬ OkLn x.1) ∧ Boxed W w.heap.size 4 (.bool false)) ∧ Below w.heap.size w W)
    (OwnFrom.and (OwnFrom.and (ownFrom_pure _ _) (Own.from (boxed_own _ _ _) _)) (ownFrom_below (Nat.le_refl _) (by simp; omega)))
    (fun c => OwnFrom.and (OwnFrom.and (ownFrom_pure _ _) (Own.from (boxed_own _ _ _) _)) (ownFrom_below (Nat.le_refl _) (by simp; omega)))
    ⟨⟨(fun x hx => by cases hx), bO.alloc _⟩, hB0⟩
    (fun x => { tmps := #[.string s, undef, .pointer (some ⟨w.heap.size, 0, none⟩), .string x.1, .string s, .func (.func 25) #[] #[.pointer (some ⟨w.heap.size + 1, 0, none⟩)], .string x.1, undef, undef, undef, undef, undef, undef, undef], defers := [] }) ?assign ?body ?done ?stop
  case assign =>
    intro l x W K hK
    gi_wp2
    exact hK
  case body =>
    rintro l pre x W ⟨⟨hp, hv⟩, hB⟩ hlt
    have hc := hv.cell
    have hf := hv.frozen
    have hx := x.2
    have hd : 1 ≤ 4 - 1 - 1 := by omega
    obtain ⟨b1, h1⟩ : ∃ b, b = Lib.hasSuffix x.1.data.toList [32] := ⟨_, rfl⟩
    have q1 := suf_any x.1 ⟨#[32]⟩ W hx
    rw [show (⟨#[32]⟩ : ByteArray).data.toList = [32] from rfl, ← h1] at q1
    obtain ⟨b2, h2⟩ := tel_bool (Pln x.1)
    have q2 : Calls Try.prog 22 #[.string x.1] W fun e w' => e = .returned (.bool b2) ∧ w' = W := (iPln_any x.1 W hx).mono fun e w' h => h.is h2
    have HB := hidOf (show OkLn x.1 ↔ (b1 = false ∧ b2 = true) by unfold OkLn; rw [h1, h2])
    have HP := hidOf hp
    clear h1 h2 hp
    cases b1
    · cases b2
      · have HN := hidOf (show ¬ OkLn x.1 from fun h => by have := (HB.out.1 h).2; cases this)
        clear HB
        gi_wp2_with (first | (refine ⟨trivial, ?_⟩; gi_at_call 21; refine (CallsIn.inRound l (callsIn_wide.2 q1)).mono ?_; rintro e w1 ⟨rfl, rfl⟩) | (refine ⟨trivial, ?_⟩; gi_at_call 22; refine (CallsIn.inRound l (callsIn_wide.2 q2)).mono ?_; rintro e w1 ⟨rfl, rfl⟩))
        exact ⟨(KeepsOthers.setCell _ _ _).from _, ⟨⟨rfl, x, by simp, HN.out⟩, hv.set _⟩, hB.setCell (p := ⟨w.heap.size, 0, none⟩) (Nat.le_refl _) _⟩
      · have HN := hidOf (show OkLn x.1 from HB.out.2 ⟨rfl, rfl⟩)
        clear HB
        gi_wp2_with (first | (refine ⟨trivial, ?_⟩; gi_at_call 21; refine (CallsIn.inRound l (callsIn_wide.2 q1)).mono ?_; rintro e w1 ⟨rfl, rfl⟩) | (refine ⟨trivial, ?_⟩; gi_at_call 22; refine (CallsIn.inRound l (callsIn_wide.2 q2)).mono ?_; rintro e w1 ⟨rfl, rfl⟩))
        exact ⟨(KeepsOthers.refl _).from _, Below.refl _ _, ⟨fun y hy => (List.mem_append.1 hy).elim (HP.out y) (fun e => by simp at e; rw [e]; exact HN.out), hv⟩, hB⟩
    · have HN := hidOf (show ¬ OkLn x.1 from fun h => by have := (HB.out.1 h).1; cases this)
      clear HB
      gi_wp2_with (first | (refine ⟨trivial, ?_⟩; gi_at_call 21; refine (CallsIn.inRound l (callsIn_wide.2 q1)).mono ?_; rintro e w1 ⟨rfl, rfl⟩) | (refine ⟨trivial, ?_⟩; gi_at_call 22; refine (CallsIn.inRound l (callsIn_wide.2 q2)).mono ?_; rintro e w1 ⟨rfl, rfl⟩))
      refine ⟨trivial, ?_⟩
      gi_wp2
      exact ⟨(KeepsOthers.setCell _ _ _).from _, ⟨⟨rfl, x, by simp, HN.out⟩, hv.set _⟩, hB.setCell (p := ⟨w.heap.size, 0, none⟩) (Nat.le_refl _) _⟩
  case done =>
    rintro D ys W hD hys ⟨⟨hp, hv⟩, hB⟩ hK
    have hc := hv.cell
    have hf := hv.frozen
    gi_wp2
    have hK' := (KeepsOthers.setCell W ⟨w.heap.size, 0, none⟩ (.bool true)).same D _ hK rfl
    refine ⟨by simp, .inl ⟨_, _, rfl, run_takeDeferred hK', ?_⟩⟩
    have hc5 := cell_kept (World.cell?_setCell_same' W ⟨w.heap.size, 0, none⟩ (.bool true) (by rw [hc]; rfl)) (grownBy_putObj' _ D (.deferred none)) (fun r e => by cases e; exact ⟨_, hK', rfl⟩)
    refine ⟨.bool true, by simp [results, Try.f18, go_sem, hc5], ?_⟩
    have hB2 := hB.setCell (p := ⟨w.heap.size, 0, none⟩) (Nat.le_refl _) (.bool true)
    refine telB_yes (fun t ht => ?_) (hB2.trans (belowK_b (w := w) (Nat.le_refl _) _ D _ _ (by simp at hD; omega) hK' rfl rfl))
    rw [← hys] at ht
    obtain ⟨y, hy, rfl⟩ := List.mem_map.1 ht
    exact hp y hy
  case stop =>
    rintro D c pre W hD hpre ⟨⟨⟨rfl, x, hx, hno⟩, hv⟩, hB⟩ hK
    have hc := hv.cell
    gi_wp2
    refine ⟨by simp, .inl ⟨_, _, rfl, run_takeDeferred hK, ?_⟩⟩
    have hc5 := cell_kept hc (grownBy_putObj' _ D (.deferred none)) (fun r e => by cases e; exact ⟨_, hK, rfl⟩)
    refine ⟨.bool false, by simp [results, Try.f18, go_sem, hc5], ?_⟩
    exact telB_no (fun h => hno (h x.1 (hpre.subset (List.mem_map.2 ⟨x, hx, rfl⟩)))) (hB.trans (belowK_b (w := w) (Nat.le_refl _) W D _ _ (by simp at hD; omega) hK rfl rfl))

set_option maxHeartbeats 4000000 in
theorem iAllSo (s : ByteArray) (m : Int) (g : Nat) (w : World) (hs : s.size ≤ 4194304) (hM0 : 0 < w.heap.size) (hM : w.cell? ⟨0, 0, none⟩ = some (.int .i64 m)) (hg : g < w.heap.size)
    (c0 : w.cell? ⟨g, 0, none⟩ = some (.func (.func 17) #[] #[])) (c1 : w.cell? ⟨g, 1, none⟩ = some (.func (.func 18) #[] #[])) (c2 : w.cell? ⟨g, 2, none⟩ = some (.func (.func 19) #[] #[])) :
    Calls Try.prog 12 #[.string s, .slice (some ⟨g, 0, none⟩) 3 3] w fun e w' => TelB (EndsP s ∧ LinesP s ∧ GapsP s) w e w' := by
  go_enter Try.func12, Try.ntmps12
  go_wp2
  go_loopw [9] (fun i wr => ∃ k : Nat, k ≤ 3 ∧ i = .int .i64 k ∧ Below w.heap.size w wr ∧ Hid ((0 < k → EndsP s) ∧ (1 < k → LinesP s) ∧ (2 < k → GapsP s))) (fun i _ => 3 - (intOf i).toNat)
  case atStart => exact ⟨0, by omega, rfl, Below.refl _ _, hidOf ⟨fun h => absurd h (by omega), fun h => absurd h (by omega), fun h => absurd h (by omega)⟩⟩
  case round =>
    obtain ⟨k, hk, rfl, hB, HA⟩ := hrel
    have hgr : g < wr.heap.size := Nat.lt_of_lt_of_le hg hB.size
    have hk' : k = 0 ∨ k = 1 ∨ k = 2 ∨ k = 3 := by omega
    rcases hk' with rfl | rfl | rfl | rfl
    · -- 0
      have hc := (hB.cell (p := ⟨g, 0, none⟩) hg).trans c0
      obtain ⟨b, hb⟩ := tel_bool (EndsP s)
      have q : ∀ W, Below w.heap.size w W → Calls Try.prog 17 #[.string s] W fun e w' => e = .returned (.bool b) ∧ Below W.heap.size W w' := fun W hW => (iEnds_any s W hs).mono fun e w' h => by obtain ⟨h1, h2⟩ := h.is hb; exact ⟨h1, by rw [h2]; exact Below.refl _ _⟩
      have HB := hidOf hb
      clear hb
      cases b
      · have HN := hidOf (show ¬ EndsP s from fun h => by have := HB.out.2 h; cases this)
        clear HB
        go_wp2_with (go_at_call 17; refine (q _ (hB.alloc hB.size _)).mono ?_; rintro e w1 ⟨rfl, hb1⟩)
        go_ret
        exact telB_no (fun h => HN.out h.1) ((hB.alloc hB.size _).trans (hb1.mono (by simp; have := hB.size; omega)))
      · have HN := hidOf (show EndsP s from HB.out.1 rfl)
        clear HB
        go_wp2_with (go_at_call 17; refine (q _ (hB.alloc hB.size _)).mono ?_; rintro e w1 ⟨rfl, hb1⟩)
        go_roundw
        case rel => exact ⟨1, by omega, by go_num, (hB.alloc hB.size _).trans (hb1.mono (by simp; have := hB.size; omega)), hidOf ⟨fun _ => HN.out, fun h => absurd h (by omega), fun h => absurd h (by omega)⟩⟩
        case measure => simp [intOf]
    · -- 1
      have hc := (hB.cell (p := ⟨g, 1, none⟩) hg).trans c1
      obtain ⟨b, hb⟩ := tel_bool (LinesP s)
      have q : ∀ W, Below w.heap.size w W → Calls Try.prog 18 #[.string s] W fun e w' => e = .returned (.bool b) ∧ Below W.heap.size W w' := fun W hW => (iNLines_any s m W hs (Nat.lt_of_lt_of_le hM0 hW.size) ((hW.cell (p := ⟨0, 0, none⟩) hM0).trans hM)).mono fun e w' h => h.is hb
      have HB := hidOf hb
      clear hb
      cases b
      · have HN := hidOf (show ¬ LinesP s from fun h => by have := HB.out.2 h; cases this)
        clear HB
        go_wp2_with (go_at_call 18; refine (q _ (hB.alloc hB.size _)).mono ?_; rintro e w1 ⟨rfl, hb1⟩)
        go_ret
        exact telB_no (fun h => HN.out h.2.1) ((hB.alloc hB.size _).trans (hb1.mono (by simp; have := hB.size; omega)))
      · have HN := hidOf (show LinesP s from HB.out.1 rfl)
        clear HB
        go_wp2_with (go_at_call 18; refine (q _ (hB.alloc hB.size _)).mono ?_; rintro e w1 ⟨rfl, hb1⟩)
        go_roundw
        case rel => exact ⟨2, by omega, by go_num, (hB.alloc hB.size _).trans (hb1.mono (by simp; have := hB.size; omega)), hidOf ⟨fun _ => HA.out.1 (by omega), fun h => HN.out, fun h => absurd h (by omega)⟩⟩
        case measure => simp [intOf]
    · -- 2
      have hc := (hB.cell (p := ⟨g, 2, none⟩) hg).trans c2
      obtain ⟨b, hb⟩ := tel_bool (GapsP s)
      have q : ∀ W, Below w.heap.size w W → Calls Try.prog 19 #[.string s] W fun e w' => e = .returned (.bool b) ∧ Below W.heap.size W w' := fun W hW => (iGaps_any s m W hs ((hW.cell (p := ⟨0, 0, none⟩) hM0).trans hM)).mono fun e w' h => by obtain ⟨h1, h2⟩ := h.is hb; exact ⟨h1, by rw [h2]; exact Below.refl _ _⟩
      have HB := hidOf hb
      clear hb
      cases b
      · have HN := hidOf (show ¬ GapsP s from fun h => by have := HB.out.2 h; cases this)
        clear HB
        go_wp2_with (go_at_call 19; refine (q _ (hB.alloc hB.size _)).mono ?_; rintro e w1 ⟨rfl, hb1⟩)
        go_ret
        exact telB_no (fun h => HN.out h.2.2) ((hB.alloc hB.size _).trans (hb1.mono (by simp; have := hB.size; omega)))
      · have HN := hidOf (show GapsP s from HB.out.1 rfl)
        clear HB
        go_wp2_with (go_at_call 19; refine (q _ (hB.alloc hB.size _)).mono ?_; rintro e w1 ⟨rfl, hb1⟩)
        go_roundw
        case rel => exact ⟨3, by omega, by go_num, (hB.alloc hB.size _).trans (hb1.mono (by simp; have := hB.size; omega)), hidOf ⟨fun _ => HA.out.1 (by omega), fun h => HA.out.2.1 (by omega), fun h => HN.out⟩⟩
        case measure => simp [intOf]
    · go_wp2
      go_ret
      exact telB_yes ⟨HA.out.1 (by omega), HA.out.2.1 (by omega), HA.out.2.2 (by omega)⟩ hB

set_option maxHeartbeats 4000000 in
theorem iTruths_any (w : World) : Calls Try.prog 13 #[] w fun e w' => e = .returned (.slice (some ⟨w.heap.size, 0, none⟩) 3 3) ∧ w' = w.alloc (.cells #[.func (.func 17) #[] #[], .func (.func 18) #[] #[], .func (.func 19) #[] #[]] 33) := by
  go_enter Try.func13, Try.ntmps13
  go_wp2
  go_ret
  exact ⟨rfl, rfl⟩

set_option maxHeartbeats 4000000 in
theorem iNeat_any (s : ByteArray) (m : Int) (w : World) (hs : s.size ≤ 4194304) (hM0 : 0 < w.heap.size) (hM : w.cell? ⟨0, 0, none⟩ = some (.int .i64 m)) :
    Calls Try.prog 6 #[.string s] w fun e w' => TelB (NeatP s) w e w' := by
  obtain ⟨b, hb⟩ := tel_bool (NeatP s)
  have HB := hidOf hb
  clear hb
  go_enter Try.func6, Try.ntmps6
  go_wp2_with fail
  refine (iTruths_any _).mono ?_
  rintro e w1 ⟨rfl, hw1⟩
  have hb1 : Below w.heap.size w w1 := by rw [hw1]; exact (Below.refl _ _).alloc (Nat.le_refl _) _
  have hr : w1.heap[w.heap.size]? = some (.cells #[.func (.func 17) #[] #[], .func (.func 18) #[] #[], .func (.func 19) #[] #[]] 33 (0, 0)) := by rw [hw1]; exact heap_alloc_new w _
  have q := iAllSo s m w.heap.size w1 hs (Nat.lt_of_lt_of_le hM0 hb1.size) ((hb1.cell (p := ⟨0, 0, none⟩) hM0).trans hM) (by rw [hw1]; simp) (cell_of_row w1 _ 0 _ _ _ hr) (cell_of_row w1 _ 1 _ _ _ hr) (cell_of_row w1 _ 2 _ _ _ hr)
  clear hw1 hr
  go_wp2_with fail
  refine q.mono ?_
  rintro e w2 h
  obtain ⟨rfl, hb2⟩ := h.is (HB.out.trans (neat_iff s))
  go_wp2
  go_ret
  exact ⟨b, rfl, HB.out, hb1.trans (hb2.mono hb1.size)⟩
end Go.Proofs.Ytlejdjbhbkknlaa
