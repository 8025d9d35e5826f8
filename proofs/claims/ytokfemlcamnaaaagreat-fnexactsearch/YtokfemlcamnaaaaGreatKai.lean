/- What impl's parts of PieceOk answer: spansOk, tiesOk. -/
import Derived.Test.YtokfemlcamnaaaaGreatOkI1
import Derived.Test.YtokfemlcamnaaaaGreatKag
namespace Go.Proofs.YtokfemlcamnaaaaGreat
open Go.RowKit

set_option maxHeartbeats 4000000 in
theorem iSpans_any (p : Pc) (l : Pl) (w : World) (hn0 : p.spans.length ≤ 1048576) (hm0 : p.chunks.length ≤ 1048576) (h : RowsAt 3 snCells w l.a3 p.spans) :
    Calls Tryz.prog 57 #[pcV p l] w fun e w' => Tells (SpansOk p) w e w' := by
  have HB0 : ∀ o1 : Obj, Below w.heap.size w (w.alloc o1) := fun o1 => (Below.refl _ _).alloc (Nat.le_refl _) _
  show Calls _ _ #[.agg #[.int .i64 p.indent, .slice l.a1 p.rules.length l.c1, .slice l.a2 p.chunks.length l.c2, .slice l.a3 p.spans.length l.c3, .slice l.a4 p.ties.length l.c4]] _ _
  unfold RowsAt at h
  by_cases h8 : p.spans.length ≤ 40
  · have H8 := hidOf h8
    obtain ⟨n, hn⟩ : ∃ n, n = p.spans.length := ⟨_, rfl⟩
    rw [← hn] at h hn0 h8 ⊢
    have HN := hidOf hn
    obtain ⟨m, hm⟩ : ∃ m, m = p.chunks.length := ⟨_, rfl⟩
    rw [← hm] at hm0 ⊢
    have HM := hidOf hm
    clear hn hm
    go_enter Tryz.func57, Tryz.ntmps57
    go_wp2
    go_loopw [17] (fun i wr => ∃ k : Nat, k ≤ n ∧ i = .int .i64 k ∧ Hid (∀ (j : Nat) (x : Sn), j < k → p.spans[j]? = some x → SnOk p.chunks.length x) ∧ Below w.heap.size w wr) (fun i _ => n - (intOf i).toNat)
    case atStart => exact ⟨0, Nat.zero_le _, rfl, hidOf fun j x h => by omega, HB0 _⟩
    case round =>
      obtain ⟨k, hk, rfl, HA, hb⟩ := hrel
      clear HB0
      by_cases hlt : k < n
      · obtain ⟨x, ex⟩ : ∃ x, p.spans[k]? = some x := ⟨_, List.getElem?_eq_getElem (by rw [← HN.out]; exact hlt)⟩
        obtain ⟨b1, o1, ea, hb1, hc1⟩ := h (by omega)
        obtain ⟨p0, p1, p2⟩ := snC (w := wr) (fun j hj => by rw [hb.cell hb1]; exact hc1 k x ex j hj)
        rw [ea]
        have EX := hidOf ex
        have HB : ∀ o1 : Obj, Below w.heap.size w (wr.alloc o1) := fun o1 => hb.alloc hb.size _
        clear ex hc1 h ea
        have hA : (0 : Int) ≤ (k : Int) := by omega
        have hB : (k : Int) < (n : Int) := by omega
        by_cases ht : 0 ≤ x.til ∧ x.til ≤ (m : Int) - 2
        · have i1 := inB_yes ht.1 ht.2
          have HT := hidOf ht
          clear ht
          by_cases hf : 0 ≤ x.frm ∧ x.frm ≤ x.til
          · have i2 := inB_yes hf.1 hf.2
            have HF := hidOf hf
            clear hf
            by_cases hc : 0 ≤ x.cost ∧ x.cost ≤ 9
            · have i3 := inB_yes hc.1 hc.2
              have HC := hidOf hc
              clear hc
              go_wp2_with (go_at_call 54; refine (iIn_any _ _ _ _).mono ?_; rintro e w1 ⟨rfl, rfl⟩)
              go_roundw
              case rel => exact ⟨k + 1, by omega, by go_num, hidOf (upto_step HA.out EX.out ⟨by rw [← HM.out]; exact HT.out, HF.out, HC.out⟩), HB _⟩
              case measure => simp [intOf]; omega
            · have i3 := inB_no hc
              have HC := hidOf hc
              clear hc
              go_wp2_with (go_at_call 54; refine (iIn_any _ _ _ _).mono ?_; rintro e w1 ⟨rfl, rfl⟩)
              go_ret
              exact tells_no (fun h => HC.out (h.all k x EX.out).2.2) (HB _)
          · have i2 := inB_no hf
            have HF := hidOf hf
            clear hf
            go_wp2_with (go_at_call 54; refine (iIn_any _ _ _ _).mono ?_; rintro e w1 ⟨rfl, rfl⟩)
            go_ret
            exact tells_no (fun h => HF.out (h.all k x EX.out).2.1) (HB _)
        · have i1 := inB_no ht
          have HT := hidOf ht
          clear ht
          go_wp2_with (go_at_call 54; refine (iIn_any _ _ _ _).mono ?_; rintro e w1 ⟨rfl, rfl⟩)
          go_ret
          exact tells_no (fun h => HT.out (by have := (h.all k x EX.out).1; rw [← HM.out] at this; exact this)) (HB _)
      · go_wp2
        go_ret
        exact tells_yes ⟨H8.out, upto_all (by have := HN.out; omega) HA.out⟩ hb
  · have H8 := hidOf h8
    have h8' : (40 : Int) < (p.spans.length : Int) := by omega
    clear h h8
    go_enter Tryz.func57, Tryz.ntmps57
    go_wp2
    go_ret
    exact tells_no (fun h => H8.out h.most) (HB0 _)

set_option maxHeartbeats 4000000 in
theorem iTies_any (p : Pc) (l : Pl) (w : World) (hn0 : p.ties.length ≤ 1048576) (hm0 : p.rules.length ≤ 1048576) (h : RowsAt 2 tiCells w l.a4 p.ties) :
    Calls Tryz.prog 58 #[pcV p l] w fun e w' => Tells (TiesOk p) w e w' := by
  have HB0 : ∀ o1 : Obj, Below w.heap.size w (w.alloc o1) := fun o1 => (Below.refl _ _).alloc (Nat.le_refl _) _
  show Calls _ _ #[.agg #[.int .i64 p.indent, .slice l.a1 p.rules.length l.c1, .slice l.a2 p.chunks.length l.c2, .slice l.a3 p.spans.length l.c3, .slice l.a4 p.ties.length l.c4]] _ _
  unfold RowsAt at h
  by_cases h8 : p.ties.length ≤ 20
  · have H8 := hidOf h8
    obtain ⟨n, hn⟩ : ∃ n, n = p.ties.length := ⟨_, rfl⟩
    rw [← hn] at h hn0 h8 ⊢
    have HN := hidOf hn
    obtain ⟨m, hm⟩ : ∃ m, m = p.rules.length := ⟨_, rfl⟩
    rw [← hm] at hm0 ⊢
    have HM := hidOf hm
    clear hn hm
    go_enter Tryz.func58, Tryz.ntmps58
    go_wp2
    go_loopw [17] (fun i wr => ∃ k : Nat, k ≤ n ∧ i = .int .i64 k ∧ Hid (∀ (j : Nat) (x : Ti), j < k → p.ties[j]? = some x → TiOk p.rules.length x) ∧ Below w.heap.size w wr) (fun i _ => n - (intOf i).toNat)
    case atStart => exact ⟨0, Nat.zero_le _, rfl, hidOf fun j x h => by omega, HB0 _⟩
    case round =>
      obtain ⟨k, hk, rfl, HA, hb⟩ := hrel
      clear HB0
      by_cases hlt : k < n
      · obtain ⟨x, ex⟩ : ∃ x, p.ties[k]? = some x := ⟨_, List.getElem?_eq_getElem (by rw [← HN.out]; exact hlt)⟩
        obtain ⟨b1, o1, ea, hb1, hc1⟩ := h (by omega)
        obtain ⟨p0, p1⟩ := tiC (w := wr) (fun j hj => by rw [hb.cell hb1]; exact hc1 k x ex j hj)
        rw [ea]
        have EX := hidOf ex
        have HB : ∀ o1 : Obj, Below w.heap.size w (wr.alloc o1) := fun o1 => hb.alloc hb.size _
        clear ex hc1 h ea
        have hA : (0 : Int) ≤ (k : Int) := by omega
        have hB : (k : Int) < (n : Int) := by omega
        by_cases ht : 0 ≤ x.kid ∧ x.kid ≤ (m : Int) - 1
        · have i1 := inB_yes ht.1 ht.2
          have HT := hidOf ht
          clear ht
          by_cases hf : 0 ≤ x.up ∧ x.up ≤ (m : Int) - 1
          · have i2 := inB_yes hf.1 hf.2
            have HF := hidOf hf
            clear hf
            cases hc : (x.kid == x.up)
            · go_wp2_with (go_at_call 54; refine (iIn_any _ _ _ _).mono ?_; rintro e w1 ⟨rfl, rfl⟩)
              go_roundw
              case rel => exact ⟨k + 1, by omega, by go_num, hidOf (upto_step HA.out EX.out ⟨by rw [← HM.out]; exact HT.out, by rw [← HM.out]; exact HF.out, by simpa using hc⟩), HB _⟩
              case measure => simp [intOf]; omega
            · go_wp2_with (go_at_call 54; refine (iIn_any _ _ _ _).mono ?_; rintro e w1 ⟨rfl, rfl⟩)
              go_ret
              exact tells_no (fun h => (h.all k x EX.out).2.2 (by simpa using hc)) (HB _)
          · have i2 := inB_no hf
            have HF := hidOf hf
            clear hf
            go_wp2_with (go_at_call 54; refine (iIn_any _ _ _ _).mono ?_; rintro e w1 ⟨rfl, rfl⟩)
            go_ret
            exact tells_no (fun h => HF.out (by have := (h.all k x EX.out).2.1; rw [← HM.out] at this; exact this)) (HB _)
        · have i1 := inB_no ht
          have HT := hidOf ht
          clear ht
          go_wp2_with (go_at_call 54; refine (iIn_any _ _ _ _).mono ?_; rintro e w1 ⟨rfl, rfl⟩)
          go_ret
          exact tells_no (fun h => HT.out (by have := (h.all k x EX.out).1; rw [← HM.out] at this; exact this)) (HB _)
      · go_wp2
        go_ret
        exact tells_yes ⟨H8.out, upto_all (by have := HN.out; omega) HA.out⟩ hb
  · have H8 := hidOf h8
    have h8' : (20 : Int) < (p.ties.length : Int) := by omega
    clear h h8
    go_enter Tryz.func58, Tryz.ntmps58
    go_wp2
    go_ret
    exact tells_no (fun h => H8.out h.most) (HB0 _)
end Go.Proofs.YtokfemlcamnaaaaGreat
/- A piece in a variable of its own: its five cells. -/
namespace Go.Proofs.YtokfemlcamnaaaaGreat
open Go.RowKit

/-- The piece's five cells lie in block b. -/
structure BoxAt (w : World) (b : Nat) (p : Pc) (l : Pl) : Prop where
  lt : b < w.heap.size
  c0 : w.cell? ⟨b, 0, none⟩ = some (.int .i64 p.indent)
  c1 : w.cell? ⟨b, 1, none⟩ = some (.slice l.a1 p.rules.length l.c1)
  c2 : w.cell? ⟨b, 2, none⟩ = some (.slice l.a2 p.chunks.length l.c2)
  c3 : w.cell? ⟨b, 3, none⟩ = some (.slice l.a3 p.spans.length l.c3)
  c4 : w.cell? ⟨b, 4, none⟩ = some (.slice l.a4 p.ties.length l.c4)
theorem BoxAt.below {w w' : World} {b B : Nat} {p : Pc} {l : Pl} (h : BoxAt w b p l) (hb : Below B w w') (hB : b < B) : BoxAt w' b p l :=
  ⟨Nat.lt_of_lt_of_le h.lt hb.size, by rw [hb.cell hB]; exact h.c0, by rw [hb.cell hB]; exact h.c1, by rw [hb.cell hB]; exact h.c2, by rw [hb.cell hB]; exact h.c3, by rw [hb.cell hB]; exact h.c4⟩
/-- A variable is made, and holds the piece. -/
theorem boxed (w : World) (p : Pc) (l : Pl) (t : Nat) : ∃ W, W = w.alloc (.cells #[.int .i64 p.indent, .slice l.a1 p.rules.length l.c1, .slice l.a2 p.chunks.length l.c2, .slice l.a3 p.spans.length l.c3, .slice l.a4 p.ties.length l.c4] t) ∧ BoxAt W w.heap.size p l ∧ Below w.heap.size w W ∧ W.heap.size = w.heap.size + 1 := by
  refine ⟨_, rfl, ⟨by simp, ?_, ?_, ?_, ?_, ?_⟩, (Below.refl _ _).alloc (Nat.le_refl _) _, by simp⟩
  all_goals simp
end Go.Proofs.YtokfemlcamnaaaaGreat
