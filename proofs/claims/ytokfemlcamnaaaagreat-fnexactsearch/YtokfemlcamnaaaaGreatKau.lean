/- What Search answers, on both sides, whatever comes. -/
import Derived.Test.YtokfemlcamnaaaaGreatSeS
import Derived.Test.YtokfemlcamnaaaaGreatProg
import Derived.Test.YtokfemlcamnaaaaGreatKah
import Derived.BigQuiet
import Derived.Deep.QuietTactic
import Derived.Test.YtokfemlcamnaaaaGreatKaa
namespace Go.Proofs.YtokfemlcamnaaaaGreat
open Go.RowKit

theorem none_own (w0 w : World) (h : w0.heap.size ≤ w.heap.size) : (w.alloc (.cells #[] 3)).ownsRow w0.heap.size 3 1 (.slice (some ⟨w.heap.size, 0, none⟩) 0 0) 0 [] :=
  ⟨rfl, .inr ⟨w.heap.size, 0, #[], rfl, h, heap_alloc_new w _, Nat.le_refl _, by unfold maxLen; omega, rfl, rfl⟩⟩

set_option maxHeartbeats 4000000 in
theorem sSearch_no (p : Pc) (l : Pl) (wd bud : Int) (w : World) (hF : PcFew p) (hp : PcIn w p l) (h1 : ¬ Right p) :
    Calls Tryz.prog 5 #[pcV p l, .int .i64 wd, .int .i64 bud] w fun e w' => SeAns ([], 0) w e w' := by
  show Calls _ _ #[.agg #[.int .i64 p.indent, .slice l.a1 p.rules.length l.c1, .slice l.a2 p.chunks.length l.c2, .slice l.a3 p.spans.length l.c3, .slice l.a4 p.ties.length l.c4], _, _] _ _
  obtain ⟨W0, hW0, X0, B0, S0⟩ := boxed w p l 37
  have qO := sOk_any p l W0 hF (hp.below B0 (Nat.le_refl _))
  unfold pcV at qO
  clear S0
  obtain ⟨-, c0, c1, c2, c3, c4⟩ := X0
  go_enter Tryz.func5, Tryz.ntmps5
  go_wp2_with fail
  rw [← hW0]
  clear hW0
  refine qO.mono ?_
  rintro e w1 hq
  obtain ⟨rfl, b1⟩ := hq.no h1
  have B1 := B0.trans (b1.mono B0.size)
  clear hq qO c0 c1 c2 c3 c4
  go_wp2
  go_ret2
  exact ⟨B1.alloc B1.size _, _, 0, rfl, none_own w w1 B1.size⟩

set_option maxHeartbeats 4000000 in
theorem iSearch_no (p : Pc) (l : Pl) (wd bud : Int) (w : World) (hF : PcFew p) (hp : PcIn w p l) (h1 : ¬ Right p) :
    Calls Tryz.prog 7 #[pcV p l, .int .i64 wd, .int .i64 bud] w fun e w' => SeAns ([], 0) w e w' := by
  show Calls _ _ #[.agg #[.int .i64 p.indent, .slice l.a1 p.rules.length l.c1, .slice l.a2 p.chunks.length l.c2, .slice l.a3 p.spans.length l.c3, .slice l.a4 p.ties.length l.c4], _, _] _ _
  obtain ⟨W0, hW0, X0, B0, S0⟩ := boxed w p l 37
  have qO := iOk_any p l W0 hF (hp.below B0 (Nat.le_refl _))
  unfold pcV at qO
  clear S0
  obtain ⟨-, c0, c1, c2, c3, c4⟩ := X0
  go_enter Tryz.func7, Tryz.ntmps7
  go_wp2
  rw [← hW0]
  clear hW0
  go_step3
  go_wp2_with fail
  refine qO.mono ?_
  rintro e w1 hq
  obtain ⟨rfl, b1⟩ := hq.no h1
  have B1 := B0.trans (b1.mono B0.size)
  clear hq qO c0 c1 c2 c3 c4
  go_wp2
  rw [Exit.noGoto_ret]
  go_ret2
  exact ⟨B1.alloc B1.size _, _, 0, rfl, none_own w w1 B1.size⟩

/-- Both sides' answer, whatever comes. -/
theorem search_key (p : Pc) (wd bud : Int) (hbd : -9223372036854775808 ≤ bud ∧ bud ≤ 9223372036854775807) (hF : PcFew p) : ∃ (ks : List Int) (s : Int), ks.length ≤ 8 ∧
    (∀ (l : Pl) (w : World), PcIn w p l → Calls Tryz.prog 5 #[pcV p l, .int .i64 wd, .int .i64 bud] w fun e w' => SeAns (ks, s) w e w') ∧
    (∀ (l : Pl) (w : World), p.chunks.length ≤ l.c2 → PcIn w p l → Calls Tryz.prog 7 #[pcV p l, .int .i64 wd, .int .i64 bud] w fun e w' => SeAns (ks, s) w e w') := by
  by_cases h1 : Right p
  · refine ⟨(srchOf p wd bud (allV p)).1, (srchOf p wd bud (allV p)).2, ?_, fun l w hp => sSearch_yes p l wd bud w hbd hF hp h1, fun l w hc hp => iSearch_yes p l wd bud w hbd hF hc hp h1⟩
    rw [(srchOf_some h1 (allR_ties h1)).1.vals.len]
    exact h1.rules.1
  · exact ⟨[], 0, by simp, fun l w hp => sSearch_no p l wd bud w hF hp h1, fun l w _ hp => iSearch_no p l wd bud w hF hp h1⟩
end Go.Proofs.YtokfemlcamnaaaaGreat
/- What the laws' helpers on lists of numbers do: eqIntS tells two lists alike, markIntS writes its marks, heldIntS finds them again. -/
namespace Go.Proofs.YtokfemlcamnaaaaGreat
open Go.RowKit

set_option maxHeartbeats 1600000 in
theorem eqInts_same (a1 a2 : Option Addr) (c1 c2 : Nat) (ks : List Int) (w : World) (hx0 : ks.length ≤ 4611686018427387904) (h1 : KidsAt w a1 ks) (h2 : KidsAt w a2 ks) :
    Calls Tryz.prog 8 #[.slice a1 ks.length c1, .slice a2 ks.length c2] w fun e w' => e = .returned (.bool true) ∧ Below w.heap.size w w' := by
  have hx := hx0
  clear hx0
  unfold KidsAt at h1 h2
  obtain ⟨n, hn⟩ : ∃ n, n = ks.length := ⟨_, rfl⟩
  rw [← hn] at h1 h2 hx
  rw [← hn]
  have HN := hidOf hn
  clear hn
  go_enter Tryz.func8, Tryz.ntmps8
  go_wp2
  go_loopw [5] (fun i wr => ∃ k q : Nat, k ≤ n ∧ i = .int .i64 k ∧ wr = w.drewN q) (fun i _ => n - (intOf i).toNat)
  case atStart => exact ⟨0, 0, Nat.zero_le _, rfl, rfl⟩
  case round =>
    obtain ⟨k, q, hk, rfl, rfl⟩ := hrel
    by_cases hlt : k < n
    · obtain ⟨x, ex⟩ : ∃ x, ks[k]? = some x := ⟨_, List.getElem?_eq_getElem (by rw [← HN.out]; exact hlt)⟩
      obtain ⟨b1, o1, rfl, hb1, hc1⟩ := h1 (by omega)
      obtain ⟨b2, o2, rfl, hb2, hc2⟩ := h2 (by omega)
      have p0 := hc1 k x ex
      have q0 := hc2 k x ex
      clear ex hc1 hc2 h1 h2
      have hm1 : (x != x) = false := by simp
      have hA : (0 : Int) ≤ (k : Int) := by omega
      have hB : (k : Int) < (n : Int) := by omega
      go_wp2
      go_quiet (fail)
      go_wp2
      go_roundw
      case rel => exact ⟨k + 1, q + nq, by omega, by go_num, rfl⟩
      case measure => simp [intOf]; omega
    · go_wp2
      go_ret
      exact ⟨rfl, below_drewN _ _⟩
end Go.Proofs.YtokfemlcamnaaaaGreat
/- What the laws' helpers on a list of numbers of one's own do: markIntS writes its marks, heldIntS finds them again. -/
namespace Go.Proofs.YtokfemlcamnaaaaGreat
open Go.RowKit

set_option maxHeartbeats 1600000 in
theorem markInts_any (a : Option Addr) (b n c k : Nat) (xs : List Value) (w : World) (hn : n ≤ 1048576) (hk : k ≤ 16777216) (hown : w.ownsRow b 3 1 (.slice a n c) n xs) :
    Calls Tryz.prog 11 #[.slice a n c, .int .i64 k] w fun e w' => e = .returned (.int .i64 ((k : Int) + n)) ∧ w'.ownsRow b 3 1 (.slice a n c) n (intVals (marksI k n)) ∧ w.grownBy w' (Value.slice a n c).ownBlock := by
  by_cases hz : n = 0
  · subst hz
    have hl : xs.length = 0 * 1 := hown.1
    have hx : xs = intVals (marksI k 0) := by rw [List.length_eq_zero_iff.1 (show xs.length = 0 by omega)]; rfl
    rw [hx] at hown
    have HO := hidOf hown
    clear hown hx hl
    go_enter Tryz.func11, Tryz.ntmps11
    go_wp2
    go_loop [1, 5] (fun q i => i = .int .i64 0 ∧ q = .int .i64 k) (fun _ _ => 0)
    case atStart => exact ⟨rfl, rfl⟩
    case round =>
      obtain ⟨rfl, rfl⟩ := hrel
      go_wp2
      go_ret
      exact ⟨ret_int (by omega), HO.out, World.grownBy.refl _ _⟩
  · obtain ⟨g, rfl⟩ := owns_at hown (by omega)
    go_enter Tryz.func11, Tryz.ntmps11
    go_wp2
    go_loopw [1, 5] (fun q i wr => ∃ (j : Nat) (zs : List Value), j ≤ n ∧ i = .int .i64 j ∧ q = .int .i64 ((k : Int) + j) ∧ wr.ownsRow b 3 1 (.slice (some ⟨g, 0, none⟩) n c) n zs ∧ Hid (zs.take j = intVals ((marksI k n).take j)) ∧ w.grownBy wr (some g)) (fun _ i _ => n - (intOf i).toNat)
    case atStart => exact ⟨0, _, Nat.zero_le _, rfl, by go_num, hown, rfl, World.grownBy.refl _ _⟩
    case round =>
      obtain ⟨j, zs, hj, rfl, rfl, ho, HZ, hg⟩ := hrel
      by_cases hlt : j < n
      · have hA : (0 : Int) ≤ (j : Int) := by omega
        have hB : (j : Int) < (n : Int) := by omega
        have hlz : zs.length = n * 1 := ho.1
        have s0 := ho.stored j (.int .i64 ((k : Int) + j))
        have HS := hidOf (And.intro s0.1 (grownBy_trans hg s0.2))
        have HE := hidOf (show (zs.set j (.int .i64 ((k : Int) + j))).take (j + 1) = intVals ((marksI k n).take (j + 1)) by
          rw [List.take_add_one, List.take_set_of_le (Nat.le_refl _), HZ.out, List.getElem?_set_self (by omega), List.take_add_one, marksI_at hlt]
          simp [intVals])
        obtain ⟨u0, d0⟩ : ∃ u, wr.cell? ⟨g, j, none⟩ = some u := ⟨_, (ho.cellAt j (by omega)).trans (List.getElem?_eq_getElem (by omega))⟩
        have f0 := ho.frozenAt j
        clear s0 hlz ho
        go_wp2
        refine ⟨⟨j + 1, _, by omega, by go_num, ?_, HS.out.1, HE, HS.out.2⟩, ?_⟩
        · exact congrArg (Value.int .i64) (by omega)
        · simp only [intOf]
          omega
      · have hjn : j = n := by omega
        subst hjn
        go_wp2
        go_ret
        have h1 : zs.length = j * 1 := ho.1
        have h2 := HZ.out
        rw [List.take_of_length_le (by omega), List.take_of_length_le (by rw [marksI_len]; exact Nat.le_refl _)] at h2
        rw [h2] at ho
        exact ⟨rfl, ho, hg⟩

set_option maxHeartbeats 1600000 in
theorem heldInts_any (a : Option Addr) (b n c k : Nat) (w : World) (hn : n ≤ 1048576) (hk : k ≤ 16777216) (hown : w.ownsRow b 3 1 (.slice a n c) n (intVals (marksI k n))) :
    Calls Tryz.prog 12 #[.slice a n c, .int .i64 k] w fun e w' => e = .returned (.int .i64 ((k : Int) + n)) ∧ Below w.heap.size w w' := by
  have hat := KidsAt.of_own hown
  unfold KidsAt at hat
  rw [marksI_len] at hat
  clear hown
  go_enter Tryz.func12, Tryz.ntmps12
  go_wp2
  go_loop [1, 5] (fun q i => ∃ (j : Nat), j ≤ n ∧ i = .int .i64 j ∧ q = .int .i64 ((k : Int) + j)) (fun _ i => n - (intOf i).toNat)
  case atStart => exact ⟨0, Nat.zero_le _, rfl, by go_num⟩
  case round =>
    obtain ⟨j, hj, rfl, rfl⟩ := hrel
    by_cases hlt : j < n
    · have hA : (0 : Int) ≤ (j : Int) := by omega
      have hB : (j : Int) < (n : Int) := by omega
      obtain ⟨b1, o1, rfl, hb1, hc1⟩ := hat (by omega)
      have p0 := hc1 j _ (marksI_at hlt)
      rw [show ((k + j : Nat) : Int) = (k : Int) + (j : Int) by omega] at p0
      have hne : (((k : Int) + (j : Int)) != ((k : Int) + (j : Int))) = false := by simp
      clear hc1 hat
      go_wp2
      go_round
      case rel => exact ⟨j + 1, by omega, by go_num, congrArg (Value.int .i64) (by omega)⟩
      case measure => simp [intOf]; omega
    · have hjn : j = n := by omega
      subst hjn
      go_wp2
      go_ret
      exact ⟨rfl, Below.refl _ _⟩
end Go.Proofs.YtokfemlcamnaaaaGreat
