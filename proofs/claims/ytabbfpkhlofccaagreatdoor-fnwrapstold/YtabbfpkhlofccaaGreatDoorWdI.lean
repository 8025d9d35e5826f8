/- What impl.WordsOf answers. -/
import Derived.Test.YtabbfpkhlofccaaGreatDoorShelf
import Derived.Test.YtabbfpkhlofccaaGreatDoorWrapWd
import Derived.Test.YtabbfpkhlofccaaGreatDoorAppPl
import Derived.Test.YtabbfpkhlofccaaGreatDoorFuI
import Derived.Lib.AppendIntMem
import Derived.WalkKit
import Derived.Laws.OwnMore
namespace Go.Proofs.YtabbfpkhlofccaaGreatDoor
open Go.RowKit

theorem infoStrWi : (Tryz.prog.info? 9).map (fun i => (i.zero, i.size, i.bytes)) = some (some (.string ByteArray.empty), 1, 16) := by kernel_rfl
theorem wd_clone (s : ByteArray) (w : World) (h : s.size ≤ 8388608) :
    Calls Tryz.prog 40 #[.string s] w fun e w' => e = .returned (.string s) ∧ Below w.heap.size w w' := by
  go_enter Tryz.func40, Tryz.ntmps40
  go_wp2_with fail
  refine (Tryz.stringslite_Clone s _ (by omega)).mono ?_
  rintro e w1 ⟨rfl, hb⟩
  go_wp2
  go_ret
  exact ⟨rfl, hb⟩
/-- strings.Split at a blank. -/
theorem wd_split (s : ByteArray) (m : Int) (w : World) (hs : s.size ≤ 4194304) (hm : w.cell? ⟨0, 0, none⟩ = some (.int .i64 m)) :
    Calls Tryz.prog 39 #[.string s, .string ⟨#[32]⟩] w fun e w' => ∃ ps : List ByteArray, ps.filter full = wds s ∧ 0 < ps.length ∧ ps.length ≤ s.size + 1 ∧ (∀ x ∈ ps, x.size ≤ s.size) ∧ StrsAns ps 9 w e w' := by
  refine (Tryz.strings_Split s ⟨#[32]⟩ m w (by omega) hm (by decide)).mono ?_
  rintro e w' ⟨rfl, rfl⟩
  have hc : Lib.countB s ⟨#[32]⟩ ≤ s.size := Lib.countB_le ⟨#[32]⟩ (by decide) s.size s (Nat.le_refl _)
  have hlen := Lib.splitB_all ⟨#[32]⟩ (by decide) 0 _ s rfl
  refine ⟨_, split_words s, by rw [hlen]; omega, by rw [hlen]; omega, ?_, (Below.refl _ w).alloc (Nat.le_refl _) _, _, rfl, ?_⟩
  · have h : ∀ (k : Nat) (t : ByteArray), ∀ x ∈ Lib.splitB ⟨#[32]⟩ 0 k t, x.size ≤ t.size := by
      intro k
      induction k with
      | zero => intro t x hx; rw [Lib.splitB_zero] at hx; simp at hx; subst hx; exact Nat.le_refl _
      | succ k ih =>
        intro t x hx
        unfold Lib.splitB at hx
        split at hx
        · simp at hx; subst hx; exact Nat.le_refl _
        · rcases List.mem_cons.1 hx with rfl | hx
          · rw [ByteArray.size_extract]; omega
          · have := ih _ x hx
            rw [ByteArray.size_extract] at this
            omega
    exact h _ s
  · have h := World.ownsRow_lit (base := w.heap.size) (e := 9) (size := 1) w ((Lib.splitB ⟨#[32]⟩ 0 (Lib.countB s ⟨#[32]⟩) s).map Value.string).toArray (Lib.countB s ⟨#[32]⟩ + 1) (Nat.le_refl _) (by unfold maxLen; omega) (by simp [hlen])
    rw [hlen]
    simpa [strVals] using h

set_option maxHeartbeats 3000000 in
set_option maxRecDepth 20000 in
theorem iWords_any (s : ByteArray) (m : Int) (w : World) (hs : s.size ≤ 4194304) (hM0 : 0 < w.heap.size) (hM : w.cell? ⟨0, 0, none⟩ = some (.int .i64 m)) :
    Calls Tryz.prog 19 #[.string s] w fun e w' => StrsAns (wds s) 9 w e w' := by
  obtain ⟨i0, hi, hz0, hz1, hz2⟩ := info_parts infoStrWi
  have hB0 : Below w.heap.size w (w.alloc (.cells #[] 9)) := (Below.refl _ w).alloc (Nat.le_refl _) _
  have q := wd_split s m (w.alloc (.cells #[] 9)) hs ((hB0.cell (p := ⟨0, 0, none⟩) hM0).trans hM)
  have hme := World.ownsRow_made (base := w.heap.size) (e := 9) (size := 1) w #[] 0 (Nat.le_refl _) (by decide) rfl
  clear hM
  go_enter Tryz.func19, Tryz.ntmps19
  go_wp2_with fail
  refine q.mono ?_
  rintro e w1 ⟨ps, hps, hp0, hpl, hpz, hb1, v1, rfl, ho1⟩
  obtain ⟨n, hn⟩ : ∃ n, n = ps.length := ⟨_, rfl⟩
  rw [← hn] at ho1 hpl
  obtain ⟨ap, cp, rfl⟩ := owns_slice ho1
  have hB1 := hB0.trans (hb1.mono (by simp))
  have hme1 := owns_below hme hb1
  have HP := hidOf hps
  have HP2 := hidOf hp0
  have HZ := hidOf hpz
  have HN := hidOf hn
  clear q hme hps hpz hn hp0
  have hgp : ∃ gp, ap = some ⟨gp, 0, none⟩ ∧ w.heap.size < gp ∧ gp < w1.heap.size := by
    have h0 : 0 < n := by rw [HN.out]; exact HP2.out
    obtain ⟨gp, rfl⟩ := owns_at ho1 h0
    have := ho1.lt gp rfl
    simp at this
    exact ⟨gp, rfl, by omega, by omega⟩
  obtain ⟨gp, rfl, hg1, hg2⟩ := hgp
  have ho1 := ownsRow_base ho1 (base' := w.heap.size) (by simp)
  go_wp2
  go_loopw [3, 10] (fun v i wr => ∃ (k : Nat) (os : List ByteArray), k ≤ n ∧ i = .int .i64 k ∧ os.length ≤ k ∧ Hid (os ++ (ps.drop k).filter full = wds s) ∧ wr.ownsRow w.heap.size 9 1 v os.length (strVals os) ∧ v.ownBlock ≠ some gp ∧ wr.ownsRow w.heap.size 9 1 (.slice (some ⟨gp, 0, none⟩) n cp) n (strVals ps) ∧ Below w.heap.size w wr)
    (fun _ i _ => n - (intOf i).toNat)
  case atStart => exact ⟨0, [], by omega, rfl, by simp, hidOf (by rw [List.drop_zero, List.nil_append]; exact HP.out), hme1, (fun e => by have := Option.some.inj e; simp at this; omega), ho1, hB1⟩
  case round =>
    obtain ⟨k, os, hk, rfl, hol, HI, ho, hne, hop, hb⟩ := hrel
    obtain ⟨a1, c1, rfl⟩ := owns_slice ho
    have hsz := hb.size
    by_cases hlt : k < n
    · obtain ⟨x, hx⟩ : ∃ x, ps[k]? = some x := ⟨_, List.getElem?_eq_getElem (by rw [← HN.out]; exact hlt)⟩
      have hc := str_at hop hlt hx
      have hxs := HZ.out x (List.mem_of_getElem? hx)
      have hd : ps.drop k = x :: ps.drop (k + 1) := by
        have hlt2 := (List.getElem?_eq_some_iff.1 hx).1
        rw [List.drop_eq_getElem_cons hlt2, (List.getElem?_eq_some_iff.1 hx).2]
      have HD := hidOf hd
      clear hd hx
      have hA1 : (0 : Int) ≤ (k : Int) := by omega
      have hB1' : (k : Int) < (n : Int) := by omega
      by_cases h0 : x.size = 0
      · have hE : x.toList.isEmpty = true := by rw [str_nothing, decide_eq_true_eq]; exact h0
        have hf : full x = false := by unfold full; rw [decide_eq_false]; simp [h0]
        have HF := hidOf hf
        clear hf
        go_wp2
        go_roundw
        case rel => exact ⟨k + 1, os, by omega, by go_num, by omega, hidOf (by have := HI.out; rw [HD.out, List.filter_cons, HF.out] at this; exact this), ho, hne, hop, hb⟩
        case measure => simp [intOf]; omega
      · have hE : x.toList.isEmpty = false := by rw [str_nothing, decide_eq_false_iff_not]; exact h0
        have hf : full x = true := by unfold full; rw [decide_eq_true]; exact h0
        have HF := hidOf hf
        clear hf
        go_wp2_with fail
        refine (wd_clone x _ (by omega)).mono ?_
        rintro e w3 ⟨rfl, hb3⟩
        have hB3 := hb.trans (hb3.mono hsz)
        have ho3 := owns_below ho hb3
        have hop3 := owns_below hop hb3
        have hs3 := hb3.size
        clear ho hop
        go_wp2_with (at_builtin; refine wpList_append_own2 rfl _ _ 24 rfl w.heap.size 9 i0 (.string ByteArray.empty) 1 16 Tryz.underlying24 hi hz0 hz1 hz2 rfl (by decide) _ _ _ rfl (ho3.alloc _) ⟨w3.heap.size, 0, none⟩ 1 1 [.string x] rfl rfl (cell_one_new _ _ _) (fun x hx => by simp at hx; subst hx; rfl) (by unfold maxLen; omega) (by omega) (by simp; omega) ?_; intro v' w4 hown' hgrow4 hpl4)
        go_roundw
        case rel =>
          refine ⟨k + 1, os ++ [x], by omega, by go_num, by simp; omega, hidOf ?_, by simpa [strVals] using hown', fun e => ?_, World.ownsRow.kept (hop3.alloc _) hgrow4 (.inr (fun e => hne e.symm)), (hB3.alloc (by omega) _).grown hgrow4 (by simp; omega) (fun q hq => (ho3.lt q hq).1)⟩
          · have := HI.out
            rw [HD.out, List.filter_cons, HF.out] at this
            rw [← this]
            simp
          · rcases hpl4 gp e with h | h
            · exact hne h
            · have := (hop3.lt gp rfl).2
              simp at h
              omega
        case measure => simp [intOf]; omega
    · go_wp2
      go_ret
      refine ⟨hb, _, rfl, ?_⟩
      have h9 := HI.out
      rw [List.drop_of_length_le (by rw [← HN.out]; omega)] at h9
      simp only [List.filter_nil, List.append_nil] at h9
      rw [← h9]
      exact ho
end Go.Proofs.YtabbfpkhlofccaaGreatDoor
