/- Words in lines, the ends of which another function tells: impl.wordLines, where the best end is asked. -/
import Derived.Test.YtabbfpkhlofccaaGreatDoorFuI
import Derived.Test.YtabbfpkhlofccaaGreatDoorShelf
import Derived.Lib.AppendIntMem
namespace Go.Proofs.YtabbfpkhlofccaaGreatDoor
open Go.RowKit

theorem wb_clone (s : ByteArray) (w : World) (h : s.size ≤ 8388608) :
    Calls Tryz.prog 40 #[.string s] w fun e w' => e = .returned (.string s) ∧ Below w.heap.size w w' := by
  go_enter Tryz.func40, Tryz.ntmps40
  go_wp2_with fail
  refine (Tryz.stringslite_Clone s _ (by omega)).mono ?_
  rintro e w1 ⟨rfl, hb⟩
  go_wp2
  go_ret
  exact ⟨rfl, hb⟩
theorem wb_join (g o c : Nat) (l : List ByteArray) (w : World) (hc : ∀ (j : Nat) x, l[j]? = some x → w.cell? ⟨g, o + j, none⟩ = some (.string x)) (hg : g < w.heap.size) (hN : l.length ≤ 1048576) (hcap : l.length ≤ c) (hl : (jn l).size ≤ 8388608) :
    Calls Tryz.prog 59 #[.slice (some ⟨g, o, none⟩) l.length c, .string ⟨#[32]⟩] w fun e w' => e = .returned (.string (jn l)) ∧ Below w.heap.size w w' := by
  have q := Tryz.strings_Join g o c l ⟨#[32]⟩ w hc hg (by omega) hcap (by rw [show (⟨#[32]⟩ : ByteArray).data.toList = [32] from rfl, join_len]; omega)
  rw [show (⟨#[32]⟩ : ByteArray).data.toList = [32] from rfl, join_jn] at q
  exact q
theorem infoStrwb : (Tryz.prog.info? 9).map (fun i => (i.zero, i.size, i.bytes)) = some (some (.string ByteArray.empty), 1, 16) := by kernel_rfl

set_option maxHeartbeats 3000000 in
set_option maxRecDepth 20000 in
theorem wb_lines (p : Nat) (v : Value) (b n : Nat) (ws : List ByteArray) (E : Nat → Nat) (w : World) (hn : n ≤ 1048576) (hbg : bg ws n ≤ 8388608) (hown : w.ownsRow b 9 1 v n (strVals ws)) (hE : Adv n E)
    (hend : ∀ (i : Nat) (W : World), i < n → Below w.heap.size w W → Calls Tryz.prog 38 #[.pointer (some ⟨p, 0, none⟩), .int .i64 i] W fun e w' => e = .returned (.int .i64 (E i : Nat)) ∧ Below W.heap.size W w') :
    Calls Tryz.prog 30 #[v, .func (.func 38) #[.pointer (some ⟨p, 0, none⟩)] #[]] w fun e w' => StrsAns (lnE ws E 0) 9 w e w' := by
  obtain ⟨i0, hi, hz0, hz1, hz2⟩ := info_parts infoStrwb
  have hl : ws.length = n := by have := hown.1; simpa [strVals] using this
  obtain ⟨ao, cv, rfl⟩ := owns_slice hown
  have hcap := own_cap hown
  have HL := hidOf hl
  have HM := hidOf hbg
  have HE := hidOf hE
  have HF := hidOf hend
  clear hl hbg hE hend
  go_enter Tryz.func30, Tryz.ntmps30
  go_wp2
  go_loopw [5, 6] (fun v i wr => ∃ (k : Nat) (os : List ByteArray), k ≤ n ∧ i = .int .i64 k ∧ os.length ≤ k ∧ Hid (os ++ lnE ws E k = lnE ws E 0) ∧ wr.ownsRow w.heap.size 9 1 v os.length (strVals os) ∧ Below w.heap.size w wr)
    (fun _ i _ => n - (intOf i).toNat)
  case atStart => exact ⟨0, [], by omega, rfl, by simp, hidOf rfl, World.ownsRow_made w #[] 0 (Nat.le_refl _) (by decide) rfl, (Below.refl _ w).alloc (Nat.le_refl _) _⟩
  case round =>
    obtain ⟨k, os, hk, rfl, hol, HI, ho, hb⟩ := hrel
    obtain ⟨a1, c1, rfl⟩ := owns_slice ho
    have hsz := hb.size
    by_cases hlt : k < n
    · obtain ⟨h1, h2⟩ := HE.out k hlt
      obtain ⟨e, he⟩ : ∃ e, e = E k := ⟨_, rfl⟩
      have q := HF.out k wr hlt hb
      rw [← he] at h1 h2 q
      have HK := hidOf he
      clear he
      obtain ⟨g, rfl⟩ := owns_at hown (by omega)
      have hgl := (hown.lt g rfl).2
      go_wp2_with fail
      refine q.mono ?_
      clear q
      rintro e1 w1 ⟨rfl, hb1⟩
      have hB1 := hb.trans (hb1.mono hsz)
      have ho1 := owns_below ho hb1
      have hs1 := hb1.size
      have hd1 : (0 : Int) ≤ (k : Int) := by omega
      have hd2 : (k : Int) ≤ (e : Int) := by omega
      have hd3 : (e : Int) ≤ (cv : Int) := by omega
      have hj := wb_join g k (cv - k) (seg ws k e) w1 (fun j x hx => by
        have hx2 := seg_at hx
        have hjl := (List.getElem?_eq_some_iff.1 hx2).1
        rw [HL.out] at hjl
        rw [hB1.cell hgl]
        exact str_at hown hjl hx2) (by omega) (by rw [seg_len (by rw [HL.out]; exact h2)]; omega) (by rw [seg_len (by rw [HL.out]; exact h2)]; omega) (by
        have := jn_size (ws := ws) h1 (by rw [HL.out]; exact h2)
        have := bg_mono (ws := ws) (i := e) (e := n) h2
        have := HM.out
        omega)
      have hjs : (jn (seg ws k e)).size ≤ 8388608 := by
        have := jn_size (ws := ws) h1 (by rw [HL.out]; exact h2)
        have := bg_mono (ws := ws) (i := e) (e := n) h2
        have := HM.out
        omega
      rw [seg_len (by rw [HL.out]; exact h2)] at hj
      obtain ⟨y, hy⟩ : ∃ y, y = jn (seg ws k e) := ⟨_, rfl⟩
      rw [← hy] at hj hjs
      have HY := hidOf hy
      clear hy
      go_wp2_with fail
      refine hj.mono ?_
      clear hj
      rintro e2 w2 ⟨rfl, hb2⟩
      have hB2 := hB1.trans (hb2.mono (by omega))
      have ho2 := owns_below ho1 hb2
      have hs2 := hb2.size
      go_wp2_with fail
      refine (wb_clone y _ hjs).mono ?_
      rintro e3 w3 ⟨rfl, hb3⟩
      have hB3 := hB2.trans (hb3.mono (by omega))
      have ho3 := owns_below ho2 hb3
      have hs3 := hb3.size
      clear ho ho1 ho2
      go_wp2_with (at_builtin; refine wpList_append_own _ rfl _ _ 24 rfl w.heap.size 9 i0 (.string ByteArray.empty) 1 16 Tryz.underlying24 hi hz0 hz1 hz2 rfl (by decide) _ _ _ rfl (ho3.alloc _) ⟨w3.heap.size, 0, none⟩ 1 1 [.string y] rfl rfl (cell_one_new _ _ _) (fun x hx => by simp at hx; subst hx; rfl) (by unfold maxLen; omega) (by omega) (by simp; omega) ?_; intro v' w4 hown' hgrow4 hnil4)
      go_roundw
      case rel =>
        refine ⟨e, os ++ [y], by omega, rfl, by simp; omega, hidOf ?_, by simpa [strVals] using hown', (hB3.alloc (by omega) _).grown hgrow4 (by simp; omega) (fun q hq => (ho3.lt q hq).1)⟩
        rw [← HI.out, ln_step (by rw [HL.out]; exact HE.out) (i := k) (by rw [HL.out]; exact hlt), ← HK.out, HY.out]
        simp
      case measure => simp [intOf]; omega
    · go_wp2
      go_ret
      refine ⟨hb, _, rfl, ?_⟩
      have h9 := HI.out
      rw [ln_end (by rw [HL.out]; omega), List.append_nil] at h9
      rw [← h9]
      exact ho
end Go.Proofs.YtabbfpkhlofccaaGreatDoor
