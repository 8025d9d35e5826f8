/- Words in lines, the ends of which another function tells: impl.wordLines at impl.Greedy$1. -/
import Derived.Test.YtabbfpkhlofccaaGreatDoorFuI
import Derived.Test.YtabbfpkhlofccaaGreatDoorShelf
import Derived.Lib.AppendIntMem
import Derived.Test.YtabbfpkhlofccaaGreatDoorOkW
namespace Go.Proofs.YtabbfpkhlofccaaGreatDoor
open Go.RowKit

theorem wg_clone (s : ByteArray) (w : World) (h : s.size ≤ 8388608) :
    Calls Tryz.prog 40 #[.string s] w fun e w' => e = .returned (.string s) ∧ Below w.heap.size w w' := by
  go_enter Tryz.func40, Tryz.ntmps40
  go_wp2_with fail
  refine (Tryz.stringslite_Clone s _ (by omega)).mono ?_
  rintro e w1 ⟨rfl, hb⟩
  go_wp2
  go_ret
  exact ⟨rfl, hb⟩
theorem wg_join (g o c : Nat) (l : List ByteArray) (w : World) (hc : ∀ (j : Nat) x, l[j]? = some x → w.cell? ⟨g, o + j, none⟩ = some (.string x)) (hg : g < w.heap.size) (hN : l.length ≤ 1048576) (hcap : l.length ≤ c) (hl : (jn l).size ≤ 8388608) :
    Calls Tryz.prog 59 #[.slice (some ⟨g, o, none⟩) l.length c, .string ⟨#[32]⟩] w fun e w' => e = .returned (.string (jn l)) ∧ Below w.heap.size w w' := by
  have q := Tryz.strings_Join g o c l ⟨#[32]⟩ w hc hg (by omega) hcap (by rw [show (⟨#[32]⟩ : ByteArray).data.toList = [32] from rfl, join_len]; omega)
  rw [show (⟨#[32]⟩ : ByteArray).data.toList = [32] from rfl, join_jn] at q
  exact q
theorem infoStrwg : (Tryz.prog.info? 9).map (fun i => (i.zero, i.size, i.bytes)) = some (some (.string ByteArray.empty), 1, 16) := by kernel_rfl

set_option maxHeartbeats 3000000 in
set_option maxRecDepth 20000 in
theorem wg_lines (p q : Nat) (v : Value) (b n : Nat) (ws : List ByteArray) (E : Nat → Nat) (w : World) (hn : n ≤ 1048576) (hbg : bg ws n ≤ 8388608) (hown : w.ownsRow b 9 1 v n (strVals ws)) (hE : Adv n E)
    (hend : ∀ (i : Nat) (W : World), i < n → Below w.heap.size w W → Calls Tryz.prog 31 #[.int .i64 i, .pointer (some ⟨p, 0, none⟩), .pointer (some ⟨q, 0, none⟩)] W fun e w' => e = .returned (.int .i64 (E i : Nat)) ∧ Below W.heap.size W w') :
    Calls Tryz.prog 30 #[v, .func (.func 31) #[] #[.pointer (some ⟨p, 0, none⟩), .pointer (some ⟨q, 0, none⟩)]] w fun e w' => StrsAns (lnE ws E 0) 9 w e w' := by
  obtain ⟨i0, hi, hz0, hz1, hz2⟩ := info_parts infoStrwg
  have hl : ws.length = n := by have := hown.1; simpa [strVals] using this
  obtain ⟨ao, cv, rfl⟩ := owns_slice hown
  have hcap := own_cap hown
  have HL := hidOf hl
  have HM := hidOf hbg
  have HE := hidOf hE
  have HF := hidOf hend
  clear hl hbg hE hend
  go_enter Tryz.func30, Tryz.ntmps30
  go_wp2
  go_loopw [5, 6] (fun v i wr => ∃ (k : Nat) (os : List ByteArray), k ≤ n ∧ i = .int .i64 k ∧ os.length ≤ k ∧ Hid (os ++ lnE ws E k = lnE ws E 0) ∧ wr.ownsRow w.heap.size 9 1 v os.length (strVals os) ∧ Below w.heap.size w wr)
    (fun _ i _ => n - (intOf i).toNat)
  case atStart => exact ⟨0, [], by omega, rfl, by simp, hidOf rfl, World.ownsRow_made w #[] 0 (Nat.le_refl _) (by decide) rfl, (Below.refl _ w).alloc (Nat.le_refl _) _⟩
  case round =>
    obtain ⟨k, os, hk, rfl, hol, HI, ho, hb⟩ := hrel
    obtain ⟨a1, c1, rfl⟩ := owns_slice ho
    have hsz := hb.size
    by_cases hlt : k < n
    · obtain ⟨h1, h2⟩ := HE.out k hlt
      obtain ⟨e, he⟩ : ∃ e, e = E k := ⟨_, rfl⟩
      have q := HF.out k wr hlt hb
      rw [← he] at h1 h2 q
      have HK := hidOf he
      clear he
      obtain ⟨g, rfl⟩ := owns_at hown (by omega)
      have hgl := (hown.lt g rfl).2
      go_wp2_with fail
      refine q.mono ?_
      clear q
      rintro e1 w1 ⟨rfl, hb1⟩
      have hB1 := hb.trans (hb1.mono hsz)
      have ho1 := owns_below ho hb1
      have hs1 := hb1.size
      have hd1 : (0 : Int) ≤ (k : Int) := by omega
      have hd2 : (k : Int) ≤ (e : Int) := by omega
      have hd3 : (e : Int) ≤ (cv : Int) := by omega
      have hj := wg_join g k (cv - k) (seg ws k e) w1 (fun j x hx => by
        have hx2 := seg_at hx
        have hjl := (List.getElem?_eq_some_iff.1 hx2).1
        rw [HL.out] at hjl
        rw [hB1.cell hgl]
        exact str_at hown hjl hx2) (by omega) (by rw [seg_len (by rw [HL.out]; exact h2)]; omega) (by rw [seg_len (by rw [HL.out]; exact h2)]; omega) (by
        have := jn_size (ws := ws) h1 (by rw [HL.out]; exact h2)
        have := bg_mono (ws := ws) (i := e) (e := n) h2
        have := HM.out
        omega)
      have hjs : (jn (seg ws k e)).size ≤ 8388608 := by
        have := jn_size (ws := ws) h1 (by rw [HL.out]; exact h2)
        have := bg_mono (ws := ws) (i := e) (e := n) h2
        have := HM.out
        omega
      rw [seg_len (by rw [HL.out]; exact h2)] at hj
      obtain ⟨y, hy⟩ : ∃ y, y = jn (seg ws k e) := ⟨_, rfl⟩
      rw [← hy] at hj hjs
      have HY := hidOf hy
      clear hy
      go_wp2_with fail
      refine hj.mono ?_
      clear hj
      rintro e2 w2 ⟨rfl, hb2⟩
      have hB2 := hB1.trans (hb2.mono (by omega))
      have ho2 := owns_below ho1 hb2
      have hs2 := hb2.size
      go_wp2_with fail
      refine (wg_clone y _ hjs).mono ?_
      rintro e3 w3 ⟨rfl, hb3⟩
      have hB3 := hB2.trans (hb3.mono (by omega))
      have ho3 := owns_below ho2 hb3
      have hs3 := hb3.size
      clear ho ho1 ho2
      go_wp2_with (at_builtin; refine wpList_append_own _ rfl _ _ 24 rfl w.heap.size 9 i0 (.string ByteArray.empty) 1 16 Tryz.underlying24 hi hz0 hz1 hz2 rfl (by decide) _ _ _ rfl (ho3.alloc _) ⟨w3.heap.size, 0, none⟩ 1 1 [.string y] rfl rfl (cell_one_new _ _ _) (fun x hx => by simp at hx; subst hx; rfl) (by unfold maxLen; omega) (by omega) (by simp; omega) ?_; intro v' w4 hown' hgrow4 hnil4)
      go_roundw
      case rel =>
        refine ⟨e, os ++ [y], by omega, rfl, by simp; omega, hidOf ?_, by simpa [strVals] using hown', (hB3.alloc (by omega) _).grown hgrow4 (by simp; omega) (fun q hq => (ho3.lt q hq).1)⟩
        rw [← HI.out, ln_step (by rw [HL.out]; exact HE.out) (i := k) (by rw [HL.out]; exact hlt), ← HK.out, HY.out]
        simp
      case measure => simp [intOf]; omega
    · go_wp2
      go_ret
      refine ⟨hb, _, rfl, ?_⟩
      have h9 := HI.out
      rw [ln_end (by rw [HL.out]; omega), List.append_nil] at h9
      rw [← h9]
      exact ho
end Go.Proofs.YtabbfpkhlofccaaGreatDoor
/- What impl.Greedy answers. -/
namespace Go.Proofs.YtabbfpkhlofccaaGreatDoor
open Go.RowKit

set_option maxHeartbeats 3000000 in
set_option maxRecDepth 20000 in
theorem iGreedy_any (v : Value) (b n : Nat) (ws : List ByteArray) (width : Int) (w : World) (hn : n ≤ 1048576) (hbg : bg ws n ≤ 8388608) (hown : w.ownsRow b 9 1 v n (strVals ws)) :
    Calls Tryz.prog 11 #[v, .int .i64 width] w fun e w' => StrsAns (greedy ws width) 9 w e w' := by
  have hl : ws.length = n := by have := hown.1; simpa [strVals] using this
  obtain ⟨ao, cv, rfl⟩ := owns_slice hown
  have hmf : ∀ (fn : Fn) (first cap : Array Value) (w : World), (Instr.makeFunc fn first cap).run Tryz.prog w = .ok (.func fn first cap) w := fun _ _ _ _ => rfl
  obtain ⟨W0, hW0⟩ : ∃ W0, W0 = (w.alloc (.cells #[.slice ao n cv] 24)).alloc (.cells #[.int .i64 width] 3) := ⟨_, rfl⟩
  have hB0 : Below w.heap.size w W0 := by rw [hW0]; exact ((Below.refl _ w).alloc (Nat.le_refl _) _).alloc (by simp) _
  have hp : W0.cell? ⟨w.heap.size, 0, none⟩ = some (.slice ao n cv) := by rw [hW0, World.cell?_alloc_old _ _ _ (by simp)]; exact cell_one_new _ _ _ 0 _ rfl
  have hq : W0.cell? ⟨w.heap.size + 1, 0, none⟩ = some (.int .i64 width) := by
    rw [hW0, show w.heap.size + 1 = (w.alloc (.cells #[.slice ao n cv] 24)).heap.size by simp]
    exact cell_one_new _ _ _ 0 _ rfl
  have hsz : W0.heap.size = w.heap.size + 2 := by rw [hW0]; simp
  have hown0 := owns_below hown hB0
  have qk := iOk_any (.slice ao n cv) b n ws W0 (by omega) hown0
  have HW := hidOf hW0
  have HS := hidOf hsz
  have HL := hidOf hl
  cases hok : wsOk ws
  · rw [hok] at qk
    have HG := hidOf (show greedy ws width = [] by unfold greedy; rw [hok]; rfl)
    clear hok hW0 hsz hl
    go_enter Tryz.func11, Tryz.ntmps11
    go_wp2_with fail
    rw [← HW.out]
    refine qk.mono ?_
    rintro e w1 ⟨rfl, rfl⟩
    go_wp2
    go_ret
    rw [HG.out]
    exact ⟨hB0.alloc hB0.size _, _, rfl, ownsRow_base (World.ownsRow_made w1 #[] 0 (Nat.le_refl _) (by decide) rfl) hB0.size⟩
  · rw [hok] at qk
    have HG := hidOf (show greedy ws width = lnE ws (gE ws width) 0 by unfold greedy; rw [hok]; rfl)
    have ql := wg_lines w.heap.size (w.heap.size + 1) (.slice ao n cv) b n ws (gE ws width) W0 hn hbg hown0 (by rw [← hl]; exact gE_adv ws width) (fun i W hi hB => iClo_any w.heap.size (w.heap.size + 1) b n i (.slice ao n cv) ws width W hn hi hbg (owns_below hown0 hB) (by rw [hB.cell (by rw [hsz]; show w.heap.size < _; omega)]; exact hp) (by rw [hB.cell (by rw [hsz]; show w.heap.size + 1 < _; omega)]; exact hq))
    rw [← HG.out] at ql
    clear hok hW0 hsz hl
    go_enter Tryz.func11, Tryz.ntmps11
    go_wp2_with fail
    rw [← HW.out]
    refine qk.mono ?_
    rintro e w1 ⟨rfl, rfl⟩
    go_wp2_with fail
    refine ql.mono ?_
    rintro e w2 ⟨hb2, v2, rfl, ho2⟩
    go_wp2
    go_ret
    exact ⟨hB0.trans (hb2.mono hB0.size), _, rfl, ownsRow_base ho2 hB0.size⟩
end Go.Proofs.YtabbfpkhlofccaaGreatDoor
