/- Where a line of words is full: impl.fullEnd, and the closure that asks it. -/
import Derived.Test.YtabbfpkhlofccaaGreatDoorProg
import Derived.Test.YtabbfpkhlofccaaGreatDoorWrapWd
import Derived.WalkKit
import Derived.BigQuiet
import Derived.Deep.QuietTactic
import Derived.Laws.OwnMore
namespace Go.Proofs.YtabbfpkhlofccaaGreatDoor
open Go.RowKit

theorem own_cap {w : World} {base e size n c : Nat} {ao : Option Addr} {xs : List Value} (h : w.ownsRow base e size (.slice ao n c) n xs) : n ≤ c := by
  rcases h.2 with ⟨e1, e2⟩ | ⟨g, cap, cur, e1, _, _, h3, _⟩
  · omega
  · injection e1 with _ _ e3
    omega
theorem str_at {w : World} {b n c g k : Nat} {ws : List ByteArray} {x : ByteArray} {T : Nat} (h : w.ownsRow b T 1 (.slice (some ⟨g, 0, none⟩) n c) n (strVals ws)) (hk : k < n) (hx : ws[k]? = some x) : w.cell? ⟨g, k, none⟩ = some (.string x) := by
  rw [h.cellAt k (by omega)]
  simp [strVals, hx]

set_option maxHeartbeats 1600000 in
set_option maxRecDepth 20000 in
theorem iFull_any (v : Value) (b n i : Nat) (ws : List ByteArray) (width : Int) (w : World) (hn : n ≤ 1048576) (hi : i < n) (hbg : bg ws n ≤ 8388608) (hown : w.ownsRow b 9 1 v n (strVals ws)) :
    Calls Tryz.prog 32 #[v, .int .i64 i, .int .i64 width] w fun e w' => e = .returned (.int .i64 (gE ws width i : Nat)) ∧ Below w.heap.size w w' := by
  have hl : ws.length = n := by have := hown.1; simpa [strVals] using this
  obtain ⟨ao, cv, rfl⟩ := owns_slice hown
  obtain ⟨g, rfl⟩ := owns_at hown (by omega)
  obtain ⟨x0, hx0⟩ : ∃ x, ws[i]? = some x := ⟨_, List.getElem?_eq_getElem (by omega)⟩
  have hc0 := str_at hown hi hx0
  have hb0 := bg_next hx0
  have hm0 := bg_mono (ws := ws) (i := i + 1) (e := n) (by omega)
  have hz : x0.size ≤ 8388608 := by omega
  have HL := hidOf hl
  have HB := hidOf hb0
  have HM := hidOf hbg
  clear hl hb0 hx0 hm0 hbg
  have hA : (0 : Int) ≤ (i : Int) := by omega
  have hB : (i : Int) < (n : Int) := by omega
  go_enter Tryz.func32, Tryz.ntmps32
  go_wp2
  go_quiet (fail)
  go_wp2
  go_loop [7, 8] (fun x y => ∃ (e : Nat) (r : Int), i < e ∧ e ≤ n ∧ x = .int .i64 e ∧ y = .int .i64 r ∧ Hid (r + bg ws i + 1 = bg ws e ∧ gE ws width i = en ws.length (gS ws width i) e)) (fun x _ => n - (intOf x).toNat)
  case atStart => exact ⟨i + 1, x0.size, by omega, by omega, by go_num, rfl, hidOf ⟨by rw [HB.out]; omega, rfl⟩⟩
  case round =>
    obtain ⟨e, r, hie, hen, rfl, rfl, HR⟩ := hrel
    have hr0 : 0 ≤ r ∧ r ≤ 8388608 := by
      have h1 := HR.out.1
      have h2 := bg_mono (ws := ws) (i := e) (e := n) hen
      have h3 := HM.out
      have h4 := bg_mono (ws := ws) (i := i + 1) (e := e) (by omega)
      have h5 := HB.out
      omega
    obtain ⟨hr1, hr2⟩ := hr0
    by_cases hlt : e < n
    · obtain ⟨x, hx⟩ : ∃ x, ws[e]? = some x := ⟨_, List.getElem?_eq_getElem (by rw [HL.out]; exact hlt)⟩
      have hc := str_at hown hlt hx
      have hbn := bg_next hx
      have hxs : x.size ≤ 8388608 := by
        have h2 := bg_mono (ws := ws) (i := e + 1) (e := n) (by omega)
        have h3 := HM.out
        omega
      have HN := hidOf hbn
      clear hx hbn
      have hA1 : (0 : Int) ≤ (e : Int) := by omega
      have hB1 : (e : Int) < (n : Int) := by omega
      by_cases hw : r + 1 + (x.size : Int) ≤ width
      · go_wp2
        go_round
        case rel => exact ⟨e + 1, r + (1 + (x.size : Int)), by omega, by omega, by go_num, by go_num, hidOf ⟨by rw [HN.out]; have := HR.out.1; omega, by rw [HR.out.2, en_go (by rw [HL.out]; exact hlt) (by unfold gS; rw [decide_eq_false_iff_not]; have := HR.out.1; have := HN.out; omega)]⟩⟩
        case measure => simp [intOf]; omega
      · go_wp2
        go_ret
        refine ⟨ret_int ?_, bel_drewN (Below.refl _ _) _⟩
        rw [HR.out.2, en_stop (by rw [HL.out]; exact hlt) (by unfold gS; rw [decide_eq_true_eq]; have := HR.out.1; have := HN.out; omega)]
    · have hE : en ws.length (gS ws width i) e = e := en_end (by rw [HL.out]; omega)
      have HE := hidOf hE
      clear hE
      go_wp2
      go_ret
      exact ⟨ret_int (by rw [HR.out.2, HE.out]), bel_drewN (Below.refl _ _) _⟩

set_option maxHeartbeats 1600000 in
theorem iClo_any (p q b n i : Nat) (v : Value) (ws : List ByteArray) (width : Int) (w : World) (hn : n ≤ 1048576) (hi : i < n) (hbg : bg ws n ≤ 8388608) (hown : w.ownsRow b 9 1 v n (strVals ws))
    (hp : w.cell? ⟨p, 0, none⟩ = some v) (hq : w.cell? ⟨q, 0, none⟩ = some (.int .i64 width)) :
    Calls Tryz.prog 31 #[.int .i64 i, .pointer (some ⟨p, 0, none⟩), .pointer (some ⟨q, 0, none⟩)] w fun e w' => e = .returned (.int .i64 (gE ws width i : Nat)) ∧ Below w.heap.size w w' := by
  have qf := iFull_any v b n i ws width w hn hi hbg hown
  obtain ⟨ao, cv, rfl⟩ := owns_slice hown
  obtain ⟨E, hE⟩ : ∃ E, E = gE ws width i := ⟨_, rfl⟩
  rw [← hE] at qf ⊢
  clear hE hown
  go_enter Tryz.func31, Tryz.ntmps31
  go_wp2_with (go_at_call 32; refine qf.mono ?_; rintro e w1 ⟨rfl, hb1⟩)
  go_ret
  exact ⟨rfl, hb1⟩
end Go.Proofs.YtabbfpkhlofccaaGreatDoor
