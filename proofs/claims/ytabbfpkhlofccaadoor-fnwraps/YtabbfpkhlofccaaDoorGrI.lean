/- What impl.Greedy answers. -/
import Derived.Test.YtabbfpkhlofccaaDoorWlG
import Derived.Test.YtabbfpkhlofccaaDoorOkW
namespace Go.Proofs.YtabbfpkhlofccaaDoor
open Go.RowKit

set_option maxHeartbeats 3000000 in
set_option maxRecDepth 20000 in
theorem iGreedy_any (v : Value) (b n : Nat) (ws : List ByteArray) (width : Int) (w : World) (hn : n ≤ 1048576) (hbg : bg ws n ≤ 8388608) (hown : w.ownsRow b 9 1 v n (strVals ws)) :
    Calls Tryd.prog 9 #[v, .int .i64 width] w fun e w' => StrsAns (greedy ws width) 9 w e w' := by
  have hl : ws.length = n := by have := hown.1; simpa [strVals] using this
  obtain ⟨ao, cv, rfl⟩ := owns_slice hown
  have hmf : ∀ (fn : Fn) (first cap : Array Value) (w : World), (Instr.makeFunc fn first cap).run Tryd.prog w = .ok (.func fn first cap) w := fun _ _ _ _ => rfl
  obtain ⟨W0, hW0⟩ : ∃ W0, W0 = (w.alloc (.cells #[.slice ao n cv] 24)).alloc (.cells #[.int .i64 width] 3) := ⟨_, rfl⟩
  have hB0 : Below w.heap.size w W0 := by rw [hW0]; exact ((Below.refl _ w).alloc (Nat.le_refl _) _).alloc (by simp) _
  have hp : W0.cell? ⟨w.heap.size, 0, none⟩ = some (.slice ao n cv) := by rw [hW0, World.cell?_alloc_old _ _ _ (by simp)]; exact cell_one_new _ _ _ 0 _ rfl
  have hq : W0.cell? ⟨w.heap.size + 1, 0, none⟩ = some (.int .i64 width) := by
    rw [hW0, show w.heap.size + 1 = (w.alloc (.cells #[.slice ao n cv] 24)).heap.size by simp]
    exact cell_one_new _ _ _ 0 _ rfl
  have hsz : W0.heap.size = w.heap.size + 2 := by rw [hW0]; simp
  have hown0 := owns_below hown hB0
  have qk := iOk_any (.slice ao n cv) b n ws W0 (by omega) hown0
  have HW := hidOf hW0
  have HS := hidOf hsz
  have HL := hidOf hl
  cases hok : wsOk ws
  · rw [hok] at qk
    have HG := hidOf (show greedy ws width = [] by unfold greedy; rw [hok]; rfl)
    clear hok hW0 hsz hl
    go_enter Tryd.func9, Tryd.ntmps9
    go_wp2_with fail
    rw [← HW.out]
    refine qk.mono ?_
    rintro e w1 ⟨rfl, rfl⟩
    go_wp2
    go_ret
    rw [HG.out]
    exact ⟨hB0.alloc hB0.size _, _, rfl, ownsRow_base (World.ownsRow_made w1 #[] 0 (Nat.le_refl _) (by decide) rfl) hB0.size⟩
  · rw [hok] at qk
    have HG := hidOf (show greedy ws width = lnE ws (gE ws width) 0 by unfold greedy; rw [hok]; rfl)
    have ql := wg_lines w.heap.size (w.heap.size + 1) (.slice ao n cv) b n ws (gE ws width) W0 hn hbg hown0 (by rw [← hl]; exact gE_adv ws width) (fun i W hi hB => iClo_any w.heap.size (w.heap.size + 1) b n i (.slice ao n cv) ws width W hn hi hbg (owns_below hown0 hB) (by rw [hB.cell (by rw [hsz]; show w.heap.size < _; omega)]; exact hp) (by rw [hB.cell (by rw [hsz]; show w.heap.size + 1 < _; omega)]; exact hq))
    rw [← HG.out] at ql
    clear hok hW0 hsz hl
    go_enter Tryd.func9, Tryd.ntmps9
    go_wp2_with fail
    rw [← HW.out]
    refine qk.mono ?_
    rintro e w1 ⟨rfl, rfl⟩
    go_wp2_with fail
    refine ql.mono ?_
    rintro e w2 ⟨hb2, v2, rfl, ho2⟩
    go_wp2
    go_ret
    exact ⟨hB0.trans (hb2.mono hB0.size), _, rfl, ownsRow_base ho2 hB0.size⟩
end Go.Proofs.YtabbfpkhlofccaaDoor
