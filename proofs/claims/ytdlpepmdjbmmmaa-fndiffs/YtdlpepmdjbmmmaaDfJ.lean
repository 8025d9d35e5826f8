/- What changed: impl.DiffOf. -/
import Derived.Test.YtdlpepmdjbmmmaaDfI
import Derived.Test.YtdlpepmdjbmmmaaBkI
namespace Go.Proofs.Ytdlpepmdjbmmmaa
open Go.RowKit

set_option maxHeartbeats 4000000 in
theorem iDiff_any (va vb : Value) (xs ys : List ByteArray) (w : World) (hn : xs.length ≤ 1048576) (hm : ys.length ≤ 1048576) (hx : ∀ t ∈ xs, t.size ≤ 4194304) (hy : ∀ t ∈ ys, t.size ≤ 4194304) (hA : LnsAt w va xs) (hB : LnsAt w vb ys) :
    Calls Try.prog 11 #[va, vb] w fun e w' => EdsAns (dfOf xs ys) 55 w e w' := by
  have HA := hidOf hA
  have HB := hidOf hB
  have HL := hidOf (dfOf_mem xs ys hx hy)
  have hlen := dfOf_len xs ys
  obtain ⟨i0, hi, hz0, hz1, hz2⟩ := info_parts infoEd.2
  obtain ⟨aa, ca, rfl, hca, -⟩ := hA
  obtain ⟨ab, cb, rfl, hcb, -⟩ := hB
  have q := fun W => iMay_any aa ab xs.length ys.length ca cb W (by omega) (by omega)
  clear hx hy
  by_cases h : xs.length ≤ 200 ∧ ys.length ≤ 200
  · have hd : dfOf xs ys = dif xs ys := by unfold dfOf; rw [if_pos h]
    rw [decide_eq_true h] at q
    have qt := fun W h1 h2 => iBetween_any (.slice aa xs.length ca) (.slice ab ys.length cb) xs ys W h.1 h.2 h1 h2
    rw [← hd] at qt
    obtain ⟨es, hes⟩ : ∃ es, es = dfOf xs ys := ⟨_, rfl⟩
    rw [← hes] at qt HL hlen ⊢
    clear h hd hes
    obtain ⟨n, hnn⟩ : ∃ n, n = es.length := ⟨_, rfl⟩
    rw [← hnn] at qt hlen
    have HN := hidOf hnn
    clear hnn
    go_enter Try.func11, Try.ntmps11
    go_wp2_with fail
    refine (q _).mono ?_
    rintro e w1 ⟨rfl, rfl⟩
    have hme := World.ownsRow_made (base := w1.heap.size) (e := 55) (size := 2) w1 #[] 0 (Nat.le_refl _) (by decide) rfl
    have hb0 : Below w1.heap.size w1 (w1.alloc (.cells #[] 55)) := (Below.refl _ w1).alloc (Nat.le_refl _) _
    go_wp2_with fail
    refine (qt _ (HA.out.below hb0) (HB.out.below hb0)).mono ?_
    rintro e w2 ⟨hb2, v, rfl, ho⟩
    obtain ⟨a, c, rfl⟩ := owns_slice ho
    have hme := owns_below hme hb2
    have hB2 := hb0.trans (hb2.mono (by simp))
    have hs2 := hB2.size
    have hsx : w1.heap.size < w2.heap.size := by have := hb2.size; simp at this; omega
    have hne0 : (Value.slice (some ⟨w1.heap.size, 0, none⟩) 0 0).ownBlock ≠ (Value.slice a n c).ownBlock := fun e => by have := (ho.lt w1.heap.size e.symm).1; simp at this; omega
    clear q qt
    have ho := ownsRow_base ho (base' := w1.heap.size) (by simp)
    go_wp2
    go_loopw [5, 18] (fun v i wr => ∃ (k : Nat), k ≤ n ∧ i = .int .i64 k ∧ wr.ownsRow w1.heap.size 55 2 v k (edVals (es.take k)) ∧ wr.ownsRow w1.heap.size 53 1 (.slice a n c) n (ifVals es) ∧ (Value.slice a n c).ownBlock ≠ v.ownBlock ∧ Below w1.heap.size w1 wr) (fun _ i _ => n - (intOf i).toNat)
    case atStart => exact ⟨0, Nat.zero_le _, rfl, hme, ho, fun e => hne0 e.symm, hB2⟩
    case round =>
      obtain ⟨k, hk, rfl, hoe, hol, hne, hb⟩ := hrel
      obtain ⟨a1, c1, rfl⟩ := owns_slice hoe
      clear hme ho hB2 hb2 hne0 hb0
      have hsz := hb.size
      by_cases hlt : k < n
      · obtain ⟨x, ex⟩ : ∃ x, es[k]? = some x := ⟨_, List.getElem?_eq_getElem (by rw [← HN.out]; exact hlt)⟩
        obtain ⟨g, rfl⟩ := owns_at hol (by omega)
        have cx : wr.cell? ⟨g, k, none⟩ = some (ifE x) := by rw [hol.cellAt k (by omega)]; simp [ifVals, ex]
        have hxs := HL.out x (List.mem_of_getElem? ex)
        have EX := hidOf ex
        clear ex
        have hA0 : (0 : Int) ≤ (k : Int) := by omega
        have hA1 : (k : Int) < (n : Int) := by omega
        obtain ⟨fx, hfx⟩ : ∃ fx, fx = ifE x := ⟨_, rfl⟩
        have qf := fun W => iFrom_any x W (by omega)
        rw [← hfx] at cx qf
        clear hfx
        go_wp2_with fail
        refine (qf _).mono ?_
        rintro e w4 ⟨rfl, hb4⟩
        have hoe4 := owns_below hoe hb4
        have hol4 := owns_below hol hb4
        have hB4 := hb.trans (hb4.mono hsz)
        have hs4 := hB4.size
        clear hoe hol cx
        go_wp2_with (at_builtin; refine wpList_append_own2 rfl _ _ 27 rfl w1.heap.size 55 i0 _ 2 24 Try.underlying27 hi hz0 hz1 hz2 rfl (by decide) _ _ _ rfl (hoe4.alloc _) ⟨w4.heap.size, 0, none⟩ 1 1 [.int .i64 x.kind, .string x.line] rfl rfl (cell_two_new _ _ _ _) (fun x hx => by simp at hx; rcases hx with rfl | rfl <;> rfl) (by unfold maxLen; omega) (by omega) (by simp; omega) ?_; intro v' w5 hown' hgrow5 hpl5)
        go_roundw
        case rel =>
          refine ⟨k + 1, by omega, by go_num, ?_, World.ownsRow.kept (hol4.alloc _) hgrow5 (.inr hne), fun e => ?_, (hB4.alloc hs4 _).grown hgrow5 (by simp; omega) (fun q hq => (hoe4.lt q hq).1)⟩
          · rw [List.take_add_one, EX.out, edVals_app]
            exact hown'
          · rcases hpl5 g e.symm with h | h
            · exact hne h.symm
            · have := (hol4.lt g rfl).2
              simp at h
              omega
        case measure => simp [intOf]; omega
      · have hkn : k = n := by omega
        have HK := hidOf hkn
        clear hkn
        go_wp2
        go_ret
        refine ⟨hb, _, rfl, ?_⟩
        have h9 := hoe
        rw [List.take_of_length_le (by rw [← HN.out]; omega)] at h9
        rw [← HN.out, ← HK.out]
        exact h9
  · have HC : Hid (dfOf xs ys = []) := hidOf (by unfold dfOf; rw [if_neg h])
    rw [decide_eq_false h] at q
    clear h
    go_enter Try.func11, Try.ntmps11
    go_wp2_with fail
    refine (q _).mono ?_
    rintro e w1 ⟨rfl, rfl⟩
    have hme := World.ownsRow_made (base := w1.heap.size) (e := 55) (size := 2) w1 #[] 0 (Nat.le_refl _) (by decide) rfl
    go_wp2
    go_ret
    rw [HC.out]
    exact ⟨(Below.refl _ _).alloc (Nat.le_refl _) _, _, rfl, hme⟩
end Go.Proofs.Ytdlpepmdjbmmmaa
