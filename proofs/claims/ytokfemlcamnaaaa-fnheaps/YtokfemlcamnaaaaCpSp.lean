/- What spec.l11Copy answers: the same states in memory of their own. -/
import Derived.Test.YtokfemlcamnaaaaToSt
import Derived.Test.YtokfemlcamnaaaaBoxSt
import Derived.Test.YtokfemlcamnaaaaCloneI
import Derived.Deep.RegionLaw
import Derived.Deep.CutBlock
namespace Go.Proofs.Ytokfemlcamnaaaa
open Go.RowKit

/-- 'append([]int{}, v...)' as a step of a region that draws its order. -/
theorem step_copyInt {ops : Array Oper} {o : Oper} {ac : Act} {K : Act → World → Prop} {Q : Exit → Act → World → Prop} {E : Prop} (hgd : o.guard = none) (x y : Operand)
    (ho : o.op = .call { callee := .builtin .append, args := #[x, y], argTypes := #[31, 31] }) (w : World) (base z0 : Nat) (hb0 : base ≤ z0) (hz0 : w.heap[z0]? = some (.cells #[] 3 (0, 0)))
    (a : Option Addr) (c : Nat) (vs : List Int) (hx : ac.eval x = .slice (some ⟨z0, 0, none⟩) 0 0) (hy : ac.eval y = .slice a vs.length c) (h : KidsAt w a vs) (hn : vs.length ≤ 1048576)
    (hk : ∀ a' c' w', w'.ownsRow base 3 1 (.slice a' vs.length c') vs.length (intVals vs) → w.grownBy w' none → K (ac.put o.dst (.slice a' vs.length c')) w') :
    if Region.wanted o (yielded ops ac.tmps) = true then Oper.wp Try.prog o ac w K Q else E := by
  have hw : Region.wanted o (yielded ops ac.tmps) = true := by simp [Region.wanted, hgd]
  rw [if_pos hw]
  obtain ⟨i0, hi, hz0', hz1, hz2⟩ := info_parts infoIntT
  exact wp_copy oneInt_len oneInt_one x y 31 ho 3 i0 (.int .i64 0) 8 Try.underlying31 hi hz0' hz1 hz2 rfl (by decide) w base z0 hb0 hz0 a c vs hx hy (kids_rows h) hn (by omega) fun a' c' w' h2 h3 => hk a' c' w' (by rw [oneInt_vals] at h2; exact h2) h3

theorem step_copyInt2 {ops : Array Oper} {o : Oper} {ac : Act} {K : Act → World → Prop} {Q : Exit → Act → World → Prop} {E : Prop} (hgd : o.guard = none) (x y : Operand)
    (ho : o.op = .call { callee := .builtin .append, args := #[x, y], argTypes := #[31, 31] }) (w : World) (base z0 : Nat) (hb0 : base ≤ z0) (hz0 : w.heap[z0]? = some (.cells #[] 3 (0, 0)))
    (a : Option Addr) (c : Nat) (vs : List Int) (hx : ac.eval x = .slice (some ⟨z0, 0, none⟩) 0 0) (hy : ac.eval y = .slice a vs.length c) (h : KidsAt w a vs) (hn : vs.length ≤ 1048576)
    (hk : ∀ a' c' w', w'.ownsRow base 3 1 (.slice a' vs.length c') vs.length (intVals vs) → w.grownBy w' none → (∀ g, (Value.slice a' vs.length c').ownBlock = some g → g = z0 ∨ w.heap.size ≤ g) → K (ac.put o.dst (.slice a' vs.length c')) w') :
    if Region.wanted o (yielded ops ac.tmps) = true then Oper.wp Try.prog o ac w K Q else E := by
  have hw : Region.wanted o (yielded ops ac.tmps) = true := by simp [Region.wanted, hgd]
  rw [if_pos hw]
  obtain ⟨i0, hi, hz0', hz1, hz2⟩ := info_parts infoIntT
  exact wp_copy2 oneInt_len oneInt_one x y 31 ho 3 i0 (.int .i64 0) 8 Try.underlying31 hi hz0' hz1 hz2 rfl (by decide) w base z0 hb0 hz0 a c vs hx hy (kids_rows h) hn (by omega) fun a' c' w' h2 h3 h4 => hk a' c' w' (by rw [oneInt_vals] at h2; exact h2) h3 h4

set_option maxHeartbeats 8000000 in
theorem sCopy_any (a : Option Addr) (c : Nat) (ps : List Sp) (w : World) (hn0 : ps.length ≤ 1048577) (hF : Few ps) (hT : StsAt w a ps) :
    Calls Try.prog 108 #[.slice a ps.length c] w fun e w' => StsAns (ps.map Sp.st) w e w' := by
  obtain ⟨h, hK⟩ := hT
  unfold RowsAt at h
  obtain ⟨n, hn⟩ : ∃ n, n = ps.length := ⟨_, rfl⟩
  rw [← hn] at h hn0 ⊢
  have HN := hidOf hn
  clear hn
  obtain ⟨i0, hi, hz0, hz1, hz2⟩ := info_parts infoSt.2
  go_enter Try.func108, Try.ntmps108
  go_wp2
  go_loopw [3, 4] (fun v i wr => ∃ (qs : List Sp) (k : Nat) (a' : Option Addr) (c' : Nat), k ≤ n ∧ i = .int .i64 k ∧ v = .slice a' k c' ∧ Hid (qs.length = k) ∧ Hid (Own wr w.heap.size a' c' qs) ∧ Hid (qs.map Sp.st = (ps.map Sp.st).take k) ∧ Below w.heap.size w wr) (fun _ i _ => n - (intOf i).toNat)
  case atStart => exact ⟨[], 0, _, _, Nat.zero_le _, rfl, rfl, hidOf rfl, hidOf ⟨World.ownsRow_made w #[] 0 (Nat.le_refl _) (by decide) rfl, (fun p hp => by cases hp), fun i j p q _ hp => by simp at hp⟩, hidOf rfl, (Below.refl _ w).alloc (Nat.le_refl _) _⟩
  case round =>
    obtain ⟨qs, k, a', c', hk, rfl, rfl, HL, HO, HZ, hb⟩ := hrel
    by_cases hlt : k < n
    · obtain ⟨p, ex⟩ : ∃ p, ps[k]? = some p := ⟨_, List.getElem?_eq_getElem (by rw [← HN.out]; exact hlt)⟩
      obtain ⟨b1, o1, rfl, hb1, hc1⟩ := h (by omega)
      obtain ⟨p0, p1⟩ := sp2 (w := wr) (b := b1) (o := o1 + k * 2) (p := p) (fun j hj => by rw [hb.cell hb1]; exact hc1 k p ex j hj)
      have hfew := hF p (List.mem_of_getElem? ex)
      have hKp := (hK p (List.mem_of_getElem? ex)).below hb (Nat.le_refl _)
      have EX := hidOf ex
      have hb2 := Nat.lt_of_lt_of_le hb1 hb.size
      have hwr := hb.size
      clear ex hc1 h
      have hA : (0 : Int) ≤ (k : Int) := by omega
      have hB : (k : Int) < (n : Int) := by omega
      have hAD : ∀ ob : Obj, Below wr.heap.size wr (wr.alloc ob).drew := fun ob => ((Below.refl _ _).alloc (Nat.le_refl _) _).drew
      have hal : ∀ (ob : Obj) (b k : Nat), b < wr.heap.size → (wr.alloc ob).cell? ⟨b, k, none⟩ = wr.cell? ⟨b, k, none⟩ := fun ob b k h => ((Below.refl wr.heap.size wr).alloc (Nat.le_refl _) ob).cell (p := ⟨b, k, none⟩) h
      have HE := HO.out
      have hLL := HL.out
      have hR : wr.ownsRow w.heap.size 57 2 (.slice a' k c') k (rowVals spCells qs) := by rw [← hLL]; exact HE.row
      clear HE hLL
      go_wp2
      go_region_law (first
        | (refine step_copyInt rfl _ _ rfl _ wr.heap.size wr.heap.size (Nat.le_refl _) (heap_alloc_new wr _) p.a p.c p.st.vals rfl rfl (hKp.below (hAD _) (Nat.le_refl _)) hfew ?_; intro xa xc w2 xo hg2; have E2 : Below wr.heap.size wr w2 := (hAD _).grown hg2 (hAD _).size (fun k e => by cases e); have q0 := (E2.cell (p := ⟨b1, o1 + k * 2, none⟩) hb2).trans p0; have q1 := (E2.cell (p := ⟨b1, o1 + k * 2 + 1, none⟩) hb2).trans p1; have hal2 : ∀ (ob : Obj) (b k : Nat), b < w2.heap.size → (w2.alloc ob).cell? ⟨b, k, none⟩ = w2.cell? ⟨b, k, none⟩ := fun ob b k h => ((Below.refl w2.heap.size w2).alloc (Nat.le_refl _) ob).cell (p := ⟨b, k, none⟩) h; have hlt2 : b1 < w2.heap.size := Nat.lt_of_lt_of_le hb2 E2.size; have hR2 := owns_below hR E2; have hsz2 : w.heap.size ≤ w2.heap.size := Nat.le_trans hwr E2.size)
        | (refine step_append_own rfl _ _ 54 rfl w.heap.size 57 i0 (.agg #[.slice none 0 0, .int .i64 0]) 2 32 Try.underlying54 hi hz0 hz1 hz2 rfl (by decide) _ _ _ rfl (hR2.alloc _) ⟨w2.heap.size, 0, none⟩ 1 1 (spCells ⟨p.st, xa, xc⟩) rfl rfl (cells_sp_new w2 ⟨p.st, xa, xc⟩ _) (one_sp _) (by unfold maxLen; omega) (by omega) (by simp; omega) ?_; intro v' w3 hown3 hgrow3 hnil3; obtain ⟨a3, c3, rfl⟩ := owns_slice hown3; clear hnil3))
      all_goals
        have hA2 : Below w2.heap.size w2 (w2.alloc (.cells #[.slice xa p.st.vals.length xc, .int .i64 p.st.sum] 57)) := (Below.refl _ _).alloc (Nat.le_refl _) _
        have hg3 : (w2.alloc (.cells #[.slice xa p.st.vals.length xc, .int .i64 p.st.sum] 57)).grownBy w3 (Value.slice a' qs.length c').ownBlock := by rw [HL.out]; exact hgrow3
        have hown4 : w3.ownsRow w.heap.size 57 2 (.slice a3 (qs.length + 1) c3) (qs.length + 1) (rowVals spCells qs ++ spCells ⟨p.st, xa, xc⟩) := by rw [HL.out]; exact hown3
        have O3 := hidOf (Own.append (x := ⟨p.st, xa, xc⟩) ((HO.out.below E2).below hA2) (owns_below (ownsRow_base xo hwr) hA2) (fun q hq g hg hg2 => by
          have h1 := ((HO.out.each q hq).lt g hg).2
          have h2 := (xo.lt g hg2).1
          omega) hg3 hown4)
        have B3 := hidOf (((hb.trans (E2.mono hwr)).trans (hA2.mono hsz2)).grown hg3 (by have := hA2.size; omega) (fun g hg => (HO.out.row.lt g hg).1))
        clear hgrow3 hown3 hown4 hg3 hA2 xo q0 q1 p0 p1 hR hR2 E2 hal hal2
        go_wp2
        go_roundw
        case rel => exact ⟨qs ++ [⟨p.st, xa, xc⟩], k + 1, a3, c3, by omega, by go_num, rfl, hidOf (by rw [List.length_append, HL.out]; rfl), hidOf O3.out, hidOf (by
          rw [List.map_append, HZ.out, List.take_add_one, List.getElem?_map, EX.out]
          rfl), B3.out⟩
        case measure => simp [intOf]; omega
    · go_wp2
      go_ret
      have h1 := HN.out
      have h2 := HL.out
      have h3 := HZ.out
      rw [List.take_of_length_le (by simp; omega)] at h3
      refine ⟨a', c', qs, ?_, h3, HO.out, hb⟩
      rw [HL.out]
      rfl
end Go.Proofs.Ytokfemlcamnaaaa
