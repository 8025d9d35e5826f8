/- 'append([]T{}, xs...)': the same structs in memory of their own. -/
import Derived.Test.YtdlbnllkfnfgoaaRowLib
import Derived.Deep.AppendSrc
import Derived.Deep.DeepAppendWide
namespace Go.Proofs.Ytdlbnllkfnfgoaa
open Go.RowKit

theorem rows_flat {α : Type} {s : Nat} {cells : α → List Value} (hs : ∀ x, (cells x).length = s) (hs0 : 0 < s) {w : World} {b off : Nat} {xs : List α} (h : ∀ k x, xs[k]? = some x → ∀ j, j < s → w.cell? ⟨b, off + k * s + j, none⟩ = (cells x)[j]?) :
    ∀ j u, (rowVals cells xs)[j]? = some u → w.cell? ((⟨b, off, none⟩ : Addr).add j) = some u := by
  intro j u hu
  have hl := (List.getElem?_eq_some_iff.1 hu).1
  rw [rowVals_len hs] at hl
  have hm : j % s < s := Nat.mod_lt _ hs0
  have hk : j / s < xs.length := Nat.div_lt_of_lt_mul (by rw [Nat.mul_comm]; exact hl)
  have hx : xs[j / s]? = some xs[j / s] := List.getElem?_eq_getElem hk
  have hj : j / s * s + j % s = j := by rw [Nat.mul_comm]; exact Nat.div_add_mod j s
  have h1 := h (j / s) _ hx (j % s) hm
  have h2 := rowVals_at hs xs (j / s) _ hx (j % s) hm
  rw [hj, hu] at h2
  have hadd : (⟨b, off, none⟩ : Addr).add j = ⟨b, off + j / s * s + j % s, none⟩ := by
    rw [Nat.add_assoc, hj]
    unfold Addr.add
    split <;> simp_all
  rw [hadd, h1, h2]
theorem rowVals_one' {α : Type} {cells : α → List Value} (h : ∀ x, ∀ u ∈ cells x, u.oneCell' = true) (xs : List α) : ∀ u ∈ rowVals cells xs, u.oneCell' = true := fun u hu => by
  obtain ⟨x, _, hx⟩ := List.mem_flatMap.1 hu
  exact h x u hx

section
variable {P : Program}
theorem run_copy2 {α : Type} {s : Nat} {cells : α → List Value} (hs : ∀ x, (cells x).length = s) (hone : ∀ x, ∀ u ∈ cells x, u.oneCell' = true) (t ty e : TypeId) (i : TypeInfo) (z : Value) (bytes : Nat) (ht : P.underlying t = some (.slice e)) (hi : P.info? e = some i) (hz : i.zero = some z)
    (hsize : i.size = s) (hby : i.bytes = bytes) (hzs : z.cells.size = s) (hsz : 0 < s) (w : World) (base z0 : Nat) (hb0 : base ≤ z0) (hz0 : w.heap[z0]? = some (.cells #[] e (0, 0)))
    (a : Option Addr) (c : Nat) (xs : List α) (h : RowsAt s cells w a xs) (hn : xs.length ≤ 1048576) (hbb : bytes ≤ 1048576) :
    ∃ a' c' w', (Builtin.append_ #[t, t] ty #[.slice (some ⟨z0, 0, none⟩) 0 0, .slice a xs.length c]).run P w = .ok (.slice a' xs.length c') w' ∧ w'.ownsRow base e s (.slice a' xs.length c') xs.length (rowVals cells xs) ∧ w.grownBy w' none ∧ (∀ g, (Value.slice a' xs.length c').ownBlock = some g → g = z0 ∨ w.heap.size ≤ g) := by
  subst hsize
  subst hby
  have hz0l : z0 < w.heap.size := (Array.getElem?_eq_some_iff.1 hz0).1
  by_cases hx : xs.length = 0
  · have he : xs = [] := List.eq_nil_of_length_eq_zero hx
    subst he
    have hsrc : Src P i.size t (.slice a 0 c) 0 [] w := by
      cases a with
      | none => exact Src.ofNil w ht c
      | some ad => exact Src.ofSlice w ht ad 0 c [] (by simp) (fun j u hu => by simp at hu) (fun u hu => by cases hu)
    have hr := run_append_room_src (P := P) w t t ty e i ht hi z0 0 0 0 _ 0 [] hsrc (by omega) (fun j hj => by simp at hj) (fun j hj => by simp at hj)
    refine ⟨some ⟨z0, 0, none⟩, 0, w, ?_, ⟨by simp [rowVals], .inr ⟨z0, 0, #[], rfl, hb0, hz0, Nat.le_refl _, by unfold maxLen; omega, by simp, by simp [rowVals]⟩⟩, World.grownBy.refl w none, fun g e => .inl (by injection e with e; exact e.symm)⟩
    simpa [World.setCells] using hr
  · obtain ⟨b, off, rfl, hlt, hc⟩ := h (by omega)
    have hsrc : Src P i.size t (.slice (some ⟨b, off, none⟩) xs.length c) xs.length (rowVals cells xs) w := Src.ofSlice w ht _ _ c _ (rowVals_len hs xs) (rows_flat hs hsz hc) (rowVals_one' hone xs)
    have hfit : Builtin.nextslicecap (0 + xs.length) 0 * i.bytes ≤ 281474976710656 := growslice_fits_wide (by omega) (Nat.le_trans (Nat.mul_le_mul (show 0 + xs.length + (0 + xs.length) / 4 + 192 ≤ 2097152 by omega) hbb) (by omega))
    have hr := run_append_grow_src (P := P) w t t ty e i z ht hi hz (some ⟨z0, 0, none⟩) 0 0 [] (run_firstCells_some w.drew i.size 0 ⟨z0, 0, none⟩ 0 0 [] (by simp) (fun j v hv => by simp at hv)) _ xs.length _ hsrc (by omega) (by omega) hfit
    have hge := grownCap_ge w (0 + xs.length) 0 e
    have hcm : grownCap w (0 + xs.length) 0 e ≤ maxLen := grownCap_le_maxLen w (0 + xs.length) 0 e (by unfold maxLen; omega)
    rw [Nat.zero_add] at hr hge hcm
    refine ⟨_, _, _, hr, ⟨rowVals_len hs xs, .inr ⟨w.heap.size, _, _, rfl, by omega, heap_alloc_new w.drew _, hge, hcm, ?_, ?_⟩⟩, ⟨rfl, rfl, rfl, by simp, fun k hk _ => Below.heap_alloc w.drew _ k hk⟩, fun g e => .inr (by injection e with e; subst e; exact Nat.le_refl _)⟩
    · simp only [List.nil_append, Array.size_append, List.size_toArray, size_zeroCells, hzs, rowVals_len hs, ← Nat.add_mul]
      congr 1
      omega
    · simp only [List.nil_append, Array.toList_append]
      rw [← rowVals_len hs xs]
      exact List.take_left
theorem run_copy {α : Type} {s : Nat} {cells : α → List Value} (hs : ∀ x, (cells x).length = s) (hone : ∀ x, ∀ u ∈ cells x, u.oneCell' = true) (t ty e : TypeId) (i : TypeInfo) (z : Value) (bytes : Nat) (ht : P.underlying t = some (.slice e)) (hi : P.info? e = some i) (hz : i.zero = some z)
    (hsize : i.size = s) (hby : i.bytes = bytes) (hzs : z.cells.size = s) (hsz : 0 < s) (w : World) (base z0 : Nat) (hb0 : base ≤ z0) (hz0 : w.heap[z0]? = some (.cells #[] e (0, 0)))
    (a : Option Addr) (c : Nat) (xs : List α) (h : RowsAt s cells w a xs) (hn : xs.length ≤ 1048576) (hbb : bytes ≤ 1048576) :
    ∃ a' c' w', (Builtin.append_ #[t, t] ty #[.slice (some ⟨z0, 0, none⟩) 0 0, .slice a xs.length c]).run P w = .ok (.slice a' xs.length c') w' ∧ w'.ownsRow base e s (.slice a' xs.length c') xs.length (rowVals cells xs) ∧ w.grownBy w' none := by
  obtain ⟨a', c', w', h1, h2, h3, _⟩ := run_copy2 (P := P) hs hone t ty e i z bytes ht hi hz hsize hby hzs hsz w base z0 hb0 hz0 a c xs h hn hbb
  exact ⟨a', c', w', h1, h2, h3⟩
/-- At the operation: what is new lies where nothing lay. -/
theorem wp_copy2 {α : Type} {s : Nat} {cells : α → List Value} (hs : ∀ x, (cells x).length = s) (hone : ∀ x, ∀ u ∈ cells x, u.oneCell' = true) {o : Oper} {ac : Act} {K : Act → World → Prop} {Q : Exit → Act → World → Prop} (x y : Operand) (t : TypeId)
    (ho : o.op = .call { callee := .builtin .append, args := #[x, y], argTypes := #[t, t] }) (e : TypeId) (i : TypeInfo) (z : Value) (bytes : Nat) (ht : P.underlying t = some (.slice e)) (hi : P.info? e = some i) (hz : i.zero = some z)
    (hsize : i.size = s) (hby : i.bytes = bytes) (hzs : z.cells.size = s) (hsz : 0 < s) (w : World) (base z0 : Nat) (hb0 : base ≤ z0) (hz0 : w.heap[z0]? = some (.cells #[] e (0, 0)))
    (a : Option Addr) (c : Nat) (xs : List α) (hx : ac.eval x = .slice (some ⟨z0, 0, none⟩) 0 0) (hy : ac.eval y = .slice a xs.length c) (h : RowsAt s cells w a xs) (hn : xs.length ≤ 1048576) (hbb : bytes ≤ 1048576)
    (hk : ∀ a' c' w', w'.ownsRow base e s (.slice a' xs.length c') xs.length (rowVals cells xs) → w.grownBy w' none → (∀ g, (Value.slice a' xs.length c').ownBlock = some g → g = z0 ∨ w.heap.size ≤ g) → K (ac.put o.dst (.slice a' xs.length c')) w') : o.wp P ac w K Q := by
  obtain ⟨a', c', w', hr, h2, h3, h4⟩ := run_copy2 (P := P) hs hone t o.type e i z bytes ht hi hz hsize hby hzs hsz w base z0 hb0 hz0 a c xs h hn hbb
  unfold Oper.wp execOp
  simp only [ho, resolve, invoke, builtin, Sem.run_bind, Sem.run_pure, Result.andThen_ok, List.map_toArray, List.map_cons, List.map_nil, hx, hy, hr]
  exact hk a' c' w' h2 h3 h4
/-- At the operation. -/
theorem wp_copy {α : Type} {s : Nat} {cells : α → List Value} (hs : ∀ x, (cells x).length = s) (hone : ∀ x, ∀ u ∈ cells x, u.oneCell' = true) {o : Oper} {ac : Act} {K : Act → World → Prop} {Q : Exit → Act → World → Prop} (x y : Operand) (t : TypeId)
    (ho : o.op = .call { callee := .builtin .append, args := #[x, y], argTypes := #[t, t] }) (e : TypeId) (i : TypeInfo) (z : Value) (bytes : Nat) (ht : P.underlying t = some (.slice e)) (hi : P.info? e = some i) (hz : i.zero = some z)
    (hsize : i.size = s) (hby : i.bytes = bytes) (hzs : z.cells.size = s) (hsz : 0 < s) (w : World) (base z0 : Nat) (hb0 : base ≤ z0) (hz0 : w.heap[z0]? = some (.cells #[] e (0, 0)))
    (a : Option Addr) (c : Nat) (xs : List α) (hx : ac.eval x = .slice (some ⟨z0, 0, none⟩) 0 0) (hy : ac.eval y = .slice a xs.length c) (h : RowsAt s cells w a xs) (hn : xs.length ≤ 1048576) (hbb : bytes ≤ 1048576)
    (hk : ∀ a' c' w', w'.ownsRow base e s (.slice a' xs.length c') xs.length (rowVals cells xs) → w.grownBy w' none → K (ac.put o.dst (.slice a' xs.length c')) w') : o.wp P ac w K Q := by
  obtain ⟨a', c', w', hr, h2, h3⟩ := run_copy (P := P) hs hone t o.type e i z bytes ht hi hz hsize hby hzs hsz w base z0 hb0 hz0 a c xs h hn hbb
  unfold Oper.wp execOp
  simp only [ho, resolve, invoke, builtin, Sem.run_bind, Sem.run_pure, Result.andThen_ok, List.map_toArray, List.map_cons, List.map_nil, hx, hy, hr]
  exact hk a' c' w' h2 h3
end
end Go.Proofs.Ytdlbnllkfnfgoaa
