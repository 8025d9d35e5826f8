/- 'append([]T{}, xs...)': the same structs in memory of their own. -/
import Derived.Test.YtghfpcjgionbaaaGreatRowLib
import Derived.Deep.AppendSrc
import Derived.Deep.DeepAppendWide
import Derived.Test.YtghfpcjgionbaaaGreatKag
import Derived.Lib.SliceRun
import Derived.Test.YtghfpcjgionbaaaGreatWgI
namespace Go.Proofs.YtghfpcjgionbaaaGreat
open Go.RowKit

theorem rows_flat {α : Type} {s : Nat} {cells : α → List Value} (hs : ∀ x, (cells x).length = s) (hs0 : 0 < s) {w : World} {b off : Nat} {xs : List α} (h : ∀ k x, xs[k]? = some x → ∀ j, j < s → w.cell? ⟨b, off + k * s + j, none⟩ = (cells x)[j]?) :
    ∀ j u, (rowVals cells xs)[j]? = some u → w.cell? ((⟨b, off, none⟩ : Addr).add j) = some u := by
  intro j u hu
  have hl := (List.getElem?_eq_some_iff.1 hu).1
  rw [rowVals_len hs] at hl
  have hm : j % s < s := Nat.mod_lt _ hs0
  have hk : j / s < xs.length := Nat.div_lt_of_lt_mul (by rw [Nat.mul_comm]; exact hl)
  have hx : xs[j / s]? = some xs[j / s] := List.getElem?_eq_getElem hk
  have hj : j / s * s + j % s = j := by rw [Nat.mul_comm]; exact Nat.div_add_mod j s
  have h1 := h (j / s) _ hx (j % s) hm
  have h2 := rowVals_at hs xs (j / s) _ hx (j % s) hm
  rw [hj, hu] at h2
  have hadd : (⟨b, off, none⟩ : Addr).add j = ⟨b, off + j / s * s + j % s, none⟩ := by
    rw [Nat.add_assoc, hj]
    unfold Addr.add
    split <;> simp_all
  rw [hadd, h1, h2]
theorem rowVals_one' {α : Type} {cells : α → List Value} (h : ∀ x, ∀ u ∈ cells x, u.oneCell' = true) (xs : List α) : ∀ u ∈ rowVals cells xs, u.oneCell' = true := fun u hu => by
  obtain ⟨x, _, hx⟩ := List.mem_flatMap.1 hu
  exact h x u hx

section
variable {P : Program}
theorem run_copy2 {α : Type} {s : Nat} {cells : α → List Value} (hs : ∀ x, (cells x).length = s) (hone : ∀ x, ∀ u ∈ cells x, u.oneCell' = true) (t ty e : TypeId) (i : TypeInfo) (z : Value) (bytes : Nat) (ht : P.underlying t = some (.slice e)) (hi : P.info? e = some i) (hz : i.zero = some z)
    (hsize : i.size = s) (hby : i.bytes = bytes) (hzs : z.cells.size = s) (hsz : 0 < s) (w : World) (base z0 : Nat) (hb0 : base ≤ z0) (hz0 : w.heap[z0]? = some (.cells #[] e (0, 0)))
    (a : Option Addr) (c : Nat) (xs : List α) (h : RowsAt s cells w a xs) (hn : xs.length ≤ 1048576) (hbb : bytes ≤ 1048576) :
    ∃ a' c' w', (Builtin.append_ #[t, t] ty #[.slice (some ⟨z0, 0, none⟩) 0 0, .slice a xs.length c]).run P w = .ok (.slice a' xs.length c') w' ∧ w'.ownsRow base e s (.slice a' xs.length c') xs.length (rowVals cells xs) ∧ w.grownBy w' none ∧ (∀ g, (Value.slice a' xs.length c').ownBlock = some g → g = z0 ∨ w.heap.size ≤ g) := by
  subst hsize
  subst hby
  have hz0l : z0 < w.heap.size := (Array.getElem?_eq_some_iff.1 hz0).1
  by_cases hx : xs.length = 0
  · have he : xs = [] := List.eq_nil_of_length_eq_zero hx
    subst he
    have hsrc : Src P i.size t (.slice a 0 c) 0 [] w := by
      cases a with
      | none => exact Src.ofNil w ht c
      | some ad => exact Src.ofSlice w ht ad 0 c [] (by simp) (fun j u hu => by simp at hu) (fun u hu => by cases hu)
    have hr := run_append_room_src (P := P) w t t ty e i ht hi z0 0 0 0 _ 0 [] hsrc (by omega) (fun j hj => by simp at hj) (fun j hj => by simp at hj)
    refine ⟨some ⟨z0, 0, none⟩, 0, w, ?_, ⟨by simp [rowVals], .inr ⟨z0, 0, #[], rfl, hb0, hz0, Nat.le_refl _, by unfold maxLen; omega, by simp, by simp [rowVals]⟩⟩, World.grownBy.refl w none, fun g e => .inl (by injection e with e; exact e.symm)⟩
    simpa [World.setCells] using hr
  · obtain ⟨b, off, rfl, hlt, hc⟩ := h (by omega)
    have hsrc : Src P i.size t (.slice (some ⟨b, off, none⟩) xs.length c) xs.length (rowVals cells xs) w := Src.ofSlice w ht _ _ c _ (rowVals_len hs xs) (rows_flat hs hsz hc) (rowVals_one' hone xs)
    have hfit : Builtin.nextslicecap (0 + xs.length) 0 * i.bytes ≤ 281474976710656 := growslice_fits_wide (by omega) (Nat.le_trans (Nat.mul_le_mul (show 0 + xs.length + (0 + xs.length) / 4 + 192 ≤ 2097152 by omega) hbb) (by omega))
    have hr := run_append_grow_src (P := P) w t t ty e i z ht hi hz (some ⟨z0, 0, none⟩) 0 0 [] (run_firstCells_some w.drew i.size 0 ⟨z0, 0, none⟩ 0 0 [] (by simp) (fun j v hv => by simp at hv)) _ xs.length _ hsrc (by omega) (by omega) hfit
    have hge := grownCap_ge w (0 + xs.length) 0 e
    have hcm : grownCap w (0 + xs.length) 0 e ≤ maxLen := grownCap_le_maxLen w (0 + xs.length) 0 e (by unfold maxLen; omega)
    rw [Nat.zero_add] at hr hge hcm
    refine ⟨_, _, _, hr, ⟨rowVals_len hs xs, .inr ⟨w.heap.size, _, _, rfl, by omega, heap_alloc_new w.drew _, hge, hcm, ?_, ?_⟩⟩, ⟨rfl, rfl, rfl, by simp, fun k hk _ => Below.heap_alloc w.drew _ k hk⟩, fun g e => .inr (by injection e with e; subst e; exact Nat.le_refl _)⟩
    · simp only [List.nil_append, Array.size_append, List.size_toArray, size_zeroCells, hzs, rowVals_len hs, ← Nat.add_mul]
      congr 1
      omega
    · simp only [List.nil_append, Array.toList_append]
      rw [← rowVals_len hs xs]
      exact List.take_left
theorem run_copy {α : Type} {s : Nat} {cells : α → List Value} (hs : ∀ x, (cells x).length = s) (hone : ∀ x, ∀ u ∈ cells x, u.oneCell' = true) (t ty e : TypeId) (i : TypeInfo) (z : Value) (bytes : Nat) (ht : P.underlying t = some (.slice e)) (hi : P.info? e = some i) (hz : i.zero = some z)
    (hsize : i.size = s) (hby : i.bytes = bytes) (hzs : z.cells.size = s) (hsz : 0 < s) (w : World) (base z0 : Nat) (hb0 : base ≤ z0) (hz0 : w.heap[z0]? = some (.cells #[] e (0, 0)))
    (a : Option Addr) (c : Nat) (xs : List α) (h : RowsAt s cells w a xs) (hn : xs.length ≤ 1048576) (hbb : bytes ≤ 1048576) :
    ∃ a' c' w', (Builtin.append_ #[t, t] ty #[.slice (some ⟨z0, 0, none⟩) 0 0, .slice a xs.length c]).run P w = .ok (.slice a' xs.length c') w' ∧ w'.ownsRow base e s (.slice a' xs.length c') xs.length (rowVals cells xs) ∧ w.grownBy w' none := by
  obtain ⟨a', c', w', h1, h2, h3, _⟩ := run_copy2 (P := P) hs hone t ty e i z bytes ht hi hz hsize hby hzs hsz w base z0 hb0 hz0 a c xs h hn hbb
  exact ⟨a', c', w', h1, h2, h3⟩
/-- At the operation: what is new lies where nothing lay. -/
theorem wp_copy2 {α : Type} {s : Nat} {cells : α → List Value} (hs : ∀ x, (cells x).length = s) (hone : ∀ x, ∀ u ∈ cells x, u.oneCell' = true) {o : Oper} {ac : Act} {K : Act → World → Prop} {Q : Exit → Act → World → Prop} (x y : Operand) (t : TypeId)
    (ho : o.op = .call { callee := .builtin .append, args := #[x, y], argTypes := #[t, t] }) (e : TypeId) (i : TypeInfo) (z : Value) (bytes : Nat) (ht : P.underlying t = some (.slice e)) (hi : P.info? e = some i) (hz : i.zero = some z)
    (hsize : i.size = s) (hby : i.bytes = bytes) (hzs : z.cells.size = s) (hsz : 0 < s) (w : World) (base z0 : Nat) (hb0 : base ≤ z0) (hz0 : w.heap[z0]? = some (.cells #[] e (0, 0)))
    (a : Option Addr) (c : Nat) (xs : List α) (hx : ac.eval x = .slice (some ⟨z0, 0, none⟩) 0 0) (hy : ac.eval y = .slice a xs.length c) (h : RowsAt s cells w a xs) (hn : xs.length ≤ 1048576) (hbb : bytes ≤ 1048576)
    (hk : ∀ a' c' w', w'.ownsRow base e s (.slice a' xs.length c') xs.length (rowVals cells xs) → w.grownBy w' none → (∀ g, (Value.slice a' xs.length c').ownBlock = some g → g = z0 ∨ w.heap.size ≤ g) → K (ac.put o.dst (.slice a' xs.length c')) w') : o.wp P ac w K Q := by
  obtain ⟨a', c', w', hr, h2, h3, h4⟩ := run_copy2 (P := P) hs hone t o.type e i z bytes ht hi hz hsize hby hzs hsz w base z0 hb0 hz0 a c xs h hn hbb
  unfold Oper.wp execOp
  simp only [ho, resolve, invoke, builtin, Sem.run_bind, Sem.run_pure, Result.andThen_ok, List.map_toArray, List.map_cons, List.map_nil, hx, hy, hr]
  exact hk a' c' w' h2 h3 h4
/-- At the operation. -/
theorem wp_copy {α : Type} {s : Nat} {cells : α → List Value} (hs : ∀ x, (cells x).length = s) (hone : ∀ x, ∀ u ∈ cells x, u.oneCell' = true) {o : Oper} {ac : Act} {K : Act → World → Prop} {Q : Exit → Act → World → Prop} (x y : Operand) (t : TypeId)
    (ho : o.op = .call { callee := .builtin .append, args := #[x, y], argTypes := #[t, t] }) (e : TypeId) (i : TypeInfo) (z : Value) (bytes : Nat) (ht : P.underlying t = some (.slice e)) (hi : P.info? e = some i) (hz : i.zero = some z)
    (hsize : i.size = s) (hby : i.bytes = bytes) (hzs : z.cells.size = s) (hsz : 0 < s) (w : World) (base z0 : Nat) (hb0 : base ≤ z0) (hz0 : w.heap[z0]? = some (.cells #[] e (0, 0)))
    (a : Option Addr) (c : Nat) (xs : List α) (hx : ac.eval x = .slice (some ⟨z0, 0, none⟩) 0 0) (hy : ac.eval y = .slice a xs.length c) (h : RowsAt s cells w a xs) (hn : xs.length ≤ 1048576) (hbb : bytes ≤ 1048576)
    (hk : ∀ a' c' w', w'.ownsRow base e s (.slice a' xs.length c') xs.length (rowVals cells xs) → w.grownBy w' none → K (ac.put o.dst (.slice a' xs.length c')) w') : o.wp P ac w K Q := by
  obtain ⟨a', c', w', hr, h2, h3⟩ := run_copy (P := P) hs hone t o.type e i z bytes ht hi hz hsize hby hzs hsz w base z0 hb0 hz0 a c xs h hn hbb
  unfold Oper.wp execOp
  simp only [ho, resolve, invoke, builtin, Sem.run_bind, Sem.run_pure, Result.andThen_ok, List.map_toArray, List.map_cons, List.map_nil, hx, hy, hr]
  exact hk a' c' w' h2 h3
end
end Go.Proofs.YtghfpcjgionbaaaGreat
/- What slices.Clone answers at a list of numbers, and 'append([]int{}, v...)' as a step: the same numbers in memory of their own. -/
namespace Go.Proofs.YtghfpcjgionbaaaGreat
open Go.RowKit

def oneInt (z : Int) : List Value := [.int .i64 z]
theorem oneInt_len (z : Int) : (oneInt z).length = 1 := rfl
theorem oneInt_one (z : Int) : ∀ u ∈ oneInt z, u.oneCell' = true := fun u hu => by
  unfold oneInt at hu
  rw [List.mem_singleton] at hu
  subst hu
  rfl
theorem oneInt_vals : ∀ (vs : List Int), rowVals oneInt vs = intVals vs
  | [] => rfl
  | v :: vs => by
    show oneInt v ++ rowVals oneInt vs = _
    rw [oneInt_vals vs]
    rfl
theorem kids_rows {w : World} {a : Option Addr} {vs : List Int} (h : KidsAt w a vs) : RowsAt 1 oneInt w a vs := by
  intro hn
  obtain ⟨b, off, ha, hlt, hc⟩ := h hn
  refine ⟨b, off, ha, hlt, fun k x hx j hj => ?_⟩
  have hj0 : j = 0 := by omega
  subst hj0
  rw [Nat.mul_one, Nat.add_zero, hc k x hx]
  rfl
theorem wpList_copyInt {ops : Array Oper} {rest : List Oper} {o : Oper} {ac : Act} {Q : Exit → Act → World → Prop} (hgd : o.guard = none) (x y : Operand)
    (ho : o.op = .call { callee := .builtin .append, args := #[x, y], argTypes := #[29, 29] }) (w : World) (base z0 : Nat) (hb0 : base ≤ z0) (hz0 : w.heap[z0]? = some (.cells #[] 3 (0, 0)))
    (a : Option Addr) (c : Nat) (vs : List Int) (hx : ac.eval x = .slice (some ⟨z0, 0, none⟩) 0 0) (hy : ac.eval y = .slice a vs.length c) (h : KidsAt w a vs) (hn : vs.length ≤ 1048576)
    (hk : ∀ a' c' w', w'.ownsRow base 3 1 (.slice a' vs.length c') vs.length (intVals vs) → w.grownBy w' none → wpList Tryz.prog ops Q rest (ac.put o.dst (.slice a' vs.length c')) w') : wpList Tryz.prog ops Q (o :: rest) ac w := by
  obtain ⟨i0, hi, hz0', hz1, hz2⟩ := info_parts infoIntT
  exact wpList_plain hgd fun _ hK => wp_copy oneInt_len oneInt_one x y 29 ho 3 i0 (.int .i64 0) 8 Tryz.underlying29 hi hz0' hz1 hz2 rfl (by decide) w base z0 hb0 hz0 a c vs hx hy (kids_rows h) hn (by omega) fun a' c' w' h2 h3 => hK _ _ (hk a' c' w' (by rw [oneInt_vals] at h2; exact h2) h3)

set_option maxHeartbeats 1600000 in
theorem clone_any (a : Option Addr) (c : Nat) (vs : List Int) (w : World) (hn : vs.length ≤ 1048576) (h : KidsAt w a vs) :
    Calls Tryz.prog 92 #[.slice a vs.length c] w fun e w' => IntsAns vs 3 w e w' := by
  have qT : ∀ (w : World) (a : Option Addr) (n c n' c' : Nat), (binOp .eql 29 (.slice a n c) (.slice none n' c')).run Tryz.prog w = .ok (.bool a.isNone) w := fun w a n c n' c' => Lib.run_eql_slice_nil w _ _ a n c n' c' Tryz.underlying29
  cases a with
  | none =>
    have hl : vs = [] := by
      cases vs with
      | nil => rfl
      | cons x xs => obtain ⟨b, off, ha, -⟩ := h (by simp); cases ha
    subst hl
    go_enter Tryz.func92, Tryz.ntmps92
    go_wp2
    go_ret
    exact ⟨Below.refl _ _, none, 0, rfl, rfl, .inl ⟨rfl, rfl⟩⟩
  | some ad =>
    go_enter Tryz.func92, Tryz.ntmps92
    have B1 : Below w.heap.size w (w.alloc (.cells #[] 3)) := (Below.refl _ _).alloc (Nat.le_refl _) _
    go_wp2_with (at_builtin; refine wpList_copyInt rfl _ _ rfl _ w.heap.size w.heap.size (Nat.le_refl _) (heap_alloc_new w _) (some ad) c vs rfl rfl (h.below B1 (Nat.le_refl _)) hn ?_; intro a' c' w1 hown hg)
    go_ret
    exact ⟨B1.grown hg B1.size (fun k e => by cases e), a', c', rfl, hown⟩
end Go.Proofs.YtghfpcjgionbaaaGreat
/- One step of the program's search: the least state is taken and tried. -/
namespace Go.Proofs.YtghfpcjgionbaaaGreat
open Go.RowKit

/-- While the next values are offered. -/
structure Tl (w0 : World) (sb : Nat) (p : Pc) (l : Pl) (wd : Int) (W : World) (a : Option Addr) (c : Nat) (qs : List Sp) (ba : Option Addr) (bc : Nat) (bs : List Int) (tb : Nat) (f : Sp) : Prop where
  sr : Sr w0 sb p l wd W a c qs ba bc bs
  box : W.heap[tb]? = some (.cells #[.slice f.a f.st.vals.length f.c, .int .i64 f.st.sum] 61 (0, 0))
  own : W.ownsRow w0.heap.size 3 1 (.slice f.a f.st.vals.length f.c) f.st.vals.length (intVals f.st.vals)
  far : ∀ g, (Value.slice a qs.length c).ownBlock = some g → g ≠ tb
section
variable {w0 : World} {sb : Nat} {p : Pc} {l : Pl} {wd : Int} {W W' : World} {a : Option Addr} {c : Nat} {qs : List Sp} {ba : Option Addr} {bc : Nat} {bs : List Int} {tb : Nat} {f : Sp}
theorem Tl.more (h : Tl w0 sb p l wd W a c qs ba bc bs tb f) (hb : Below W.heap.size W W') : Tl w0 sb p l wd W' a c qs ba bc bs tb f :=
  ⟨h.sr.more hb, (hb.block tb (Array.getElem?_eq_some_iff.1 h.box).1).trans h.box, owns_below h.own hb, h.far⟩
theorem Tl.ne (h : Tl w0 sb p l wd W a c qs ba bc bs tb f) : tb ≠ sb := fun e => by
  have h1 := h.sr.hv.row
  rw [← e, h.box] at h1
  injection h1 with h1
  injection h1 with _ h1 _
  exact (srOf p l wd ba bc bs).ns h1
theorem Tl.offer (h : Tl w0 sb p l wd W a c qs ba bc bs tb f) {h' : List St} (ho : OfAns w0 sb p l wd W W' a c qs ba bc bs h') : ∃ a' c' rs, Tl w0 sb p l wd W' a' c' rs ba bc bs tb f ∧ rs.map Sp.st = h' := by
  obtain ⟨a', c', rs, h1, h2, h3, h4⟩ := ho
  have ht := (Array.getElem?_eq_some_iff.1 h.box).1
  refine ⟨a', c', rs, ⟨h1, (h3.block tb ht h.ne (fun e => h.far tb e.symm rfl)).trans h.box, h3.own h.own (types_apart h.own h.sr.own.row (by decide)) (h.sr.hv.far h.own (srOf p l wd ba bc bs).ni), fun g hg e => ?_⟩, h2⟩
  rcases h4 g hg with h5 | h5
  · exact h.far g h5 e
  · omega
end
/-- What is there behind a step. -/
def TryAns (w0 : World) (sb : Nat) (p : Pc) (l : Pl) (wd : Int) (w' : World) (h' : List St) (b' : List Int) : Prop := ∃ a' c' qs ba' bc', Sr w0 sb p l wd w' a' c' qs ba' bc' b' ∧ qs.map Sp.st = h'
theorem few_pre {p : Pc} (h1 : Right p) {ps : List Sp} (h : ∀ x ∈ ps.map Sp.st, PreV p.rules x.vals) : Few ps := fun q hq => by
  have := (h q.st (List.mem_map_of_mem hq)).1
  have := h1.rules.1
  omega
theorem few_push {p : Pc} {wd : Int} (h1 : Right p) {h : List St} {bs u : List Int} {k : Nat} {qs : List Sp} (hI : ∀ x ∈ h, PreV p.rules x.vals) (hu : u.length < p.rules.length) (hq : qs.map Sp.st = pushK p wd bs u k 0 (restL stLess h)) : Few qs := fun q hm => by
  have h8 := h1.rules.1
  have hm' : q.st ∈ pushK p wd bs u k 0 (restL stLess h) := by rw [← hq]; exact List.mem_map_of_mem hm
  rcases pushK_from _ _ _ _ hm' with h2 | ⟨j, -, -, e, -⟩
  · obtain ⟨i, -, hi⟩ := rest_mem h2
    have := (hI _ (List.mem_of_getElem? hi)).1
    omega
  · rw [e]
    simp
    omega
theorem len_push {p : Pc} {wd : Int} {h : List St} {bs u : List Int} {k : Nat} {qs : List Sp} (hq : qs.map Sp.st = pushK p wd bs u k 0 (restL stLess h)) : qs.length ≤ h.length + k := by
  have h1 := congrArg List.length hq
  rw [List.length_map] at h1
  have h2 := pushK_len (p := p) (wd := wd) (best := bs) (u := u) k 0 (restL stLess h)
  rw [restL_len] at h2
  omega
theorem intVals_snoc (vs : List Int) (z : Int) : intVals vs ++ [.int .i64 z] = intVals (vs ++ [z]) := by simp [intVals]

set_option maxHeartbeats 8000000 in
set_option maxRecDepth 20000 in
theorem iTry_any {w0 : World} {sb : Nat} {p : Pc} {l : Pl} {wd : Int} {w : World} {a : Option Addr} {c : Nat} {ps : List Sp} {ba : Option Addr} {bc : Nat} {bs : List Int} (h : Sr w0 sb p l wd w a c ps ba bc bs) (hF : PcFew p) (hcap : p.chunks.length ≤ l.c2) (hp : PcIn w0 p l) (h1 : Right p) (hne : ps.map Sp.st ≠ []) (hI : SInv p wd (ps.map Sp.st) bs) (hl0 : leftOf p (ps.map Sp.st) ≤ 2 * cntOf p - 1) :
    Calls Tryz.prog 75 #[.pointer (some ⟨sb, 0, none⟩)] w fun e w' => e = .returned (.tuple #[]) ∧ TryAns w0 sb p l wd w' (stepH p wd (ps.map Sp.st) bs) (stepB p wd (ps.map Sp.st) bs) := by
  have hlen := room_of h1 hl0
  rw [List.length_map] at hlen
  have hfew : Few ps := few_pre h1 hI.pre
  obtain ⟨f, hf⟩ : ∃ f, ps[0]? = some f := by
    cases ps with
    | nil => exact absurd rfl hne
    | cons x xs => exact ⟨x, rfl⟩
  have hps : 0 < ps.length := (List.getElem?_eq_some_iff.1 hf).1
  have hfs : (ps.map Sp.st)[0]? = some f.st := by rw [List.getElem?_map, hf]; rfl
  have hfm := List.mem_of_getElem? hfs
  have hpre := hI.pre f.st hfm
  have hmay := hI.may f.st hfm
  have hbl : bs.length ≤ 1048576 := by rw [hI.tie.vals.len]; have := h1.rules.1; omega
  obtain ⟨g, rfl⟩ := owns_at h.own.row hps
  have qP := pop_any (srOf p l wd ba bc bs) sb w0.heap.size g c (ps.length - 1) ps f w (by omega) (by omega) hf hfew h.own h.hv h.low h.wlow
  have hl := h.hv.lt
  have ER := hidOf (restL_map (lt := stLess) Sp.st ps)
  have EH := hidOf (hd0_of hfs)
  go_enter Tryz.func75, Tryz.ntmps75
  go_wp2_with fail
  refine qP.mono ?_
  rintro e w1 ⟨rfl, O1, H1, f1, B1, G1⟩
  have S1 : Sr w0 sb p l wd w1 (some ⟨g, 0, none⟩) c (restL spLess ps) ba bc bs := h.turn H1 (by rw [restL_len]) O1 B1 G1
  have hg1 : g < w1.heap.size := by
    have := (h.own.row.lt g rfl).2
    exact Nat.lt_of_lt_of_le this G1.size
  clear qP O1 H1 B1 G1
  go_upto_region 1 with fail
  obtain ⟨W2, hW2⟩ : ∃ W2, W2 = w1.alloc (.cells #[.slice f.a f.st.vals.length f.c, .int .i64 f.st.sum] 61) := ⟨_, rfl⟩
  rw [← hW2]
  have b2 : Below w1.heap.size w1 W2 := by rw [hW2]; exact (Below.refl _ _).alloc (Nat.le_refl _) _
  have R2 : W2.heap[w1.heap.size]? = some (.cells #[.slice f.a f.st.vals.length f.c, .int .i64 f.st.sum] 61 (0, 0)) := by rw [hW2]; exact heap_alloc_new w1 _
  have T2 : Tl w0 sb p l wd W2 (some ⟨g, 0, none⟩) c (restL spLess ps) ba bc bs w1.heap.size f := ⟨S1.more b2, R2, owns_below f1 b2, fun g' hg' e => by
    have : g = g' := by injection hg'
    omega⟩
  obtain ⟨tb, htb⟩ : ∃ tb, tb = w1.heap.size := ⟨_, rfl⟩
  rw [← htb] at T2
  rw [← htb]
  clear htb hW2 b2 R2 S1 f1 hg1 hl
  have t0 := cell_of_row W2 tb 0 _ _ _ T2.box
  have t1 := cell_of_row W2 tb 1 _ _ _ T2.box
  simp only [List.getElem?_toArray, List.getElem?_cons_zero, List.getElem?_cons_succ] at t0 t1
  obtain ⟨hl, c0, c1, c2, c3, c4, -, -, -, -⟩ := T2.sr.cells
  have htl := (Array.getElem?_eq_some_iff.1 T2.box).1
  by_cases hfull : f.st.vals.length = p.rules.length
  · have hg : ((f.st.vals.length : Int) == (p.rules.length : Int)) = true := by rw [hfull]; simp
    have qW := iWeigh_any f.a f.c f.st.vals T2.sr hF hcap hp h1 (ok_inV (pre_in hpre hfull)) hbl T2.own
    have EB := hidOf (show stepB p wd (ps.map Sp.st) bs = bestB p wd f.st.vals bs by unfold stepB bestB; rw [EH.out, if_pos hfull])
    have ES := hidOf (show stepH p wd (ps.map Sp.st) bs = restL stLess (ps.map Sp.st) by unfold stepH; rw [EH.out, if_pos hfull])
    clear hfull
    go_wp2_with fail
    refine qW.mono ?_
    rintro e w3 ⟨rfl, ba', bc', S3⟩
    have HE := hidOf S3
    clear qW c0 c1 c2 c3 c4 t0 t1 S3
    go_wp2
    ((try simp only [Exit.inBlock, Exit.then]); refine bodyPost_ret (results_none rfl _ _ _) rfl ?_)
    rw [EB.out, ES.out]
    exact ⟨rfl, _, c, _, ba', bc', HE.out, ER.out⟩
  · have hg : ((f.st.vals.length : Int) == (p.rules.length : Int)) = false := by rw [beq_eq_false_iff_ne]; omega
    have hlt : f.st.vals.length < p.rules.length := by have := hpre.1; omega
    have ES := hidOf (show stepH p wd (ps.map Sp.st) bs = pushK p wd bs f.st.vals (vOf p f.st.vals.length) 0 (restL stLess (ps.map Sp.st)) by unfold stepH; rw [EH.out, if_neg hfull])
    have EB := hidOf (show stepB p wd (ps.map Sp.st) bs = bs by unfold stepB; rw [EH.out, if_neg hfull])
    obtain ⟨r, er⟩ : ∃ r, p.rules[f.st.vals.length]? = some r := ⟨_, List.getElem?_eq_getElem hlt⟩
    have hv2 := (h1.rules.2 _ r er).1
    obtain ⟨nv, hnv⟩ : ∃ nv, nv = vOf p f.st.vals.length := ⟨_, rfl⟩
    have hnr : r.values = (nv : Int) := by rw [hnv]; unfold vOf; rw [er]; simp; omega
    have hnv3 : nv ≤ 3 := by omega
    obtain ⟨b1, o1, ea, hb1, hc1⟩ := (T2.sr.pc hp).rules (by omega)
    obtain ⟨p0, p1⟩ := ruC (hc1 _ r er)
    rw [hnr] at p0
    rw [ea] at c1
    rw [← hnv] at ES
    have ER2 := hidOf er
    have HNR := hidOf hnr
    obtain ⟨n, hn⟩ : ∃ n, n = f.st.vals.length := ⟨_, rfl⟩
    rw [← hn] at hg hlt p0 p1 t0
    have HN := hidOf hn
    have hA : (0 : Int) ≤ (n : Int) := by omega
    have hB : (n : Int) < (p.rules.length : Int) := by omega
    have HX := hidOf T2
    clear hfull er hc1 ea hnv hnr T2 hn
    go_wp2
    go_loopw [37] (fun v wr => ∃ (k : Nat) (a' : Option Addr) (c' : Nat) (qs : List Sp), k ≤ nv ∧ v = .int .i64 k ∧ Hid (Tl w0 sb p l wd wr a' c' qs ba bc bs tb f) ∧ Hid (qs.map Sp.st = pushK p wd bs f.st.vals k 0 (restL stLess (ps.map Sp.st)))) (fun v _ => nv - (intOf v).toNat)
    case atStart => exact ⟨0, _, c, _, Nat.zero_le _, rfl, HX, hidOf ER.out⟩
    case round =>
      clear HX c0 c1 c2 c3 c4 t0 t1 p0 p1 hl htl
      obtain ⟨k, a', c', qs, hk, rfl, HX, HQ⟩ := hrel
      have X := HX.out
      have t0 := cell_of_row wr tb 0 _ _ _ X.box
      have t1 := cell_of_row wr tb 1 _ _ _ X.box
      simp only [List.getElem?_toArray, List.getElem?_cons_zero, List.getElem?_cons_succ] at t0 t1
      have htl := (Array.getElem?_eq_some_iff.1 X.box).1
      by_cases hlt2 : k < nv
      · have hM : (k : Int) < (nv : Int) := by omega
        have qC := clone_any f.a f.c f.st.vals wr (by have := h1.rules.1; have := hpre.1; omega) (.of_own X.own)
        go_wp2_with fail
        refine qC.mono ?_
        rintro e w3 ⟨b3, a3, c3, rfl, o3⟩
        clear qC
        have X3 := X.more b3
        have hvl : f.st.vals.length ≤ 8 := by have := h1.rules.1; have := hpre.1; omega
        obtain ⟨i0, hi, hz0, hz1, hz2⟩ := info_parts infoIntT
        clear t0 t1
        go_wp2_with (first | (at_builtin; refine wpList_append_own _ rfl _ _ 29 rfl wr.heap.size 3 i0 (.int .i64 0) 1 8 Tryz.underlying29 hi hz0 hz1 hz2 rfl (by decide) _ _ _ rfl (o3.alloc _) ⟨w3.heap.size, 0, none⟩ 1 1 [.int .i64 (k : Int)] rfl rfl (cell_one_new w3 _ _) (by intro u hu; rw [List.mem_singleton] at hu; subst hu; rfl) (by unfold maxLen; omega) (by omega) (Nat.le_trans b3.size (by simp)) ?_; intro v4 w4 o4 g4 n4) | fail)
        obtain ⟨a4, c4, rfl⟩ := owns_slice o4
        have B4 : Below wr.heap.size wr w4 := (b3.alloc b3.size _).grown g4 (Nat.le_trans b3.size (by simp)) (fun q e => (o3.lt q e).1)
        have X4 := X.more B4
        have hl4 : (f.st.vals ++ [(k : Int)]).length = f.st.vals.length + 1 := by simp
        have hq4 : qs.length ≤ 1048576 := by
          have := len_push HQ.out
          rw [List.length_map] at this
          omega
        have o4' : w4.ownsRow wr.heap.size 3 1 (.slice a4 (f.st.vals ++ [(k : Int)]).length c4) (f.st.vals ++ [(k : Int)]).length (intVals (f.st.vals ++ [(k : Int)])) := by
          rw [hl4, ← intVals_snoc]
          exact o4
        have qO := iOffer_any a4 c4 (f.st.vals ++ [(k : Int)]) X4.sr hF hcap hp h1 (pre_add hpre ER2.out (by rw [HNR.out]; omega)) hq4 (few_push h1 hI.pre (by have := HN.out; omega) HQ.out) (ownsRow_base o4' X.sr.wlow) (fun q hq b hb hb2 => by
          have h5 := ((X.sr.own.each q hq).lt b hb).2
          have h6 := (o4'.lt b hb2).1
          omega)
        rw [hl4] at qO
        have EP := hidOf (show offH p wd bs (f.st.vals ++ [(k : Int)]) (qs.map Sp.st) = pushK p wd bs f.st.vals (k + 1) 0 (restL stLess (ps.map Sp.st)) by
          rw [HQ.out, pushK_snoc, Nat.zero_add]
          rfl)
        clear o4 o4' g4 n4 b3 o3 X3
        go_wp2_with fail
        refine qO.mono ?_
        rintro e w5 ⟨rfl, ho5⟩
        rw [EP.out] at ho5
        obtain ⟨a5, c5, rs, X5, E5⟩ := X4.offer ho5
        have HX5 := hidOf X5
        have HE5 := hidOf E5
        clear qO ho5 X5 E5 X4
        go_wp2
        go_roundw
        case rel => exact ⟨k + 1, a5, c5, rs, by omega, by go_num, HX5, HE5⟩
        case measure => simp [intOf]; omega
      · have hM : ¬ (k : Int) < (nv : Int) := by omega
        have hkn : k = nv := by omega
        have HZ := hidOf (show qs.map Sp.st = stepH p wd (ps.map Sp.st) bs by rw [ES.out, ← hkn]; exact HQ.out)
        clear hkn
        go_wp2
        go_end0
        rw [EB.out]
        exact ⟨rfl, a', c', qs, ba, bc, X.sr, HZ.out⟩
end Go.Proofs.YtghfpcjgionbaaaGreat
