/- Drawn lines and edits: spec.DrawLines, spec.l18Pair, spec.DrawDiffOf, spec.DrawApplyEdits, spec.DrawBackOf. -/
import Derived.Test.YtdlpepmdjbmmmaaDrLn
import Derived.Test.YtdlpepmdjbmmmaaDrawO
import Derived.Test.YtdlpepmdjbmmmaaDfS
namespace Go.Proofs.Ytdlpepmdjbmmmaa
open Go.RowKit

/-- Drawn lines in memory of their own. -/
def DLn (B M : Nat) (w : World) (v : Value) (ls : List ByteArray) : Prop := ls.length ≤ M ∧ (∀ x ∈ ls, x.size ≤ 1) ∧ w.ownsRow B 9 1 v ls.length (strVals ls)
theorem DLn.below {B M : Nat} {w w' : World} {v : Value} {ls : List ByteArray} (h : DLn B M w v ls) (hb : Below w.heap.size w w') : DLn B M w' v ls := ⟨h.1, h.2.1, owns_below h.2.2 hb⟩
theorem DLn.lns {B M : Nat} {w : World} {v : Value} {ls : List ByteArray} (h : DLn B M w v ls) : LnsAt w v ls := LnsAt.of_own h.2.2
theorem DLn.few {B M N : Nat} {w : World} {v : Value} {ls : List ByteArray} (h : DLn B M w v ls) (hN : M ≤ N) : DLn B N w v ls := ⟨Nat.le_trans h.1 hN, h.2⟩
theorem DLn.kept {B M : Nat} {w w' : World} {v : Value} {ls : List ByteArray} {blk : Nat} (h : DLn B M w v ls) (hg : w.grownBy w' (some blk)) (hB : blk < B) : DLn B M w' v ls := by
  refine ⟨h.1, h.2.1, World.ownsRow.kept h.2.2 hg ?_⟩
  cases hv : v.ownBlock with
  | none => exact .inl rfl
  | some g => right; intro e; have := (h.2.2.lt g hv).1; have := Option.some.inj e; omega
theorem DLn.base {B B' M : Nat} {w : World} {v : Value} {ls : List ByteArray} (h : DLn B M w v ls) (hB : B' ≤ B) : DLn B' M w v ls := ⟨h.1, h.2.1, ownsRow_base h.2.2 hB⟩
theorem DLn.of {B : Nat} {w : World} {v : Value} {ls : List ByteArray} (h1 : ls.length ≤ 8) (h2 : ∀ x ∈ ls, x ∈ lines18) (h3 : w.ownsRow B 9 1 v ls.length (strVals ls)) : DLn B 8 w v ls := ⟨h1, fun x hx => lines18_ok x (h2 x hx), h3⟩
/-- Two lists of drawn lines. -/
def LinesAns (M : Nat) (w : World) (e : Ending) (w' : World) : Prop :=
  ∃ (va vb : Value) (xs ys : List ByteArray), e = .returned (.tuple #[va, vb]) ∧ DLn w.heap.size 8 w' va xs ∧ DLn w.heap.size M w' vb ys ∧ Below w.heap.size w w'

set_option maxHeartbeats 1600000 in
theorem drawLines_any (base : Nat) (w : World) (a : Option Addr) (len cap : Nat) (hc : CodeAt base w a len) (hb : base ≤ w.heap.size) :
    Calls Try.prog 10 #[.slice a len cap] w fun e w' => LinesAns 8 w e w' := by
  have HC := hidOf hc
  clear hc
  go_enter Try.func10, Try.ntmps10
  go_wp2_with fail
  refine (new_any base _ a len cap HC.out hb).mono ?_
  rintro e w1 ⟨blk, rfl, hbk, hc1, hb1⟩
  have hbl := hc1.lt
  have hs1 := hb1.size
  have H1 := hidOf (And.intro hc1 hb1)
  clear hc1 hb1
  go_wp2_with fail
  refine (lns18_any base _ blk a len cap H1.out.1).mono ?_
  rintro e w2 ⟨v, xs, h1, h2, rfl, h3, hc2, hg2⟩
  have hs2 := hg2.size
  have HX : Hid (DLn w1.heap.size 8 w2 v xs) := hidOf (DLn.of h1 h2 h3)
  have H2 : Hid (Cur base w2 blk a len cap ∧ Below w.heap.size w w2) := ⟨hc2, H1.out.2.grown hg2 hs1 (fun k hk => by cases hk; exact hbk)⟩
  clear hc2 hg2 h1 h2 h3 H1
  go_wp2_with fail
  refine (lns18_any base _ blk a len cap H2.out.1).mono ?_
  rintro e w3 ⟨v2, ys, h1, h2, rfl, h3, hc3, hg3⟩
  have HE : Hid (DLn w.heap.size 8 w3 v xs ∧ DLn w.heap.size 8 w3 v2 ys ∧ Below w.heap.size w w3) := ⟨(HX.out.kept hg3 hbl).base hs1, (DLn.of h1 h2 h3).base (by omega), H2.out.2.grown hg3 (by omega) (fun k hk => by cases hk; exact hbk)⟩
  clear hc3 hg3 h1 h2 h3 H2 HX
  go_wp2
  go_ret2
  exact ⟨v, v2, xs, ys, rfl, HE.out.1, HE.out.2.1, HE.out.2.2⟩

theorem made_strs (N : Nat) : (madeCells (Value.string ByteArray.empty).cells (N * 1)).toList = strVals (List.replicate N ByteArray.empty) := by
  apply List.ext_getElem?
  intro j
  simp [madeCells, strVals, Value.cells, Nat.mod_one]
  by_cases h : j < N
  · simp [h]
  · simp [h]
set_option maxHeartbeats 1600000 in
theorem pair_any (base : Nat) (w : World) (a : Option Addr) (len cap : Nat) (hc : CodeAt base w a len) (hb : base ≤ w.heap.size) :
    Calls Try.prog 45 #[.slice a len cap] w fun e w' => LinesAns 201 w e w' := by
  obtain ⟨i0, hi, hz0, hz1, hz2⟩ := info_parts infoStrDl
  have HC := hidOf hc
  clear hc
  go_enter Try.func45, Try.ntmps45
  go_wp2_with fail
  refine (new_any base _ a len cap HC.out hb).mono ?_
  rintro e w1 ⟨blk, rfl, hbk, hc1, hb1⟩
  have hbl := hc1.lt
  have hs1 := hb1.size
  have H1 := hidOf (And.intro hc1 hb1)
  clear hc1 hb1
  go_wp2_with fail
  refine (lns18_any base _ blk a len cap H1.out.1).mono ?_
  rintro e w2 ⟨v, xs, h1, h2, rfl, h3, hc2, hg2⟩
  have hs2 := hg2.size
  have HX : Hid (DLn w1.heap.size 8 w2 v xs) := hidOf (DLn.of h1 h2 h3)
  have H2 : Hid (Cur base w2 blk a len cap ∧ Below w.heap.size w w2) := ⟨hc2, H1.out.2.grown hg2 hs1 (fun k hk => by cases hk; exact hbk)⟩
  clear hc2 hg2 h1 h2 h3 H1
  go_wp2_with fail
  refine (lns18_any base _ blk a len cap H2.out.1).mono ?_
  rintro e w3 ⟨v2, ys, h1, h2, rfl, h3, hc3, hg3⟩
  have hs3 := hg3.size
  have H3 : Hid (DLn w1.heap.size 8 w3 v xs ∧ DLn w1.heap.size 8 w3 v2 ys ∧ Cur base w3 blk a len cap ∧ Below w.heap.size w w3) := ⟨HX.out.kept hg3 hbl, (DLn.of h1 h2 h3).base hs2, hc3, H2.out.2.grown hg3 (by omega) (fun k hk => by cases hk; exact hbk)⟩
  clear hc3 hg3 h1 h2 h3 H2 HX
  go_wp2_with fail
  refine (once_any base _ blk a len cap 12 H3.out.2.2.1 (by omega) (by omega)).mono ?_
  rintro e w4 ⟨q, rfl, hc4, hg4⟩
  have hs4 := hg4.size
  have H4 : Hid (DLn w1.heap.size 8 w4 v xs ∧ DLn w1.heap.size 8 w4 v2 ys ∧ Cur base w4 blk a len cap ∧ Below w.heap.size w w4) := ⟨H3.out.1.kept hg4 hbl, H3.out.2.1.kept hg4 hbl, hc4, H3.out.2.2.2.grown hg4 (by omega) (fun k hk => by cases hk; exact hbk)⟩
  clear hc4 hg4 H3
  cases q
  · go_wp2
    go_ret2
    exact ⟨v, v2, xs, ys, rfl, H4.out.1.base hs1, (H4.out.2.1.base hs1).few (by decide), H4.out.2.2.2⟩
  · go_wp2_with fail
    refine (below_any base _ blk a len cap 2 H4.out.2.2.1 (by omega) (by omega)).mono ?_
    rintro e w5 ⟨x, hx, rfl, hc5, hg5⟩
    have hs5 := hg5.size
    have H5 : Hid (DLn w1.heap.size 8 w5 v xs ∧ Below w.heap.size w w5) := ⟨H4.out.1.kept hg5 hbl, H4.out.2.2.2.grown hg5 (by omega) (fun k hk => by cases hk; exact hbk)⟩
    clear hc5 hg5 H4
    go_wp2_with (at_make; refine wpList_make_full _ rfl _ _ 24 rfl w5.heap.size 9 i0 (.string ByteArray.empty) 1 Try.underlying24 hi hz0 hz1 .i64 .i64 _ _ (200 + x) rfl rfl (by omega) (by omega) (by rw [hz2]; omega) (by unfold maxLen; omega) (Nat.le_refl _) ?_; intro w6 hown6 hgrow6)
    rw [made_strs] at hown6
    have H6 : Hid (DLn w.heap.size 8 w6 v xs ∧ DLn w.heap.size 201 w6 (.slice (some ⟨w5.heap.size, 0, none⟩) (200 + x) (200 + x)) (List.replicate (200 + x) ByteArray.empty) ∧ Below w.heap.size w w6) := by
      refine ⟨⟨H5.out.1.1, H5.out.1.2.1, World.ownsRow.kept (ownsRow_base H5.out.1.2.2 hs1) hgrow6 ?_⟩, ⟨by simp; omega, fun y hy => ?_, by rw [List.length_replicate]; exact ownsRow_base hown6 (by omega)⟩, H5.out.2.grown hgrow6 (by omega) (fun k e => by cases e)⟩
      · cases v.ownBlock <;> simp
      · rw [List.eq_of_mem_replicate hy]; decide
    clear hown6 hgrow6 H5
    go_wp2
    go_ret2
    exact ⟨v, _, xs, _, rfl, H6.out.1, H6.out.2.1, H6.out.2.2⟩
set_option maxHeartbeats 1600000 in
theorem drawDiff_any (base : Nat) (w : World) (a : Option Addr) (len cap : Nat) (hc : CodeAt base w a len) (hb : base ≤ w.heap.size) :
    Calls Try.prog 15 #[.slice a len cap] w fun e w' => LinesAns 201 w e w' := by
  have q := pair_any base w a len cap hc hb
  clear hc
  go_enter Try.func15, Try.ntmps15
  go_wp2_with fail
  refine q.mono ?_
  rintro e w1 ⟨va, vb, xs, ys, rfl, h⟩
  go_wp2
  go_ret2
  exact ⟨va, vb, xs, ys, rfl, h⟩
/-- Drawn edits in memory of their own. -/
def DEd (B : Nat) (w : World) (v : Value) (es : List Ed) : Prop := es.length ≤ 401 ∧ (∀ e ∈ es, e.line.size ≤ 1) ∧ w.ownsRow B 55 2 v es.length (edVals es)
theorem DEd.below {B : Nat} {w w' : World} {v : Value} {es : List Ed} (h : DEd B w v es) (hb : Below w.heap.size w w') : DEd B w' v es := ⟨h.1, h.2.1, owns_below h.2.2 hb⟩
theorem DEd.at {B : Nat} {w : World} {v : Value} {es : List Ed} (h : DEd B w v es) : EdsAt w v es := EdsAt.of_own h.2.2
theorem DEd.size {B : Nat} {w : World} {v : Value} {es : List Ed} (h : DEd B w v es) : ∀ (j : Nat) (x : Ed), es[j]? = some x → x.line.size ≤ 4194304 := fun j x hx => Nat.le_trans (h.2.1 x (List.mem_of_getElem? hx)) (by decide)
def EditsAns (w : World) (e : Ending) (w' : World) : Prop :=
  ∃ (va ve : Value) (xs : List ByteArray) (es : List Ed), e = .returned (.tuple #[va, ve]) ∧ DLn w.heap.size 8 w' va xs ∧ DEd w.heap.size w' ve es ∧ Below w.heap.size w w'
theorem ed_kind {es : List Ed} {x : Ed} (k : Int) (h : es[0]? = some x) : (edVals es).set 0 (.int .i64 k) = edVals (es.set 0 ⟨k, x.line⟩) := by
  cases es with
  | nil => simp at h
  | cons y es =>
    obtain rfl : y = x := by simpa using h
    rfl

set_option maxHeartbeats 4000000 in
theorem drawApply_any (base : Nat) (w : World) (a : Option Addr) (len cap : Nat) (hc : CodeAt base w a len) (hb : base ≤ w.heap.size) :
    Calls Try.prog 16 #[.slice a len cap] w fun e w' => EditsAns w e w' := by
  obtain ⟨i0, hi, hz0, hz1, hz2⟩ := info_parts infoEd.2
  have HC := hidOf hc
  clear hc
  go_enter Try.func16, Try.ntmps16
  go_wp2_with fail
  refine (new_any base _ a len cap HC.out hb).mono ?_
  rintro e w1 ⟨blk, rfl, hbk, hc1, hb1⟩
  have hbl := hc1.lt
  have hs1 := hb1.size
  have H1 := hidOf (And.intro hc1 hb1)
  clear hc1 hb1
  go_wp2_with fail
  refine (below_any base _ blk a len cap 5 H1.out.1 (by omega) (by omega)).mono ?_
  rintro e w2 ⟨k, hk, rfl, hc2, hg2⟩
  have hs2 := hg2.size
  have H2 : Hid (Cur base w2 blk a len cap ∧ Below w.heap.size w w2) := ⟨hc2, H1.out.2.grown hg2 hs1 (fun k hk => by cases hk; exact hbk)⟩
  clear hc2 hg2 H1
  go_wp2_with fail
  refine (pair_any base w2 a len cap (HC.out.below (H2.out.2.mono hb)) (by omega)).mono ?_
  rintro e w3 ⟨va, vb, xs, ys, rfl, dx, dy, hb3⟩
  have hs3 := hb3.size
  have hcur : Cur base w3 blk a len cap := H2.out.1.kept (grownBy_of_below hb3 none) (fun k hk => by cases hk)
  have H3 : Hid (Cur base w3 blk a len cap ∧ Below w.heap.size w w3) := ⟨hcur, H2.out.2.trans (hb3.mono (by omega))⟩
  have HVA := hidOf (fun q (hq : va.ownBlock = some q) => (dx.2.2.lt q hq).2)
  have HX := hidOf dx
  have HY := hidOf dy
  clear H2 dx dy hb3 hcur
  go_wp2_with fail
  refine (sDiff_any va vb xs ys w3 (by have := HX.out.1; omega) (by have := HY.out.1; omega) HX.out.lns HY.out.lns).mono ?_
  rintro e w4 ⟨hb4, ve, rfl, ho4⟩
  have hs4 := hb4.size
  have hm4 := dfOf_mem xs ys HX.out.2.1 HY.out.2.1
  have hl4 := dfOf_len xs ys
  obtain ⟨es, hes⟩ : ∃ es, es = dfOf xs ys := ⟨_, rfl⟩
  rw [← hes] at hm4 hl4 ho4
  have hcur : Cur base w4 blk a len cap := H3.out.1.kept (grownBy_of_below hb4 none) (fun k hk => by cases hk)
  have H4 : Hid (Cur base w4 blk a len cap ∧ Below w.heap.size w w4) := ⟨hcur, H3.out.2.trans (hb4.mono (by omega))⟩
  have HX4 := hidOf (HX.out.below hb4)
  have HM := hidOf hm4
  clear H3 hb4 hcur HX HY hes hm4
  obtain ⟨ea, ec, rfl⟩ := owns_slice ho4
  obtain ⟨N, hN⟩ : ∃ N, N = es.length := ⟨_, rfl⟩
  rw [← hN] at ho4 hl4
  rw [← hN]
  have HN := hidOf hN
  clear hN
  by_cases hk0 : k = 0
  · subst hk0
    by_cases hN0 : 0 < N
    · have hA : (0 : Int) < (N : Int) := by omega
      go_wp2_with fail
      refine (below_any base _ blk a len cap 5 H4.out.1 (by omega) (by omega)).mono ?_
      rintro e w5 ⟨z, hz, rfl, hc5, hg5⟩
      have hs5 := hg5.size
      obtain ⟨g, rfl⟩ := owns_at ho4 hN0
      have hgl := (ho4.lt g rfl).1
      have ho5 := World.ownsRow.kept ho4 hg5 (.inr (fun e => by simp [Value.ownBlock] at e; omega))
      obtain ⟨x, ex⟩ : ∃ x, es[0]? = some x := ⟨_, List.getElem?_eq_getElem (by rw [← HN.out]; exact hN0)⟩
      have c0 : w5.cell? ⟨g, 0, none⟩ = some (.int .i64 x.kind) := by
        rw [ho5.cellAt 0 (by omega)]
        exact edVals_at es 0 x ex 0 (by omega)
      have f0 := ho5.frozenAt 0
      have st := ho5.stored 0 (.int .i64 (z : Int))
      rw [ed_kind (z : Int) ex] at st
      have hb5 : Below w.heap.size w w5 := H4.out.2.grown hg5 (by omega) (fun k hk => by cases hk; exact hbk)
      have HX5 : Hid (DLn w.heap.size 8 (w5.setCell ⟨g, 0, none⟩ (.int .i64 (z : Int))) va xs) := by
        have d5 := HX4.out.kept hg5 (by omega)
        refine hidOf ⟨d5.1, d5.2.1, ownsRow_base (World.ownsRow.kept d5.2.2 st.2 ?_) (by omega)⟩
        cases hv : va.ownBlock with
        | none => exact .inl rfl
        | some q => right; intro e; have e := Option.some.inj e; have := HVA.out q hv; omega
      have HE5 : Hid (DEd w.heap.size (w5.setCell ⟨g, 0, none⟩ (.int .i64 (z : Int))) (.slice (some ⟨g, 0, none⟩) N ec) (es.set 0 ⟨(z : Int), x.line⟩)) := by
        refine hidOf ⟨by rw [List.length_set, ← HN.out]; omega, fun y hy => ?_, by rw [List.length_set, ← HN.out]; exact ownsRow_base st.1 (by omega)⟩
        rcases List.mem_or_eq_of_mem_set hy with h | h
        · exact HM.out y h
        · rw [h]; exact HM.out x (List.mem_of_getElem? ex)
      have HB5 : Hid (Below w.heap.size w (w5.setCell ⟨g, 0, none⟩ (.int .i64 (z : Int)))) := hidOf (hb5.grown st.2 (by omega) (fun k hk => by cases hk; omega))
      clear st ho4 ho5 hc5 hg5 hb5 ex
      go_wp2
      go_ret2
      exact ⟨va, _, xs, _, rfl, HX5.out, HE5.out, HB5.out⟩
    · have hA : ¬ (0 : Int) < (N : Int) := by omega
      have HE5 : Hid (DEd w.heap.size w4 (.slice ea N ec) es) := hidOf ⟨by rw [← HN.out]; omega, HM.out, by rw [← HN.out]; exact ownsRow_base ho4 (by omega)⟩
      clear ho4
      go_wp2
      go_ret2
      exact ⟨va, _, xs, es, rfl, HX4.out.base (by omega), HE5.out, H4.out.2⟩
  · have hk0' : ((k : Int) == 0) = false := by rw [beq_eq_false_iff_ne]; omega
    by_cases hk1 : k = 1
    · subst hk1
      clear hk0 hk0'
      go_wp2_with (at_builtin; refine wpList_append_own2 rfl _ _ 27 rfl w3.heap.size 55 i0 _ 2 24 Try.underlying27 hi hz0 hz1 hz2 rfl (by decide) _ _ _ rfl (ho4.alloc _) ⟨w4.heap.size, 0, none⟩ 1 1 [.int .i64 1, .string ⟨#[97]⟩] rfl rfl (cell_two_new w4 _ _ _) (fun x hx => by simp at hx; rcases hx with rfl | rfl <;> rfl) (by unfold maxLen; omega) (by omega) (by simp; omega) ?_; intro v' w5 hown5 hgrow5 hpl5)
      have HX5 : Hid (DLn w.heap.size 8 w5 va xs) := by
        have d5 := HX4.out.below (alloc_bel w4 (.cells #[.int .i64 1, .string ⟨#[97]⟩] 55))
        refine hidOf ⟨d5.1, d5.2.1, ownsRow_base (World.ownsRow.kept d5.2.2 hgrow5 ?_) (by omega)⟩
        cases hv : va.ownBlock with
        | none => exact .inl rfl
        | some q => right; intro e; have := (ho4.lt q e.symm).1; have := HVA.out q hv; omega
      have HE5 : Hid (DEd w.heap.size w5 v' (es ++ [⟨1, ⟨#[97]⟩⟩])) := by
        refine hidOf ⟨by simp [← HN.out]; omega, fun y hy => ?_, by rw [edVals_app, edVals_one, List.length_append, ← HN.out]; exact ownsRow_base hown5 (by omega)⟩
        rcases List.mem_append.1 hy with h | h
        · exact HM.out y h
        · simp at h; rw [h]; decide
      have HB5 : Hid (Below w.heap.size w w5) := hidOf ((H4.out.2.alloc (by omega) _).grown hgrow5 (by simp; omega) (fun k hk => by have := (ho4.lt k hk).1; omega))
      clear ho4 hown5 hgrow5 hpl5
      go_wp2
      go_ret2
      exact ⟨va, _, xs, _, rfl, HX5.out, HE5.out, HB5.out⟩
    · have hk1' : ((k : Int) == 1) = false := by rw [beq_eq_false_iff_ne]; omega
      have HE5 : Hid (DEd w.heap.size w4 (.slice ea N ec) es) := hidOf ⟨by rw [← HN.out]; omega, HM.out, by rw [← HN.out]; exact ownsRow_base ho4 (by omega)⟩
      clear ho4
      go_wp2
      go_ret2
      exact ⟨va, _, xs, es, rfl, HX4.out.base (by omega), HE5.out, H4.out.2⟩
set_option maxHeartbeats 1600000 in
theorem drawBack_any (base : Nat) (w : World) (a : Option Addr) (len cap : Nat) (hc : CodeAt base w a len) (hb : base ≤ w.heap.size) :
    Calls Try.prog 18 #[.slice a len cap] w fun e w' => ∃ ve es, e = .returned ve ∧ DEd w.heap.size w' ve es ∧ Below w.heap.size w w' := by
  have q := drawApply_any base w a len cap hc hb
  clear hc
  go_enter Try.func18, Try.ntmps18
  go_wp2_with fail
  refine q.mono ?_
  rintro e w1 ⟨va, ve, xs, es, rfl, -, h⟩
  go_wp2
  go_ret
  exact ⟨ve, es, rfl, h⟩
end Go.Proofs.Ytdlpepmdjbmmmaa
