/- What Search answers, on both sides, whatever comes. -/
import Derived.Test.YtgaejcljabhijaaSeS
import Derived.Test.YtgaejcljabhijaaProg
import Derived.Test.YtgaejcljabhijaaBoxPc
import Derived.Test.YtgaejcljabhijaaKaj
import Derived.Test.YtgaejcljabhijaaKah
import Derived.BigQuiet
import Derived.Deep.QuietTactic
import Derived.Laws.OwnMore
namespace Go.Proofs.Ytgaejcljabhijaa
open Go.RowKit

theorem none_own (w0 w : World) (h : w0.heap.size ≤ w.heap.size) : (w.alloc (.cells #[] 3)).ownsRow w0.heap.size 3 1 (.slice (some ⟨w.heap.size, 0, none⟩) 0 0) 0 [] :=
  ⟨rfl, .inr ⟨w.heap.size, 0, #[], rfl, h, heap_alloc_new w _, Nat.le_refl _, by unfold maxLen; omega, rfl, rfl⟩⟩

set_option maxHeartbeats 4000000 in
theorem sSearch_no (p : Pc) (l : Pl) (wd bud : Int) (w : World) (hF : PcFew p) (hp : PcIn w p l) (h1 : ¬ Right p) :
    Calls Try.prog 16 #[pcV p l, .int .i64 wd, .int .i64 bud] w fun e w' => SeAns ([], 0) w e w' := by
  show Calls _ _ #[.agg #[.int .i64 p.indent, .slice l.a1 p.rules.length l.c1, .slice l.a2 p.chunks.length l.c2, .slice l.a3 p.spans.length l.c3, .slice l.a4 p.ties.length l.c4], _, _] _ _
  obtain ⟨W0, hW0, X0, B0, S0⟩ := boxed w p l 29
  have qO := sOk_any p l W0 hF (hp.below B0 (Nat.le_refl _))
  unfold pcV at qO
  clear S0
  obtain ⟨-, c0, c1, c2, c3, c4⟩ := X0
  go_enter Try.func16, Try.ntmps16
  go_wp2_with fail
  rw [← hW0]
  clear hW0
  refine qO.mono ?_
  rintro e w1 hq
  obtain ⟨rfl, b1⟩ := hq.no h1
  have B1 := B0.trans (b1.mono B0.size)
  clear hq qO c0 c1 c2 c3 c4
  go_wp2
  go_ret2
  exact ⟨B1.alloc B1.size _, _, 0, rfl, none_own w w1 B1.size⟩

set_option maxHeartbeats 4000000 in
theorem iTold_no (p : Pc) (l : Pl) (wd bud : Int) (w : World) (hF : PcFew p) (hp : PcIn w p l) (h1 : ¬ Right p) :
    Calls Try.prog 34 #[pcV p l, .int .i64 wd, .int .i64 bud, .func (.func 35) #[] #[]] w fun e w' => SeAns ([], 0) w e w' := by
  show Calls _ _ #[.agg #[.int .i64 p.indent, .slice l.a1 p.rules.length l.c1, .slice l.a2 p.chunks.length l.c2, .slice l.a3 p.spans.length l.c3, .slice l.a4 p.ties.length l.c4], _, _, _] _ _
  obtain ⟨W0, hW0, X0, B0, S0⟩ := boxed w p l 29
  have qO := iOk_any p l W0 hF (hp.below B0 (Nat.le_refl _))
  unfold pcV at qO
  clear S0
  obtain ⟨-, c0, c1, c2, c3, c4⟩ := X0
  go_enter Try.func34, Try.ntmps34
  go_wp2
  rw [← hW0]
  clear hW0
  go_step3
  go_wp2_with fail
  refine qO.mono ?_
  rintro e w1 hq
  obtain ⟨rfl, b1⟩ := hq.no h1
  have B1 := B0.trans (b1.mono B0.size)
  clear hq qO c0 c1 c2 c3 c4
  go_wp2
  rw [Exit.noGoto_ret]
  go_ret2
  exact ⟨B1.alloc B1.size _, _, 0, rfl, none_own w w1 B1.size⟩

theorem iSearch_no (p : Pc) (l : Pl) (wd bud : Int) (w : World) (hF : PcFew p) (hp : PcIn w p l) (h1 : ¬ Right p) :
    Calls Try.prog 9 #[pcV p l, .int .i64 wd, .int .i64 bud] w fun e w' => SeAns ([], 0) w e w' := iSearch_of p l wd bud w _ hp (fun W hP => iTold_no p l wd bud W hF hP h1)

/-- Both sides' answer, whatever comes. -/
theorem search_key (p : Pc) (wd bud : Int) (hbd : -9223372036854775808 ≤ bud ∧ bud ≤ 9223372036854775807) (hF : PcFew p) : ∃ (ks : List Int) (s : Int), ks.length ≤ 8 ∧
    (∀ (l : Pl) (w : World), PcIn w p l → Calls Try.prog 16 #[pcV p l, .int .i64 wd, .int .i64 bud] w fun e w' => SeAns (ks, s) w e w') ∧
    (∀ (l : Pl) (w : World), p.chunks.length ≤ l.c2 → PcIn w p l → Calls Try.prog 9 #[pcV p l, .int .i64 wd, .int .i64 bud] w fun e w' => SeAns (ks, s) w e w') := by
  by_cases h1 : Right p
  · refine ⟨(srchOf p wd bud (allV p)).1, (srchOf p wd bud (allV p)).2, ?_, fun l w hp => sSearch_yes p l wd bud w hbd hF hp h1, fun l w hc hp => iSearch_yes p l wd bud w hbd hF hc hp h1⟩
    rw [(srchOf_some h1 (allR_ties h1)).1.vals.len]
    exact h1.rules.1
  · exact ⟨[], 0, by simp, fun l w hp => sSearch_no p l wd bud w hF hp h1, fun l w _ hp => iSearch_no p l wd bud w hF hp h1⟩
end Go.Proofs.Ytgaejcljabhijaa
/- Pieces and costs in variables of a law, and small facts beside them. -/
namespace Go.Proofs.Ytgaejcljabhijaa
open Go.RowKit

/-- A cost in a variable. -/
structure Cb (w : World) (b : Nat) (o s : Int) : Prop where
  lt : b < w.heap.size
  c0 : w.cell? ⟨b, 0, none⟩ = some (.int .i64 o)
  c1 : w.cell? ⟨b, 1, none⟩ = some (.int .i64 s)
theorem Cb.below {w w' : World} {b : Nat} {o s : Int} (h : Cb w b o s) (hb : Below w.heap.size w w') : Cb w' b o s :=
  ⟨Nat.lt_of_lt_of_le h.lt hb.size, by rw [hb.cell h.lt]; exact h.c0, by rw [hb.cell h.lt]; exact h.c1⟩
theorem cb_new (w : World) (o s : Int) (t : Nat) : ∃ W, W = w.alloc (.cells #[.int .i64 o, .int .i64 s] t) ∧ Cb W w.heap.size o s ∧ Below w.heap.size w W ∧ W.heap.size = w.heap.size + 1 := by
  refine ⟨_, rfl, ⟨by simp, ?_, ?_⟩, (Below.refl _ _).alloc (Nat.le_refl _) _, by simp⟩
  all_goals simp
/-- A piece in a variable. -/
structure Pb (w : World) (b : Nat) (p : Pc) (l : Pl) : Prop where
  box : BoxAt w b p l
  inn : PcIn w p l
theorem Pb.below {w w' : World} {b : Nat} {p : Pc} {l : Pl} (h : Pb w b p l) (hb : Below w.heap.size w w') : Pb w' b p l := ⟨h.box.below hb h.box.lt, h.inn.below hb (Nat.le_refl _)⟩
theorem capOf {w : World} {b e s n c : Nat} {a : Option Addr} {xs : List Value} (h : w.ownsRow b e s (.slice a n c) n xs) : n ≤ c := by
  rcases h.2 with ⟨e, h0⟩ | ⟨g, cap, cur, e, -, -, hc, -⟩
  · omega
  · cases e
    exact hc
theorem coEql (o s : Int) (w : World) : (binOp .eql 37 (.agg #[.int .i64 o, .int .i64 s]) (.agg #[.int .i64 o, .int .i64 s])).run Try.prog w = .ok (.bool true) w := by
  have u3 := Try.underlying3
  have a3 := Try.isAgg3
  have z3 := Try.sizeOf3
  have hS : Try.prog.underlying 37 = some (.struct (Try.prog.fieldsOf 37)) := by kernel_rfl
  have hp : Try.prog.stoodInHeld 37 = false := by kernel_rfl
  rw [run_eql_struct, show (10000 : Nat) = 9999 + 1 from rfl, run_equalIn_agg w 9999 37 _ _ hS hp]
  simp only [Program.fieldsOf, Try.underlying37]
  go_simp
end Go.Proofs.Ytgaejcljabhijaa
/- What impl.countUp and spec.l10Next do: values are counted on by one, in place. -/
namespace Go.Proofs.Ytgaejcljabhijaa
open Go.RowKit

/-- The values behind the count: the next ones, or all 0. -/
def after (rs : List Ru) (vs : List Int) : List Int := (nx rs vs).getD (List.replicate vs.length 0)
theorem after_some {rs : List Ru} {vs u : List Int} (h : nx rs vs = some u) : after rs vs = u := by unfold after; rw [h]; rfl
theorem after_none {rs : List Ru} {vs : List Int} (h : nx rs vs = none) : after rs vs = List.replicate vs.length 0 := by unfold after; rw [h]; rfl
/-- Values of which the places from k on are 0. -/
def midV (vs : List Int) (k : Nat) : List Int := vs.take k ++ List.replicate (vs.length - k) 0
theorem midV_all (vs : List Int) : midV vs vs.length = vs := by unfold midV; simp
theorem midV_none (vs : List Int) : midV vs 0 = List.replicate vs.length 0 := by unfold midV; simp
theorem midV_len {vs : List Int} {k : Nat} (h : k ≤ vs.length) : (midV vs k).length = vs.length := by unfold midV; rw [List.length_append, List.length_take, List.length_replicate]; omega
theorem midV_at {vs : List Int} {j : Nat} {z : Int} (hz : vs[j]? = some z) (rest : List Value) : (intVals (midV vs (j + 1)) ++ rest)[j]? = some (.int .i64 z) := by
  have hj := (List.getElem?_eq_some_iff.1 hz).1
  rw [List.getElem?_append_left (by rw [intVals_len, midV_len (by omega)]; exact hj)]
  unfold midV intVals
  rw [List.getElem?_map, List.getElem?_append_left (by rw [List.length_take]; omega), List.getElem?_take_of_lt (by omega), hz]
  rfl
theorem midV_put {vs : List Int} {j : Nat} {z : Int} (hz : vs[j]? = some z) (x : Int) (rest : List Value) : (intVals (midV vs (j + 1)) ++ rest).set j (.int .i64 x) = intVals (vs.take j ++ x :: List.replicate (vs.length - (j + 1)) 0) ++ rest := by
  have hj := (List.getElem?_eq_some_iff.1 hz).1
  unfold midV intVals
  rw [List.take_add_one, hz, List.set_append_left _ _ (by simp; omega), List.map_append, List.map_append, List.set_append_left _ _ (by simp; omega), List.set_append_right _ _ (by simp; omega)]
  simp only [Option.toList_some, List.map_cons, List.map_nil, List.length_map, List.length_take]
  rw [show j - min j vs.length = 0 by omega]
  simp
theorem midV_down {vs : List Int} {j : Nat} (h : j < vs.length) : vs.take j ++ (0 : Int) :: List.replicate (vs.length - (j + 1)) 0 = midV vs j := by
  unfold midV
  rw [show vs.length - j = (vs.length - (j + 1)) + 1 by omega, List.replicate_succ]

/-- What it tells, and what the row holds then. -/
def CuAns (rs : List Ru) (vs : List Int) (rest : List Value) (base e b m cap : Nat) (w : World) (x : Ending) (w' : World) : Prop :=
  x = .returned (.bool (nx rs vs).isSome) ∧ w'.ownsRow base e 1 (.slice (some ⟨b, 0, none⟩) m cap) m (intVals (after rs vs) ++ rest) ∧ w.grownBy w' (some b)

set_option maxHeartbeats 4000000 in
set_option maxRecDepth 20000 in
theorem iCu_any (rs : List Ru) (a1 : Option Addr) (c1 : Nat) (vs : List Int) (rest : List Value) (base e b m cap cv : Nat) (w : World) (hn0 : vs.length ≤ 1048576) (hI : InV rs vs) (hV : NoLeast rs) (hR : RowsAt 2 ruCells w a1 rs) (hne : 0 < rs.length → ∀ g o, a1 = some ⟨g, o, none⟩ → g ≠ b)
    (ho : w.ownsRow base e 1 (.slice (some ⟨b, 0, none⟩) m cap) m (intVals vs ++ rest)) :
    Calls Try.prog 66 #[.slice a1 rs.length c1, .slice (some ⟨b, 0, none⟩) vs.length cv] w fun x w' => CuAns rs vs rest base e b m cap w x w' := by
  obtain ⟨n, hn⟩ : ∃ n, n = vs.length := ⟨_, rfl⟩
  have hrl := inV_len _ _ hI
  have HI := hidOf hI
  have HV := hidOf hV
  have HN := hidOf hn
  have HM := hidOf (show intVals vs ++ rest = intVals (midV vs n) ++ rest by rw [hn, midV_all])
  have H0 := hidOf (nx_end rs vs)
  rw [← hrl, ← hn]
  rw [← hn] at hn0
  have HL := hidOf hrl
  have HNE := hidOf hne
  clear hI hV hn hrl hne
  unfold RowsAt at hR
  go_enter Try.func66, Try.ntmps66
  go_wp2
  go_loopw [5] (fun i wr => ∃ (k : Nat) (d : Int), k ≤ n ∧ i = .int .i64 d ∧ d = (k : Int) - 1 ∧ Hid (nx (rs.drop k) (vs.drop k) = none) ∧ wr.ownsRow base e 1 (.slice (some ⟨b, 0, none⟩) m cap) m (intVals (midV vs k) ++ rest) ∧ w.grownBy wr (some b)) (fun i _ => (intOf i + 1).toNat)
  case atStart => exact ⟨n, _, Nat.le_refl _, rfl, by go_num, hidOf (by rw [HN.out]; exact H0.out), by rw [← HM.out]; exact ho, World.grownBy.refl _ _⟩
  case round =>
    clear ho HM
    obtain ⟨k, d, hk, rfl, hd, HX, ho, hg⟩ := hrel
    cases k with
    | zero =>
      have hd1 : d = -1 := by omega
      subst hd1
      have HX0 : Hid (nx rs vs = none) := hidOf (by have := HX.out; simpa using this)
      rw [midV_none, ← after_none HX0.out] at ho
      clear hd
      go_wp2
      go_ret
      exact ⟨by rw [HX0.out]; rfl, ho, hg⟩
    | succ j =>
      have hdj : d = (j : Int) := by omega
      subst hdj
      clear hd
      have hjn : j < n := by omega
      obtain ⟨z, ez⟩ : ∃ z, vs[j]? = some z := ⟨_, List.getElem?_eq_getElem (by rw [← HN.out]; exact hjn)⟩
      obtain ⟨y, ey⟩ : ∃ y, rs[j]? = some y := ⟨_, List.getElem?_eq_getElem (by rw [← HL.out, ← HN.out]; exact hjn)⟩
      have hz := inV_at _ _ HI.out j z y ez ey
      have hy := HV.out j y ey
      obtain ⟨g, o, ea, hgl, hc⟩ := hR (by rw [← HL.out, ← HN.out]; omega)
      have hgb := HNE.out (by rw [← HL.out, ← HN.out]; omega) g o ea
      obtain ⟨p0, -⟩ := ruC (w := wr) (fun i hi => by rw [World.cell?_of_block (hg.block g hgl (fun e => hgb (Option.some.inj e)))]; exact hc j y ey i hi)
      have hml : m = (intVals (midV vs (j + 1)) ++ rest).length := by have := ho.1; omega
      have hjm : j < m := by rw [hml, List.length_append, intVals_len, midV_len (by rw [← HN.out]; omega), ← HN.out]; omega
      have q0 := (ho.cellAt j (by omega)).trans (midV_at ez rest)
      have f0 := ho.frozenAt j
      have HX1 := hidOf (nx_here ey ez HX.out)
      have EZ := hidOf ez
      rw [ea]
      have HO := hidOf ho
      have HG := hidOf hg
      clear ez ey ho hg hc ea HX hml hjm hR HV
      have hA : (0 : Int) ≤ (j : Int) := by omega
      have hB : (j : Int) < (n : Int) := by omega
      by_cases hlt : z + 1 < y.values
      · have hd : decide (z + 1 < y.values) = true := by rw [decide_eq_true_eq]; exact hlt
        have HXs := hidOf (show nx rs vs = some (vs.take j ++ ((z + 1) :: List.replicate (vs.length - (j + 1)) 0)) from nx_lift j rs vs _ (by rw [← HL.out, ← HN.out]; omega) (by rw [← HN.out]; omega) (by rw [HX1.out, if_pos hlt]))
        clear hlt
        go_wp2
        go_quiet (fail)
        go_wp2
        go_ret
        have ho2 := owns_below HO.out (below_drewN wr nq)
        have s0 := ho2.stored j (.int .i64 (z + 1))
        refine ⟨by rw [HXs.out]; rfl, ?_, grownBy_trans HG.out (grownBy_trans (grownBy_of_below (below_drewN wr nq) _) s0.2)⟩
        rw [after_some HXs.out, ← midV_put EZ.out]
        exact s0.1
      · have hd : decide (z + 1 < y.values) = false := by rw [decide_eq_false_iff_not]; exact hlt
        have HXn := hidOf (show nx (rs.drop j) (vs.drop j) = none by rw [HX1.out, if_neg hlt])
        clear hlt
        go_wp2
        go_quiet (fail)
        go_wp2
        have ho2 := owns_below HO.out (below_drewN wr nq)
        have s0 := ho2.stored j (.int .i64 0)
        rw [midV_put EZ.out, midV_down (by rw [← HN.out]; omega)] at s0
        go_roundw
        case rel => exact ⟨j, _, by omega, rfl, by go_num, HXn, s0.1, grownBy_trans HG.out (grownBy_trans (grownBy_of_below (below_drewN wr nq) _) s0.2)⟩
        case measure => simp [intOf]
set_option maxHeartbeats 4000000 in
set_option maxRecDepth 20000 in
theorem sCu_any (p : Pc) (l : Pl) (vs : List Int) (rest : List Value) (base e b m cap cv : Nat) (w : World) (hn0 : vs.length ≤ 1048576) (hI : InV p.rules vs) (hV : NoLeast p.rules) (hR : RowsAt 2 ruCells w l.a1 p.rules) (hne : 0 < p.rules.length → ∀ g o, l.a1 = some ⟨g, o, none⟩ → g ≠ b)
    (ho : w.ownsRow base e 1 (.slice (some ⟨b, 0, none⟩) m cap) m (intVals vs ++ rest)) :
    Calls Try.prog 38 #[pcV p l, .slice (some ⟨b, 0, none⟩) vs.length cv] w fun x w' => CuAns p.rules vs rest base e b m cap w x w' := by
  show Calls _ _ #[.agg #[.int .i64 p.indent, .slice l.a1 p.rules.length l.c1, .slice l.a2 p.chunks.length l.c2, .slice l.a3 p.spans.length l.c3, .slice l.a4 p.ties.length l.c4], _] _ _
  obtain ⟨rs, hrs⟩ : ∃ rs, rs = p.rules := ⟨_, rfl⟩
  obtain ⟨n, hn⟩ : ∃ n, n = vs.length := ⟨_, rfl⟩
  have X := boxed w p l 29
  rw [← hrs] at hI hV hR X hne ⊢
  have hrl := inV_len _ _ hI
  have HI := hidOf hI
  have HV := hidOf hV
  have HN := hidOf hn
  have HM := hidOf (show intVals vs ++ rest = intVals (midV vs n) ++ rest by rw [hn, midV_all])
  have H0 := hidOf (nx_end rs vs)
  have hbl := (ho.lt b rfl).2
  rw [← hrl, ← hn] at X ⊢
  rw [← hn] at hn0
  obtain ⟨W0, hW0, X0, B0, S0⟩ := X
  have c1 := X0.c1
  rw [← hrs, ← hrl, ← hn] at c1
  have o0 := owns_below ho B0
  have G0 : w.grownBy W0 (some b) := grownBy_of_below B0 _
  have hX : w.heap.size < W0.heap.size := by omega
  have HL := hidOf hrl
  have HNE := hidOf hne
  clear hI hV hn hrl hne hrs ho X0
  unfold RowsAt at hR
  go_enter Try.func38, Try.ntmps38
  go_wp2
  rw [← hW0]
  clear hW0 S0
  go_loopw [5] (fun i wr => ∃ (k : Nat) (d : Int), k ≤ n ∧ i = .int .i64 d ∧ d = (k : Int) - 1 ∧ Hid (nx (rs.drop k) (vs.drop k) = none) ∧ wr.ownsRow base e 1 (.slice (some ⟨b, 0, none⟩) m cap) m (intVals (midV vs k) ++ rest) ∧ W0.grownBy wr (some b)) (fun i _ => (intOf i + 1).toNat)
  case atStart => exact ⟨n, _, Nat.le_refl _, rfl, by go_num, hidOf (by rw [HN.out]; exact H0.out), by rw [← HM.out]; exact o0, World.grownBy.refl _ _⟩
  case round =>
    clear o0 HM
    obtain ⟨k, d, hk, rfl, hd, HX, ho, hg⟩ := hrel
    cases k with
    | zero =>
      have hd1 : d = -1 := by omega
      subst hd1
      have HX0 : Hid (nx rs vs = none) := hidOf (by have := HX.out; simpa using this)
      rw [midV_none, ← after_none HX0.out] at ho
      clear hd
      go_wp2
      go_ret
      exact ⟨by rw [HX0.out]; rfl, ho, grownBy_trans G0 hg⟩
    | succ j =>
      have hdj : d = (j : Int) := by omega
      subst hdj
      clear hd
      have hjn : j < n := by omega
      obtain ⟨z, ez⟩ : ∃ z, vs[j]? = some z := ⟨_, List.getElem?_eq_getElem (by rw [← HN.out]; exact hjn)⟩
      obtain ⟨y, ey⟩ : ∃ y, rs[j]? = some y := ⟨_, List.getElem?_eq_getElem (by rw [← HL.out, ← HN.out]; exact hjn)⟩
      have hz := inV_at _ _ HI.out j z y ez ey
      have hy := HV.out j y ey
      obtain ⟨g, o, ea, hgl, hc⟩ := hR (by rw [← HL.out, ← HN.out]; omega)
      have hgb := HNE.out (by rw [← HL.out, ← HN.out]; omega) g o ea
      have hG := grownBy_trans G0 hg
      obtain ⟨p0, -⟩ := ruC (w := wr) (fun i hi => by rw [World.cell?_of_block (hG.block g hgl (fun e => hgb (Option.some.inj e)))]; exact hc j y ey i hi)
      have d1 := (World.cell?_of_block (a := ⟨w.heap.size, 1, none⟩) (hg.block w.heap.size hX (fun e => by have := Option.some.inj e; omega))).trans c1
      have hml : m = (intVals (midV vs (j + 1)) ++ rest).length := by have := ho.1; omega
      have hjm : j < m := by rw [hml, List.length_append, intVals_len, midV_len (by rw [← HN.out]; omega), ← HN.out]; omega
      have q0 := (ho.cellAt j (by omega)).trans (midV_at ez rest)
      have f0 := ho.frozenAt j
      have HX1 := hidOf (nx_here ey ez HX.out)
      have EZ := hidOf ez
      rw [ea] at d1
      rw [ea]
      have HO := hidOf ho
      have HG := hidOf hg
      clear ez ey ho hg hc ea HX hml hjm hR HV hG c1
      have hA : (0 : Int) ≤ (j : Int) := by omega
      have hB : (j : Int) < (n : Int) := by omega
      by_cases hlt : z + 1 < y.values
      · have hd : decide (z + 1 < y.values) = true := by rw [decide_eq_true_eq]; exact hlt
        have HXs := hidOf (show nx rs vs = some (vs.take j ++ ((z + 1) :: List.replicate (vs.length - (j + 1)) 0)) from nx_lift j rs vs _ (by rw [← HL.out, ← HN.out]; omega) (by rw [← HN.out]; omega) (by rw [HX1.out, if_pos hlt]))
        clear hlt
        go_wp2
        go_quiet (fail)
        go_wp2
        go_ret
        have ho2 := owns_below HO.out (below_drewN wr nq)
        have s0 := ho2.stored j (.int .i64 (z + 1))
        refine ⟨by rw [HXs.out]; rfl, ?_, grownBy_trans G0 (grownBy_trans HG.out (grownBy_trans (grownBy_of_below (below_drewN wr nq) _) s0.2))⟩
        rw [after_some HXs.out, ← midV_put EZ.out]
        exact s0.1
      · have hd : decide (z + 1 < y.values) = false := by rw [decide_eq_false_iff_not]; exact hlt
        have HXn := hidOf (show nx (rs.drop j) (vs.drop j) = none by rw [HX1.out, if_neg hlt])
        clear hlt
        go_wp2
        go_quiet (fail)
        go_wp2
        have ho2 := owns_below HO.out (below_drewN wr nq)
        have s0 := ho2.stored j (.int .i64 0)
        rw [midV_put EZ.out, midV_down (by rw [← HN.out]; omega)] at s0
        go_roundw
        case rel => exact ⟨j, _, by omega, rfl, by go_num, HXn, s0.1, grownBy_trans HG.out (grownBy_trans (grownBy_of_below (below_drewN wr nq) _) s0.2)⟩
        case measure => simp [intOf]
end Go.Proofs.Ytgaejcljabhijaa
