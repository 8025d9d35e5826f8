/- What slices.Clone answers at a list of numbers, and 'append([]int{}, v...)' as a step: the same numbers in memory of their own. -/
import Derived.Test.YtgaejcljabhijaaKae
import Derived.Test.YtgaejcljabhijaaCopyLib
import Derived.Lib.SliceRun
import Derived.Test.YtgaejcljabhijaaWgI
import Derived.Test.YtgaejcljabhijaaKai
import Derived.Test.YtgaejcljabhijaaKaf
import Derived.Laws.EntriesVeiled
import Derived.WalkMore
import Derived.ScopeJumps
import Derived.Test.YtgaejcljabhijaaKaa
import Derived.Test.YtgaejcljabhijaaKab
import Derived.Test.YtgaejcljabhijaaKac
import Derived.Deep.RegionHeld3
import Derived.Deep.CutBlock
namespace Go.Proofs.Ytgaejcljabhijaa
open Go.RowKit

def oneInt (z : Int) : List Value := [.int .i64 z]
theorem oneInt_len (z : Int) : (oneInt z).length = 1 := rfl
theorem oneInt_one (z : Int) : ∀ u ∈ oneInt z, u.oneCell' = true := fun u hu => by
  unfold oneInt at hu
  rw [List.mem_singleton] at hu
  subst hu
  rfl
theorem oneInt_vals : ∀ (vs : List Int), rowVals oneInt vs = intVals vs
  | [] => rfl
  | v :: vs => by
    show oneInt v ++ rowVals oneInt vs = _
    rw [oneInt_vals vs]
    rfl
theorem kids_rows {w : World} {a : Option Addr} {vs : List Int} (h : KidsAt w a vs) : RowsAt 1 oneInt w a vs := by
  intro hn
  obtain ⟨b, off, ha, hlt, hc⟩ := h hn
  refine ⟨b, off, ha, hlt, fun k x hx j hj => ?_⟩
  have hj0 : j = 0 := by omega
  subst hj0
  rw [Nat.mul_one, Nat.add_zero, hc k x hx]
  rfl
theorem wpList_copyInt {ops : Array Oper} {rest : List Oper} {o : Oper} {ac : Act} {Q : Exit → Act → World → Prop} (hgd : o.guard = none) (x y : Operand)
    (ho : o.op = .call { callee := .builtin .append, args := #[x, y], argTypes := #[32, 32] }) (w : World) (base z0 : Nat) (hb0 : base ≤ z0) (hz0 : w.heap[z0]? = some (.cells #[] 3 (0, 0)))
    (a : Option Addr) (c : Nat) (vs : List Int) (hx : ac.eval x = .slice (some ⟨z0, 0, none⟩) 0 0) (hy : ac.eval y = .slice a vs.length c) (h : KidsAt w a vs) (hn : vs.length ≤ 1048576)
    (hk : ∀ a' c' w', w'.ownsRow base 3 1 (.slice a' vs.length c') vs.length (intVals vs) → w.grownBy w' none → wpList Try.prog ops Q rest (ac.put o.dst (.slice a' vs.length c')) w') : wpList Try.prog ops Q (o :: rest) ac w := by
  obtain ⟨i0, hi, hz0', hz1, hz2⟩ := info_parts infoIntT
  exact wpList_plain hgd fun _ hK => wp_copy oneInt_len oneInt_one x y 32 ho 3 i0 (.int .i64 0) 8 Try.underlying32 hi hz0' hz1 hz2 rfl (by decide) w base z0 hb0 hz0 a c vs hx hy (kids_rows h) hn (by omega) fun a' c' w' h2 h3 => hK _ _ (hk a' c' w' (by rw [oneInt_vals] at h2; exact h2) h3)

set_option maxHeartbeats 1600000 in
theorem clone_any (a : Option Addr) (c : Nat) (vs : List Int) (w : World) (hn : vs.length ≤ 1048576) (h : KidsAt w a vs) :
    Calls Try.prog 68 #[.slice a vs.length c] w fun e w' => IntsAns vs 3 w e w' := by
  have qT : ∀ (w : World) (a : Option Addr) (n c n' c' : Nat), (binOp .eql 32 (.slice a n c) (.slice none n' c')).run Try.prog w = .ok (.bool a.isNone) w := fun w a n c n' c' => Lib.run_eql_slice_nil w _ _ a n c n' c' Try.underlying32
  cases a with
  | none =>
    have hl : vs = [] := by
      cases vs with
      | nil => rfl
      | cons x xs => obtain ⟨b, off, ha, -⟩ := h (by simp); cases ha
    subst hl
    go_enter Try.func68, Try.ntmps68
    go_wp2
    go_ret
    exact ⟨Below.refl _ _, none, 0, rfl, rfl, .inl ⟨rfl, rfl⟩⟩
  | some ad =>
    go_enter Try.func68, Try.ntmps68
    have B1 : Below w.heap.size w (w.alloc (.cells #[] 3)) := (Below.refl _ _).alloc (Nat.le_refl _) _
    go_wp2_with (at_builtin; refine wpList_copyInt rfl _ _ rfl _ w.heap.size w.heap.size (Nat.le_refl _) (heap_alloc_new w _) (some ad) c vs rfl rfl (h.below B1 (Nat.le_refl _)) hn ?_; intro a' c' w1 hown hg)
    go_ret
    exact ⟨B1.grown hg B1.size (fun k e => by cases e), a', c', rfl, hown⟩
end Go.Proofs.Ytgaejcljabhijaa
/- One step of the program's search: the least state is taken and tried. -/
namespace Go.Proofs.Ytgaejcljabhijaa
open Go.RowKit

/-- While the next values are offered. -/
structure Tl (w0 : World) (sb : Nat) (p : Pc) (l : Pl) (wd : Int) (W : World) (a : Option Addr) (c : Nat) (qs : List Sp) (ba : Option Addr) (bc : Nat) (bs : List Int) (tb : Nat) (f : Sp) : Prop where
  sr : Sr w0 sb p l wd W a c qs ba bc bs
  box : W.heap[tb]? = some (.cells #[.slice f.a f.st.vals.length f.c, .int .i64 f.st.sum] 74 (0, 0))
  own : W.ownsRow w0.heap.size 3 1 (.slice f.a f.st.vals.length f.c) f.st.vals.length (intVals f.st.vals)
  far : ∀ g, (Value.slice a qs.length c).ownBlock = some g → g ≠ tb
section
variable {w0 : World} {sb : Nat} {p : Pc} {l : Pl} {wd : Int} {W W' : World} {a : Option Addr} {c : Nat} {qs : List Sp} {ba : Option Addr} {bc : Nat} {bs : List Int} {tb : Nat} {f : Sp}
theorem Tl.more (h : Tl w0 sb p l wd W a c qs ba bc bs tb f) (hb : Below W.heap.size W W') : Tl w0 sb p l wd W' a c qs ba bc bs tb f :=
  ⟨h.sr.more hb, (hb.block tb (Array.getElem?_eq_some_iff.1 h.box).1).trans h.box, owns_below h.own hb, h.far⟩
theorem Tl.ne (h : Tl w0 sb p l wd W a c qs ba bc bs tb f) : tb ≠ sb := fun e => by
  have h1 := h.sr.hv.row
  rw [← e, h.box] at h1
  injection h1 with h1
  injection h1 with _ h1 _
  exact (srOf p l wd ba bc bs).ns h1
theorem Tl.offer (h : Tl w0 sb p l wd W a c qs ba bc bs tb f) {h' : List St} (ho : OfAns w0 sb p l wd W W' a c qs ba bc bs h') : ∃ a' c' rs, Tl w0 sb p l wd W' a' c' rs ba bc bs tb f ∧ rs.map Sp.st = h' := by
  obtain ⟨a', c', rs, h1, h2, h3, h4⟩ := ho
  have ht := (Array.getElem?_eq_some_iff.1 h.box).1
  refine ⟨a', c', rs, ⟨h1, (h3.block tb ht h.ne (fun e => h.far tb e.symm rfl)).trans h.box, h3.own h.own (types_apart h.own h.sr.own.row (by decide)) (h.sr.hv.far h.own (srOf p l wd ba bc bs).ni), fun g hg e => ?_⟩, h2⟩
  rcases h4 g hg with h5 | h5
  · exact h.far g h5 e
  · omega
end
/-- What is there behind a step. -/
def TryAns (w0 : World) (sb : Nat) (p : Pc) (l : Pl) (wd : Int) (w' : World) (h' : List St) (b' : List Int) : Prop := ∃ a' c' qs ba' bc', Sr w0 sb p l wd w' a' c' qs ba' bc' b' ∧ qs.map Sp.st = h'
theorem few_pre {p : Pc} (h1 : Right p) {ps : List Sp} (h : ∀ x ∈ ps.map Sp.st, PreV p.rules x.vals) : Few ps := fun q hq => by
  have := (h q.st (List.mem_map_of_mem hq)).1
  have := h1.rules.1
  omega
theorem few_push {p : Pc} {wd : Int} (h1 : Right p) {h : List St} {bs u : List Int} {k : Nat} {qs : List Sp} (hI : ∀ x ∈ h, PreV p.rules x.vals) (hu : u.length < p.rules.length) (hq : qs.map Sp.st = pushK p wd bs u k 0 (restL stLess h)) : Few qs := fun q hm => by
  have h8 := h1.rules.1
  have hm' : q.st ∈ pushK p wd bs u k 0 (restL stLess h) := by rw [← hq]; exact List.mem_map_of_mem hm
  rcases pushK_from _ _ _ _ hm' with h2 | ⟨j, -, -, e, -⟩
  · obtain ⟨i, -, hi⟩ := rest_mem h2
    have := (hI _ (List.mem_of_getElem? hi)).1
    omega
  · rw [e]
    simp
    omega
theorem len_push {p : Pc} {wd : Int} {h : List St} {bs u : List Int} {k : Nat} {qs : List Sp} (hq : qs.map Sp.st = pushK p wd bs u k 0 (restL stLess h)) : qs.length ≤ h.length + k := by
  have h1 := congrArg List.length hq
  rw [List.length_map] at h1
  have h2 := pushK_len (p := p) (wd := wd) (best := bs) (u := u) k 0 (restL stLess h)
  rw [restL_len] at h2
  omega
theorem intVals_snoc (vs : List Int) (z : Int) : intVals vs ++ [.int .i64 z] = intVals (vs ++ [z]) := by simp [intVals]

set_option maxHeartbeats 8000000 in
set_option maxRecDepth 20000 in
theorem iTry_any {w0 : World} {sb : Nat} {p : Pc} {l : Pl} {wd : Int} {w : World} {a : Option Addr} {c : Nat} {ps : List Sp} {ba : Option Addr} {bc : Nat} {bs : List Int} (h : Sr w0 sb p l wd w a c ps ba bc bs) (hF : PcFew p) (hcap : p.chunks.length ≤ l.c2) (hp : PcIn w0 p l) (h1 : Right p) (hne : ps.map Sp.st ≠ []) (hI : SInv p wd (ps.map Sp.st) bs) (hl0 : leftOf p (ps.map Sp.st) ≤ 2 * cntOf p - 1) :
    Calls Try.prog 77 #[.pointer (some ⟨sb, 0, none⟩)] w fun e w' => e = .returned (.tuple #[]) ∧ TryAns w0 sb p l wd w' (stepH p wd (ps.map Sp.st) bs) (stepB p wd (ps.map Sp.st) bs) := by
  have hlen := room_of h1 hl0
  rw [List.length_map] at hlen
  have hfew : Few ps := few_pre h1 hI.pre
  obtain ⟨f, hf⟩ : ∃ f, ps[0]? = some f := by
    cases ps with
    | nil => exact absurd rfl hne
    | cons x xs => exact ⟨x, rfl⟩
  have hps : 0 < ps.length := (List.getElem?_eq_some_iff.1 hf).1
  have hfs : (ps.map Sp.st)[0]? = some f.st := by rw [List.getElem?_map, hf]; rfl
  have hfm := List.mem_of_getElem? hfs
  have hpre := hI.pre f.st hfm
  have hmay := hI.may f.st hfm
  have hbl : bs.length ≤ 1048576 := by rw [hI.tie.vals.len]; have := h1.rules.1; omega
  obtain ⟨g, rfl⟩ := owns_at h.own.row hps
  have qP := pop_any (srOf p l wd ba bc bs) sb w0.heap.size g c (ps.length - 1) ps f w (by omega) (by omega) hf hfew h.own h.hv h.low h.wlow
  have hl := h.hv.lt
  have ER := hidOf (restL_map (lt := stLess) Sp.st ps)
  have EH := hidOf (hd0_of hfs)
  go_enter Try.func77, Try.ntmps77
  go_wp2_with fail
  refine qP.mono ?_
  rintro e w1 ⟨rfl, O1, H1, f1, B1, G1⟩
  have S1 : Sr w0 sb p l wd w1 (some ⟨g, 0, none⟩) c (restL spLess ps) ba bc bs := h.turn H1 (by rw [restL_len]) O1 B1 G1
  have hg1 : g < w1.heap.size := by
    have := (h.own.row.lt g rfl).2
    exact Nat.lt_of_lt_of_le this G1.size
  clear qP O1 H1 B1 G1
  go_upto_region 1 with fail
  obtain ⟨W2, hW2⟩ : ∃ W2, W2 = w1.alloc (.cells #[.slice f.a f.st.vals.length f.c, .int .i64 f.st.sum] 74) := ⟨_, rfl⟩
  rw [← hW2]
  have b2 : Below w1.heap.size w1 W2 := by rw [hW2]; exact (Below.refl _ _).alloc (Nat.le_refl _) _
  have R2 : W2.heap[w1.heap.size]? = some (.cells #[.slice f.a f.st.vals.length f.c, .int .i64 f.st.sum] 74 (0, 0)) := by rw [hW2]; exact heap_alloc_new w1 _
  have T2 : Tl w0 sb p l wd W2 (some ⟨g, 0, none⟩) c (restL spLess ps) ba bc bs w1.heap.size f := ⟨S1.more b2, R2, owns_below f1 b2, fun g' hg' e => by
    have : g = g' := by injection hg'
    omega⟩
  obtain ⟨tb, htb⟩ : ∃ tb, tb = w1.heap.size := ⟨_, rfl⟩
  rw [← htb] at T2
  rw [← htb]
  clear htb hW2 b2 R2 S1 f1 hg1 hl
  have t0 := cell_of_row W2 tb 0 _ _ _ T2.box
  have t1 := cell_of_row W2 tb 1 _ _ _ T2.box
  simp only [List.getElem?_toArray, List.getElem?_cons_zero, List.getElem?_cons_succ] at t0 t1
  obtain ⟨hl, c0, c1, c2, c3, c4, -, -, -, -⟩ := T2.sr.cells
  have htl := (Array.getElem?_eq_some_iff.1 T2.box).1
  by_cases hfull : f.st.vals.length = p.rules.length
  · have hg : ((f.st.vals.length : Int) == (p.rules.length : Int)) = true := by rw [hfull]; simp
    have qW := iWeigh_any f.a f.c f.st.vals T2.sr hF hcap hp h1 (ok_inV (pre_in hpre hfull)) hbl T2.own
    have EB := hidOf (show stepB p wd (ps.map Sp.st) bs = bestB p wd f.st.vals bs by unfold stepB bestB; rw [EH.out, if_pos hfull])
    have ES := hidOf (show stepH p wd (ps.map Sp.st) bs = restL stLess (ps.map Sp.st) by unfold stepH; rw [EH.out, if_pos hfull])
    clear hfull
    go_wp2_with fail
    refine qW.mono ?_
    rintro e w3 ⟨rfl, ba', bc', S3⟩
    have HE := hidOf S3
    clear qW c0 c1 c2 c3 c4 t0 t1 S3
    go_wp2
    ((try simp only [Exit.inBlock, Exit.then]); refine bodyPost_ret (results_none rfl _ _ _) rfl ?_)
    rw [EB.out, ES.out]
    exact ⟨rfl, _, c, _, ba', bc', HE.out, ER.out⟩
  · have hg : ((f.st.vals.length : Int) == (p.rules.length : Int)) = false := by rw [beq_eq_false_iff_ne]; omega
    have hlt : f.st.vals.length < p.rules.length := by have := hpre.1; omega
    have ES := hidOf (show stepH p wd (ps.map Sp.st) bs = pushK p wd bs f.st.vals (vOf p f.st.vals.length) 0 (restL stLess (ps.map Sp.st)) by unfold stepH; rw [EH.out, if_neg hfull])
    have EB := hidOf (show stepB p wd (ps.map Sp.st) bs = bs by unfold stepB; rw [EH.out, if_neg hfull])
    obtain ⟨r, er⟩ : ∃ r, p.rules[f.st.vals.length]? = some r := ⟨_, List.getElem?_eq_getElem hlt⟩
    have hv2 := (h1.rules.2 _ r er).1
    obtain ⟨nv, hnv⟩ : ∃ nv, nv = vOf p f.st.vals.length := ⟨_, rfl⟩
    have hnr : r.values = (nv : Int) := by rw [hnv]; unfold vOf; rw [er]; simp; omega
    have hnv3 : nv ≤ 3 := by omega
    obtain ⟨b1, o1, ea, hb1, hc1⟩ := (T2.sr.pc hp).rules (by omega)
    obtain ⟨p0, p1⟩ := ruC (hc1 _ r er)
    rw [hnr] at p0
    rw [ea] at c1
    rw [← hnv] at ES
    have ER2 := hidOf er
    have HNR := hidOf hnr
    obtain ⟨n, hn⟩ : ∃ n, n = f.st.vals.length := ⟨_, rfl⟩
    rw [← hn] at hg hlt p0 p1 t0
    have HN := hidOf hn
    have hA : (0 : Int) ≤ (n : Int) := by omega
    have hB : (n : Int) < (p.rules.length : Int) := by omega
    have HX := hidOf T2
    clear hfull er hc1 ea hnv hnr T2 hn
    go_wp2
    go_loopw [37] (fun v wr => ∃ (k : Nat) (a' : Option Addr) (c' : Nat) (qs : List Sp), k ≤ nv ∧ v = .int .i64 k ∧ Hid (Tl w0 sb p l wd wr a' c' qs ba bc bs tb f) ∧ Hid (qs.map Sp.st = pushK p wd bs f.st.vals k 0 (restL stLess (ps.map Sp.st)))) (fun v _ => nv - (intOf v).toNat)
    case atStart => exact ⟨0, _, c, _, Nat.zero_le _, rfl, HX, hidOf ER.out⟩
    case round =>
      clear HX c0 c1 c2 c3 c4 t0 t1 p0 p1 hl htl
      obtain ⟨k, a', c', qs, hk, rfl, HX, HQ⟩ := hrel
      have X := HX.out
      have t0 := cell_of_row wr tb 0 _ _ _ X.box
      have t1 := cell_of_row wr tb 1 _ _ _ X.box
      simp only [List.getElem?_toArray, List.getElem?_cons_zero, List.getElem?_cons_succ] at t0 t1
      have htl := (Array.getElem?_eq_some_iff.1 X.box).1
      by_cases hlt2 : k < nv
      · have hM : (k : Int) < (nv : Int) := by omega
        have qC := clone_any f.a f.c f.st.vals wr (by have := h1.rules.1; have := hpre.1; omega) (.of_own X.own)
        go_wp2_with fail
        refine qC.mono ?_
        rintro e w3 ⟨b3, a3, c3, rfl, o3⟩
        clear qC
        have X3 := X.more b3
        have hvl : f.st.vals.length ≤ 8 := by have := h1.rules.1; have := hpre.1; omega
        obtain ⟨i0, hi, hz0, hz1, hz2⟩ := info_parts infoIntT
        clear t0 t1
        go_wp2_with (first | (at_builtin; refine wpList_append_own _ rfl _ _ 32 rfl wr.heap.size 3 i0 (.int .i64 0) 1 8 Try.underlying32 hi hz0 hz1 hz2 rfl (by decide) _ _ _ rfl (o3.alloc _) ⟨w3.heap.size, 0, none⟩ 1 1 [.int .i64 (k : Int)] rfl rfl (cell_one_new w3 _ _) (by intro u hu; rw [List.mem_singleton] at hu; subst hu; rfl) (by unfold maxLen; omega) (by omega) (Nat.le_trans b3.size (by simp)) ?_; intro v4 w4 o4 g4 n4) | fail)
        obtain ⟨a4, c4, rfl⟩ := owns_slice o4
        have B4 : Below wr.heap.size wr w4 := (b3.alloc b3.size _).grown g4 (Nat.le_trans b3.size (by simp)) (fun q e => (o3.lt q e).1)
        have X4 := X.more B4
        have hl4 : (f.st.vals ++ [(k : Int)]).length = f.st.vals.length + 1 := by simp
        have hq4 : qs.length ≤ 1048576 := by
          have := len_push HQ.out
          rw [List.length_map] at this
          omega
        have o4' : w4.ownsRow wr.heap.size 3 1 (.slice a4 (f.st.vals ++ [(k : Int)]).length c4) (f.st.vals ++ [(k : Int)]).length (intVals (f.st.vals ++ [(k : Int)])) := by
          rw [hl4, ← intVals_snoc]
          exact o4
        have qO := iOffer_any a4 c4 (f.st.vals ++ [(k : Int)]) X4.sr hF hcap hp h1 (pre_add hpre ER2.out (by rw [HNR.out]; omega)) hq4 (few_push h1 hI.pre (by have := HN.out; omega) HQ.out) (ownsRow_base o4' X.sr.wlow) (fun q hq b hb hb2 => by
          have h5 := ((X.sr.own.each q hq).lt b hb).2
          have h6 := (o4'.lt b hb2).1
          omega)
        rw [hl4] at qO
        have EP := hidOf (show offH p wd bs (f.st.vals ++ [(k : Int)]) (qs.map Sp.st) = pushK p wd bs f.st.vals (k + 1) 0 (restL stLess (ps.map Sp.st)) by
          rw [HQ.out, pushK_snoc, Nat.zero_add]
          rfl)
        clear o4 o4' g4 n4 b3 o3 X3
        go_wp2_with fail
        refine qO.mono ?_
        rintro e w5 ⟨rfl, ho5⟩
        rw [EP.out] at ho5
        obtain ⟨a5, c5, rs, X5, E5⟩ := X4.offer ho5
        have HX5 := hidOf X5
        have HE5 := hidOf E5
        clear qO ho5 X5 E5 X4
        go_wp2
        go_roundw
        case rel => exact ⟨k + 1, a5, c5, rs, by omega, by go_num, HX5, HE5⟩
        case measure => simp [intOf]; omega
      · have hM : ¬ (k : Int) < (nv : Int) := by omega
        have hkn : k = nv := by omega
        have HZ := hidOf (show qs.map Sp.st = stepH p wd (ps.map Sp.st) bs by rw [ES.out, ← hkn]; exact HQ.out)
        clear hkn
        go_wp2
        go_end0
        rw [EB.out]
        exact ⟨rfl, a', c', qs, ba, bc, X.sr, HZ.out⟩
end Go.Proofs.Ytgaejcljabhijaa
/- What impl.newSearch and impl.Search answer at a right piece. -/
namespace Go.Proofs.Ytgaejcljabhijaa
open Go.RowKit

/-- A search that has just begun. -/
def NwAns (w0 : World) (p : Pc) (l : Pl) (wd : Int) (w w' : World) (e : Ending) : Prop := ∃ sb a c qs ba bc, e = .returned (.pointer (some ⟨sb, 0, none⟩)) ∧ Sr w0 sb p l wd w' a c qs ba bc (allV p) ∧ qs.map Sp.st = [⟨[], 0⟩] ∧ Below w.heap.size w w'

set_option maxHeartbeats 8000000 in
set_option maxRecDepth 20000 in
theorem iNew_any (p : Pc) (l : Pl) (wd : Int) (w0 w : World) (hF : PcFew p) (hcap : p.chunks.length ≤ l.c2) (hp : PcIn w0 p l) (h1 : Right p) (hb0 : Below w0.heap.size w0 w) :
    Calls Try.prog 75 #[pcV p l, .int .i64 wd] w fun e w' => NwAns w0 p l wd w w' e := by
  show Calls _ _ #[.agg #[.int .i64 p.indent, .slice l.a1 p.rules.length l.c1, .slice l.a2 p.chunks.length l.c2, .slice l.a3 p.spans.length l.c3, .slice l.a4 p.ties.length l.c4], _] _ _
  obtain ⟨W0, hW0, X0, B0, S0⟩ := boxed w p l 29
  have hX : w.heap.size < W0.heap.size := by omega
  have C0 := hb0.trans (B0.mono hb0.size)
  have I0 := hp.below C0 (Nat.le_refl _)
  have qA := iSpl_any p l W0 (by have := h1.rules.1; omega) I0.rules
  unfold pcV at qA
  clear S0
  obtain ⟨-, c0, c1, c2, c3, c4⟩ := X0
  go_enter Try.func75, Try.ntmps75
  go_wp2_with fail
  rw [← hW0]
  refine qA.mono ?_
  rintro e w1 ⟨b1, ba, bc, rfl, o1⟩
  clear hW0 qA
  have hX1 : w.heap.size < w1.heap.size := Nat.lt_of_lt_of_le hX b1.size
  have hvl : (allV p).length ≤ 1048576 := by rw [allV_len]; have := h1.rules.1; omega
  have C1 := C0.trans (b1.mono C0.size)
  have k0 := (b1.cell (p := ⟨w.heap.size, 0, none⟩) hX).trans c0
  have k1 := (b1.cell (p := ⟨w.heap.size, 1, none⟩) hX).trans c1
  have k2 := (b1.cell (p := ⟨w.heap.size, 2, none⟩) hX).trans c2
  have k3 := (b1.cell (p := ⟨w.heap.size, 3, none⟩) hX).trans c3
  have k4 := (b1.cell (p := ⟨w.heap.size, 4, none⟩) hX).trans c4
  clear c0 c1 c2 c3 c4
  have D1 := (Below.refl w1.heap.size w1).drew
  have qC := iCostR_any p l ba bc (allV p) wd w1.drew hF hvl hcap (hp.below C1.drew (Nat.le_refl _)) ((KidsAt.of_own o1).below D1 (Nat.le_refl _)) h1 (allR_ok h1)
  unfold pcV coV at qC
  obtain ⟨ov, hov⟩ : ∃ ov, ov = costOver p (allV p) wd := ⟨_, rfl⟩
  obtain ⟨sm, hsm⟩ : ∃ sm, sm = costSum p (allV p) := ⟨_, rfl⟩
  rw [← hov, ← hsm] at qC
  have HOV := hidOf hov
  have HSM := hidOf hsm
  clear hov hsm
  obtain ⟨n, hn⟩ : ∃ n, n = (allV p).length := ⟨_, rfl⟩
  rw [← hn] at qC o1 ⊢
  have HN := hidOf hn
  clear hn
  go_upto_region 2 with fail
  go_region_held3 (fun W => W.cell? ⟨w.heap.size, 0, none⟩ = some (.int .i64 p.indent) ∧ W.cell? ⟨w.heap.size, 1, none⟩ = some (.slice l.a1 p.rules.length l.c1) ∧ W.cell? ⟨w.heap.size, 2, none⟩ = some (.slice l.a2 p.chunks.length l.c2) ∧ W.cell? ⟨w.heap.size, 3, none⟩ = some (.slice l.a3 p.spans.length l.c3) ∧ W.cell? ⟨w.heap.size, 4, none⟩ = some (.slice l.a4 p.ties.length l.c4)) (first | trivial | go_keep)
    ((go_at_call 65; refine qC.mono ?_; rintro e w2 ⟨rfl, hb2⟩; have A2 := D1.trans hb2; have hc2 := (bcell A2).1; have hd2 := (bcell A2).2))
  go_upto_region 3 with fail
  obtain ⟨W3, hW3⟩ : ∃ W3, W3 = w2.alloc (.cells #[.int .i64 p.indent, .slice l.a1 p.rules.length l.c1, .slice l.a2 p.chunks.length l.c2, .slice l.a3 p.spans.length l.c3, .slice l.a4 p.ties.length l.c4, .int .i64 wd, .slice none 0 0, .func (.func 108) #[] #[], .slice ba n bc, .int .i64 ov, .int .i64 sm] 121) := ⟨_, rfl⟩
  rw [← hW3]
  have b3 : Below w2.heap.size w2 W3 := by rw [hW3]; exact (Below.refl _ _).alloc (Nat.le_refl _) _
  have R3 := heap_alloc_new w2 (.cells #[.int .i64 p.indent, .slice l.a1 p.rules.length l.c1, .slice l.a2 p.chunks.length l.c2, .slice l.a3 p.spans.length l.c3, .slice l.a4 p.ties.length l.c4, .int .i64 wd, .slice none 0 0, .func (.func 108) #[] #[], .slice ba n bc, .int .i64 ov, .int .i64 sm] 121)
  rw [← hW3] at R3
  have B2 : Below w.heap.size w w2 := B0.trans ((b1.trans (A2.mono b1.size)).mono B0.size)
  have B3 : Below w.heap.size w W3 := B2.trans (b3.mono B2.size)
  have o3 := owns_below (owns_below (ownsRow_base o1 C0.size) A2) b3
  rw [HN.out] at o3 R3
  rw [HOV.out, HSM.out] at R3
  have S3 : Sr w0 w2.heap.size p l wd W3 none 0 [] ba bc (allV p) := ⟨⟨R3⟩, ⟨World.ownsRow_nil _ _ _ _, (fun q hq => by cases hq), (fun i j q r _ hq => by simp at hq)⟩, o3, hb0.trans (B3.mono hb0.size), Nat.le_trans hb0.size B2.size⟩
  have qP := push_any (srOf p l wd ba bc (allV p)) w2.heap.size w0.heap.size none 0 [] ⟨⟨[], 0⟩, none, 0⟩ W3 (by simp) (fun q hq => by cases hq) (by simp) S3.own (World.ownsRow_nil _ _ _ _) (fun q hq => by cases hq) S3.hv S3.low S3.wlow
  have hl3 := S3.hv.lt
  obtain ⟨sb, hsb⟩ : ∃ sb, sb = w2.heap.size := ⟨_, rfl⟩
  have HSB := hidOf (show w.heap.size ≤ sb by rw [hsb]; exact B2.size)
  rw [← hsb] at qP S3 hl3
  rw [← hsb]
  clear hsb hW3 R3 b3 o3 k0 k1 k2 k3 k4 hc2 hd2 hX1
  go_wp2_with fail
  refine qP.mono ?_
  rintro e w4 ⟨rfl, a4, c4, o4, H4, b4, g4, q4⟩
  have S4 := S3.turn H4 (pushL_len _ _).symm o4 b4 g4
  have B4 : Below w.heap.size w w4 := ⟨b4.os.trans B3.os, b4.tape.trans B3.tape, b4.output.trans B3.output, Nat.le_trans B3.size b4.size, fun k hk => (g4.block k (Nat.lt_of_lt_of_le hk B3.size) (by have := HSB.out; omega) (by intro e; cases e)).trans (B3.block k hk)⟩
  have E4 : (pushL spLess [] (⟨⟨[], 0⟩, none, 0⟩ : Sp)).map Sp.st = [⟨[], 0⟩] := by
    refine (show _ = _ from pushL_map (lt := stLess) Sp.st [] ⟨⟨[], 0⟩, none, 0⟩).trans ?_
    show up stLess ([] ++ [⟨[], 0⟩]) 0 = _
    rw [up_no (by simp)]
    rfl
  have HS4 := hidOf S4
  have HE4 := hidOf E4
  clear qP S4 E4 o4 H4 b4 g4 q4 S3
  go_wp2
  go_ret
  exact ⟨sb, a4, c4, _, ba, bc, rfl, HS4.out, HE4.out, B4⟩

/-- What a search answers. -/
def SeAns (r : List Int × Int) (w : World) (e : Ending) (w' : World) : Prop := Below w.heap.size w w' ∧ ∃ a c, e = .returned (.tuple #[.slice a r.1.length c, .int .i64 r.2]) ∧ w'.ownsRow w.heap.size 3 1 (.slice a r.1.length c) r.1.length (intVals r.1)

set_option maxHeartbeats 1600000 in
theorem iTell_any (w : World) : Calls Try.prog 35 #[] w fun e w' => e = .returned (.tuple #[]) ∧ w' = w := by
  go_enter Try.func35, Try.ntmps35
  go_wp2
  go_end0
  exact ⟨rfl, rfl⟩

set_option maxHeartbeats 8000000 in
set_option maxRecDepth 20000 in
theorem iTold_yes (p : Pc) (l : Pl) (wd bud : Int) (w : World) (hbd : -9223372036854775808 ≤ bud ∧ bud ≤ 9223372036854775807) (hF : PcFew p) (hcap : p.chunks.length ≤ l.c2) (hp : PcIn w p l) (h1 : Right p) :
    Calls Try.prog 34 #[pcV p l, .int .i64 wd, .int .i64 bud, .func (.func 35) #[] #[]] w fun e w' => SeAns (srchOf p wd bud (allV p)) w e w' := by
  show Calls _ _ #[.agg #[.int .i64 p.indent, .slice l.a1 p.rules.length l.c1, .slice l.a2 p.chunks.length l.c2, .slice l.a3 p.spans.length l.c3, .slice l.a4 p.ties.length l.c4], _, _, _] _ _
  obtain ⟨W0, hW0, X0, B0, S0⟩ := boxed w p l 29
  have hX : w.heap.size < W0.heap.size := by omega
  have qO := iOk_any p l W0 hF (hp.below B0 (Nat.le_refl _))
  have qN := fun W hb => iNew_any p l wd w W hF hcap hp h1 hb
  unfold pcV at qO qN
  obtain ⟨RR, hRR⟩ : ∃ RR, RR = srchOf p wd bud (allV p) := ⟨_, rfl⟩
  rw [← hRR]
  have HRR := hidOf hRR
  clear hRR S0
  have X1 := X0
  obtain ⟨-, c0, c1, c2, c3, c4⟩ := X0
  go_enter Try.func34, Try.ntmps34
  go_wp2
  rw [← hW0]
  clear hW0
  refine wp_scope_jumps 0 (fun a' w' => ∃ x0 x1 x2 x3 x4 x5 x6 x7 x8 x9 x11 x12 x13 x14 x15 x16 x17 x18 x19 x20 x21 x22 x23 x24 x25 x26 x27 x28 x29 x30 x31 x32 x33 x34 x35 x36 x37 x38 x39 x40 sb a c qs ba bc bs, a' = { tmps := #[x0, x1, x2, x3, x4, x5, x6, x7, x8, x9, .pointer (some ⟨sb, 0, none⟩), x11, x12, x13, x14, x15, x16, x17, x18, x19, x20, x21, x22, x23, x24, x25, x26, x27, x28, x29, x30, x31, x32, x33, x34, x35, x36, x37, x38, x39, x40], defers := [] } ∧ Sr w sb p l wd w' a c qs ba bc bs ∧ RR = (bs, 2)) (fun _ _ => 0) rfl ?_ ?_
  case refine_2 =>
    rintro a' w' ⟨x0, x1, x2, x3, x4, x5, x6, x7, x8, x9, x11, x12, x13, x14, x15, x16, x17, x18, x19, x20, x21, x22, x23, x24, x25, x26, x27, x28, x29, x30, x31, x32, x33, x34, x35, x36, x37, x38, x39, x40, sb, a, c, qs, ba, bc, bs, rfl, X, E⟩
    obtain ⟨hl, -, -, -, -, -, -, c8, -, -⟩ := X.cells
    have HX := hidOf X
    have HER := hidOf E
    clear X E qO qN c0 c1 c2 c3 c4
    go_wp2
    simp only [Exit.jump]
    go_ret2
    rw [HER.out]
    exact ⟨HX.out.bel, ba, bc, rfl, HX.out.best⟩
  case refine_1 =>
    go_wp2_with fail
    refine qO.mono ?_
    rintro e w1 hq
    obtain ⟨rfl, b1⟩ := hq.yes h1
    clear hq qO c0 c1 c2 c3 c4
    obtain ⟨-, c0, c1, c2, c3, c4⟩ := X1.below b1 hX
    have B1 := B0.trans (b1.mono B0.size)
    go_wp2_with fail
    refine (qN _ B1).mono ?_
    rintro e w2 ⟨sb, a2, c2', q2, ba2, bc2, rfl, S2, E2, b2⟩
    clear c0 c1 c2 c3 c4 qN X1
    have HS2 := hidOf S2
    have HE2 := hidOf E2
    have HL2 := hidOf (left_start h1)
    have HI2 := hidOf (srch_start (wd := wd) (allR_ties h1))
    clear S2 E2 b2
    go_wp2
    go_loopw [11] (fun v wr => ∃ (k : Nat) (a : Option Addr) (c : Nat) (qs : List Sp) (ba : Option Addr) (bc : Nat) (bs : List Int), v = .int .i64 k ∧ k ≤ 13200 ∧ Hid (Sr w sb p l wd wr a c qs ba bc bs) ∧ Hid (SInv p wd (qs.map Sp.st) bs) ∧ Hid (leftOf p (qs.map Sp.st) + k ≤ 2 * cntOf p - 1) ∧ Hid (k ≤ bud.toNat) ∧ Hid (srch p wd (bud.toNat - k) (qs.map Sp.st) bs = RR)) (fun v _ => 14000 - (intOf v).toNat)
    case atStart => exact ⟨0, a2, c2', q2, ba2, bc2, allV p, rfl, by omega, HS2, hidOf (by rw [HE2.out]; exact HI2.out), hidOf (by rw [HE2.out]; have := HL2.out; omega), hidOf (Nat.zero_le _), hidOf (by rw [HE2.out, HRR.out]; rfl)⟩
    case round =>
      clear HS2 HE2
      obtain ⟨k, a, c, qs, ba, bc, bs, rfl, hk, HS, HI, HL, HKB, HR⟩ := hrel
      have X := HS.out
      obtain ⟨hl, -, -, -, -, -, -, c8, -, -⟩ := X.cells
      by_cases h0 : qs.length = 0
      · have qE := isEmpty_any (srOf p l wd ba bc bs) sb a qs.length c true wr (by rw [h0]; rfl) X.hv
        have hqs : qs = [] := List.eq_nil_of_length_eq_zero h0
        have ER := hidOf (show RR = (bs, 1) by rw [← HR.out, hqs]; exact srch_none p wd _ bs)
        clear h0 hqs
        go_wp2_with fail
        refine qE.mono ?_
        rintro e wr ⟨rfl, rfl⟩
        clear qE
        go_wp2
        simp only [Exit.jump]
        go_ret2
        rw [ER.out]
        exact ⟨X.bel, ba, bc, rfl, X.best⟩
      · have qE := isEmpty_any (srOf p l wd ba bc bs) sb a qs.length c false wr (by rw [beq_eq_false_iff_ne]; omega) X.hv
        have hne : qs.map Sp.st ≠ [] := fun e => h0 (by have := congrArg List.length e; simpa using this)
        go_wp2_with fail
        refine qE.mono ?_
        rintro e wr ⟨rfl, rfl⟩
        clear qE
        by_cases hkb : (k : Int) ≥ bud
        · have ER := hidOf (show RR = (bs, 2) by rw [← HR.out, show bud.toNat - k = 0 by omega]; exact srch_stop p wd _ bs hne)
          have HX := hidOf X
          clear X
          go_wp2
          go_step3
          refine ⟨rfl, _, _, _, _, _, _, _, _, _, _, _, _, _, _, _, _, _, _, _, _, _, _, _, _, _, _, _, _, _, _, _, _, _, _, _, _, _, _, _, _, sb, a, c, qs, ba, bc, bs, rfl, HX.out, ER.out⟩
        · have hkb' : ¬ (k : Int) ≥ bud := hkb
          have hl1 := HL.out
          have qT := iTry_any X hF hcap hp h1 hne HI.out (by omega)
          have HN := hidOf (HI.out.next h1 hne)
          have HLN := hidOf (show leftOf p (stepH p wd (qs.map Sp.st) bs) + ((k + 1 : Nat) : Int) ≤ 2 * cntOf p - 1 by have := left_next (wd := wd) h1 HI.out hne; omega)
          have HRN := hidOf (show srch p wd (bud.toNat - (k + 1)) (stepH p wd (qs.map Sp.st) bs) (stepB p wd (qs.map Sp.st) bs) = RR by
            rw [← srch_one hne, show bud.toNat - (k + 1) + 1 = bud.toNat - k by omega]
            exact HR.out)
          have hk2 : k + 1 ≤ 13200 := by
            have h5 := len_left h1 (qs.map Sp.st)
            have h6 := left_le h1
            omega
          have HKB2 := hidOf (show k + 1 ≤ bud.toNat by omega)
          clear hl1 c8 X
          go_wp2_with fail
          refine qT.mono ?_
          rintro e w3 ⟨rfl, a3, c3, q3, ba3, bc3, S3, E3⟩
          have HS3 := hidOf S3
          have HE3 := hidOf E3
          clear qT S3 E3
          go_wp2_with fail
          refine (iTell_any _).mono ?_
          rintro e w3 ⟨rfl, rfl⟩
          go_wp2
          go_roundw
          case rel => exact ⟨k + 1, a3, c3, q3, ba3, bc3, _, by go_num, hk2, HS3, hidOf (by rw [HE3.out]; exact HN.out), hidOf (by rw [HE3.out]; exact HLN.out), HKB2, hidOf (by rw [HE3.out]; exact HRN.out)⟩
          case measure => simp [intOf]; omega

set_option maxHeartbeats 4000000 in
set_option maxRecDepth 20000 in
theorem iSearch_of (p : Pc) (l : Pl) (wd bud : Int) (w : World) (r : List Int × Int) (hp : PcIn w p l)
    (hT : ∀ W, PcIn W p l → Calls Try.prog 34 #[pcV p l, .int .i64 wd, .int .i64 bud, .func (.func 35) #[] #[]] W fun e w' => SeAns r W e w') :
    Calls Try.prog 9 #[pcV p l, .int .i64 wd, .int .i64 bud] w fun e w' => SeAns r w e w' := by
  show Calls _ _ #[.agg #[.int .i64 p.indent, .slice l.a1 p.rules.length l.c1, .slice l.a2 p.chunks.length l.c2, .slice l.a3 p.spans.length l.c3, .slice l.a4 p.ties.length l.c4], _, _] _ _
  obtain ⟨W0, hW0, X0, B0, S0⟩ := boxed w p l 29
  have qT := hT W0 (hp.below B0 (Nat.le_refl _))
  unfold pcV at qT
  obtain ⟨-, c0, c1, c2, c3, c4⟩ := X0
  clear hT S0
  go_enter Try.func9, Try.ntmps9
  go_wp2_with fail
  rw [← hW0]
  clear hW0
  refine qT.mono ?_
  rintro e w1 ⟨b1, a, c, rfl, o1⟩
  have HO := hidOf (ownsRow_base o1 B0.size)
  clear qT c0 c1 c2 c3 c4 o1
  go_wp2
  go_ret2
  exact ⟨B0.trans (b1.mono B0.size), a, c, rfl, HO.out⟩
theorem iSearch_yes (p : Pc) (l : Pl) (wd bud : Int) (w : World) (hbd : -9223372036854775808 ≤ bud ∧ bud ≤ 9223372036854775807) (hF : PcFew p) (hcap : p.chunks.length ≤ l.c2) (hp : PcIn w p l) (h1 : Right p) :
    Calls Try.prog 9 #[pcV p l, .int .i64 wd, .int .i64 bud] w fun e w' => SeAns (srchOf p wd bud (allV p)) w e w' := iSearch_of p l wd bud w _ hp (fun W hP => iTold_yes p l wd bud W hbd hF hcap hP h1)
end Go.Proofs.Ytgaejcljabhijaa
/- What spec.l11Push answers. -/
namespace Go.Proofs.Ytgaejcljabhijaa
open Go.RowKit

set_option maxHeartbeats 8000000 in
set_option maxRecDepth 20000 in
theorem sPush_gr (B : Nat) (a : Option Addr) (c : Nat) (ps : List Sp) (x : Sp) (w : World) (hn0 : ps.length ≤ 1048576) (hF : Few ps) (hx : x.st.vals.length ≤ 1048576) (hO : Own w B a c ps) (ho : w.ownsRow B 3 1 (.slice x.a x.st.vals.length x.c) x.st.vals.length (intVals x.st.vals)) (hap : ∀ q ∈ ps, ∀ g, q.blk = some g → x.blk ≠ some g) (hBw : B ≤ w.heap.size) :
    Calls Try.prog 48 #[.slice a ps.length c, .agg #[.slice x.a x.st.vals.length x.c, .int .i64 x.st.sum]] w fun e w' => ∃ a' c', e = .returned (.slice a' (ps.length + 1) c') ∧ Own w' B a' c' (pushL spLess ps x) ∧ w.grownBy w' (Value.slice a ps.length c).ownBlock ∧ (∀ g, (Value.slice a' (ps.length + 1) c').ownBlock = some g → (Value.slice a ps.length c).ownBlock = some g ∨ w.heap.size ≤ g) := by
  obtain ⟨i0, hi, hz0, hz1, hz2⟩ := info_parts infoSt.2
  go_enter Try.func48, Try.ntmps48
  go_upto_region 1 with fail
  obtain ⟨W, hW, X, hbx, SX⟩ := bx_new w x 74
  rw [← hW]
  have O1 := hO.below hbx
  have o1 := owns_below ho hbx
  have hBW : B ≤ W.heap.size := Nat.le_trans hBw hbx.size
  obtain ⟨hX, x0, x1⟩ := X
  have hAD : ∀ ob : Obj, Below W.heap.size W (W.alloc ob) := fun ob => (Below.refl _ _).alloc (Nat.le_refl _) _
  clear hW SX
  go_wp2_with (at_builtin; refine wpList_append_own2 rfl _ _ 75 rfl B 74 i0 (.agg #[.slice none 0 0, .int .i64 0]) 2 32 Try.underlying75 hi hz0 hz1 hz2 rfl (by decide) _ _ _ rfl (O1.row.alloc _) ⟨W.heap.size, 0, none⟩ 1 1 (spCells x) rfl rfl (cells_sp_new W x _) (one_sp x) (by unfold maxLen; omega) (by omega) (by simp; omega) ?_; intro v' w3 hown3 hgrow3 hpl3; obtain ⟨a', c', rfl⟩ := owns_slice hown3)
  have O3 := hidOf (Own.append (O1.below (hAD _)) (owns_below o1 (hAD _)) hap hgrow3 hown3)
  have B3 := hidOf (grownBy_trans (grownBy_of_below (hbx.trans ((hAD _).mono hbx.size)) (Value.slice a ps.length c).ownBlock) hgrow3)
  have HQ : Hid (∀ g, (Value.slice a' (ps.length + 1) c').ownBlock = some g → (Value.slice a ps.length c).ownBlock = some g ∨ w.heap.size ≤ g) := hidOf (fun q hq => (hpl3 q hq).imp_right (fun h => Nat.le_trans (hbx.trans ((hAD (.cells #[.slice x.a x.st.vals.length x.c, .int .i64 x.st.sum] 74)).mono hbx.size)).size h))
  obtain ⟨g, rfl⟩ := owns_at hown3 (by omega)
  clear hown3 hgrow3 hpl3 x0 x1 O1 o1 hAD
  obtain ⟨n1, hn1⟩ : ∃ n1, n1 = ps.length + 1 := ⟨_, rfl⟩
  go_loopw [5] (fun v wr => ∃ (k : Nat) (qs : List Sp), v = .int .i64 k ∧ k < n1 ∧ Hid (qs.length = n1) ∧ Hid (Few qs) ∧ Hid (up spLess qs k = pushL spLess ps x) ∧ Hid (Own wr B (some ⟨g, 0, none⟩) c' qs) ∧ Hid (w.grownBy wr (Value.slice a ps.length c).ownBlock)) (fun v _ => (intOf v).toNat)
  case atStart => exact ⟨ps.length, ps ++ [x], by go_num, by omega, hidOf (by simp [hn1]), hidOf (few_app hF hx), hidOf rfl, O3, B3⟩
  case round =>
    obtain ⟨k, qs, rfl, hk, HL, HF, HU, HO, HB⟩ := hrel
    by_cases h0 : 0 < k
    · have hg : decide ((k : Int) > 0) = true := by simp; omega
      have hA : (0 : Int) ≤ (k : Int) := by omega
      have hB : (k : Int) < ((ps.length : Int) + 1) := by omega
      obtain ⟨j, hj⟩ : ∃ j, j = par k := ⟨_, rfl⟩
      have hjk : j < k := by rw [hj]; exact par_lt h0
      have e1 : ((k : Int) + 1).tdiv 2 = ((k : Int) + 1) / 2 := Int.tdiv_eq_ediv_of_nonneg (by omega)
      have e2 : ((k : Int) + 1) / 2 - 1 = (j : Int) := by rw [hj, par_int k h0]
      have w1 : IntKind.i64.wrap ((k : Int) + 1) = (k : Int) + 1 := IntWalk.i64_in _ ⟨by omega, by omega⟩
      have w2 : IntKind.i64.wrap (((k : Int) + 1) / 2) = ((k : Int) + 1) / 2 := IntWalk.i64_in _ ⟨by omega, by omega⟩
      have w3 : IntKind.i64.wrap (((k : Int) + 1) / 2 - 1) = (j : Int) := by rw [e2]; exact IntWalk.i64_in _ ⟨by omega, by omega⟩
      have hC : (0 : Int) ≤ (j : Int) := by omega
      have hD : (j : Int) < ((ps.length : Int) + 1) := by omega
      obtain ⟨p, ep⟩ : ∃ p, qs[k]? = some p := ⟨_, List.getElem?_eq_getElem (by rw [HL.out]; exact hk)⟩
      obtain ⟨q, eq⟩ : ∃ q, qs[j]? = some q := ⟨_, List.getElem?_eq_getElem (by rw [HL.out]; omega)⟩
      obtain ⟨p0, p1, -, -⟩ := HO.out.at ep
      obtain ⟨q0, q1, -, -⟩ := HO.out.at eq
      have hgl := (HO.out.row.lt g rfl).2
      have HE := hidOf (ltAt_of (lt := spLess) ep eq)
      rw [hj] at HE
      have Fp := HF.out p (List.mem_of_getElem? ep)
      have Fq := HF.out q (List.mem_of_getElem? eq)
      have Kp := HO.out.sts.2 p (List.mem_of_getElem? ep)
      have Kq := HO.out.sts.2 q (List.mem_of_getElem? eq)
      have hS := fun W kp kq => sSL_any p q W Fp Fq kp kq
      obtain ⟨b, hbb⟩ : ∃ b, b = spLess p q := ⟨_, rfl⟩
      rw [← hbb] at hS HE
      have EP := hidOf ep
      have EQ := hidOf eq
      have HJ := hidOf hj
      have HN1 := hidOf hn1
      have hE2 := hidOf e2
      have hkj : k ≠ j := by omega
      clear ep eq hj hbb e2 hn1
      go_wp2
      go_region_held3 (fun W => (W.cell? ⟨g, k * 2, none⟩ = some (.slice p.a p.st.vals.length p.c) ∧ W.cell? ⟨g, k * 2 + 1, none⟩ = some (.int .i64 p.st.sum)) ∧ W.cell? ⟨g, j * 2, none⟩ = some (.slice q.a q.st.vals.length q.c) ∧ W.cell? ⟨g, j * 2 + 1, none⟩ = some (.int .i64 q.st.sum)) (first | trivial | go_keep)
        ((go_at_call 84; refine (hS _ (Kp.below (Below.refl wr.heap.size wr).drew (Nat.le_refl _)) (Kq.below (Below.refl wr.heap.size wr).drew (Nat.le_refl _))).mono ?_; rintro e w4 ⟨rfl, hb4⟩; have E1 := (Below.refl wr.heap.size wr).drew.trans hb4; have hc1 := (bcell E1).1))
      have O4 := HO.out.below E1
      have hBwr : B ≤ wr.heap.size := Nat.le_trans hBw HB.out.size
      have B4 := hidOf (grownBy_trans HB.out (grownBy_of_below E1 _))
      clear p0 p1 q0 q1 hc1 hb4 Kp Kq hS
      cases b
      · go_wp2
        go_ret
        refine ⟨some ⟨g, 0, none⟩, c', rfl, ?_, B4.out, HQ.out⟩
        rw [← HU.out, up_no (by rw [HE.out]; simp)]
        exact O4
      · go_upto_region 6 with fail
        obtain ⟨W5, hW5, X5, hb5, S5⟩ := bx_new w4 p 74
        rw [← hW5]
        have O5 := O4.below hb5
        have hBw4 : B ≤ w4.heap.size := Nat.le_trans hBwr E1.size
        have B5 := hidOf (grownBy_trans B4.out (grownBy_of_below hb5 _))
        have hgw4 : g < w4.heap.size := Nat.lt_of_lt_of_le hgl E1.size
        have hBW5 : B ≤ W5.heap.size := Nat.le_trans hBw4 hb5.size
        obtain ⟨sb, hsb⟩ : ∃ sb, sb = w4.heap.size := ⟨_, rfl⟩
        have hsg : sb ≠ g := by omega
        rw [← hsb] at X5
        rw [← hsb]
        clear hW5 S5 hb5 hsb O4 E1
        obtain ⟨hX5, x0, x1⟩ := X5
        obtain ⟨p0, p1, p2, p3⟩ := O5.at EP.out
        obtain ⟨q0, q1, q2, q3⟩ := O5.at EQ.out
        have HS := hidOf (O5.swap EP.out EQ.out hkj)
        have hBg := (O5.row.lt g rfl).1
        clear O5
        go_wp2
        go_roundw
        case rel => exact ⟨j, swp qs k j, by go_num, by omega, hidOf (by rw [swp_len]; exact HL.out), hidOf (HF.out.swp _ _), hidOf (by rw [← HU.out, up_yes h0 HE.out, HJ.out]), hidOf HS.out.1, hidOf (grown_at B5.out HS.out.2 (HQ.out g rfl))⟩
        case measure => simp [intOf]; omega
    · have hg : decide ((k : Int) > 0) = false := by simp; omega
      go_wp2
      go_quiet (fail)
      go_wp2
      go_ret
      refine ⟨some ⟨g, 0, none⟩, c', rfl, ?_, grownBy_trans HB.out (grownBy_of_below (below_drewN _ _) _), HQ.out⟩
      rw [← HU.out, up_no (by simp [h0])]
      exact HO.out.below (below_drewN _ _)
theorem sPush_any (B : Nat) (a : Option Addr) (c : Nat) (ps : List Sp) (x : Sp) (w : World) (hn0 : ps.length ≤ 1048576) (hF : Few ps) (hx : x.st.vals.length ≤ 1048576) (hO : Own w B a c ps) (ho : w.ownsRow B 3 1 (.slice x.a x.st.vals.length x.c) x.st.vals.length (intVals x.st.vals)) (hap : ∀ q ∈ ps, ∀ g, q.blk = some g → x.blk ≠ some g) (hBw : B ≤ w.heap.size) :
    Calls Try.prog 48 #[.slice a ps.length c, .agg #[.slice x.a x.st.vals.length x.c, .int .i64 x.st.sum]] w fun e w' => ∃ a' c', e = .returned (.slice a' (ps.length + 1) c') ∧ Own w' B a' c' (pushL spLess ps x) ∧ Below B w w' := by
  refine (sPush_gr B a c ps x w hn0 hF hx hO ho hap hBw).mono ?_
  rintro e w1 ⟨a', c', rfl, h1, h2, -⟩
  exact ⟨a', c', rfl, h1, gr_below h2 hBw (fun k e => (hO.row.lt k e).1)⟩
end Go.Proofs.Ytgaejcljabhijaa
