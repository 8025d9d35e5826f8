/- The program's search in memory: where it lies, what stays, and its two small steps: whether first values are too dear, and how they are offered. -/
import Derived.Test.YtgaejcljabhijaaKac
import Derived.Test.YtgaejcljabhijaaKad
import Derived.Test.YtgaejcljabhijaaKag
import Derived.Test.YtgaejcljabhijaaKaj
import Derived.Test.YtgaejcljabhijaaRegPost
import Derived.Test.YtgaejcljabhijaaProg
import Derived.Test.YtgaejcljabhijaaLib
import Derived.Laws.StructEq
namespace Go.Proofs.Ytgaejcljabhijaa
open Go.RowKit

/-- The block of a search: the piece, the width, the heap, the best one, and what that costs. -/
def srK (p : Pc) (l : Pl) (wd : Int) (ba : Option Addr) (bn bc : Nat) (o s : Int) : HK where
  o := 6
  T := 121
  K := fun h => #[.int .i64 p.indent, .slice l.a1 p.rules.length l.c1, .slice l.a2 p.chunks.length l.c2, .slice l.a3 p.spans.length l.c3, .slice l.a4 p.ties.length l.c4, .int .i64 wd, h, .func (.func 108) #[] #[], .slice ba bn bc, .int .i64 o, .int .i64 s]
  at0 := fun _ => rfl
  at1 := fun _ => rfl
  put := fun _ _ => rfl
  ns := by decide
  ni := by decide
abbrev srOf (p : Pc) (l : Pl) (wd : Int) (ba : Option Addr) (bc : Nat) (bs : List Int) : HK := srK p l wd ba bs.length bc (costOver p bs wd) (costSum p bs)
/-- A search: the states that are open, the best one so far. -/
structure Sr (w0 : World) (sb : Nat) (p : Pc) (l : Pl) (wd : Int) (w : World) (a : Option Addr) (c : Nat) (ps : List Sp) (ba : Option Addr) (bc : Nat) (bs : List Int) : Prop where
  hv : Hv (srOf p l wd ba bc bs) w sb a ps.length c
  own : Own w w0.heap.size a c ps
  best : w.ownsRow w0.heap.size 3 1 (.slice ba bs.length bc) bs.length (intVals bs)
  bel : Below w0.heap.size w0 w
  low : w0.heap.size ≤ sb
section
variable {w0 : World} {sb : Nat} {p : Pc} {l : Pl} {wd : Int} {w w' : World} {a : Option Addr} {c : Nat} {ps : List Sp} {ba : Option Addr} {bc : Nat} {bs : List Int}
theorem Sr.more (h : Sr w0 sb p l wd w a c ps ba bc bs) (hb : Below w.heap.size w w') : Sr w0 sb p l wd w' a c ps ba bc bs :=
  ⟨h.hv.kept hb, h.own.below hb, owns_below h.best hb, h.bel.trans (hb.mono h.bel.size), h.low⟩
theorem Sr.cells (h : Sr w0 sb p l wd w a c ps ba bc bs) : sb < w.heap.size ∧ w.cell? ⟨sb, 0, none⟩ = some (.int .i64 p.indent) ∧ w.cell? ⟨sb, 1, none⟩ = some (.slice l.a1 p.rules.length l.c1) ∧ w.cell? ⟨sb, 2, none⟩ = some (.slice l.a2 p.chunks.length l.c2) ∧ w.cell? ⟨sb, 3, none⟩ = some (.slice l.a3 p.spans.length l.c3) ∧ w.cell? ⟨sb, 4, none⟩ = some (.slice l.a4 p.ties.length l.c4) ∧ w.cell? ⟨sb, 5, none⟩ = some (.int .i64 wd) ∧ w.cell? ⟨sb, 8, none⟩ = some (.slice ba bs.length bc) ∧ w.cell? ⟨sb, 9, none⟩ = some (.int .i64 (costOver p bs wd)) ∧ w.cell? ⟨sb, 10, none⟩ = some (.int .i64 (costSum p bs)) :=
  ⟨h.hv.lt, cell_of_row w sb 0 _ _ _ h.hv.row, cell_of_row w sb 1 _ _ _ h.hv.row, cell_of_row w sb 2 _ _ _ h.hv.row, cell_of_row w sb 3 _ _ _ h.hv.row, cell_of_row w sb 4 _ _ _ h.hv.row, cell_of_row w sb 5 _ _ _ h.hv.row, cell_of_row w sb 8 _ _ _ h.hv.row, cell_of_row w sb 9 _ _ _ h.hv.row, cell_of_row w sb 10 _ _ _ h.hv.row⟩
theorem Sr.pc (h : Sr w0 sb p l wd w a c ps ba bc bs) (hp : PcIn w0 p l) : PcIn w p l := hp.below h.bel (Nat.le_refl _)
theorem Sr.wlow (h : Sr w0 sb p l wd w a c ps ba bc bs) : w0.heap.size ≤ w.heap.size := h.bel.size
/-- The heap has turned, all else is as it was. -/
theorem Sr.turn {a' : Option Addr} {c' n' : Nat} {qs : List Sp} (h : Sr w0 sb p l wd w a c ps ba bc bs) (hv : Hv (srOf p l wd ba bc bs) w' sb a' n' c') (hn : n' = qs.length) (ho : Own w' w0.heap.size a' c' qs) (hb : Below w0.heap.size w w') (hg : Gr2 w w' (Value.slice a ps.length c).ownBlock sb) : Sr w0 sb p l wd w' a' c' qs ba bc bs := by
  subst hn
  exact ⟨hv, ho, hg.own h.best (types_apart h.best h.own.row (by decide)) (h.hv.far h.best (srOf p l wd ba bc bs).ni), h.bel.trans hb, h.low⟩
end

set_option maxHeartbeats 1600000 in
theorem iDear_any {w0 : World} {sb : Nat} {p : Pc} {l : Pl} {wd : Int} {w : World} {a : Option Addr} {c : Nat} {ps : List Sp} {ba : Option Addr} {bc : Nat} {bs : List Int} (b : Int) (h : Sr w0 sb p l wd w a c ps ba bc bs) :
    Calls Try.prog 127 #[.pointer (some ⟨sb, 0, none⟩), .int .i64 b] w fun e w' => e = .returned (.bool (decide (costOver p bs wd = 0) && decide (costSum p bs < b))) ∧ w' = w := by
  obtain ⟨hl, -, -, -, -, -, -, -, c9, c10⟩ := h.cells
  by_cases h0 : costOver p bs wd = 0
  · have hg : (costOver p bs wd == 0) = true := by rw [h0]; rfl
    have HE := hidOf (show decide (b > costSum p bs) = (decide (costOver p bs wd = 0) && decide (costSum p bs < b)) by rw [decide_eq_true h0, Bool.true_and])
    obtain ⟨o, ho⟩ : ∃ o, o = costOver p bs wd := ⟨_, rfl⟩
    obtain ⟨s, hs⟩ : ∃ s, s = costSum p bs := ⟨_, rfl⟩
    rw [← ho, ← hs] at HE
    rw [← ho, ← hs]
    rw [← ho] at c9 hg
    rw [← hs] at c10
    clear ho hs h h0
    go_enter Try.func127, Try.ntmps127
    go_wp2
    go_ret
    exact ⟨ret_bool HE.out, rfl⟩
  · have hg : (costOver p bs wd == 0) = false := by rw [beq_eq_false_iff_ne]; exact h0
    have HE := hidOf (show false = (decide (costOver p bs wd = 0) && decide (costSum p bs < b)) by rw [decide_eq_false h0, Bool.false_and])
    obtain ⟨o, ho⟩ : ∃ o, o = costOver p bs wd := ⟨_, rfl⟩
    rw [← ho] at HE c9 hg
    rw [← ho]
    clear ho h h0
    go_enter Try.func127, Try.ntmps127
    go_wp2
    go_ret
    exact ⟨ret_bool HE.out, rfl⟩

/-- The heap behind an offer. -/
def offH (p : Pc) (wd : Int) (bs vs : List Int) (h : List St) : List St := if goodB p wd bs vs = true then pushL stLess h ⟨vs, costSum p vs⟩ else h
/-- What is there behind an offer. -/
def OfAns (w0 : World) (sb : Nat) (p : Pc) (l : Pl) (wd : Int) (w w' : World) (a : Option Addr) (c : Nat) (ps : List Sp) (ba : Option Addr) (bc : Nat) (bs : List Int) (h' : List St) : Prop :=
  ∃ a' c' qs, Sr w0 sb p l wd w' a' c' qs ba bc bs ∧ qs.map Sp.st = h' ∧ Gr2 w w' (Value.slice a ps.length c).ownBlock sb ∧ ∀ g, (Value.slice a' qs.length c').ownBlock = some g → (Value.slice a ps.length c).ownBlock = some g ∨ w.heap.size ≤ g

set_option maxHeartbeats 8000000 in
theorem iOffer_any {w0 : World} {sb : Nat} {p : Pc} {l : Pl} {wd : Int} {w : World} {a : Option Addr} {c : Nat} {ps : List Sp} {ba : Option Addr} {bc : Nat} {bs : List Int} (va : Option Addr) (vc : Nat) (vs : List Int) (h : Sr w0 sb p l wd w a c ps ba bc bs) (hF : PcFew p) (hcap : p.chunks.length ≤ l.c2) (hp : PcIn w0 p l) (h1 : Right p) (h2 : PreV p.rules vs)
    (hn0 : ps.length ≤ 1048576) (hfew : Few ps) (ho : w.ownsRow w0.heap.size 3 1 (.slice va vs.length vc) vs.length (intVals vs)) (hap : ∀ q ∈ ps, ∀ g, q.blk = some g → (Value.slice va vs.length vc).ownBlock ≠ some g) :
    Calls Try.prog 112 #[.pointer (some ⟨sb, 0, none⟩), .slice va vs.length vc] w fun e w' => e = .returned (.tuple #[]) ∧ OfAns w0 sb p l wd w w' a c ps ba bc bs (offH p wd bs vs (ps.map Sp.st)) := by
  have hvl : vs.length ≤ 8 := Nat.le_trans h2.1 h1.rules.1
  obtain ⟨hl, c0, c1, c2, c3, c4, -, -, -, -⟩ := h.cells
  have qB := fun W hP hK => iBnd_any p l va vc vs W hF hcap hP hK h1 h2
  have qM := fun W hP hK => iMay_any p l va vc vs W hF hP hK (pre_nn h2)
  unfold pcV at qB qM
  obtain ⟨z, hz⟩ : ∃ z, z = costSum p vs := ⟨_, rfl⟩
  rw [← hz] at qB
  have HZ := hidOf hz
  obtain ⟨m, hm⟩ : ∃ m, m = mayB p vs := ⟨_, rfl⟩
  rw [← hm] at qM
  have HG := hidOf (show goodB p wd bs vs = (m && !(decide (costOver p bs wd = 0) && decide (costSum p bs < z))) by unfold goodB; rw [hm, hz])
  clear hz hm
  go_enter Try.func112, Try.ntmps112
  go_wp2_with fail
  refine (qB _ (h.pc hp) (.of_own ho)).mono ?_
  rintro e w1 ⟨rfl, b1⟩
  have S1 := h.more b1
  have o1 := owns_below ho b1
  clear c0 c1 c2 c3 c4 hl
  obtain ⟨hl, c0, c1, c2, c3, c4, -, -, -, -⟩ := S1.cells
  go_wp2_with fail
  refine (qM _ (S1.pc hp) (.of_own o1)).mono ?_
  rintro e w2 ⟨rfl, b2⟩
  have B2 := b1.trans (b2.mono b1.size)
  have S2 := S1.more b2
  have o2 := owns_below o1 b2
  clear c0 c1 c2 c3 c4 hl qB qM S1 o1 b1 b2
  have stay : ∀ W, Below w.heap.size w W → Sr w0 sb p l wd W a c ps ba bc bs → OfAns w0 sb p l wd w W a c ps ba bc bs (ps.map Sp.st) := fun W hb hs => ⟨a, c, ps, hs, rfl, Gr2.ofB hb _ _, fun g hg => .inl hg⟩
  have HS := hidOf stay
  clear stay
  cases m with
  | false =>
    have HN := hidOf (show offH p wd bs vs (ps.map Sp.st) = ps.map Sp.st by unfold offH; rw [HG.out]; rfl)
    go_wp2
    go_end0
    rw [HN.out]
    exact ⟨rfl, HS.out _ B2 S2⟩
  | true =>
    have qD := iDear_any z S2
    obtain ⟨d, hd⟩ : ∃ d, d = (decide (costOver p bs wd = 0) && decide (costSum p bs < z)) := ⟨_, rfl⟩
    rw [← hd] at qD HG
    clear hd
    go_wp2_with fail
    refine qD.mono ?_
    rintro e w2 ⟨rfl, rfl⟩
    clear qD
    cases d with
    | true =>
      have HN := hidOf (show offH p wd bs vs (ps.map Sp.st) = ps.map Sp.st by unfold offH; rw [HG.out]; rfl)
      go_wp2
      go_end0
      rw [HN.out]
      exact ⟨rfl, HS.out _ B2 S2⟩
    | false =>
      have HN := hidOf (show offH p wd bs vs (ps.map Sp.st) = pushL stLess (ps.map Sp.st) ⟨vs, z⟩ by unfold offH; rw [HG.out, HZ.out]; rfl)
      have qP := push_any (srOf p l wd ba bc bs) sb w0.heap.size a c ps ⟨⟨vs, z⟩, va, vc⟩ w2 hn0 hfew (by show vs.length ≤ 1048576; omega) S2.own o2 hap S2.hv S2.low S2.wlow
      have hl := S2.hv.lt
      go_wp2_with fail
      refine qP.mono ?_
      rintro e w3 ⟨rfl, a', c', o3, H3, b3, g3, q3⟩
      have HA := hidOf (show OfAns w0 sb p l wd w w3 a c ps ba bc bs (pushL stLess (ps.map Sp.st) ⟨vs, z⟩) from ⟨a', c', pushL spLess ps ⟨⟨vs, z⟩, va, vc⟩, S2.turn H3 (pushL_len _ _).symm o3 b3 g3, pushL_map Sp.st ps ⟨⟨vs, z⟩, va, vc⟩, (Gr2.ofB B2 _ _).trans g3, fun g hg => by
        rw [pushL_len] at hg
        exact (q3 g hg).imp_right (fun h => Nat.le_trans B2.size h)⟩)
      clear qP H3 o3 b3 g3 q3
      go_wp2
      go_end0
      rw [HN.out]
      exact ⟨rfl, HA.out⟩
end Go.Proofs.Ytgaejcljabhijaa
/- A region that draws its order and has guards, by what each of its operations leaves: whatever order is drawn. -/
namespace Go.Proofs.Ytgaejcljabhijaa
open Go.RowKit

/-- What is seen of the operations by looking: each waits for earlier ones only, each has a slot of its own. -/
def tidyG (ops : Array Oper) (size : Nat) : Bool :=
  (List.range ops.size).all fun k =>
    match ops[k]? with
    | none => true
    | some o => (o.after.all fun e => !Region.binds .any e || decide (e.on < k)) &&
      (match o.dst with
      | none => true
      | some d => decide (d < size) && (List.range ops.size).all fun j => decide (k = j) || ((ops[j]?).bind (·.dst)) != some d)
theorem tidyG_at {ops : Array Oper} {size : Nat} (h : tidyG ops size = true) {k : Nat} {o : Oper} (hk : ops[k]? = some o) :
    (∀ e ∈ o.after, Region.binds .any e = true → e.on < k) ∧ ∀ d, o.dst = some d → d < size ∧ ∀ (j : Nat) (o' : Oper), ops[j]? = some o' → o'.dst = some d → k = j := by
  have hlt : k < ops.size := (Array.getElem?_eq_some_iff.1 hk).1
  unfold tidyG at h
  rw [List.all_eq_true] at h
  have h1 := h k (List.mem_range.2 hlt)
  rw [hk] at h1
  dsimp only at h1
  rw [Bool.and_eq_true] at h1
  obtain ⟨ha, hd⟩ := h1
  refine ⟨fun e he hb => ?_, fun d hdd => ?_⟩
  · rw [Array.all_eq_true_iff_forall_mem] at ha
    have := ha e he
    rw [hb] at this
    simpa using this
  · rw [hdd] at hd
    dsimp only at hd
    rw [Bool.and_eq_true] at hd
    refine ⟨by simpa using hd.1, fun j o' hj hj' => ?_⟩
    have hjl : j < ops.size := (Array.getElem?_eq_some_iff.1 hj).1
    have h2 := List.all_eq_true.1 hd.2 j (List.mem_range.2 hjl)
    rw [hj] at h2
    simp only [Option.bind_some, hj', bne_self_eq_false, Bool.or_false, decide_eq_true_eq] at h2
    exact h2

section
variable {P : Program} {ops : Array Oper} {Q : Exit → Act → World → Prop}

/-- One more operation is behind. -/
theorem RegAt.put {a0 : Act} {Inv : World → Prop} {Post : Nat → Value → World → Prop} {L : Array Bool} {a : Act} {w w' : World} {i : Nat} {o : Oper} {v : Value} (ht : tidyG ops a0.tmps.size = true) (h : RegAt ops a0 Inv Post L a w) (ho : ops[i]? = some o) (hv : o.dst = none → v = undef) (hinv : Inv w')
    (hold : ∀ (k : Nat) (u : Value), Post k u w → Post k u w') (hpost : Post i v w') : RegAt ops a0 Inv Post (L.setIfInBounds i true) (a.put o.dst v) w' := by
  obtain ⟨hb, hd⟩ := tidyG_at ht ho
  refine ⟨by simpa using h.size, hinv, ?_, ?_, ?_, ?_⟩
  · cases hod : o.dst with
    | none => exact h.defers
    | some d => exact h.defers
  · cases hod : o.dst with
    | none => exact h.tsize
    | some d => simpa [Act.put] using h.tsize
  · intro s hs
    rw [← h.fix s hs]
    cases hod : o.dst with
    | none => rfl
    | some d =>
      have hne : d ≠ s := fun e => hs i o ho (by rw [hod, e])
      simp [Act.put, Array.getElem?_setIfInBounds_ne hne]
  · intro k o' hk hL
    by_cases hik : i = k
    · subst hik
      rw [ho] at hk
      cases hk
      cases hod : o.dst with
      | none =>
        have : slotOf (a.put none v) o = v := by rw [hv hod]; unfold slotOf; rw [hod]
        rw [this]
        exact hpost
      | some d =>
        have hlt : d < a.tmps.size := by rw [h.tsize]; exact (hd d hod).1
        have : slotOf (a.put (some d) v) o = v := by
          unfold slotOf
          rw [hod]
          simp [Act.put, hlt]
        rw [this]
        exact hpost
    · rw [getD_set_ne true hik] at hL
      have hold := hold k _ (h.post k o' hk hL)
      have : slotOf (a.put o.dst v) o' = slotOf a o' := by
        cases hod : o.dst with
        | none => rfl
        | some d =>
          unfold slotOf
          cases hod' : o'.dst with
          | none => rfl
          | some d' =>
            have hne : d ≠ d' := fun e => hik ((hd d hod).2 k o' hk (by rw [hod', e]))
            simp [Act.put, Array.getElem?_setIfInBounds_ne hne]
      rw [this]
      exact hold

theorem wpAny_guards {a0 : Act} (Inv : World → Prop) (Step : World → World → Prop) (Post : Nat → Value → World → Prop) (ht : tidyG ops a0.tmps.size = true)
    (hstab : ∀ k v w w', Post k v w → Inv w → Step w w' → Post k v w')
    (hstep : ∀ (k : Nat) (o : Oper), ops[k]? = some o → ∀ a w, Inv w → a.tmps.size = a0.tmps.size → (∀ s, (∀ (j : Nat) (o' : Oper), ops[j]? = some o' → o'.dst ≠ some s) → a.tmps.getD s undef = a0.tmps.getD s undef) →
      (∀ e ∈ o.after, Region.binds .any e = true → ∀ (o' : Oper), ops[e.on]? = some o' → Post e.on (slotOf a o') w) →
      (Region.wanted o (yielded ops a.tmps) = true ∧ ∀ K : Act → World → Prop, (∀ v w', (o.dst = none → v = undef) → Inv w' → Step w w' → Post k v w' → K (a.put o.dst v) w') → Oper.wp P o a w K Q) ∨ (Region.wanted o (yielded ops a.tmps) = false ∧ Post k undef w))
    (hend : ∀ a w, Inv w → a.defers = a0.defers → a.tmps.size = a0.tmps.size → (∀ s, (∀ (j : Nat) (o' : Oper), ops[j]? = some o' → o'.dst ≠ some s) → a.tmps.getD s undef = a0.tmps.getD s undef) →
      (∀ (k : Nat) (o : Oper), ops[k]? = some o → Post k (slotOf a o) w) → Q .normal a w) :
    ∀ (fuel : Nat) (L : Array Bool) (a : Act) (w : World), RegAt ops a0 Inv Post L a w → L.count false ≤ fuel → wpAny P .any ops Q fuel L a w := by
  have fin : ∀ (L : Array Bool) (a : Act) (w : World), RegAt ops a0 Inv Post L a w → Region.ready .any ops L = [] → Q .normal a w := fun L a w h hr =>
    hend a w h.inv h.defers h.tsize h.fix (fun k o hk => h.post k o hk (all_listed h.size (fun k o hk => (tidyG_at ht hk).1) hr k))
  intro fuel
  induction fuel with
  | zero =>
    intro L a w h hc
    have hr : Region.ready .any ops L = [] := by
      cases hr : Region.ready .any ops L with
      | nil => rfl
      | cons x xs =>
        have hx : x ∈ Region.ready .any ops L := by rw [hr]; exact List.mem_cons_self
        have := count_set (mem_ready.1 hx).1
        omega
    exact ⟨hr, fin L a w h hr⟩
  | succ fuel ih =>
    intro L a w h hc
    refine ⟨fin L a w h, fun i hi => ?_⟩
    obtain ⟨hun, o, ho, hall⟩ := mem_ready.1 hi
    have hcs := count_set hun
    unfold wpOp
    simp only [ho]
    rcases hstep i o ho a w h.inv h.tsize h.fix (fun e he hbn o' ho' => h.post e.on o' ho' (by
      have h1 := hall e he hbn
      have hel : e.on < L.size := by
        rcases Nat.lt_or_ge e.on L.size with h' | h'
        · exact h'
        · simp [Array.getElem?_eq_none h'] at h1
      simp [hel] at h1 ⊢
      exact h1)) with ⟨hw, hrun⟩ | ⟨hw, hpost⟩
    · rw [if_pos hw]
      exact .inl (hrun _ (fun v w' hv hinv hst hpost => ih _ _ _ (h.put ht ho hv hinv (fun k u hu => hstab k u w w' hu h.inv hst) hpost) (by omega)))
    · rw [if_neg (by rw [hw]; exact Bool.false_ne_true)]
      exact ih _ _ _ (h.put ht ho (fun _ => rfl) h.inv (fun k u hu => hu) hpost) (by omega)

/-- THE LAW: whatever order is drawn, each operation that is wanted leaves what it leaves; what one leaves is not undone by another. -/
theorem wp_region_guards {id : Nat} {a0 : Act} {w0 : World} (hm : P.follows .mixedOrders = true) (Inv : World → Prop) (Step : World → World → Prop) (Post : Nat → Value → World → Prop) (h0 : Inv { w0 with drawn := w0.drawn + 1 }) (ht : tidyG ops a0.tmps.size = true)
    (hstab : ∀ k v w w', Post k v w → Inv w → Step w w' → Post k v w')
    (hstep : ∀ (k : Nat) (o : Oper), ops[k]? = some o → ∀ a w, Inv w → a.tmps.size = a0.tmps.size → (∀ s, ops.all (fun o => o.dst != some s) = true → a.tmps.getD s undef = a0.tmps.getD s undef) →
      (∀ (j : Nat) (o' : Oper), ops[j]? = some o' → o.after.any (fun e => Region.binds .any e && e.on == j) = true → Post j (slotOf a o') w) →
      (Region.wanted o (yielded ops a.tmps) = true ∧ ∀ K : Act → World → Prop, (∀ v w', (o.dst = none → v = undef) → Inv w' → Step w w' → Post k v w' → K (a.put o.dst v) w') → Oper.wp P o a w K Q) ∨ (Region.wanted o (yielded ops a.tmps) = false ∧ Post k undef w))
    (hend : ∀ a w, Inv w → a.defers = a0.defers → a.tmps.size = a0.tmps.size → (∀ s, ops.all (fun o => o.dst != some s) = true → a.tmps.getD s undef = a0.tmps.getD s undef) →
      (∀ (k : Nat) (o : Oper), ops[k]? = some o → Post k (slotOf a o) w) → Q .normal a w) : (Code.region id ops true).wp P Q a0 w0 := by
  have hfx : ∀ s, ops.all (fun o => o.dst != some s) = true → ∀ (j : Nat) (o' : Oper), ops[j]? = some o' → o'.dst ≠ some s := fun s hs j o' hj e => by
    have := Array.all_eq_true_iff_forall_mem.1 hs o' (Array.mem_of_getElem? hj)
    simp [e] at this
  refine wp_region_any hm (wpAny_guards Inv Step Post ht hstab (fun k o hk a w hI hsz hfix hdep => hstep k o hk a w hI hsz (fun s hs => hfix s (hfx s hs)) (fun j o' hj ha => ?_)) (fun a w hI hd hsz hfix hpost => hend a w hI hd hsz (fun s hs => hfix s (hfx s hs)) hpost) _ _ _ _ ⟨by simp, h0, rfl, rfl, fun _ _ => rfl, fun k o hk hL => ?_⟩ ?_)
  · obtain ⟨e, he, hb⟩ := Array.any_eq_true'.1 ha
    rw [Bool.and_eq_true, beq_iff_eq] at hb
    obtain ⟨hb, rfl⟩ := hb
    exact hdep e he hb o' hj
  · have hlt : k < ops.size := (Array.getElem?_eq_some_iff.1 hk).1
    simp [hlt] at hL
  · exact Nat.le_trans Array.count_le_size (by simp)
theorem wanted_none {o : Oper} {y : Nat → Option Bool} (h : o.guard = none) : Region.wanted o y = true := by simp [Region.wanted, h]
/-- Whether a guarded operation is wanted. -/
theorem wanted_is {o oj : Oper} {a : Act} {j d : Nat} {b c : Bool} (hg : o.guard = some (j, b)) (hj : ops[j]? = some oj) (hd : oj.dst = some d) (hv : a.tmps.getD d undef = .bool c) : Region.wanted o (yielded ops a.tmps) = (c == b) := by
  have e : a.tmps[d]? = some (.bool c) := by
    cases h : a.tmps[d]? with
    | none => simp [h, undef] at hv
    | some x => simp [h] at hv; rw [hv]
  unfold Region.wanted yielded
  rw [hg]
  dsimp only
  rw [hj]
  simp only [Option.bind_some, hd, e]
  cases c <;> cases b <;> rfl
/-- An operation that calls a function. -/
theorem wp_calls {o : Oper} {a : Act} {w : World} {K : Act → World → Prop} (f : Nat) (vals : Array Value) {R : Ending → World → Prop} (hrun : (execOp a.eval o).run P w = .ok (.enter f vals) w) (hc : Calls P f vals w R) (hk : ∀ e w', R e w' → ∃ v, e = .returned v ∧ K (a.put o.dst v) w') : Oper.wp P o a w K Q := by
  unfold Oper.wp
  rw [hrun, Oper.upon_enter]
  refine hc.mono fun e w' hh => ?_
  obtain ⟨v, he, hv⟩ := hk e w' hh
  subst he
  exact hv
end
end Go.Proofs.Ytgaejcljabhijaa
/- Two costs compared as structs. -/
namespace Go.Proofs.Ytgaejcljabhijaa
open Go.RowKit

theorem coEq (o1 s1 o2 s2 : Int) (w : World) : (binOp .eql 37 (.agg #[.int .i64 o1, .int .i64 s1]) (.agg #[.int .i64 o2, .int .i64 s2])).run Try.prog w = .ok (.bool (decide (o1 = o2 ∧ s1 = s2))) w := by
  have u3 := Try.underlying3
  have a3 := Try.isAgg3
  have z3 := Try.sizeOf3
  have hS : Try.prog.underlying 37 = some (.struct (Try.prog.fieldsOf 37)) := by kernel_rfl
  have hp : Try.prog.stoodInHeld 37 = false := by kernel_rfl
  rw [run_eql_struct, show (10000 : Nat) = 9999 + 1 from rfl, run_equalIn_agg w 9999 37 _ _ hS hp]
  simp only [Program.fieldsOf, Try.underlying37]
  by_cases h1 : o1 = o2
  · subst h1
    by_cases h2 : s1 = s2
    · subst h2
      go_simp
    · have h2' : (s1 == s2) = false := by simpa using h2
      go_simp
  · have h1' : (o1 == o2) = false := by simpa using h1
    go_simp
end Go.Proofs.Ytgaejcljabhijaa
