/- What spec.l08Piece draws: a right piece. -/
import Derived.Test.YtgaejcljabhijaaDrCall
import Derived.Test.YtgaejcljabhijaaStepCall
import Derived.Deep.AppendLies
import Derived.Deep.DeepCutAuto
namespace Go.Proofs.Ytgaejcljabhijaa
open Go.RowKit

/-- A piece with nothing in it, and where its lists lie: nowhere. -/
abbrev pc0 (i : Int) : Pc := ⟨i, [], [], [], []⟩
abbrev pl0 : Pl := ⟨none, 0, none, 0, none, 0, none, 0⟩
theorem own4_none (base : Nat) (w : World) (i : Int) : Own4 base w (pc0 i) pl0 :=
  ⟨⟨rfl, .inl ⟨rfl, rfl⟩⟩, ⟨rfl, .inl ⟨rfl, rfl⟩⟩, ⟨rfl, .inl ⟨rfl, rfl⟩⟩, ⟨rfl, .inl ⟨rfl, rfl⟩⟩, (fun k h => by cases h), (fun k h => by cases h), (fun k h => by cases h), (fun k h => by cases h), (fun k h => by cases h), (fun k h => by cases h)⟩
theorem ds_start {base : Nat} {w w1 : World} {blk : Nat} {a : Option Addr} {len cap : Nat} {o2 : Obj} (i : Int) (hb : blk < w.heap.size) (hc : Cur base w1 blk a len cap)
    (hg : ((w.alloc (.cells noCells 29)).alloc o2).grownBy w1 (some blk)) :
    DS base w blk w1.heap.size w.heap.size a len cap (w1.alloc (.cells #[.int .i64 i, .slice none 0 0, .slice none 0 0, .slice none 0 0, .slice none 0 0] 29)) (pc0 i) pl0 := by
  have hs : w.heap.size + 2 ≤ w1.heap.size := by have := hg.size; simp at this; omega
  have hga := World.grownBy_alloc w1 (.cells #[.int .i64 i, .slice none 0 0, .slice none 0 0, .slice none 0 0, .slice none 0 0] 29) none
  have hg0 : w.grownBy w1 (some blk) := grown_two (grown_row (grown_row (World.grownBy.refl w (some blk)) (World.grownBy_alloc w (.cells noCells 29) none) (fun k e => by cases e)) (World.grownBy_alloc _ o2 none) (fun k e => by cases e)) hg
  refine ⟨hc.kept hga (fun k e => by cases e), grown_row hg0 hga (fun k e => by cases e), heap_alloc_new w1 _, ?_, hb, by omega, Nat.le_refl _, by omega, own4_none _ _ _, (fun k h => by cases h), (fun k h => by cases h), (fun k h => by cases h), (fun k h => by cases h)⟩
  rw [Below.heap_alloc w1 _ _ (by omega), hg.block w.heap.size (by simp; omega) (fun e => by have := Option.some.inj e; omega)]
  exact heap_alloc2_old w _ o2

theorem far_alloc {w w' : World} {o : Obj} {g : Nat} (hg : (w.drew.alloc o).grownBy w' (some g)) (b j : Nat) (hb : b < w.heap.size) (hne : b ≠ g) : w'.cell? ⟨b, j, none⟩ = w.cell? ⟨b, j, none⟩ := by
  have hb' : b < w.drew.heap.size := hb
  have h1 := hg.block b (by rw [size_alloc1]; omega) (fun e => hne (Option.some.inj e))
  have h2 := Below.heap_alloc w.drew o b hb'
  rw [World.cell?_of_block (a := ⟨b, j, none⟩) (h1.trans h2)]
  rfl
def SnSome (n : Nat) (xs : List Sn) : Prop := ∀ (j : Nat) (x : Sn), xs[j]? = some x → SnOk n x
def TiSome (n : Nat) (xs : List Ti) : Prop := ∀ (j : Nat) (x : Ti), xs[j]? = some x → TiOk n x
/-- A drawn piece: right, and small. -/
structure Drawn (p : Pc) : Prop where
  right : Right p
  r1 : 1 ≤ p.rules.length
  r5 : p.rules.length ≤ 5
  c9 : p.chunks.length ≤ 9
  s2 : p.spans.length ≤ 2
  t2 : p.ties.length ≤ 2
  texts : ∀ (j : Nat) (x : Ch), p.chunks[j]? = some x → x.text.size ≤ 11
/-- The chunks so far. -/
def ChSome (rs : List Ru) (cs : List Ch) : Prop := ∀ (j : Nat) (x : Ch), cs[j]? = some x → (Plain x.text ∧ x.text.size ≤ 11) ∧ SplitOk rs x
theorem wrap64_in {n : Int} (h : -9223372036854775808 ≤ n ∧ n ≤ 9223372036854775807) : wrap64 n = n := (IntWalk.i64_left n).symm.trans (IntWalk.i64_in n h)
/-- The rules so far. -/
def RuSome (rs : List Ru) : Prop := ∀ (j : Nat) (x : Ru), rs[j]? = some x → (2 ≤ x.values ∧ x.values ≤ 3) ∧ 1 ≤ x.cost ∧ x.cost ≤ 2
theorem at_snoc {α : Type} {P : α → Prop} {xs : List α} {x : α} (h : ∀ (j : Nat) (y : α), xs[j]? = some y → P y) (hx : P x) : ∀ (j : Nat) (y : α), (xs ++ [x])[j]? = some y → P y := by
  intro j y hy
  rcases Nat.lt_or_ge j xs.length with hl | hl
  · rw [List.getElem?_append_left hl] at hy
    exact h j y hy
  · rw [List.getElem?_append_right hl] at hy
    have hj : j - xs.length = 0 := by
      have := (List.getElem?_eq_some_iff.1 hy).1
      simp at this
      omega
    rw [hj] at hy
    cases hy
    exact hx

/-- The rule above: another one than the kid's. -/
def tieUp (ka x n : Nat) : Int := ((ka : Int) + 1 + (x : Int)) % (n : Int)
theorem tieUp_eq (ka x n : Nat) (ha : ka < n) (hx : x + 1 < n) : tieUp ka x n = if ka + 1 + x < n then ((ka + 1 + x : Nat) : Int) else ((ka + 1 + x - n : Nat) : Int) := by
  have e : tieUp ka x n = (((ka + 1 + x) % n : Nat) : Int) := by unfold tieUp; simp
  rw [e]
  split
  · rw [Nat.mod_eq_of_lt (by assumption)]
  · rw [Nat.mod_eq_sub_mod (by omega), Nat.mod_eq_of_lt (by omega)]
theorem tie_ok (ka x n : Nat) (ha : ka < n) (hx : x + 1 < n) : TiOk n ⟨(ka : Int), tieUp ka x n⟩ := by
  unfold TiOk
  dsimp only
  rw [tieUp_eq ka x n ha hx]
  split <;> omega
theorem tie_tmod (ka x n : Nat) : ((ka : Int) + 1 + (x : Int)).tmod (n : Int) = tieUp ka x n := Int.tmod_eq_emod_of_nonneg (by omega)
theorem DS.resCells {base : Nat} {w0 : World} {blk pb R : Nat} {a : Option Addr} {len cap : Nat} {w : World} {p : Pc} {l : Pl} (h : DS base w0 blk pb R a len cap w p l) : w.cell? ⟨R, 0, none⟩ = some (.int .i64 0) ∧ w.cell? ⟨R, 1, none⟩ = some (.slice none 0 0) ∧ w.cell? ⟨R, 2, none⟩ = some (.slice none 0 0) ∧ w.cell? ⟨R, 3, none⟩ = some (.slice none 0 0) ∧ w.cell? ⟨R, 4, none⟩ = some (.slice none 0 0) :=
  ⟨cell_of_row w _ 0 _ _ _ h.res, cell_of_row w _ 1 _ _ _ h.res, cell_of_row w _ 2 _ _ _ h.res, cell_of_row w _ 3 _ _ _ h.res, cell_of_row w _ 4 _ _ _ h.res⟩
theorem DS.resFrozen {base : Nat} {w0 : World} {blk pb R : Nat} {a : Option Addr} {len cap : Nat} {w : World} {p : Pc} {l : Pl} (h : DS base w0 blk pb R a len cap w p l) : ∀ j, w.frozen? ⟨R, j, none⟩ = false := fun j => frozen_of_row w R j _ _ h.res
/-- What is told is written, and all else stays. -/
theorem DS.fin {base : Nat} {w0 : World} {blk pb R : Nat} {a : Option Addr} {len cap : Nat} {w : World} {p : Pc} {l : Pl} (h : DS base w0 blk pb R a len cap w p l) (v0 v1 v2 v3 v4 : Value) :
    Own4 w0.heap.size (((((w.setCell ⟨R, 0, none⟩ v0).setCell ⟨R, 1, none⟩ v1).setCell ⟨R, 2, none⟩ v2).setCell ⟨R, 3, none⟩ v3).setCell ⟨R, 4, none⟩ v4) p l ∧ Cur base (((((w.setCell ⟨R, 0, none⟩ v0).setCell ⟨R, 1, none⟩ v1).setCell ⟨R, 2, none⟩ v2).setCell ⟨R, 3, none⟩ v3).setCell ⟨R, 4, none⟩ v4) blk a len cap ∧ w0.grownBy (((((w.setCell ⟨R, 0, none⟩ v0).setCell ⟨R, 1, none⟩ v1).setCell ⟨R, 2, none⟩ v2).setCell ⟨R, 3, none⟩ v3).setCell ⟨R, 4, none⟩ v4) (some blk) := by
  have step : ∀ (u : World) (j : Nat) (v : Value), (Own4 w0.heap.size u p l ∧ Cur base u blk a len cap ∧ w0.grownBy u (some blk)) → (Own4 w0.heap.size (u.setCell ⟨R, j, none⟩ v) p l ∧ Cur base (u.setCell ⟨R, j, none⟩ v) blk a len cap ∧ w0.grownBy (u.setCell ⟨R, j, none⟩ v) (some blk)) := by
    intro u j v hu
    have hs := set_grown u ⟨R, j, none⟩ v
    have hco := h.cur.own
    have hol := h.old
    have hnR := h.nR
    refine ⟨hu.1.kept hs (fun k e => ?_), hu.2.1.kept hs (fun k e => ?_), grown_row hu.2.2 hs (fun k e => ?_)⟩
    · cases e
      exact ⟨fun e => (h.f1 _ e).2 rfl, fun e => (h.f2 _ e).2 rfl, fun e => (h.f3 _ e).2 rfl, fun e => (h.f4 _ e).2 rfl⟩
    · cases e
      exact ⟨by show base ≤ R; omega, by show R ≠ blk; omega⟩
    · cases e
      exact .inl hnR
  exact step _ 4 v4 (step _ 3 v3 (step _ 2 v2 (step _ 1 v1 (step _ 0 v0 ⟨h.own, h.cur, h.grow⟩))))
/-- What was drawn is right. -/
theorem right_of {rs : List Ru} {cs : List Ch} {sp : List Sn} {q : Pc} {n m k : Nat} {ind : Int} (h1 : rs.length = n) (hn1 : 1 ≤ n) (hn5 : n ≤ 5) (h2 : RuSome rs)
    (h3 : cs.length = m + 1 ∧ ∃ (ds : List Ch) (t : ByteArray), cs = ds ++ [⟨t, 0, 0, false, 0⟩] ∧ ds.length = m ∧ ChSome rs ds ∧ Plain t ∧ t.size ≤ 11) (hm : m ≤ 8) (h4 : 0 ≤ ind ∧ ind ≤ 60)
    (h5 : sp.length ≤ 2 ∧ SnSome (m + 1) sp) (h6 : q.ties.length = k) (hk : k ≤ 2) (h7 : q.rules = rs ∧ q.indent = ind ∧ q.chunks = cs ∧ q.spans = sp ∧ TiSome n q.ties) : Drawn q := by
  obtain ⟨e1, e2, e3, e4, ht⟩ := h7
  obtain ⟨hcl, ds, t, hc, hdl, hch, hpl, hts⟩ := h3
  have hat : ∀ (j : Nat) (x : Ch), cs[j]? = some x → (j < m ∧ ds[j]? = some x) ∨ (j = m ∧ x = ⟨t, 0, 0, false, 0⟩) := by
    intro j x hx
    rw [hc] at hx
    rcases Nat.lt_or_ge j ds.length with hl | hl
    · rw [List.getElem?_append_left hl] at hx
      exact .inl ⟨by omega, hx⟩
    · rw [List.getElem?_append_right hl] at hx
      have hj : j - ds.length = 0 := by
        have := (List.getElem?_eq_some_iff.1 hx).1
        simp at this
        omega
      rw [hj] at hx
      exact .inr ⟨by omega, by simpa using hx.symm⟩
  refine ⟨⟨by rw [e2]; exact h4, ⟨by rw [e1]; omega, by rw [e1]; exact fun j x hx => ⟨(h2 j x hx).1, by have := (h2 j x hx).2; omega, by have := (h2 j x hx).2; omega⟩⟩, ⟨by rw [e3]; omega, by rw [e3]; omega, ?_, ?_⟩, ⟨by rw [e4]; omega, by rw [e4, e3, hcl]; exact h5.2⟩, ⟨by omega, by rw [e1, h1]; exact ht⟩⟩, by rw [e1]; omega, by rw [e1]; omega, by rw [e3]; omega, by rw [e4]; omega, by omega, ?_⟩
  · rw [e3, e1]
    intro j x hx
    rcases hat j x hx with ⟨hj, hd⟩ | ⟨hj, hd⟩
    · exact ⟨(hch j x hd).1.1, fun _ => (hch j x hd).2⟩
    · subst hd
      exact ⟨hpl, fun h => by omega⟩
  · rw [e3]
    intro x hx
    rcases hat _ x hx with ⟨hj, _⟩ | ⟨_, hd⟩
    · omega
    · subst hd
      exact ⟨rfl, rfl, rfl, rfl⟩
  · rw [e3]
    intro j x hx
    rcases hat j x hx with ⟨_, hd⟩ | ⟨_, hd⟩
    · exact (hch j x hd).1.2
    · subst hd
      exact hts

set_option maxHeartbeats 16000000 in
set_option maxRecDepth 20000 in
theorem piece_any (base : Nat) (w : World) (blk : Nat) (a : Option Addr) (len cap : Nat) (hc : Cur base w blk a len cap) :
    Calls Try.prog 31 #[.pointer (some ⟨blk, 0, none⟩)] w fun e w' => ∃ (p : Pc) (l : Pl), e = .returned (pcV p l) ∧ Drawn p ∧ Own4 w.heap.size w' p l ∧ Cur base w' blk a len cap ∧ w.grownBy w' (some blk) := by
  have hblt := hc.lt
  have HC := hidOf hc
  clear hc
  go_enter Try.func31, Try.ntmps31
  go_wp2_with fail
  have hca := (HC.out.kept (World.grownBy_alloc w (.cells noCells 29) none) (fun k e => by cases e)).kept (World.grownBy_alloc _ (.cells #[.int .i64 0, .int .i64 2, .int .i64 8] 3) none) (fun k e => by cases e)
  refine (pickInt_in base _ blk a len cap (w.heap.size + 1) 3 3 [0, 2, 8] hca (by omega) (by omega) rfl (by omega) (by simp) ?_).mono ?_
  · intro j hj
    have := intCells_at (w.alloc (.cells noCells 29)) #[.int .i64 0, .int .i64 2, .int .i64 8] 3 [0, 2, 8] rfl j
    rw [size_alloc1] at this
    exact this
  rintro e w1 ⟨ind, hind, rfl, hc1, hg1⟩
  have D1 := ds_start ind hblt hc1 hg1
  have Hind := hidOf (show 0 ≤ ind ∧ ind ≤ 60 by simp at hind; omega)
  clear hca hc1 hg1 hind
  go_wp2_with fail
  refine (below_ds 5 D1 (by omega) (by omega)).mono ?_
  rintro e w2 ⟨n0, hn0, rfl, D2, -⟩
  obtain ⟨pb, hpb⟩ : ∃ pb, pb = w1.heap.size := ⟨_, rfl⟩
  obtain ⟨R, hRr⟩ : ∃ R, R = w.heap.size := ⟨_, rfl⟩
  rw [← hpb, ← hRr] at D2
  rw [← hpb, ← hRr]
  clear D1 hpb hRr
  obtain ⟨i1, hi1, hz10, hz11, hz12⟩ := info_parts infoRuD
  obtain ⟨i2, hi2, hz20, hz21, hz22⟩ := info_parts infoChD
  obtain ⟨i3, hi3, hz30, hz31, hz32⟩ := info_parts infoSnD
  obtain ⟨i4, hi4, hz40, hz41, hz42⟩ := info_parts infoTiD
  go_wp2
  obtain ⟨n, hn⟩ : ∃ n, n = 1 + n0 := ⟨_, rfl⟩
  rw [show (1 : Int) + (n0 : Int) = (n : Int) by omega]
  have hn1 : 1 ≤ n := by omega
  have hn5 : n ≤ 5 := by omega
  clear hn hn0
  go_loopw [5] (fun i wr => ∃ (k : Nat) (p : Pc) (l : Pl), k ≤ n ∧ i = .int .i64 k ∧ Hid (p.rules.length = k ∧ p.indent = ind ∧ p.chunks = [] ∧ p.spans = [] ∧ p.ties = [] ∧ RuSome p.rules) ∧ DS base w blk pb R a len cap wr p l) (fun i _ => n - (intOf i).toNat)
  case atStart => exact ⟨0, _, _, Nat.zero_le _, rfl, hidOf ⟨rfl, rfl, rfl, rfl, rfl, fun j x hx => by cases hx⟩, D2⟩
  case round =>
    clear D2
    obtain ⟨k, p, l, hk, rfl, HP, D⟩ := hrel
    by_cases hlt : k < n
    · have hA : (k : Int) < (n : Int) := by omega
      obtain ⟨⟨b0, b1, b2, b3, b4⟩, bf⟩ := D.cells
      have bf1 := bf 1
      have hpl := D.pbl
      have Dd := D.drew
      have hlen : p.rules.length ≤ 5 := by have := HP.out.1; omega
      clear b0 b2 b3 b4 bf
      go_wp2
      go_region_law (first
        | (refine step_call (by rfl) 41 _ (by go_simp; try rfl) ((below_ds 2 Dn (by omega) (by omega)).mono ?_); rintro e wm ⟨y, hy, rfl, Dm, hgm⟩; have hpm := Dm.pbl; obtain ⟨⟨-, m1, -, -, -⟩, mf⟩ := Dm.cells; have mf1 := mf 1; clear mf; have hwy : IntKind.i64.wrap (1 + (y : Int)) = 1 + (y : Int) := IntWalk.i64_in _ ⟨by omega, by omega⟩; refine ⟨_, rfl, ?_⟩)
        | (refine step_call (by rfl) 41 _ (by go_simp; try rfl) ((below_ds 2 Dd (by omega) (by omega)).mono ?_); rintro e wn ⟨x, hx, rfl, Dn, hgn⟩; have hpn := Dn.pbl; obtain ⟨⟨-, c1, -, -, -⟩, cf⟩ := Dn.cells; have cf1 := cf 1; clear cf; have hwx : IntKind.i64.wrap (2 + (x : Int)) = 2 + (x : Int) := IntWalk.i64_in _ ⟨by omega, by omega⟩; refine ⟨_, rfl, ?_⟩)
        | (refine step_append_lies _ (by rfl) _ _ _ (by rfl) w.heap.size 69 i1 _ 2 16 Try.underlying24 hi1 hz10 hz11 hz12 rfl (by omega) (.slice l.a1 p.rules.length l.c1) p.rules.length (rowVals ruCells p.rules) (by rfl) (Dm.alloc _).own.o1 ⟨wm.heap.size, 0, none⟩ 1 1 (ruCells ⟨2 + (x : Int), 1 + (y : Int)⟩) (by rfl) (by rfl) (news_new wm _ _) (ruCells_one _) (by omega) (by unfold maxLen; omega) (by omega) (by have := Dm.grow.size; simp; omega) (wm.heap.size + 1) (by simp) ?_; intro g cc w3 hown3 hgrow3 hat3 hlt3; obtain ⟨c3, cf3⟩ := (Dm.alloc _).far1 hgrow3))
      all_goals go_wp2
      all_goals refine ⟨⟨k + 1, { p with rules := p.rules ++ [⟨2 + (x : Int), 1 + (y : Int)⟩] }, { l with a1 := some ⟨g, 0, none⟩, c1 := cc }, by omega, by go_num, ?_, (Dm.alloc _).app1 hown3 hgrow3 (by rw [size_alloc1]; exact hat3)⟩, by simp only [intOf]; omega⟩
      all_goals refine hidOf ⟨?_, HP.out.2.1, HP.out.2.2.1, HP.out.2.2.2.1, HP.out.2.2.2.2.1, at_snoc HP.out.2.2.2.2.2 ⟨⟨?_, ?_⟩, ?_, ?_⟩⟩
      all_goals dsimp only
      all_goals first | omega | (have := HP.out.1; simp; omega)
    · have HRU := hidOf (show p.rules.length = n ∧ RuSome p.rules from ⟨by have := HP.out.1; omega, HP.out.2.2.2.2.2⟩)
      have HPP := hidOf HP.out.2
      clear HP
      go_wp2_with fail
      refine (below_ds 9 D (by omega) (by omega)).mono ?_
      rintro e w4 ⟨m, hm, rfl, D4, -⟩
      clear D
      go_wp2
      obtain ⟨rs, hrs⟩ : ∃ rs, rs = p.rules := ⟨_, rfl⟩
      rw [← hrs] at HRU
      have HPQ := hidOf (show p.rules = rs ∧ p.indent = ind ∧ p.chunks = [] ∧ p.spans = [] ∧ p.ties = [] from ⟨hrs.symm, HPP.out.1, HPP.out.2.1, HPP.out.2.2.1, HPP.out.2.2.2.1⟩)
      clear HPP hrs
      go_loopw [7] (fun i wr => ∃ (k : Nat) (p : Pc) (l : Pl), k ≤ m ∧ i = .int .i64 k ∧ Hid (p.chunks.length = k ∧ p.rules = rs ∧ p.indent = ind ∧ p.spans = [] ∧ p.ties = [] ∧ ChSome rs p.chunks) ∧ DS base w blk pb R a len cap wr p l) (fun i _ => m - (intOf i).toNat)
      case atStart => exact ⟨0, p, l, Nat.zero_le _, rfl, hidOf ⟨by rw [HPQ.out.2.2.1]; rfl, HPQ.out.1, HPQ.out.2.1, HPQ.out.2.2.2.1, HPQ.out.2.2.2.2, by rw [HPQ.out.2.2.1]; exact fun j x hx => by cases hx⟩, D4⟩
      case round =>
        clear D4 HPQ
        obtain ⟨k2, p, l, hk2, rfl, HP, D⟩ := hrel
        by_cases hlt2 : k2 < m
        · have hA : (k2 : Int) < (m : Int) := by omega
          go_wp2_with fail
          refine (below_ds n D (by omega) (by omega)).mono ?_
          rintro e w5 ⟨r, hr, rfl, D5, -⟩
          clear D
          obtain ⟨y, ey⟩ : ∃ y, rs[r]? = some y := ⟨_, List.getElem?_eq_getElem (by have := HRU.out.1; omega)⟩
          have hy := HRU.out.2 r y ey
          have R5 := D5.own.is.rules
          rw [HP.out.2.1] at R5
          obtain ⟨b1, o1, ea, hb1, hc1⟩ := R5 (by have := HRU.out.1; omega)
          obtain ⟨p0, p1⟩ := ruC (w := w5) (fun j hj => hc1 r y ey j hj)
          obtain ⟨⟨-, c1, -, -, -⟩, -⟩ := D5.cells
          have hpl5 := D5.pbl
          have hrl : p.rules.length = n := by rw [HP.out.2.1]; exact HRU.out.1
          rw [ea, hrl] at c1
          have EY := hidOf ey
          have HRL := hidOf hrl
          clear ey hc1 R5 ea hrl
          have hA2 : (0 : Int) ≤ (r : Int) := by omega
          have hv2 : 0 < y.values - 1 := by omega
          have hv3 : y.values - 1 ≤ 2 := by omega
          go_wp2_with fail
          refine (below_ds (y.values - 1) D5 hv2 (by omega)).mono ?_
          rintro e w6 ⟨z, hz, rfl, D6, -⟩
          clear D5 p0 p1 c1
          go_wp2_with fail
          refine (once_ds 2 D6 (by omega) (by omega)).mono ?_
          rintro e w7 ⟨⟨bb, rfl⟩, D7, -⟩
          clear D6
          go_wp2_with fail
          refine (below_ds 3 D7 (by omega) (by omega)).mono ?_
          rintro e w8 ⟨q, hq, rfl, D8, -⟩
          clear D7
          go_wp2
          obtain ⟨w9, hw9⟩ : ∃ w9, w9 = w8.alloc (.cells #[.int .i64 (r : Int), .int .i64 (1 + (z : Int)), .bool bb, .int .i64 (4 * (q : Int))] 106) := ⟨_, rfl⟩
          obtain ⟨sb, hsb⟩ : ∃ sb, sb = w8.heap.size := ⟨_, rfl⟩
          have D9 : DS base w blk pb R a len cap w9 p l := by rw [hw9]; exact D8.alloc _
          have s0 : w9.cell? ⟨sb, 0, none⟩ = some (.int .i64 (r : Int)) := by rw [hw9, hsb]; simp
          have s1 : w9.cell? ⟨sb, 1, none⟩ = some (.int .i64 (1 + (z : Int))) := by rw [hw9, hsb]; simp
          have s2 : w9.cell? ⟨sb, 2, none⟩ = some (.bool bb) := by rw [hw9, hsb]; simp
          have s3 : w9.cell? ⟨sb, 3, none⟩ = some (.int .i64 (4 * (q : Int))) := by rw [hw9, hsb]; simp
          have hsl : sb < w9.heap.size := by rw [hw9, hsb]; simp
          have hsn : sb ≠ blk := by have := D8.grow.size; have := D8.old; omega
          rw [← hw9, ← hsb]
          clear hw9 hsb D8
          obtain ⟨⟨-, -, b2, -, -⟩, bf⟩ := D9.cells
          have bf2 := bf 2
          have hpl := D9.pbl
          have Dd := D9.drew
          have hw0 : w.heap.size ≤ w9.heap.size := D9.grow.size
          have hlen : p.chunks.length ≤ 8 := by have := HP.out.1; omega
          clear bf
          go_region_law (first
            | (refine step_call (by rfl) 74 _ (by go_simp; try rfl) ((pick_ds w9.heap.size 5 5 txA (Dd.alloc _) (by omega) (by omega) rfl hw0 (by simp) (fun j _ => cells_at w9.drew _ _ txA rfl j)).mono ?_); rintro e wn ⟨t, ht, rfl, Dn, hgn⟩; have hpn := Dn.pbl; have hsn1 : sb < wn.heap.size := Nat.lt_of_lt_of_le hsl (Nat.le_trans (by simp) hgn.size); obtain ⟨⟨-, -, n2, -, -⟩, nf⟩ := Dn.cells; have nf2 := nf 2; clear nf; have t0 := (far_alloc hgn sb 0 hsl hsn).trans s0; have t1 := (far_alloc hgn sb 1 hsl hsn).trans s1; have t2 := (far_alloc hgn sb 2 hsl hsn).trans s2; have t3 := (far_alloc hgn sb 3 hsl hsn).trans s3; refine ⟨_, rfl, ?_⟩)
            | (refine step_append_lies _ (by rfl) _ _ _ (by rfl) w.heap.size 110 i2 _ 5 48 Try.underlying25 hi2 hz20 hz21 hz22 rfl (by omega) (.slice l.a2 p.chunks.length l.c2) p.chunks.length (rowVals chCells p.chunks) (by rfl) (Dn.alloc _).own.o2 ⟨wn.heap.size, 0, none⟩ 1 1 (chCells ⟨t, (r : Int), 1 + (z : Int), bb, 4 * (q : Int)⟩) (by rfl) (by rfl) (news_new wn _ _) (chCells_one _) (by omega) (by unfold maxLen; omega) (by omega) (by have := Dn.grow.size; simp; omega) (wn.heap.size + 1) (by simp) ?_; intro g cc w10 hown3 hgrow3 hat3 hlt3; obtain ⟨g3, gf3⟩ := (Dn.alloc _).far2 hgrow3))
          all_goals go_wp2
          all_goals refine ⟨⟨k2 + 1, { p with chunks := p.chunks ++ [⟨t, (r : Int), 1 + (z : Int), bb, 4 * (q : Int)⟩] }, { l with a2 := some ⟨g, 0, none⟩, c2 := cc }, by omega, by go_num, ?_, (Dn.alloc _).app2 hown3 hgrow3 (by rw [size_alloc1]; exact hat3)⟩, by simp only [intOf]; omega⟩
          all_goals refine hidOf ⟨?_, HP.out.2.1, HP.out.2.2.1, HP.out.2.2.2.1, HP.out.2.2.2.2.1, at_snoc HP.out.2.2.2.2.2 ⟨tx_plain txA_ok ht, hA2, ⟨y, ?_, ?_, ?_⟩, ?_, ?_⟩⟩
          all_goals dsimp only
          all_goals first
            | omega
            | (have := HP.out.1; simp; omega)
            | (rw [Int.toNat_natCast]; exact EY.out)
            | (rw [wrap64_in ⟨by omega, by omega⟩]; omega)
        · have HCH := hidOf HP.out
          clear HP
          go_upto_region 14 with fail
          go_cut [79] (fun _ wx => ∃ (p : Pc) (l : Pl), Hid (p.rules = rs ∧ p.indent = ind ∧ p.spans = [] ∧ p.ties = [] ∧ ∃ (cs : List Ch) (t : ByteArray), p.chunks = cs ++ [⟨t, 0, 0, false, 0⟩] ∧ cs.length = m ∧ ChSome rs cs ∧ Plain t ∧ t.size ≤ 11) ∧ DS base w blk pb R a len cap wx p l)
          case first =>
            obtain ⟨⟨-, -, b2, -, -⟩, bf⟩ := D.cells
            have bf2 := bf 2
            have hpl := D.pbl
            have Dd := D.drew
            have hw0 : w.heap.size ≤ wr.heap.size := D.grow.size
            have hlen : p.chunks.length ≤ 8 := by have := HCH.out.1; omega
            clear bf
            go_region_law (first
              | (refine step_call (by rfl) 74 _ (by go_simp; try rfl) ((pick_ds wr.heap.size 3 3 txB (Dd.alloc _) (by omega) (by omega) rfl hw0 (by simp) (fun j _ => cells_at wr.drew _ _ txB rfl j)).mono ?_); rintro e wn ⟨t, ht, rfl, Dn, hgn⟩; have hpn := Dn.pbl; obtain ⟨⟨-, -, n2, -, -⟩, nf⟩ := Dn.cells; have nf2 := nf 2; clear nf; refine ⟨_, rfl, ?_⟩)
              | (refine step_append_lies _ (by rfl) _ _ _ (by rfl) w.heap.size 110 i2 _ 5 48 Try.underlying25 hi2 hz20 hz21 hz22 rfl (by omega) (.slice l.a2 p.chunks.length l.c2) p.chunks.length (rowVals chCells p.chunks) (by rfl) (Dn.alloc _).own.o2 ⟨wn.heap.size, 0, none⟩ 1 1 (chCells ⟨t, 0, 0, false, 0⟩) (by rfl) (by rfl) (news_new wn _ _) (chCells_one _) (by omega) (by unfold maxLen; omega) (by omega) (by have := Dn.grow.size; simp; omega) (wn.heap.size + 1) (by simp) ?_; intro g cc w10 hown3 hgrow3 hat3 hlt3; obtain ⟨g3, gf3⟩ := (Dn.alloc _).far2 hgrow3))
            all_goals go_wp2
            all_goals go_meet
            all_goals exact ⟨{ p with chunks := p.chunks ++ [⟨t, 0, 0, false, 0⟩] }, { l with a2 := some ⟨g, 0, none⟩, c2 := cc }, hidOf ⟨HCH.out.2.1, HCH.out.2.2.1, HCH.out.2.2.2.1, HCH.out.2.2.2.2.1, p.chunks, t, rfl, by have := HCH.out.1; omega, HCH.out.2.2.2.2.2, tx_plain txB_ok ht⟩, (Dn.alloc _).app2 hown3 hgrow3 (by rw [size_alloc1]; exact hat3)⟩
          case rest =>
            clear D HCH
            obtain ⟨p, l, HP, D⟩ := hcut
            obtain ⟨cs, hcs⟩ : ∃ cs, cs = p.chunks := ⟨_, rfl⟩
            have HCS := hidOf (show cs.length = m + 1 ∧ ∃ (ds : List Ch) (t : ByteArray), cs = ds ++ [⟨t, 0, 0, false, 0⟩] ∧ ds.length = m ∧ ChSome rs ds ∧ Plain t ∧ t.size ≤ 11 by
              obtain ⟨ds, t, h1, h2⟩ := HP.out.2.2.2.2
              rw [hcs]
              exact ⟨by rw [h1]; simp [h2.1], ds, t, h1, h2⟩)
            have HPQ := hidOf (show p.rules = rs ∧ p.indent = ind ∧ p.chunks = cs ∧ p.spans = [] ∧ p.ties = [] from ⟨HP.out.1, HP.out.2.1, hcs.symm, HP.out.2.2.1, HP.out.2.2.2.1⟩)
            clear HP hcs
            go_wp2
            go_loopw [10] (fun i wr => ∃ (k : Nat) (p : Pc) (l : Pl), k ≤ 2 ∧ i = .int .i64 k ∧ Hid (p.spans.length = k ∧ p.rules = rs ∧ p.indent = ind ∧ p.chunks = cs ∧ p.ties = [] ∧ SnSome (m + 1) p.spans) ∧ DS base w blk pb R a len cap wr p l) (fun i _ => 3 - (intOf i).toNat)
            case atStart => exact ⟨0, p, l, Nat.zero_le _, rfl, hidOf ⟨by rw [HPQ.out.2.2.2.1]; rfl, HPQ.out.1, HPQ.out.2.1, HPQ.out.2.2.1, HPQ.out.2.2.2.2, by rw [HPQ.out.2.2.2.1]; exact fun j x hx => by cases hx⟩, D⟩
            case round =>
              clear D HPQ
              obtain ⟨k3, p, l, hk3, rfl, HP, D⟩ := hrel
              go_wp2_with fail
              refine (below_ds 3 D (by omega) (by omega)).mono ?_
              rintro e w5 ⟨v, hv, rfl, D5, -⟩
              clear D
              by_cases hgo : k3 < v ∧ 0 < m
              · have hA : (k3 : Int) < (v : Int) := by omega
                have hB : (0 : Int) < (m : Int) := by omega
                clear hgo
                go_wp2_with fail
                refine (below_ds m D5 (by omega) (by omega)).mono ?_
                rintro e w6 ⟨tt, hto, rfl, D6, -⟩
                clear D5
                obtain ⟨⟨-, -, -, b3, -⟩, bf⟩ := D6.cells
                have bf3 := bf 3
                have hpl := D6.pbl
                have Dd := D6.drew
                have hlen : p.spans.length ≤ 2 := by have := HP.out.1; omega
                have hwt : IntKind.i64.wrap ((tt : Int) + 1) = (tt : Int) + 1 := IntWalk.i64_in _ ⟨by omega, by omega⟩
                clear bf
                go_wp2
                go_region_law (first
                  | (refine step_call (by rfl) 41 _ (by go_simp; try rfl) ((below_ds 2 Dn (by omega) (by omega)).mono ?_); rintro e wm ⟨y, hy, rfl, Dm, hgm⟩; have hpm := Dm.pbl; obtain ⟨⟨-, -, -, m3, -⟩, mf⟩ := Dm.cells; have mf3 := mf 3; clear mf; have hwy : IntKind.i64.wrap (1 + (y : Int)) = 1 + (y : Int) := IntWalk.i64_in _ ⟨by omega, by omega⟩; refine ⟨_, rfl, ?_⟩)
                  | (refine step_call (by rfl) 41 _ (by go_simp; try rfl) ((below_ds ((tt : Int) + 1) Dd (by omega) (by omega)).mono ?_); rintro e wn ⟨x, hx, rfl, Dn, hgn⟩; have hpn := Dn.pbl; obtain ⟨⟨-, -, -, n3, -⟩, nf⟩ := Dn.cells; have nf3 := nf 3; clear nf; refine ⟨_, rfl, ?_⟩)
                  | (refine step_append_lies _ (by rfl) _ _ _ (by rfl) w.heap.size 112 i3 _ 3 24 Try.underlying26 hi3 hz30 hz31 hz32 rfl (by omega) (.slice l.a3 p.spans.length l.c3) p.spans.length (rowVals snCells p.spans) (by rfl) (Dm.alloc _).own.o3 ⟨wm.heap.size, 0, none⟩ 1 1 (snCells ⟨(x : Int), (tt : Int), 1 + (y : Int)⟩) (by rfl) (by rfl) (news_new wm _ _) (snCells_one _) (by omega) (by unfold maxLen; omega) (by omega) (by have := Dm.grow.size; simp; omega) (wm.heap.size + 1) (by simp) ?_; intro g cc w10 hown3 hgrow3 hat3 hlt3; obtain ⟨g3, gf3⟩ := (Dm.alloc _).far3 hgrow3))
                all_goals go_wp2
                all_goals refine ⟨⟨k3 + 1, { p with spans := p.spans ++ [⟨(x : Int), (tt : Int), 1 + (y : Int)⟩] }, { l with a3 := some ⟨g, 0, none⟩, c3 := cc }, by omega, by go_num, ?_, (Dm.alloc _).app3 hown3 hgrow3 (by rw [size_alloc1]; exact hat3)⟩, by simp only [intOf]; omega⟩
                all_goals refine hidOf ⟨?_, HP.out.2.1, HP.out.2.2.1, HP.out.2.2.2.1, HP.out.2.2.2.2.1, at_snoc HP.out.2.2.2.2.2 ⟨⟨?_, ?_⟩, ⟨?_, ?_⟩, ?_, ?_⟩⟩
                all_goals dsimp only
                all_goals first | omega | (have := HP.out.1; simp; omega)
              · have HNG := hidOf hgo
                have HP3 := hidOf (show p.rules = rs ∧ p.indent = ind ∧ p.chunks = cs ∧ p.ties = [] ∧ p.spans.length ≤ 2 ∧ SnSome (m + 1) p.spans from ⟨HP.out.2.1, HP.out.2.2.1, HP.out.2.2.2.1, HP.out.2.2.2.2.1, by have := HP.out.1; omega, HP.out.2.2.2.2.2⟩)
                clear HP hgo
                by_cases hv2 : k3 < v
                case pos =>
                  have hA : (k3 : Int) < (v : Int) := by omega
                  have hB : ¬ (0 : Int) < (m : Int) := fun h => HNG.out ⟨hv2, by omega⟩
                  go_wp2
                  clear hA hB hv2 HNG
                  generalize decide (0 < m) = bz
                  go_loopw [12] (fun i wr => ∃ (k : Nat) (q : Pc) (l : Pl), k ≤ 2 ∧ i = .int .i64 k ∧ Hid (q.ties.length = k ∧ q.rules = rs ∧ q.indent = ind ∧ q.chunks = cs ∧ q.spans = p.spans ∧ TiSome n q.ties) ∧ DS base w blk pb R a len cap wr q l) (fun i _ => 3 - (intOf i).toNat)
                  case atStart => exact ⟨0, p, l, Nat.zero_le _, rfl, hidOf ⟨by rw [HP3.out.2.2.2.1]; rfl, HP3.out.1, HP3.out.2.1, HP3.out.2.2.1, rfl, by rw [HP3.out.2.2.2.1]; exact fun j x hx => by cases hx⟩, D5⟩
                  case round =>
                    clear D5
                    obtain ⟨k4, q, l, hk4, rfl, HQ, D⟩ := hrel
                    go_wp2_with fail
                    refine (below_ds 3 D (by omega) (by omega)).mono ?_
                    rintro e w6 ⟨v4, hv4, rfl, D6, -⟩
                    clear D
                    by_cases hgo : k4 < v4 ∧ 1 < n
                    · have hA4 : (k4 : Int) < (v4 : Int) := by omega
                      have hB4 : (1 : Int) < (n : Int) := by omega
                      clear hgo
                      go_wp2_with fail
                      refine (below_ds n D6 (by omega) (by omega)).mono ?_
                      rintro e w7 ⟨ka, hka, rfl, D7, -⟩
                      clear D6
                      obtain ⟨⟨-, -, -, -, b4⟩, bf⟩ := D7.cells
                      have bf4 := bf 4
                      have hpl := D7.pbl
                      have Dd := D7.drew
                      have hlen : q.ties.length ≤ 2 := by have := HQ.out.1; omega
                      have hwt : IntKind.i64.wrap ((ka : Int) + 1) = (ka : Int) + 1 := IntWalk.i64_in _ ⟨by omega, by omega⟩
                      have hwn : IntKind.i64.wrap ((n : Int) - 1) = (n : Int) - 1 := IntWalk.i64_in _ ⟨by omega, by omega⟩
                      have hnz : ((n : Int) == 0) = false := by rw [beq_eq_false_iff_ne]; omega
                      have hnz2 : ¬ (n : Int) = 0 := by omega
                      have hnz3 : ¬ n = 0 := by omega
                      clear bf
                      go_wp2
                      go_region_law (first
                        | (refine step_call (by rfl) 41 _ (by go_simp; try rfl) ((below_ds ((n : Int) - 1) Dd (by omega) (by omega)).mono ?_); rintro e wn ⟨x, hx, rfl, Dn, hgn⟩; have hpn := Dn.pbl; obtain ⟨⟨-, -, -, -, n4⟩, nf⟩ := Dn.cells; have nf4 := nf 4; clear nf; have hws : IntKind.i64.wrap ((ka : Int) + 1 + (x : Int)) = (ka : Int) + 1 + (x : Int) := IntWalk.i64_in _ ⟨by omega, by omega⟩; have hwm2 := tie_tmod ka x n; refine ⟨_, rfl, ?_⟩)
                        | (refine step_append_lies _ (by rfl) _ _ _ (by rfl) w.heap.size 82 i4 _ 2 16 Try.underlying27 hi4 hz40 hz41 hz42 rfl (by omega) (.slice l.a4 q.ties.length l.c4) q.ties.length (rowVals tiCells q.ties) (by rfl) (Dn.alloc _).own.o4 ⟨wn.heap.size, 0, none⟩ 1 1 (tiCells ⟨(ka : Int), tieUp ka x n⟩) (by rfl) (by rfl) (news_new wn _ _) (tiCells_one _) (by omega) (by unfold maxLen; omega) (by omega) (by have := Dn.grow.size; simp; omega) (wn.heap.size + 1) (by simp) ?_; intro g cc w10 hown3 hgrow3 hat3 hlt3; obtain ⟨g3, gf3⟩ := (Dn.alloc _).far4 hgrow3))
                      all_goals go_wp2
                      all_goals refine ⟨⟨k4 + 1, { q with ties := q.ties ++ [⟨(ka : Int), tieUp ka x n⟩] }, { l with a4 := some ⟨g, 0, none⟩, c4 := cc }, by omega, by go_num, ?_, (Dn.alloc _).app4 hown3 hgrow3 (by rw [size_alloc1]; exact hat3)⟩, by simp only [intOf]; omega⟩
                      all_goals exact hidOf ⟨by show (q.ties ++ [_]).length = _; have := HQ.out.1; simp; omega, HQ.out.2.1, HQ.out.2.2.1, HQ.out.2.2.2.1, HQ.out.2.2.2.2.1, at_snoc HQ.out.2.2.2.2.2 (tie_ok ka x n (by omega) (by omega))⟩
                    · have HNG4 := hidOf hgo
                      have HR := hidOf (right_of HRU.out.1 hn1 hn5 HRU.out.2 HCS.out (by omega) Hind.out HP3.out.2.2.2.2 HQ.out.1 hk4 HQ.out.2)
                      obtain ⟨⟨b0, b1, b2, b3, b4⟩, -⟩ := D6.cells
                      obtain ⟨r0, r1, r2, r3, r4⟩ := D6.resCells
                      have rf := D6.resFrozen
                      have rf0 := rf 0
                      have rf1 := rf 1
                      have rf2 := rf 2
                      have rf3 := rf 3
                      have rf4 := rf 4
                      have hne := D6.ne
                      have hne2 := hne.symm
                      clear hgo rf
                      by_cases hv5 : k4 < v4
                      · have hA4 : (k4 : Int) < (v4 : Int) := by omega
                        have hB4 : ¬ (1 : Int) < (n : Int) := fun h => HNG4.out ⟨hv5, by omega⟩
                        go_wp2
                        refine bodyPost_ret (v := pcV q l) (by simp [results, Try.results31, go_sem, r0, r1, r2, r3, r4]) rfl ⟨q, l, rfl, HR.out, D6.fin _ _ _ _ _⟩
                      · have hA4 : ¬ (k4 : Int) < (v4 : Int) := by omega
                        go_wp2
                        refine bodyPost_ret (v := pcV q l) (by simp [results, Try.results31, go_sem, r0, r1, r2, r3, r4]) rfl ⟨q, l, rfl, HR.out, D6.fin _ _ _ _ _⟩
                case neg =>
                  have hA : ¬ (k3 : Int) < (v : Int) := by omega
                  go_wp2
                  clear hA hv2 HNG
                  generalize decide (k3 < v) = bz
                  go_loopw [12] (fun i wr => ∃ (k : Nat) (q : Pc) (l : Pl), k ≤ 2 ∧ i = .int .i64 k ∧ Hid (q.ties.length = k ∧ q.rules = rs ∧ q.indent = ind ∧ q.chunks = cs ∧ q.spans = p.spans ∧ TiSome n q.ties) ∧ DS base w blk pb R a len cap wr q l) (fun i _ => 3 - (intOf i).toNat)
                  case atStart => exact ⟨0, p, l, Nat.zero_le _, rfl, hidOf ⟨by rw [HP3.out.2.2.2.1]; rfl, HP3.out.1, HP3.out.2.1, HP3.out.2.2.1, rfl, by rw [HP3.out.2.2.2.1]; exact fun j x hx => by cases hx⟩, D5⟩
                  case round =>
                    clear D5
                    obtain ⟨k4, q, l, hk4, rfl, HQ, D⟩ := hrel
                    go_wp2_with fail
                    refine (below_ds 3 D (by omega) (by omega)).mono ?_
                    rintro e w6 ⟨v4, hv4, rfl, D6, -⟩
                    clear D
                    by_cases hgo : k4 < v4 ∧ 1 < n
                    · have hA4 : (k4 : Int) < (v4 : Int) := by omega
                      have hB4 : (1 : Int) < (n : Int) := by omega
                      clear hgo
                      go_wp2_with fail
                      refine (below_ds n D6 (by omega) (by omega)).mono ?_
                      rintro e w7 ⟨ka, hka, rfl, D7, -⟩
                      clear D6
                      obtain ⟨⟨-, -, -, -, b4⟩, bf⟩ := D7.cells
                      have bf4 := bf 4
                      have hpl := D7.pbl
                      have Dd := D7.drew
                      have hlen : q.ties.length ≤ 2 := by have := HQ.out.1; omega
                      have hwt : IntKind.i64.wrap ((ka : Int) + 1) = (ka : Int) + 1 := IntWalk.i64_in _ ⟨by omega, by omega⟩
                      have hwn : IntKind.i64.wrap ((n : Int) - 1) = (n : Int) - 1 := IntWalk.i64_in _ ⟨by omega, by omega⟩
                      have hnz : ((n : Int) == 0) = false := by rw [beq_eq_false_iff_ne]; omega
                      have hnz2 : ¬ (n : Int) = 0 := by omega
                      have hnz3 : ¬ n = 0 := by omega
                      clear bf
                      go_wp2
                      go_region_law (first
                        | (refine step_call (by rfl) 41 _ (by go_simp; try rfl) ((below_ds ((n : Int) - 1) Dd (by omega) (by omega)).mono ?_); rintro e wn ⟨x, hx, rfl, Dn, hgn⟩; have hpn := Dn.pbl; obtain ⟨⟨-, -, -, -, n4⟩, nf⟩ := Dn.cells; have nf4 := nf 4; clear nf; have hws : IntKind.i64.wrap ((ka : Int) + 1 + (x : Int)) = (ka : Int) + 1 + (x : Int) := IntWalk.i64_in _ ⟨by omega, by omega⟩; have hwm2 := tie_tmod ka x n; refine ⟨_, rfl, ?_⟩)
                        | (refine step_append_lies _ (by rfl) _ _ _ (by rfl) w.heap.size 82 i4 _ 2 16 Try.underlying27 hi4 hz40 hz41 hz42 rfl (by omega) (.slice l.a4 q.ties.length l.c4) q.ties.length (rowVals tiCells q.ties) (by rfl) (Dn.alloc _).own.o4 ⟨wn.heap.size, 0, none⟩ 1 1 (tiCells ⟨(ka : Int), tieUp ka x n⟩) (by rfl) (by rfl) (news_new wn _ _) (tiCells_one _) (by omega) (by unfold maxLen; omega) (by omega) (by have := Dn.grow.size; simp; omega) (wn.heap.size + 1) (by simp) ?_; intro g cc w10 hown3 hgrow3 hat3 hlt3; obtain ⟨g3, gf3⟩ := (Dn.alloc _).far4 hgrow3))
                      all_goals go_wp2
                      all_goals refine ⟨⟨k4 + 1, { q with ties := q.ties ++ [⟨(ka : Int), tieUp ka x n⟩] }, { l with a4 := some ⟨g, 0, none⟩, c4 := cc }, by omega, by go_num, ?_, (Dn.alloc _).app4 hown3 hgrow3 (by rw [size_alloc1]; exact hat3)⟩, by simp only [intOf]; omega⟩
                      all_goals exact hidOf ⟨by show (q.ties ++ [_]).length = _; have := HQ.out.1; simp; omega, HQ.out.2.1, HQ.out.2.2.1, HQ.out.2.2.2.1, HQ.out.2.2.2.2.1, at_snoc HQ.out.2.2.2.2.2 (tie_ok ka x n (by omega) (by omega))⟩
                    · have HNG4 := hidOf hgo
                      have HR := hidOf (right_of HRU.out.1 hn1 hn5 HRU.out.2 HCS.out (by omega) Hind.out HP3.out.2.2.2.2 HQ.out.1 hk4 HQ.out.2)
                      obtain ⟨⟨b0, b1, b2, b3, b4⟩, -⟩ := D6.cells
                      obtain ⟨r0, r1, r2, r3, r4⟩ := D6.resCells
                      have rf := D6.resFrozen
                      have rf0 := rf 0
                      have rf1 := rf 1
                      have rf2 := rf 2
                      have rf3 := rf 3
                      have rf4 := rf 4
                      have hne := D6.ne
                      have hne2 := hne.symm
                      clear hgo rf
                      by_cases hv5 : k4 < v4
                      · have hA4 : (k4 : Int) < (v4 : Int) := by omega
                        have hB4 : ¬ (1 : Int) < (n : Int) := fun h => HNG4.out ⟨hv5, by omega⟩
                        go_wp2
                        refine bodyPost_ret (v := pcV q l) (by simp [results, Try.results31, go_sem, r0, r1, r2, r3, r4]) rfl ⟨q, l, rfl, HR.out, D6.fin _ _ _ _ _⟩
                      · have hA4 : ¬ (k4 : Int) < (v4 : Int) := by omega
                        go_wp2
                        refine bodyPost_ret (v := pcV q l) (by simp [results, Try.results31, go_sem, r0, r1, r2, r3, r4]) rfl ⟨q, l, rfl, HR.out, D6.fin _ _ _ _ _⟩
end Go.Proofs.Ytgaejcljabhijaa
