/- What a run tells, in memory: the laws' helpers szRan, toRan, eqRan. -/
import Derived.Test.YtdlbnllkfnfgoaaLib
import Derived.Test.YtdlbnllkfnfgoaaIntLib
import Derived.Test.YtdlbnllkfnfgoaaAlloc3
import Derived.Test.YtdlbnllkfnfgoaaToInt
import Derived.Test.YtdlbnllkfnfgoaaEqIn
import Derived.Test.YtdlbnllkfnfgoaaBCell
import Derived.Deep.MidRow
import Derived.Laws.ResultCell
import Derived.BigQuiet
import Derived.Deep.QuietTactic
namespace Go.Proofs.Ytdlbnllkfnfgoaa
open Go.RowKit

/-- What a run tells, its numbers at a place. -/
structure Ra where
  xs : List Int
  ret : Int
  code : Int
  st : Int
  a : Option Addr
  c : Nat
abbrev raV (xs : List Int) (ret code st : Int) (a : Option Addr) (c : Nat) : Value := .agg #[.slice a xs.length c, .int .i64 ret, .int .i64 code, .int .i64 st]
/-- In a variable. -/
structure Rx (w : World) (b : Nat) (p : Ra) : Prop where
  lt : b < w.heap.size
  c0 : w.cell? ⟨b, 0, none⟩ = some (.slice p.a p.xs.length p.c)
  c1 : w.cell? ⟨b, 1, none⟩ = some (.int .i64 p.ret)
  c2 : w.cell? ⟨b, 2, none⟩ = some (.int .i64 p.code)
  c3 : w.cell? ⟨b, 3, none⟩ = some (.int .i64 p.st)
theorem Rx.kept {w w' : World} {b : Nat} {p : Ra} (h : Rx w b p) (hb : Below w.heap.size w w') : Rx w' b p :=
  ⟨Nat.lt_of_lt_of_le h.lt hb.size, by rw [hb.cell h.lt]; exact h.c0, by rw [hb.cell h.lt]; exact h.c1, by rw [hb.cell h.lt]; exact h.c2, by rw [hb.cell h.lt]; exact h.c3⟩
theorem rx_new (w : World) (p : Ra) (t : Nat) : ∃ W, W = w.alloc (.cells #[.slice p.a p.xs.length p.c, .int .i64 p.ret, .int .i64 p.code, .int .i64 p.st] t) ∧ Rx W w.heap.size p ∧ Below w.heap.size w W ∧ W.heap.size = w.heap.size + 1 := by
  refine ⟨_, rfl, ⟨by simp, ?_, ?_, ?_, ?_⟩, (Below.refl _ _).alloc (Nat.le_refl _) _, by simp⟩
  all_goals simp
theorem rx_new2 (w : World) (p q : Ra) (t : Nat) : ∃ W, W = (w.alloc (.cells #[.slice p.a p.xs.length p.c, .int .i64 p.ret, .int .i64 p.code, .int .i64 p.st] t)).alloc (.cells #[.slice q.a q.xs.length q.c, .int .i64 q.ret, .int .i64 q.code, .int .i64 q.st] t) ∧ Rx W w.heap.size p ∧ Rx W (w.heap.size + 1) q ∧ Below w.heap.size w W ∧ W.heap.size = w.heap.size + 2 := by
  obtain ⟨W1, h1, b1, e1, s1⟩ := rx_new w p t
  obtain ⟨W2, h2, b2, e2, s2⟩ := rx_new W1 q t
  refine ⟨W2, by rw [h2, h1], b1.kept e2, ?_, e1.trans (e2.mono e1.size), by omega⟩
  rw [s1] at b2
  exact b2
/-- Four cells of a result. -/
theorem results_one4 {P : Program} {fn : Func} {p : Tmp} {ty : TypeId} (h : fn.results = #[.cell p ty]) (tmps : Array Value) (w : World) (g : Nat) (c0 c1 c2 c3 : Value) (d : TypeDesc)
    (hp : tmps.getD p undef = .pointer (some ⟨g, 0, none⟩)) (h0 : w.cell? ⟨g, 0, none⟩ = some c0) (h1 : w.cell? ⟨g, 1, none⟩ = some c1) (h2 : w.cell? ⟨g, 2, none⟩ = some c2) (h3 : w.cell? ⟨g, 3, none⟩ = some c3)
    (hu : P.underlying ty = some d) (hd : d.isRow = true) (hi : (P.info? ty).map (·.size) = some 4) :
    (results fn tmps).run P w = .ok (.agg #[c0, c1, c2, c3]) w := by
  have hr : w.rangeAt g 0 [c0, c1, c2, c3] := by
    intro j v hv
    match j with
    | 0 => simpa using h0.trans hv
    | 1 => simpa using h1.trans hv
    | 2 => simpa using h2.trans hv
    | 3 => simpa using h3.trans hv
    | j + 4 => simp at hv
  have hp' : tmps[p]?.getD undef = .pointer (some ⟨g, 0, none⟩) := by simpa using hp
  simp [results, h, hp', asAddr, run_loadVar_mid w g 0 ty [c0, c1, c2, c3] d hr hu hd (by simpa using hi)]
theorem infoRan : (Try.prog.info? 38).map (·.size) = some 4 := by kernel_rfl

set_option maxHeartbeats 1600000 in
theorem szIntsR (a : Option Addr) (n c : Nat) (L : Int) (w : World) (hn : n ≤ 9223372036854775807) (h0 : 0 ≤ L) (h1 : L ≤ 1048576) :
    Calls Try.prog 26 #[.slice a n c, .int .i64 L] w fun e w' => ∃ r : Int, e = .returned (.int .i64 r) ∧ ((r = -1) ∨ (0 ≤ r ∧ r = L - n)) ∧ Below w.heap.size w w' := by
  by_cases hb : L < n
  · go_enter Try.func26, Try.ntmps26
    go_wp2
    go_ret
    exact ⟨-1, rfl, .inl rfl, Below.refl _ _⟩
  · go_enter Try.func26, Try.ntmps26
    go_wp2
    go_ret
    exact ⟨_, rfl, .inr ⟨by omega, by omega⟩, Below.refl _ _⟩
set_option maxHeartbeats 1600000 in
theorem szRan_any (p : Ra) (L : Int) (w : World) (hk : p.xs.length ≤ 9223372036854775807) (h0 : 0 ≤ L) (h1 : L ≤ 1048576) :
    Calls Try.prog 15 #[.agg #[.slice p.a p.xs.length p.c, .int .i64 p.ret, .int .i64 p.code, .int .i64 p.st], .int .i64 L] w fun e w' => ∃ r : Int, e = .returned (.int .i64 r) ∧ ((r = -1) ∨ (0 ≤ r ∧ r = L - p.xs.length)) ∧ Below w.heap.size w w' := by
  have HB : ∀ o1 : Obj, Below w.heap.size w (w.alloc o1) := fun o1 => (Below.refl _ _).alloc (Nat.le_refl _) _
  go_enter Try.func15, Try.ntmps15
  go_wp2_with fail
  refine (szIntsR p.a p.xs.length p.c L _ hk h0 h1).mono ?_
  rintro e w1 ⟨r, rfl, hr, hb1⟩
  have B1 := (HB _).trans (hb1.mono (HB _).size)
  rcases hr with rfl | ⟨hr0, hr1⟩
  · go_wp2
    go_ret
    exact ⟨-1, rfl, .inl rfl, B1⟩
  · have hlt : ¬ r < 0 := by omega
    have HR := hidOf hr1
    clear hr1
    go_wp2
    go_ret
    exact ⟨_, rfl, .inr ⟨hr0, HR.out⟩, B1⟩

/-- A copy, its numbers in memory of its own. -/
def RxAns (p : Ra) (w : World) (e : Ending) (w' : World) : Prop := ∃ (a : Option Addr) (c : Nat), e = .returned (raV p.xs p.ret p.code p.st a c) ∧ w'.ownsRow w.heap.size 3 1 (.slice a p.xs.length c) p.xs.length (intVals p.xs) ∧ Below w.heap.size w w'
theorem own_putR {w : World} {B e s n : Nat} {v : Value} {l : List Value} (h : w.ownsRow B e s v n l) (b o : Nat) (u : Value) (hne : v.ownBlock = none ∨ v.ownBlock ≠ some b) : (w.setCell ⟨b, o, none⟩ u).ownsRow B e s v n l :=
  World.ownsRow.kept h ⟨rfl, rfl, rfl, by simp, fun k _ hk => heap_setCell_other w ⟨b, o, none⟩ k u (fun e => hk (by simp [e]))⟩ hne
set_option maxHeartbeats 4000000 in
theorem toRan_any (p : Ra) (w : World) (hn : p.xs.length ≤ 1048576) (hT : KidsAt w p.a p.xs) :
    Calls Try.prog 17 #[.agg #[.slice p.a p.xs.length p.c, .int .i64 p.ret, .int .i64 p.code, .int .i64 p.st]] w fun e w' => RxAns p w e w' := by
  obtain ⟨ks, rt, cd, sm, a, c⟩ := p
  dsimp only at hn hT ⊢
  have HB : ∀ o1 o2 o3 : Obj, Below w.heap.size w (((w.alloc o1).alloc o2).alloc o3) := fun o1 o2 o3 => (((Below.refl _ _).alloc (Nat.le_refl _) _).alloc (by simp) _).alloc (by simp; omega) _
  go_enter Try.func17, Try.ntmps17
  go_wp2_with fail
  refine (toInts_any a c ks _ hn (hT.below (HB _ _ _) (Nat.le_refl _))).mono ?_
  obtain ⟨A0, A1, A2, AS⟩ := alloc3 w (.cells #[.slice a ks.length c, .int .i64 rt, .int .i64 cd, .int .i64 sm] 35) (.cells #[.slice none 0 0, .int .i64 0, .int .i64 0, .int .i64 0] 38) (.cells #[.slice none 0 0, .int .i64 0, .int .i64 0, .int .i64 0] 38)
  have HB3 := HB (.cells #[.slice a ks.length c, .int .i64 rt, .int .i64 cd, .int .i64 sm] 35) (.cells #[.slice none 0 0, .int .i64 0, .int .i64 0, .int .i64 0] 38) (.cells #[.slice none 0 0, .int .i64 0, .int .i64 0, .int .i64 0] 38)
  clear HB
  generalize ((w.alloc (.cells #[.slice a ks.length c, .int .i64 rt, .int .i64 cd, .int .i64 sm] 35)).alloc (.cells #[.slice none 0 0, .int .i64 0, .int .i64 0, .int .i64 0] 38)).alloc (.cells #[.slice none 0 0, .int .i64 0, .int .i64 0, .int .i64 0] 38) = W at *
  rintro e w4 ⟨rfl, ho, hb⟩
  have B0 := (hb.block w.heap.size (by omega)).trans A0
  have B1 := (hb.block (w.heap.size + 1) (by omega)).trans A1
  have B2 := (hb.block (w.heap.size + 1 + 1) (by omega)).trans A2
  have HBW := HB3.trans (hb.mono HB3.size)
  have p1 : w4.cell? ⟨w.heap.size, 1, none⟩ = some (.int .i64 rt) := cell_of_row w4 _ 1 _ _ _ B0
  have p2 : w4.cell? ⟨w.heap.size, 2, none⟩ = some (.int .i64 cd) := cell_of_row w4 _ 2 _ _ _ B0
  have p3 : w4.cell? ⟨w.heap.size, 3, none⟩ = some (.int .i64 sm) := cell_of_row w4 _ 3 _ _ _ B0
  have r0 : w4.cell? ⟨w.heap.size + 1 + 1, 0, none⟩ = some (.slice none 0 0) := cell_of_row w4 _ 0 _ _ _ B2
  have r1 : w4.cell? ⟨w.heap.size + 1 + 1, 1, none⟩ = some (.int .i64 0) := cell_of_row w4 _ 1 _ _ _ B2
  have r2 : w4.cell? ⟨w.heap.size + 1 + 1, 2, none⟩ = some (.int .i64 0) := cell_of_row w4 _ 2 _ _ _ B2
  have r3 : w4.cell? ⟨w.heap.size + 1 + 1, 3, none⟩ = some (.int .i64 0) := cell_of_row w4 _ 3 _ _ _ B2
  have s0 : w4.cell? ⟨w.heap.size + 1, 0, none⟩ = some (.slice none 0 0) := cell_of_row w4 _ 0 _ _ _ B1
  have s1 : w4.cell? ⟨w.heap.size + 1, 1, none⟩ = some (.int .i64 0) := cell_of_row w4 _ 1 _ _ _ B1
  have s2 : w4.cell? ⟨w.heap.size + 1, 2, none⟩ = some (.int .i64 0) := cell_of_row w4 _ 2 _ _ _ B1
  have s3 : w4.cell? ⟨w.heap.size + 1, 3, none⟩ = some (.int .i64 0) := cell_of_row w4 _ 3 _ _ _ B1
  have f20 := frozen_of_row w4 (w.heap.size + 1 + 1) 0 _ _ B2
  have f21 := frozen_of_row w4 (w.heap.size + 1 + 1) 1 _ _ B2
  have f22 := frozen_of_row w4 (w.heap.size + 1 + 1) 2 _ _ B2
  have f23 := frozen_of_row w4 (w.heap.size + 1 + 1) 3 _ _ B2
  have f10 := frozen_of_row w4 (w.heap.size + 1) 0 _ _ B1
  have f11 := frozen_of_row w4 (w.heap.size + 1) 1 _ _ B1
  have f12 := frozen_of_row w4 (w.heap.size + 1) 2 _ _ B1
  have f13 := frozen_of_row w4 (w.heap.size + 1) 3 _ _ B1
  have HK := hidOf ho
  have HW := hidOf HBW
  have HS := hidOf AS
  clear ho hb A0 A1 A2 B0 B1 B2 HBW HB3 AS
  generalize W.heap.size = S at *
  go_wp2
  refine bodyPost_ret (results_one4 rfl _ _ (w.heap.size + 1) (.slice (some ⟨S, 0, none⟩) ks.length ks.length) (.int .i64 rt) (.int .i64 cd) (.int .i64 sm) _ rfl ?_ ?_ ?_ ?_ Try.underlying38 rfl infoRan) rfl ?_
  · go_simp
  · go_simp
  · go_simp
  · go_simp
  · have hS := HS.out
    have n1 : (Value.slice (some ⟨S, 0, none⟩) ks.length ks.length).ownBlock = none ∨ (Value.slice (some ⟨S, 0, none⟩) ks.length ks.length).ownBlock ≠ some (w.heap.size + 1) := .inr (fun e => by injection e with e; simp at e; omega)
    have n2 : (Value.slice (some ⟨S, 0, none⟩) ks.length ks.length).ownBlock = none ∨ (Value.slice (some ⟨S, 0, none⟩) ks.length ks.length).ownBlock ≠ some (w.heap.size + 1 + 1) := .inr (fun e => by injection e with e; simp at e; omega)
    refine ⟨_, _, rfl, ?_, ?_⟩
    · exact ownsRow_base (own_putR (own_putR (own_putR (own_putR (own_putR (own_putR (own_putR (own_putR HK.out _ _ _ n2) _ _ _ n2) _ _ _ n2) _ _ _ n2) _ _ _ n1) _ _ _ n1) _ _ _ n1) _ _ _ n1) (by omega)
    · have q1 : w.heap.size ≤ w.heap.size + 1 := by omega
      have q2 : w.heap.size ≤ w.heap.size + 1 + 1 := by omega
      exact (((((((HW.out.setCell q2 _).setCell q2 _).setCell q2 _).setCell q2 _).setCell q1 _).setCell q1 _).setCell q1 _).setCell q1 _

set_option maxHeartbeats 1600000 in
theorem eqRan_same (ks : List Int) (rt cd sm : Int) (a1 a2 : Option Addr) (c1 c2 : Nat) (w : World) (hx : ks.length ≤ 1048576) (k1 : KidsAt w a1 ks) (k2 : KidsAt w a2 ks) :
    Calls Try.prog 19 #[raV ks rt cd sm a1 c1, raV ks rt cd sm a2 c2] w fun e w' => e = .returned (.bool true) ∧ Below w.heap.size w w' := by
  have h1 : (rt != rt) = false := by simp
  have h2 : (cd != cd) = false := by simp
  have h3 : (sm != sm) = false := by simp
  have HB : ∀ o1 o2 : Obj, Below w.heap.size w ((w.alloc o1).alloc o2) := fun o1 o2 => ((Below.refl _ _).alloc (Nat.le_refl _) _).alloc (by simp) _
  go_enter Try.func19, Try.ntmps19
  go_wp2_with fail
  refine (eqInts_same a1 a2 c1 c2 ks _ (by omega) (k1.below (HB _ _) (Nat.le_refl _)) (k2.below (HB _ _) (Nat.le_refl _))).mono ?_
  have HB3 := HB (.cells #[.slice a1 ks.length c1, .int .i64 rt, .int .i64 cd, .int .i64 sm] 38) (.cells #[.slice a2 ks.length c2, .int .i64 rt, .int .i64 cd, .int .i64 sm] 38)
  have A0 := heap_alloc2_old w (.cells #[.slice a1 ks.length c1, .int .i64 rt, .int .i64 cd, .int .i64 sm] 38) (.cells #[.slice a2 ks.length c2, .int .i64 rt, .int .i64 cd, .int .i64 sm] 38)
  have A1 := heap_alloc2_new w (.cells #[.slice a1 ks.length c1, .int .i64 rt, .int .i64 cd, .int .i64 sm] 38) (.cells #[.slice a2 ks.length c2, .int .i64 rt, .int .i64 cd, .int .i64 sm] 38)
  generalize (w.alloc (.cells #[.slice a1 ks.length c1, .int .i64 rt, .int .i64 cd, .int .i64 sm] 38)).alloc (.cells #[.slice a2 ks.length c2, .int .i64 rt, .int .i64 cd, .int .i64 sm] 38) = W at *
  rintro e w4 ⟨rfl, hb⟩
  have B0 := (hb.block w.heap.size (Array.getElem?_eq_some_iff.1 A0).1).trans A0
  have B1 := (hb.block (w.heap.size + 1) (Array.getElem?_eq_some_iff.1 A1).1).trans A1
  have p1 : w4.cell? ⟨w.heap.size, 1, none⟩ = some (.int .i64 rt) := cell_of_row w4 _ 1 _ _ _ B0
  have p2 : w4.cell? ⟨w.heap.size, 2, none⟩ = some (.int .i64 cd) := cell_of_row w4 _ 2 _ _ _ B0
  have p3 : w4.cell? ⟨w.heap.size, 3, none⟩ = some (.int .i64 sm) := cell_of_row w4 _ 3 _ _ _ B0
  have r1 : w4.cell? ⟨w.heap.size + 1, 1, none⟩ = some (.int .i64 rt) := cell_of_row w4 _ 1 _ _ _ B1
  have r2 : w4.cell? ⟨w.heap.size + 1, 2, none⟩ = some (.int .i64 cd) := cell_of_row w4 _ 2 _ _ _ B1
  have r3 : w4.cell? ⟨w.heap.size + 1, 3, none⟩ = some (.int .i64 sm) := cell_of_row w4 _ 3 _ _ _ B1
  have HW := hidOf (HB3.trans (hb.mono HB3.size))
  clear HB HB3 hb A0 A1 B0 B1 k1 k2
  go_wp2
  go_ret
  exact ⟨rfl, HW.out⟩
end Go.Proofs.Ytdlbnllkfnfgoaa
