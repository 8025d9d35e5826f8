/- What impl.NextOf and spec.NextOf answer, where there is a rule and none has the least number that there is. -/
import Derived.Test.YtbjfkfohkpdlfaaCountP
import Derived.Test.YtbjfkfohkpdlfaaCloneI
import Derived.Test.YtbjfkfohkpdlfaaValP
namespace Go.Proofs.Ytbjfkfohkpdlfaa
open Go.RowKit

/-- A list of numbers in memory of its own, and whether there is one. -/
def NxAns (us : List Int) (b : Bool) (w : World) (e : Ending) (w' : World) : Prop :=
  Below w.heap.size w w' ∧ ∃ a c, e = .returned (.tuple #[.slice a us.length c, .bool b]) ∧ w'.ownsRow w.heap.size 3 1 (.slice a us.length c) us.length (intVals us)
theorem nx_none0 {w w' : World} {a : Option Addr} {c : Nat} (hb : Below w.heap.size w w') (ho : w'.ownsRow w.heap.size 3 1 (.slice a 0 c) 0 []) : NxAns [] false w (.returned (.tuple #[.slice a 0 c, .bool false])) w' := ⟨hb, a, c, rfl, ho⟩
theorem own_made0 (w : World) (base : Nat) (hb : base ≤ w.heap.size) : (w.alloc (.cells #[] 3)).ownsRow base 3 1 (.slice (some ⟨w.heap.size, 0, none⟩) 0 0) 0 [] :=
  World.ownsRow_made (e := 3) (size := 1) (base := base) w #[] 0 hb (by decide) rfl
/-- The rules lie in another place than what was made later. -/
theorem rules_far {w : World} {a1 : Option Addr} {rs : List Ru} {b : Nat} (h : RowsAt 2 ruCells w a1 rs) (hb : w.heap.size ≤ b) : 0 < rs.length → ∀ g o, a1 = some ⟨g, o, none⟩ → g ≠ b := fun hr g o e => by
  obtain ⟨b', o', e', hlt, -⟩ := h hr
  rw [e'] at e
  cases e
  omega

set_option maxHeartbeats 4000000 in
set_option maxRecDepth 20000 in
theorem iNext_yes (p : Pc) (l : Pl) (a : Option Addr) (c : Nat) (vs : List Int) (w : World) (hF : PcFew p) (hm0 : vs.length ≤ 1048576) (hR : NoLeast p.rules) (hr1 : 1 ≤ p.rules.length) (hp : PcIn w p l) (hv : KidsAt w a vs) (hok : ValOk p vs) :
    Calls Try.prog 14 #[pcV p l, .slice a vs.length c] w fun e w' => NxAns ((nx p.rules vs).getD []) (nx p.rules vs).isSome w e w' := by
  show Calls _ _ #[.agg #[.int .i64 p.indent, .slice l.a1 p.rules.length l.c1, .slice l.a2 p.chunks.length l.c2, .slice l.a3 p.spans.length l.c3, .slice l.a4 p.ties.length l.c4], _] _ _
  obtain ⟨W0, hW0, X0, B0, S0⟩ := boxed w p l 29
  have hX : w.heap.size < W0.heap.size := by omega
  have R0 := hp.rules.below B0 (Nat.le_refl _)
  have V0 := hv.below B0 (Nat.le_refl _)
  have HOK := hidOf hok
  have HR := hidOf hR
  have HI := hidOf (inV_ok hok)
  have hvl : 0 < vs.length := by have := hok.len; omega
  clear hok hR
  go_enter Try.func14, Try.ntmps14
  go_wp2_with fail
  rw [← hW0]
  clear hW0 hp hv
  refine (iVal_any p l a c vs W0 hF.rules hm0 HR.out R0 V0).mono ?_
  rintro e w1 hq
  obtain ⟨rfl, A1⟩ := hq.yes HOK.out
  clear hq
  go_wp2_with fail
  refine (clone_any a c vs w1 hm0 (V0.below A1 (Nat.le_refl _))).mono ?_
  rintro e w2 ⟨A2, a2, c2, rfl, o2⟩
  obtain ⟨g, rfl⟩ := owns_at o2 hvl
  have C2 := A1.trans (A2.mono A1.size)
  have hg1 : w1.heap.size ≤ g := (o2.lt g rfl).1
  have R2 := R0.below C2 (Nat.le_refl _)
  have far := rules_far (b := g) R0 (by have := A1.size; omega)
  obtain ⟨-, c0, c1, c2', c3, c4⟩ := X0.below C2 hX
  have o2' : w2.ownsRow w1.heap.size 3 1 (.slice (some ⟨g, 0, none⟩) vs.length c2) vs.length (intVals vs ++ []) := by rw [List.append_nil]; exact o2
  have BW := B0.trans (C2.mono B0.size)
  have hwg : w.heap.size ≤ g := by have := A1.size; omega
  have HB1 := hidOf (show w.heap.size ≤ w1.heap.size by have := A1.size; omega)
  clear o2 A1 A2 C2 R0 V0 c0 c2' c3 c4
  go_wp2_with fail
  refine (iCu_any p.rules l.a1 l.c1 vs [] w1.heap.size 3 g vs.length c2 c2 w2 hm0 HI.out HR.out R2 far o2').mono ?_
  rintro e w3 ⟨rfl, o3, g3⟩
  rw [List.append_nil] at o3
  have B3 := BW.grown g3 BW.size (fun k e => by cases e; exact hwg)
  clear c1 R2 far o2' BW
  cases hn : nx p.rules vs with
  | none =>
    rw [after_none hn] at o3
    clear o3
    go_wp2
    go_ret2
    rw [hn]
    exact nx_none0 (B3.alloc B3.size _) (own_made0 w3 w.heap.size B3.size)
  | some u =>
    have hul : u.length = vs.length := by
      have h1 := ((nx_both _ _ HI.out).1 u hn).1
      rw [inV_len _ _ h1, HOK.out.len]
    rw [after_some hn] at o3
    have HO := hidOf (And.intro o3 hul)
    clear o3 hul
    go_wp2
    go_ret2
    rw [hn]
    refine ⟨B3, some ⟨g, 0, none⟩, c2, ?_, ?_⟩
    · show _ = Ending.returned (.tuple #[.slice _ u.length _, _])
      rw [HO.out.2]
      rfl
    · show w3.ownsRow _ _ _ (.slice _ u.length _) u.length (intVals u)
      rw [HO.out.2]
      exact ownsRow_base HO.out.1 HB1.out

set_option maxHeartbeats 4000000 in
set_option maxRecDepth 20000 in
theorem iNext_no (p : Pc) (l : Pl) (a : Option Addr) (c : Nat) (vs : List Int) (w : World) (hF : PcFew p) (hm0 : vs.length ≤ 1048576) (hR : NoLeast p.rules) (hp : PcIn w p l) (hv : KidsAt w a vs) (hok : ¬ ValOk p vs) :
    Calls Try.prog 14 #[pcV p l, .slice a vs.length c] w fun e w' => NxAns [] false w e w' := by
  show Calls _ _ #[.agg #[.int .i64 p.indent, .slice l.a1 p.rules.length l.c1, .slice l.a2 p.chunks.length l.c2, .slice l.a3 p.spans.length l.c3, .slice l.a4 p.ties.length l.c4], _] _ _
  obtain ⟨W0, hW0, X0, B0, S0⟩ := boxed w p l 29
  have R0 := hp.rules.below B0 (Nat.le_refl _)
  have V0 := hv.below B0 (Nat.le_refl _)
  go_enter Try.func14, Try.ntmps14
  go_wp2_with fail
  rw [← hW0]
  clear hW0 hp hv S0
  refine (iVal_any p l a c vs W0 hF.rules hm0 hR R0 V0).mono ?_
  rintro e w1 hq
  obtain ⟨rfl, A1⟩ := hq.no hok
  clear hq
  have B1 := B0.trans (A1.mono B0.size)
  go_wp2
  go_ret2
  exact nx_none0 (B1.alloc B1.size _) (own_made0 w1 w.heap.size B1.size)

set_option maxHeartbeats 4000000 in
set_option maxRecDepth 20000 in
theorem sNext_yes (p : Pc) (l : Pl) (a : Option Addr) (c : Nat) (vs : List Int) (w : World) (hF : PcFew p) (hm0 : vs.length ≤ 1048576) (hR : NoLeast p.rules) (hr1 : 1 ≤ p.rules.length) (hp : PcIn w p l) (hv : KidsAt w a vs) (hok : ValOk p vs) :
    Calls Try.prog 18 #[pcV p l, .slice a vs.length c] w fun e w' => NxAns ((nx p.rules vs).getD []) (nx p.rules vs).isSome w e w' := by
  show Calls _ _ #[.agg #[.int .i64 p.indent, .slice l.a1 p.rules.length l.c1, .slice l.a2 p.chunks.length l.c2, .slice l.a3 p.spans.length l.c3, .slice l.a4 p.ties.length l.c4], _] _ _
  obtain ⟨W0, hW0, X0, B0, S0⟩ := boxed w p l 29
  have hX : w.heap.size < W0.heap.size := by omega
  have R0 := hp.rules.below B0 (Nat.le_refl _)
  have V0 := hv.below B0 (Nat.le_refl _)
  have HOK := hidOf hok
  have HR := hidOf hR
  have HI := hidOf (inV_ok hok)
  have hvl : 0 < vs.length := by have := hok.len; omega
  clear hok hR
  go_enter Try.func18, Try.ntmps18
  have B1 : Below W0.heap.size W0 (W0.alloc (.cells #[] 3)) := (Below.refl _ _).alloc (Nat.le_refl _) _
  have V1 := V0.below B1 (Nat.le_refl _)
  have hz1 := heap_alloc_new W0 (.cells #[] 3)
  have hle := Nat.le_refl W0.heap.size
  rw [hW0] at V1 hz1 hle
  rw [size_alloc1] at hz1 hle
  go_wp2_with (at_builtin; refine wpList_copyInt rfl _ _ rfl _ (w.heap.size + 1) (w.heap.size + 1) hle hz1 a c vs rfl rfl V1 hm0 ?_; intro a' c' w2 o2 g2; rw [← hW0] at g2; have C2 : Below W0.heap.size W0 w2 := B1.grown g2 B1.size (fun k e => by cases e); obtain ⟨-, c0, c1, c2', c3, c4⟩ := X0.below C2 hX)
  obtain ⟨g, rfl⟩ := owns_at o2 hvl
  have hg1 : w.heap.size + 1 ≤ g := (o2.lt g rfl).1
  have o2' : w2.ownsRow (w.heap.size + 1) 3 1 (.slice (some ⟨g, 0, none⟩) vs.length c') vs.length (intVals vs ++ []) := by rw [List.append_nil]; exact o2
  clear o2 V1 hz1 hle B1 hW0
  refine (sVal_any p l a c vs w2 hF.rules hm0 HR.out (R0.below C2 (Nat.le_refl _)) (V0.below C2 (Nat.le_refl _))).mono ?_
  rintro e w3 hq
  obtain ⟨rfl, A3⟩ := hq.yes HOK.out
  have C3 := C2.trans (A3.mono C2.size)
  clear hq c0 c1 c2' c3 c4
  obtain ⟨-, c0, c1, c2', c3, c4⟩ := X0.below C3 hX
  have o3' := owns_below o2' A3
  have R3 := R0.below C3 (Nat.le_refl _)
  have far := rules_far (b := g) hp.rules (by omega)
  have BW := B0.trans (C3.mono B0.size)
  have hwg : w.heap.size ≤ g := by omega
  clear o2' A3 C2 C3 R0 V0 hp hv B0 g2 S0
  go_wp2_with fail
  refine (sCu_any p l vs [] (w.heap.size + 1) 3 g vs.length c' c' w3 hm0 HI.out HR.out R3 far o3').mono ?_
  rintro e w4 ⟨rfl, o4, g4⟩
  rw [List.append_nil] at o4
  have B4 := BW.grown g4 BW.size (fun k e => by cases e; exact hwg)
  clear c0 c1 c2' c3 c4 R3 far o3' BW
  cases hn : nx p.rules vs with
  | none =>
    rw [after_none hn] at o4
    clear o4
    go_wp2
    go_ret2
    rw [hn]
    exact nx_none0 (B4.alloc B4.size _) (own_made0 w4 w.heap.size B4.size)
  | some u =>
    have hul : u.length = vs.length := by
      have h1 := ((nx_both _ _ HI.out).1 u hn).1
      rw [inV_len _ _ h1, HOK.out.len]
    rw [after_some hn] at o4
    have HO := hidOf (And.intro o4 hul)
    clear o4 hul
    go_wp2
    go_ret2
    rw [hn]
    refine ⟨B4, some ⟨g, 0, none⟩, c', ?_, ?_⟩
    · show _ = Ending.returned (.tuple #[.slice _ u.length _, _])
      rw [HO.out.2]
      rfl
    · show w4.ownsRow _ _ _ (.slice _ u.length _) u.length (intVals u)
      rw [HO.out.2]
      exact ownsRow_base HO.out.1 (by omega)

set_option maxHeartbeats 4000000 in
set_option maxRecDepth 20000 in
theorem sNext_no (p : Pc) (l : Pl) (a : Option Addr) (c : Nat) (vs : List Int) (w : World) (hF : PcFew p) (hm0 : vs.length ≤ 1048576) (hR : NoLeast p.rules) (hp : PcIn w p l) (hv : KidsAt w a vs) (hok : ¬ ValOk p vs) :
    Calls Try.prog 18 #[pcV p l, .slice a vs.length c] w fun e w' => NxAns [] false w e w' := by
  show Calls _ _ #[.agg #[.int .i64 p.indent, .slice l.a1 p.rules.length l.c1, .slice l.a2 p.chunks.length l.c2, .slice l.a3 p.spans.length l.c3, .slice l.a4 p.ties.length l.c4], _] _ _
  obtain ⟨W0, hW0, X0, B0, S0⟩ := boxed w p l 29
  have hX : w.heap.size < W0.heap.size := by omega
  have R0 := hp.rules.below B0 (Nat.le_refl _)
  have V0 := hv.below B0 (Nat.le_refl _)
  go_enter Try.func18, Try.ntmps18
  have B1 : Below W0.heap.size W0 (W0.alloc (.cells #[] 3)) := (Below.refl _ _).alloc (Nat.le_refl _) _
  have V1 := V0.below B1 (Nat.le_refl _)
  have hz1 := heap_alloc_new W0 (.cells #[] 3)
  have hle := Nat.le_refl W0.heap.size
  rw [hW0] at V1 hz1 hle
  rw [size_alloc1] at hz1 hle
  go_wp2_with (at_builtin; refine wpList_copyInt rfl _ _ rfl _ (w.heap.size + 1) (w.heap.size + 1) hle hz1 a c vs rfl rfl V1 hm0 ?_; intro a' c' w2 o2 g2; rw [← hW0] at g2; have C2 : Below W0.heap.size W0 w2 := B1.grown g2 B1.size (fun k e => by cases e); obtain ⟨-, c0, c1, c2', c3, c4⟩ := X0.below C2 hX)
  clear o2 V1 hz1 hle B1 hW0
  refine (sVal_any p l a c vs w2 hF.rules hm0 hR (R0.below C2 (Nat.le_refl _)) (V0.below C2 (Nat.le_refl _))).mono ?_
  rintro e w3 hq
  obtain ⟨rfl, A3⟩ := hq.no hok
  have C3 := C2.trans (A3.mono C2.size)
  have BW := B0.trans (C3.mono B0.size)
  clear hq c0 c1 c2' c3 c4 A3 C3
  go_wp2
  go_ret2
  exact nx_none0 (BW.alloc BW.size _) (own_made0 w3 w.heap.size BW.size)
/-- What both answer, whatever comes. -/
theorem next_key (p : Pc) (vs : List Int) (hF : PcFew p) (hm0 : vs.length ≤ 1048576) (hR : NoLeast p.rules) (hr1 : 1 ≤ p.rules.length) (h9 : p.rules.length ≤ 9) :
    ∃ (us : List Int) (b : Bool), us.length ≤ 9 ∧
      (∀ (l : Pl) (a : Option Addr) (c : Nat) (W : World), PcIn W p l → KidsAt W a vs → Calls Try.prog 14 #[pcV p l, .slice a vs.length c] W fun e w' => NxAns us b W e w') ∧
      (∀ (l : Pl) (a : Option Addr) (c : Nat) (W : World), PcIn W p l → KidsAt W a vs → Calls Try.prog 18 #[pcV p l, .slice a vs.length c] W fun e w' => NxAns us b W e w') := by
  by_cases h : ValOk p vs
  · refine ⟨_, _, ?_, fun l a c W hP hK => iNext_yes p l a c vs W hF hm0 hR hr1 hP hK h, fun l a c W hP hK => sNext_yes p l a c vs W hF hm0 hR hr1 hP hK h⟩
    cases hn : nx p.rules vs with
    | none => simp
    | some u =>
      have h1 := ((nx_both _ _ (inV_ok h)).1 u hn).1
      have h2 := inV_len _ _ h1
      show u.length ≤ 9
      omega
  · exact ⟨[], false, by simp, fun l a c W hP hK => iNext_no p l a c vs W hF hm0 hR hP hK h, fun l a c W hP hK => sNext_no p l a c vs W hF hm0 hR hP hK h⟩
end Go.Proofs.Ytbjfkfohkpdlfaa
