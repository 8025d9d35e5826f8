/- The small steps of the specification's reader. -/
import Derived.Test.YtcbbnphpkgifoaaGreatDoorKag
import Derived.Deep.QuietTactic
import Derived.BigQuiet
import Derived.Test.YtcbbnphpkgifoaaGreatDoorKaa
import Derived.Deep.MidRow
import Derived.Test.YtcbbnphpkgifoaaGreatDoorRdMem
import Derived.WalkLawsBesides
import Derived.BigRegion
import Derived.OwnWalk
namespace Go.Proofs.YtcbbnphpkgifoaaGreatDoor
open Go.RowKit
def isP (xs : List Sg) (t : Option Ps) (k : Int) (u : ByteArray) : Bool :=
 match t with
 | none => false
 | some s => (knd xs s.p == k) && decide (txt xs s.p = u)
section
variable {B g : Nat} {xs : List Sg} {A : Nat → Prop} {w : World} {t : Option Ps}
set_option maxHeartbeats 4000000 in
set_option maxRecDepth 100000 in
theorem sIs (h : SR B g xs A w t) (k : Int) (u : ByteArray) (hk : k ≠ 0) : Calls Tryz.prog 138 #[.pointer (some ⟨g, 0, none⟩), .int .i64 k, .string u] w fun e w' => e = .returned (.bool (isP xs t k u)) ∧ ∃ m, w' = w.drewN m := by
 match t, h with
 | none, ⟨s, h, _⟩ =>
  obtain ⟨sa, sc, na, nc, -, -, c2, -, -, -⟩ := h.cells
  have hg := h.lt
  clear h
  go_enter Tryz.func138, Tryz.ntmps138
  go_wp2
  go_quiet (fail)
  go_wp2
  go_ret
  exact ⟨rfl, _, rfl⟩
 | some s, ⟨h, _⟩ =>
  obtain ⟨sa, sc, na, nc, c0, c1, c2, -, -, -⟩ := h.cells
  have hg := h.lt
  have hp := h.pos
  by_cases hl : s.p < xs.length
  ·obtain ⟨b, sc1, pl, hb, X0, d0, d1, d2, d3⟩ := h.sign s.p hl
   have hA1 : (0 : Int) ≤ (s.p : Int) := by omega
   have hB1 : (s.p : Int) < (xs.length : Int) := by omega
   have hd1 : decide ((s.p : Int) < (xs.length : Int)) = true := by simp; omega
   clear h c0
   have HI := hidOf (show isP xs (some s) k u = ((knd xs s.p == k) && decide (txt xs s.p = u)) from rfl)
   obtain ⟨k0, hk0⟩ : ∃ k, k = knd xs s.p := ⟨_, rfl⟩
   obtain ⟨u0, hu0⟩ : ∃ u, u = txt xs s.p := ⟨_, rfl⟩
   obtain ⟨b0, hb0⟩ : ∃ b, b = blk xs s.p := ⟨_, rfl⟩
   rw [← hk0] at d0 HI
   rw [← hu0] at d1 HI
   rw [← hb0] at d3
   clear hk0 hu0 hb0
   by_cases hq : k0 = k
   ·subst hq
    have hqk : (k0 == k0) = true := by simp
    go_enter Tryz.func138, Tryz.ntmps138
    go_wp2
    go_quiet (fail)
    go_wp2
    go_ret
    exact ⟨ret_bool (by rw [HI.out]; simp [str_beq]), _, rfl⟩
   ·have hqk : (k0 == k) = false := by rw [beq_eq_false_iff_ne]; exact hq
    clear hq
    go_enter Tryz.func138, Tryz.ntmps138
    go_wp2
    go_quiet (fail)
    go_wp2
    go_ret
    exact ⟨ret_bool (by rw [HI.out, hqk]; rfl), _, rfl⟩
  ·have hd1 : decide ((s.p : Int) < (xs.length : Int)) = false := by simp; omega
   have hd2 : decide (s.p < xs.length) = false := by simp; omega
   have HI := hidOf (show false = isP xs (some s) k u by unfold isP; simp only [knd_past (show xs.length ≤ s.p by omega)]; rw [show ((0 : Int) == k) = false from by rw [beq_eq_false_iff_ne]; exact fun e => hk e.symm]; rfl)
   clear h hl
   go_enter Tryz.func138, Tryz.ntmps138
   go_wp2
   go_quiet (fail)
   go_wp2
   go_ret
   exact ⟨ret_bool HI.out, _, rfl⟩
end
section
variable {P : Program}
theorem append_place (w : World) (base : Nat) (t ty e : TypeId) (i : TypeInfo) (z : Value) (size bytes : Nat) (ht : P.underlying t = some (.slice e)) (hi : P.info? e = some i) (hz : i.zero = some z)
  (hsize : i.size = size) (hby : i.bytes = bytes) (hzs : z.cells.size = size) (hsz : 0 < size)
  (v : Value) (n : Nat) (xs : List Value) (hown : w.ownsRow base e size v n xs)
  (a : Addr) (m c : Nat) (news : List Value) (hl : news.length = m * size) (hnews : ∀ j u, news[j]? = some u → w.cell? (a.add j) = some u) (h1 : ∀ u ∈ news, u.oneCell' = true)
  (h63 : n + m ≤ maxLen) (hbytes : (n + m) * bytes ≤ 140737488355328) (v' : Value) (w' : World) (hr0 : (Builtin.append_ #[t, t] ty #[v, .slice (some a) m c]).run P w = .ok v' w') :
  ∀ g, v'.ownBlock = some g → v.ownBlock = some g ∨ w.heap.size ≤ g := by
 intro g' hg'
 rcases hown.2 with ⟨rfl, rfl⟩ | ⟨g, cap, cur, rfl, hbg, hg, hnc, hcm, hcs, htake⟩
 ·have hx : xs = [] := List.eq_nil_of_length_eq_zero (by simpa using hown.1)
  subst hx
  obtain ⟨v2, w2, hr2, ho2, -, -⟩ := run_append_own (P := P) w w.heap.size t ty e i z size bytes ht hi hz hsize hby hzs hsz (.slice none 0 0) 0 [] (World.ownsRow_nil _ _ _ _) a m c news hl hnews h1 h63 hbytes (Nat.le_refl _)
  rw [hr0] at hr2
  cases hr2
  exact .inr (ho2.lt g' hg').1
 ·subst hsize
  subst hby
  by_cases hroom : n + m ≤ cap
  ·have hfit : n * i.size + news.length ≤ cur.size := by rw [hl, hcs, ← Nat.add_mul]; exact Nat.mul_le_mul_right _ hroom
   have hr := run_append_room (P := P) w t ty e i ht hi g n cap cur hg a m c news hl hnews h1 hroom hfit
   rw [hr0] at hr
   cases hr
   exact .inl hg'
  ·have holds : ∀ j u, xs[j]? = some u → w.cell? ((⟨g, 0, none⟩ : Addr).add j) = some u := hown.cells (g := g) rfl
   have hsmall : n + m ≤ 9223372036854775807 := by simp only [maxLen] at h63; omega
   have hr := run_append_grow (P := P) w t ty e i z ht hi hz ⟨g, 0, none⟩ n cap xs hown.1 holds a m c news hl hnews (by omega) (by omega) (growslice_fits (by omega) hbytes)
   rw [hr0] at hr
   cases hr
   right
   have : g' = w.heap.size := by injection hg' with h; exact h.symm
   omega
theorem wp_append_own2 {w : World} {o : Oper} {a : Act} {K : Act → World → Prop} {Q : Exit → Act → World → Prop} (s x : Operand) (t : TypeId)
  (ho : o.op = .call { callee := .builtin .append, args := #[s, x], argTypes := #[t, t] })
  (base : Nat) (e : TypeId) (i : TypeInfo) (z : Value) (size bytes : Nat) (ht : P.underlying t = some (.slice e)) (hi : P.info? e = some i) (hz : i.zero = some z)
  (hsize : i.size = size) (hby : i.bytes = bytes) (hzs : z.cells.size = size) (hsz : 0 < size)
  (v : Value) (n : Nat) (xs : List Value) (hs : a.eval s = v) (hown : w.ownsRow base e size v n xs)
  (ad : Addr) (m c : Nat) (news : List Value) (hx : a.eval x = .slice (some ad) m c) (hl : news.length = m * size) (hnews : ∀ j u, news[j]? = some u → w.cell? (ad.add j) = some u) (h1 : ∀ u ∈ news, u.oneCell' = true)
  (h63 : n + m ≤ maxLen) (hbytes : (n + m) * bytes ≤ 140737488355328) (hbase : base ≤ w.heap.size)
  (h : ∀ v' w', w'.ownsRow base e size v' (n + m) (xs ++ news) → w.grownBy w' v.ownBlock → (∀ g, v'.ownBlock = some g → v.ownBlock = some g ∨ w.heap.size ≤ g) → K (a.put o.dst v') w') : o.wp P a w K Q := by
 obtain ⟨v', w', hr, h2, h3, h4⟩ := run_append_own (P := P) w base t o.type e i z size bytes ht hi hz hsize hby hzs hsz v n xs hown ad m c news hl hnews h1 h63 hbytes hbase
 have h5 := append_place w base t o.type e i z size bytes ht hi hz hsize hby hzs hsz v n xs hown ad m c news hl hnews h1 h63 hbytes v' w' hr
 unfold Oper.wp execOp
 simp only [ho, resolve, invoke, builtin, Sem.run_bind, Sem.run_pure, Result.andThen_ok, List.map_toArray, List.map_cons, List.map_nil, hs, hx, hr]
 exact h v' w' h2 h3 h5
theorem wpList_append_own2 {w : World} {ops : Array Oper} {rest : List Oper} {o : Oper} {a : Act} {Q : Exit → Act → World → Prop} (hgd : o.guard = none) (s x : Operand) (t : TypeId)
  (ho : o.op = .call { callee := .builtin .append, args := #[s, x], argTypes := #[t, t] })
  (base : Nat) (e : TypeId) (i : TypeInfo) (z : Value) (size bytes : Nat) (ht : P.underlying t = some (.slice e)) (hi : P.info? e = some i) (hz : i.zero = some z)
  (hsize : i.size = size) (hby : i.bytes = bytes) (hzs : z.cells.size = size) (hsz : 0 < size)
  (v : Value) (n : Nat) (xs : List Value) (hs : a.eval s = v) (hown : w.ownsRow base e size v n xs)
  (ad : Addr) (m c : Nat) (news : List Value) (hx : a.eval x = .slice (some ad) m c) (hl : news.length = m * size) (hnews : ∀ j u, news[j]? = some u → w.cell? (ad.add j) = some u) (h1 : ∀ u ∈ news, u.oneCell' = true)
  (h63 : n + m ≤ maxLen) (hbytes : (n + m) * bytes ≤ 140737488355328) (hbase : base ≤ w.heap.size)
  (h : ∀ v' w', w'.ownsRow base e size v' (n + m) (xs ++ news) → w.grownBy w' v.ownBlock → (∀ g, v'.ownBlock = some g → v.ownBlock = some g ∨ w.heap.size ≤ g) → wpList P ops Q rest (a.put o.dst v') w') : wpList P ops Q (o :: rest) a w :=
 wpList_plain hgd fun _ hK => wp_append_own2 s x t ho base e i z size bytes ht hi hz hsize hby hzs hsz v n xs hs hown ad m c news hx hl hnews h1 h63 hbytes hbase fun v' w' h2 h3 h4 => hK _ _ (h v' w' h2 h3 h4)
end
theorem results_one4 {P : Program} {fn : Func} {p : Tmp} {ty : TypeId} (h : fn.results = #[.cell p ty]) (tmps : Array Value) (w : World) (g : Nat) (c0 c1 c2 c3 : Value) (d : TypeDesc)
  (hp : tmps.getD p undef = .pointer (some ⟨g, 0, none⟩)) (h0 : w.cell? ⟨g, 0, none⟩ = some c0) (h1 : w.cell? ⟨g, 1, none⟩ = some c1) (h2 : w.cell? ⟨g, 2, none⟩ = some c2) (h3 : w.cell? ⟨g, 3, none⟩ = some c3)
  (hu : P.underlying ty = some d) (hd : d.isRow = true) (hi : (P.info? ty).map (·.size) = some 4) :
  (results fn tmps).run P w = .ok (.agg #[c0, c1, c2, c3]) w := by
 have hr : w.rangeAt g 0 [c0, c1, c2, c3] := by
  intro j v hv
  match j with
  | 0 => simpa using h0.trans hv
  | 1 => simpa using h1.trans hv
  | 2 => simpa using h2.trans hv
  | 3 => simpa using h3.trans hv
  | j + 4 => simp at hv
 have hp' : tmps[p]?.getD undef = .pointer (some ⟨g, 0, none⟩) := by simpa using hp
 simp [results, h, hp', asAddr, run_loadVar_mid w g 0 ty [c0, c1, c2, c3] d hr hu hd (by simpa using hi)]
theorem results_one1 {P : Program} {fn : Func} {p : Tmp} {ty : TypeId} (h : fn.results = #[.cell p ty]) (tmps : Array Value) (w : World) (g : Nat) (c0 : Value) (d : TypeDesc)
  (hp : tmps.getD p undef = .pointer (some ⟨g, 0, none⟩)) (h0 : w.cell? ⟨g, 0, none⟩ = some c0)
  (hu : P.underlying ty = some d) (hd : d.isRow = true) (hi : (P.info? ty).map (·.size) = some 1) :
  (results fn tmps).run P w = .ok (.agg #[c0]) w := by
 have hr : w.rangeAt g 0 [c0] := by
  intro j v hv
  match j with
  | 0 => simpa using h0.trans hv
  | j + 1 => simp at hv
 have hp' : tmps[p]?.getD undef = .pointer (some ⟨g, 0, none⟩) := by simpa using hp
 simp [results, h, hp', asAddr, run_loadVar_mid w g 0 ty [c0] d hr hu hd (by simpa using hi)]
set_option maxHeartbeats 1600000
set_option maxRecDepth 100000
theorem infoSg1 : (Tryz.prog.info? 105).map (·.size) = some 4 := by kernel_rfl
theorem infoFt1 : (Tryz.prog.info? 158).map (·.size) = some 1 := by kernel_rfl
theorem fSg0 (k : Int) (t : ByteArray) (p : Int) (b : Bool) : ∀ wx : World, (Instr.field 105 (.agg #[.int .i64 k, .string t, .int .i64 p, .bool b]) 0).run Tryz.prog wx = .ok (.int .i64 k) wx := fun _ => by kernel_rfl
theorem fSg1 (k : Int) (t : ByteArray) (p : Int) (b : Bool) : ∀ wx : World, (Instr.field 105 (.agg #[.int .i64 k, .string t, .int .i64 p, .bool b]) 1).run Tryz.prog wx = .ok (.string t) wx := fun _ => by kernel_rfl
theorem fSg2 (k : Int) (t : ByteArray) (p : Int) (b : Bool) : ∀ wx : World, (Instr.field 105 (.agg #[.int .i64 k, .string t, .int .i64 p, .bool b]) 2).run Tryz.prog wx = .ok (.int .i64 p) wx := fun _ => by kernel_rfl
theorem fSg3 (k : Int) (t : ByteArray) (p : Int) (b : Bool) : ∀ wx : World, (Instr.field 105 (.agg #[.int .i64 k, .string t, .int .i64 p, .bool b]) 3).run Tryz.prog wx = .ok (.bool b) wx := fun _ => by kernel_rfl
section
variable {B g : Nat} {xs : List Sg} {A : Nat → Prop} {w : World} {s : Ps}
theorem iNextW (h : RdW B g xs A w s) : Calls Tryz.prog 197 #[.pointer (some ⟨g, 0, none⟩)] w fun e w' =>
  (∃ pl : Int, e = .returned (.agg #[.int .i64 (knd xs s.p), .string (txt xs s.p), .int .i64 pl, .bool (blk xs s.p)])) ∧ Below w.heap.size w w' := by
 have hp := h.pos
 have hg := h.lt
 obtain ⟨b, sc, pl, hb, c0, c1, d0, d1, d2, d3⟩ := h.sign s.p hp
 have hA : (0 : Int) ≤ (s.p : Int) := by omega
 have hB : (s.p : Int) < ((xs.length + 1 : Nat) : Int) := by omega
 clear h
 go_enter Tryz.func197, Tryz.ntmps197
 go_wp2
 go_region
 all_goals go_wp2
 all_goals refine bodyPost_ret (results_one4 rfl _ _ w.heap.size (.int .i64 (knd xs s.p)) (.string (txt xs s.p)) (.int .i64 pl) (.bool (blk xs s.p)) _ rfl (by simp) (by simp) (by simp) (by simp) Tryz.underlying105 rfl infoSg1) rfl ?_
 all_goals exact ⟨⟨pl, rfl⟩, bel_drewN ((Below.refl _ _).alloc (Nat.le_refl _) _) 1⟩
theorem iNext_any (h : Rd B g xs A w s) : Calls Tryz.prog 197 #[.pointer (some ⟨g, 0, none⟩)] w fun e w' =>
  (∃ pl : Int, e = .returned (.agg #[.int .i64 (knd xs s.p), .string (txt xs s.p), .int .i64 pl, .bool (blk xs s.p)])) ∧ Below w.heap.size w w' := iNextW h.toRdW
theorem iFaultW (h : RdW B g xs A w s) : Calls Tryz.prog 195 #[.pointer (some ⟨g, 0, none⟩)] w fun e w' =>
  (∃ pl : Int, e = .returned (.agg #[.int .i64 pl])) ∧ Below w.heap.size w w' := by
 have hB : Below w.heap.size w (w.alloc (.cells #[.int .i64 0] 158)) := (Below.refl _ _).alloc (Nat.le_refl _) _
 have R1 := h.kept hB
 have F1 : (w.alloc (.cells #[.int .i64 0] 158)).heap[w.heap.size]? = some (.cells #[.int .i64 0] 158 (0, 0)) := heap_alloc_new w _
 have z1 : w.heap.size < (w.alloc (.cells #[.int .i64 0] 158)).heap.size := by simp
 go_enter Tryz.func195, Tryz.ntmps195
 go_wp2_with fail
 refine (iNextW R1).mono ?_
 rintro e w1 ⟨⟨pl, rfl⟩, B1⟩
 have F3 := (B1.block w.heap.size z1).trans F1
 have y0 : w1.cell? ⟨w.heap.size, 0, none⟩ = some (.int .i64 0) := by rw [Lib.cell_of_heap F3]; rfl
 have f0 := Lib.frozen_of_heap F3 0
 have BW : Below w.heap.size w w1 := hB.trans (B1.mono hB.size)
 clear R1 F1 F3 hB h B1 z1
 obtain ⟨k, hk⟩ : ∃ k, k = knd xs s.p := ⟨_, rfl⟩
 obtain ⟨t, ht⟩ : ∃ t, t = txt xs s.p := ⟨_, rfl⟩
 obtain ⟨b, hb⟩ : ∃ b, b = blk xs s.p := ⟨_, rfl⟩
 rw [← hk, ← ht, ← hb]
 clear hk ht hb
 have q := fSg2 k t pl b
 go_wp2
 refine bodyPost_ret (results_one1 rfl _ _ w.heap.size (.int .i64 pl) _ rfl (by go_simp) Tryz.underlying158 rfl infoFt1) rfl ?_
 exact ⟨⟨pl, rfl⟩, BW.setCell (Nat.le_refl _) _⟩
theorem iFault_any (h : Rd B g xs A w s) : Calls Tryz.prog 195 #[.pointer (some ⟨g, 0, none⟩)] w fun e w' =>
  (∃ pl : Int, e = .returned (.agg #[.int .i64 pl])) ∧ Below w.heap.size w w' := iFaultW h.toRdW
theorem iIs_any (h : Rd B g xs A w s) (t : ByteArray) : Calls Tryz.prog 196 #[.pointer (some ⟨g, 0, none⟩), .string t] w fun e w' =>
  e = .returned (.bool (decide (txt xs s.p = t))) ∧ Below w.heap.size w w' := by
 go_enter Tryz.func196, Tryz.ntmps196
 go_wp2_with fail
 refine (iNext_any h).mono ?_
 rintro e w1 ⟨⟨pl, rfl⟩, B1⟩
 clear h
 obtain ⟨k, hk⟩ : ∃ k, k = knd xs s.p := ⟨_, rfl⟩
 obtain ⟨u, hu⟩ : ∃ u, u = txt xs s.p := ⟨_, rfl⟩
 obtain ⟨b, hb⟩ : ∃ b, b = blk xs s.p := ⟨_, rfl⟩
 rw [← hk, ← hu, ← hb]
 have HU := hidOf hu
 clear hk hu hb
 have q := fSg1 k u pl b
 go_wp2
 go_ret
 exact ⟨ret_bool (by rw [← HU.out]; exact str_beq _ _), B1⟩
end
set_option maxHeartbeats 1600000
set_option maxRecDepth 100000
theorem infoNd1 : (Tryz.prog.info? 59).map (fun i => (i.zero, i.size, i.bytes)) = some (some (.agg #[.int .i64 0, .string ByteArray.empty, .slice none 0 0, .bool false]), 4, 56) := by kernel_rfl
section
variable {B g : Nat} {xs : List Sg} {A : Nat → Prop} {w : World} {s : Ps}
theorem iTakeY {t : ByteArray} (h : Rd B g xs A w s) (hX : xs.length ≤ 3000) (ht : t ≠ ByteArray.empty) (he : txt xs s.p = t) : Calls Tryz.prog 198 #[.pointer (some ⟨g, 0, none⟩), .string t] w fun e w' =>
  e = .returned (.bool true) ∧ Rd B g xs A w' s.next ∧ Fr B w w' := by
 have hl := txt_lt he ht
 have qI := iIs_any h t
 rw [decide_eq_true he] at qI
 go_enter Tryz.func198, Tryz.ntmps198
 go_wp2_with fail
 refine qI.mono ?_
 rintro e w1 ⟨rfl, B1⟩
 have R1 := h.below B1
 have P1 := R1.setP (s.p + 1) hl
 have F1 := Fr.ofB B1 h.base
 obtain ⟨sa, sc, na, nc, -, c1, -, -, hz⟩ := R1.cells
 have z1 := hz 1
 have HP := hidOf P1
 have HF := hidOf F1
 clear qI he ht h R1 hz P1 F1
 go_wp2
 go_ret
 have e1 : ((s.p : Int) + 1) = ((s.p + 1 : Nat) : Int) := by omega
 rw [e1]
 exact ⟨rfl, HP.out.1, HF.out.trans HP.out.2⟩
theorem iTakeN {t : ByteArray} (h : Rd B g xs A w s) (he : txt xs s.p ≠ t) : Calls Tryz.prog 198 #[.pointer (some ⟨g, 0, none⟩), .string t] w fun e w' =>
  e = .returned (.bool false) ∧ Below w.heap.size w w' := by
 have qI := iIs_any h t
 rw [decide_eq_false he] at qI
 go_enter Tryz.func198, Tryz.ntmps198
 go_wp2_with fail
 refine qI.mono ?_
 rintro e w1 ⟨rfl, B1⟩
 clear qI he h
 go_wp2
 go_ret
 exact ⟨rfl, B1⟩
theorem iWant {t : ByteArray} {o : Option (Unit × Ps)} (h : Rd B g xs A w s) (hX : xs.length ≤ 3000) (ht : t ≠ ByteArray.empty) (hr : wantP xs t s = some o) : Calls Tryz.prog 234 #[.pointer (some ⟨g, 0, none⟩), .string t] w (PostR B g xs A w VU o) := by
 by_cases he : txt xs s.p = t
 ·obtain rfl : some ((), s.next) = o := by
   unfold wantP at hr
   rw [if_pos he] at hr
   injection hr
  have qT := iTakeY h hX ht he
  go_enter Tryz.func234, Tryz.ntmps234
  go_wp2_with fail
  refine qT.mono ?_
  rintro e w1 ⟨rfl, H⟩
  have HH := hidOf H
  clear qT he ht h H
  go_wp2
  go_end0
  exact ⟨rfl, HH.out⟩
 ·obtain rfl : none = o := by
   unfold wantP at hr
   rw [if_neg he] at hr
   injection hr
  have qT := iTakeN h he
  go_enter Tryz.func234, Tryz.ntmps234
  go_wp2_with fail
  refine qT.mono ?_
  rintro e w1 ⟨rfl, B1⟩
  have R1 := h.below B1
  have qF := iFault_any R1
  clear qT he ht R1
  go_wp2_with fail
  refine qF.mono ?_
  rintro e w2 ⟨⟨pl, rfl⟩, B2⟩
  have HF := hidOf ((Fr.ofB B1 h.base).trans (Fr.ofB B2 (h.below B1).base))
  clear qF h B1 B2
  go_wp2
  exact ⟨rfl, HF.out, pl, rfl⟩
end
set_option maxHeartbeats 1600000
set_option maxRecDepth 100000
section
variable {B g : Nat} {xs : List Sg} {A : Nat → Prop} {w : World} {s : Ps}
theorem iNmSg (k : Int) (t : ByteArray) (p : Int) (b : Bool) (w : World) : Calls Tryz.prog 259 #[.agg #[.int .i64 k, .string t, .int .i64 p, .bool b]] w fun e w' => e = .returned (.bool ((k == 1) && !kw t)) ∧ Below w.heap.size w w' := by
 have qK := fun W => iKey_any t W
 by_cases hk : k = 1
 ·subst hk
  go_enter Tryz.func259, Tryz.ntmps259
  go_wp2_with fail
  refine (qK _).mono ?_
  rintro e w1 ⟨rfl, rfl⟩
  go_wp2
  go_ret
  exact ⟨rfl, (Below.refl _ _).alloc (Nat.le_refl _) _⟩
 ·have hk' : (k == 1) = false := by simpa using hk
  go_enter Tryz.func259, Tryz.ntmps259
  go_wp2
  go_ret
  exact ⟨ret_bool (by rw [hk']; rfl), (Below.refl _ _).alloc (Nat.le_refl _) _⟩
theorem iName {o : Option (ByteArray × Ps)} (h : Rd B g xs A w s) (hX : xs.length ≤ 3000) (hr : nameP xs s = some o) : Calls Tryz.prog 233 #[.pointer (some ⟨g, 0, none⟩)] w (PostR B g xs A w VT o) := by
 go_enter Tryz.func233, Tryz.ntmps233
 go_wp2_with fail
 refine (iNext_any h).mono ?_
 rintro e w1 ⟨⟨pl, rfl⟩, B1⟩
 have R1 := h.below B1
 have F1 := Fr.ofB B1 h.base
 obtain ⟨k, hk⟩ : ∃ k, k = knd xs s.p := ⟨_, rfl⟩
 obtain ⟨u, hu⟩ : ∃ u, u = txt xs s.p := ⟨_, rfl⟩
 obtain ⟨b, hb⟩ : ∃ b, b = blk xs s.p := ⟨_, rfl⟩
 have hn : isNm xs s.p = ((k == 1) && !kw u) := by rw [hk, hu]; rfl
 have hl := fun h' : isNm xs s.p = true => isNm_lt h'
 have hr' : (if isNm xs s.p = true then yes u s.next else some none) = some o := by rw [hu]; exact hr
 rw [hn] at hr' hl
 rw [← hk, ← hu, ← hb]
 clear hk hu hb hr hn h B1
 have B2 : Below w1.heap.size w1 (w1.alloc (.cells #[.int .i64 k, .string u, .int .i64 pl, .bool b] 105)) := (Below.refl _ _).alloc (Nat.le_refl _) _
 have R2 := R1.below B2
 have F2 := F1.trans (Fr.ofB B2 R1.base)
 have G2 : (w1.alloc (.cells #[.int .i64 k, .string u, .int .i64 pl, .bool b] 105)).heap[w1.heap.size]? = some (.cells #[.int .i64 k, .string u, .int .i64 pl, .bool b] 105 (0, 0)) := heap_alloc_new w1 _
 have z2 : w1.heap.size < (w1.alloc (.cells #[.int .i64 k, .string u, .int .i64 pl, .bool b] 105)).heap.size := by simp
 have qN := iNmSg k u pl b
 obtain ⟨n, hn⟩ : ∃ n, n = ((k == 1) && !kw u) := ⟨_, rfl⟩
 rw [← hn] at hr' hl qN
 have HG := hidOf R1.lt
 clear hn R1 F1 B2
 go_wp2_with fail
 refine (qN _).mono ?_
 rintro e w2 ⟨rfl, B3⟩
 have R3 := R2.below B3
 have F3 := F2.trans (Fr.ofB B3 R2.base)
 have G3 := (B3.block w1.heap.size z2).trans G2
 have y1 : w2.cell? ⟨w1.heap.size, 1, none⟩ = some (.string u) := by rw [Lib.cell_of_heap G3]; rfl
 clear G2 G3 z2 R2 F2 B3 qN
 cases n with
 | true =>
  obtain rfl : some (u, s.next) = o := by injection hr'
  have hp3 := hl rfl
  have P3 := R3.setP (s.p + 1) hp3
  obtain ⟨sa, sc, na, nc, -, c1, -, -, hz⟩ := R3.cells
  have z1 := hz 1
  have hlt := R3.lt
  have hgw := HG.out
  have hne : ¬ w1.heap.size = g := by omega
  have HP := hidOf P3
  have HF := hidOf F3
  clear R3 P3 F3 hz hr' hl
  go_wp2
  go_ret
  have e1 : ((s.p : Int) + 1) = ((s.p + 1 : Nat) : Int) := by omega
  rw [e1]
  exact ⟨rfl, HP.out.1, HF.out.trans HP.out.2⟩
 | false =>
  obtain rfl : none = o := by injection hr'
  have qF := iFault_any R3
  clear y1 hr' hl
  go_wp2_with fail
  refine qF.mono ?_
  rintro e w4 ⟨⟨pl', rfl⟩, B4⟩
  have HF := hidOf (F3.trans (Fr.ofB B4 R3.base))
  clear qF R3 F3 B4
  go_wp2
  exact ⟨rfl, HF.out, pl', rfl⟩
theorem iBegin {o : Option (Unit × Ps)} (h : Rd B g xs A w s) (hr : (if 20 < s.d + 1 then some none else yes () ⟨s.p, s.d + 1, s.ns⟩) = some o) : Calls Tryz.prog 276 #[.pointer (some ⟨g, 0, none⟩)] w (PostR B g xs A w VU o) := by
 obtain ⟨sa, sc, na, nc, -, -, c2, -, hz⟩ := h.cells
 have z2 := hz 2
 have hd := h.deep
 by_cases hb : 20 < s.d + 1
 ·obtain rfl : none = o := by
   rw [if_pos hb] at hr
   injection hr
  have P1 := h.toRdW.setW (s.d + 1)
  have e1 : ((s.d : Int) + 1) = ((s.d + 1 : Nat) : Int) := by omega
  rw [← e1] at P1
  have qF := iFaultW P1.1
  have HF := hidOf P1.2
  have HW := hidOf P1.1.base
  clear h hz P1 e1 hr
  go_enter Tryz.func276, Tryz.ntmps276
  go_wp2_with fail
  refine qF.mono ?_
  rintro e w4 ⟨⟨pl', rfl⟩, B4⟩
  have HH := hidOf (HF.out.trans (Fr.ofB B4 HW.out))
  clear qF B4
  go_wp2
  exact ⟨rfl, HH.out, pl', rfl⟩
 ·obtain rfl : some ((), ⟨s.p, s.d + 1, s.ns⟩) = o := by
   rw [if_neg hb] at hr
   injection hr
  have HP := hidOf (h.setD (s.d + 1) (by omega))
  clear h hz
  go_enter Tryz.func276, Tryz.ntmps276
  go_wp2
  go_end0
  have e1 : ((s.d : Int) + 1) = ((s.d + 1 : Nat) : Int) := by omega
  rw [e1]
  exact ⟨rfl, HP.out⟩
theorem iEnd (h : Rd B g xs A w s) (h0 : 0 < s.d) : Calls Tryz.prog 278 #[.pointer (some ⟨g, 0, none⟩)] w (PostR B g xs A w VU (some ((), ⟨s.p, s.d - 1, s.ns⟩))) := by
 obtain ⟨sa, sc, na, nc, -, -, c2, -, hz⟩ := h.cells
 have z2 := hz 2
 have hd := h.deep
 have HP := hidOf (h.setD (s.d - 1) (by omega))
 clear h hz
 go_enter Tryz.func278, Tryz.ntmps278
 go_wp2
 go_end0
 have e1 : ((s.d : Int) - 1) = ((s.d - 1 : Nat) : Int) := by omega
 rw [e1]
 exact ⟨rfl, HP.out⟩
end
theorem np_new (w : World) (q : Np) : ∀ j u, (npCells q)[j]? = some u → (w.alloc (.cells #[.int .i64 q.nd.kind, .string q.nd.text, .slice q.a q.nd.kids.length q.c, .bool q.nd.blank] tNode)).cell? ((⟨w.heap.size, 0, none⟩ : Addr).add j) = some u := by
 intro j u hu
 have hj : j < 4 := by have := (List.getElem?_eq_some_iff.1 hu).1; simpa [npCells] using this
 match j, hj with
 | 0, _ => simp [npCells] at hu; subst hu; simp [Addr.add]
 | 1, _ => simp [npCells] at hu; subst hu; simp [Addr.add]
 | 2, _ => simp [npCells] at hu; subst hu; simp [Addr.add]
 | 3, _ => simp [npCells] at hu; subst hu; simp [Addr.add]
section
variable {B g : Nat} {xs : List Sg} {A : Nat → Prop} {w : World} {s : Ps}
set_option maxHeartbeats 4000000 in
set_option maxRecDepth 100000 in
theorem iAdd {o : Option (Nat × Ps)} (kind : Int) (t : ByteArray) (ks : List Int) (ka : Option Addr) (kc : Nat) (h : Rd B g xs A w s) (ho : w.ownsRow B tI 1 (.slice ka ks.length kc) ks.length (intVals ks)) (hap : ∀ b, (Value.slice ka ks.length kc).ownBlock = some b → ¬ A b) (hr : addP kind t ks s = some o) :
  Calls Tryz.prog 154 #[.pointer (some ⟨g, 0, none⟩), .int .i64 kind, .string t, .slice ka ks.length kc] w (PostR B g xs A w VN o) := by
 obtain ⟨i0, hi, hz0, hz1, hz2⟩ := info_parts infoNd1
 have hfew := h.few
 have hlt := h.lt
 have hbase := h.base
 by_cases hn : s.ns.length = 300
 ·obtain rfl : none = o := by
   unfold addP at hr
   rw [if_pos hn] at hr
   injection hr
  obtain ⟨sa, sc, na, nc, -, -, -, c3, -⟩ := h.cells
  rw [hn] at c3
  have qF := iFault_any h
  clear hr ho hfew hap
  go_enter Tryz.func154, Tryz.ntmps154
  go_wp2_with fail
  refine qF.mono ?_
  rintro e w4 ⟨⟨pl', rfl⟩, B4⟩
  have HH := hidOf (Fr.ofB B4 hbase)
  clear qF B4 c3 h
  go_wp2
  exact ⟨rfl, HH.out, pl', rfl⟩
 ·obtain rfl : some (s.ns.length, ⟨s.p, s.d, s.ns ++ [⟨kind, t, ks, false⟩]⟩) = o := by
   unfold addP at hr
   rw [if_neg hn] at hr
   injection hr
  obtain ⟨sa, sc, na, nc, qs, en, h1, h2, h3, h4, e1, e2, e3, e4⟩ := h.mem
  have hq : qs.length = s.ns.length := by rw [← h4]; simp
  have c3 : w.cell? ⟨g, 3, none⟩ = some (.slice na s.ns.length nc) := cell_of_row w g 3 _ _ _ h1
  have HB : Below w.heap.size w (w.alloc (.cells #[.int .i64 kind, .string t, .slice ka ks.length kc, .bool false] tNode)) := (Below.refl _ _).alloc (Nat.le_refl _) _
  have R1 := h.below HB
  have g1 := (HB.block g hlt).trans h1
  have s1 := owns_below h2 HB
  have n1 := h3.below HB
  have o1 := owns_below ho HB
  have r1 := n1.row
  have hX := np_new w ⟨⟨kind, t, ks, false⟩, ka, kc⟩
  rw [hq] at r1
  have HA := hidOf (fun (w2 : World) (na' : Option Addr) (nc' : Nat) hg hw => Rd.added (w2 := w2) R1 g1 s1 n1 h4 e1 e2 e3 e4 ⟨⟨kind, t, ks, false⟩, ka, kc⟩ hap o1 hn (na' := na') (nc' := nc') hg hw)
  have HR := hidOf r1
  have HX := hidOf hX
  have HF := hidOf (Fr.ofB (B := B) HB hbase)
  have HG := hidOf (fun (w2 : World) hg => gkeep (w2 := w2) g1 r1 hg)
  have HQ := hidOf hq
  clear hr h h1 h2 h3 h4 ho HB R1 g1 s1 n1 o1 r1 hX hq e1 e2 e3 e4
  go_enter Tryz.func154, Tryz.ntmps154
  go_wp2_with (at_builtin; refine wpList_append_own _ rfl _ _ 49 rfl B 59 i0 _ 4 56 Tryz.underlying49 hi hz0 hz1 hz2 rfl (by decide) (.slice na s.ns.length nc) s.ns.length (rowVals npCells qs) rfl HR.out ⟨w.heap.size, 0, none⟩ 1 1 (npCells ⟨⟨kind, t, ks, false⟩, ka, kc⟩) rfl rfl HX.out (npCells_one _) (by unfold maxLen; omega) (by omega) (by simp; omega) ?_; intro v' w5 hown' hgrow5 hnil5; clear hnil5; obtain ⟨na', nc', rfl⟩ := owns_slice hown'; have G5 := HG.out w5 hgrow5; have c5 : w5.cell? ⟨g, 3, none⟩ = some (.slice na s.ns.length nc) := cell_of_row w5 g 3 _ _ _ G5; have z5 := frozen_of_row w5 g 3 _ _ G5; clear G5; have HO := hidOf hown'; have HW := hidOf hgrow5; clear hown' hgrow5)
  go_ret
  rw [← HQ.out] at HW
  have H := HA.out w5 na' nc' HW.out HO.out
  exact ⟨⟨by go_num, by simp⟩, H.1, HF.out.trans H.2⟩
end
end Go.Proofs.YtcbbnphpkgifoaaGreatDoor
