/- What impl.boundOfRight answers: what the first values of a right piece cost at least. -/
import Derived.Test.YtghfpcjgionbaaaKah
import Derived.Test.YtghfpcjgionbaaaSumI
import Derived.Test.YtghfpcjgionbaaaBCell
import Derived.Laws.IdiomCopy
import Derived.Deep.RegionHeld3
import Derived.Test.YtghfpcjgionbaaaKag
import Derived.Test.YtghfpcjgionbaaaKaa
namespace Go.Proofs.Ytghfpcjgionbaaa
open Go.RowKit

theorem arr_all (b : Nat) (W : World) : (Instr.sliceAt 152 (.pointer (some ⟨b, 0, none⟩)) none none none).run Try.prog W = .ok (.slice (some ⟨b, 0, none⟩) 8 8) W := by
  have hl : Try.prog.arrayLen 152 = 8 := by kernel_rfl
  have he : Try.prog.elem 152 = 3 := by kernel_rfl
  rw [run_sliceAt_array_all W 152 ⟨b, 0, none⟩ (by kernel_rfl), hl, he]
  simp [slicedAt, Try.sizeOf3, Addr.add, go_sem]
theorem add_at (b o j : Nat) : (⟨b, o, none⟩ : Addr).add j = ⟨b, o + j, none⟩ := by unfold Addr.add; split <;> simp_all
theorem infoInt1 : (Try.prog.info? 3).map (·.size) = some 1 := by kernel_rfl
/-- The first values go into an array of eight. -/
theorem run_copy8 (w : World) (N : Nat) (a : Option Addr) (c : Nat) (vs : List Int) (hv : KidsAt w a vs) (h8 : vs.length ≤ 8) (hc : ∀ j, j < 8 → w.cell? ⟨N, j, none⟩ = some (.int .i64 0)) (hf : ∀ j, w.frozen? ⟨N, j, none⟩ = false) :
    ∀ ty, (Builtin.copy_ #[32, 32] ty #[.slice (some ⟨N, 0, none⟩) 8 8, .slice a vs.length c]).run Try.prog w = .ok (goInt vs.length) (w.setCells N 0 (intVals vs)) := by
  intro ty
  by_cases h0 : vs.length = 0
  · have e : vs = [] := List.eq_nil_of_length_eq_zero h0
    subst e
    exact run_copy_none w _ _ ty 3 _ a 8 8 0 c Try.underlying32 infoInt1 (by simp)
  · obtain ⟨b, off, rfl, hlt, hcc⟩ := hv (by omega)
    have h := run_copy_cells (P := Try.prog) w 32 32 ty 3 N 0 8 8 ⟨b, off, none⟩ vs.length c (intVals vs) Try.underlying32 infoInt1 (by rw [intVals_len]; exact (Nat.min_eq_left h8).symm) (fun j v hj => by
      unfold intVals at hj
      rw [List.getElem?_map] at hj
      cases hz : vs[j]? with
      | none => rw [hz] at hj; cases hj
      | some z =>
        rw [hz] at hj
        rw [add_at, hcc j z hz]
        exact hj) (fun j hj => by
      rw [intVals_len] at hj
      rw [Nat.zero_add, hc j (by omega)]
      rfl) (fun j _ => by rw [Nat.zero_add]; exact hf j) (fun v hv => by
      unfold intVals at hv
      obtain ⟨z, -, rfl⟩ := List.mem_map.1 hv
      rfl)
    rw [intVals_len] at h
    exact h
theorem below_setCells {B b : Nat} {w0 : World} (hB : B ≤ b) : ∀ (vs : List Value) (o : Nat) (w : World), Below B w0 w → Below B w0 (w.setCells b o vs)
  | [], _, _, h => h
  | v :: vs, o, w, h => by
    rw [World.setCells]
    exact below_setCells hB vs (o + 1) _ (h.setCell (p := ⟨b, o, none⟩) hB v)
theorem size_setCells (b : Nat) : ∀ (vs : List Value) (o : Nat) (w : World), (w.setCells b o vs).heap.size = w.heap.size
  | [], _, _ => rfl
  | v :: vs, o, w => by
    rw [World.setCells, size_setCells b vs (o + 1)]
    simp
/-- What lies there then. -/
theorem kids8 (w : World) (N : Nat) (vs : List Int) (k : Nat) (h8 : vs.length + k ≤ 8) (hN : N < w.heap.size) (hc : ∀ j, j < 8 → w.cell? ⟨N, j, none⟩ = some (.int .i64 0)) : KidsAt (w.setCells N 0 (intVals vs)) (some ⟨N, 0, none⟩) (vs ++ List.replicate k 0) := by
  intro _
  refine ⟨N, 0, rfl, by rw [size_setCells]; exact hN, fun j z hz => ?_⟩
  rw [Nat.zero_add]
  by_cases e : j < vs.length
  · rw [List.getElem?_append_left e] at hz
    have h := World.cell?_setCells_in N (intVals vs) 0 w (fun i hi => by rw [intVals_len] at hi; rw [Nat.zero_add, hc i (by omega)]; rfl) j (by rw [intVals_len]; exact e)
    rw [Nat.zero_add] at h
    rw [h]
    have h2 : (intVals vs)[j]? = some (.int .i64 z) := by unfold intVals; rw [List.getElem?_map, hz]; rfl
    rw [List.getElem?_eq_getElem (by rw [intVals_len]; exact e)] at h2
    exact h2
  · rw [List.getElem?_append_right (by omega), List.getElem?_replicate] at hz
    split at hz
    · cases hz
      rw [World.cell?_setCells_out N (intVals vs) 0 w ⟨N, j, none⟩ (fun _ _ => .inr (by rw [intVals_len]; show 0 + vs.length ≤ j; omega))]
      exact hc j (by omega)
    · cases hz

set_option maxHeartbeats 8000000 in
set_option maxRecDepth 20000 in
theorem iBnd_any (p : Pc) (l : Pl) (a : Option Addr) (c : Nat) (vs : List Int) (w : World) (hF : PcFew p) (hcap : p.chunks.length ≤ l.c2) (hp : PcIn w p l) (hv : KidsAt w a vs) (h1 : Right p) (h2 : PreV p.rules vs) :
    Calls Try.prog 109 #[pcV p l, .slice a vs.length c] w fun e w' => e = .returned (.int .i64 (costSum p vs)) ∧ Below w.heap.size w w' := by
  show Calls _ _ #[.agg #[.int .i64 p.indent, .slice l.a1 p.rules.length l.c1, .slice l.a2 p.chunks.length l.c2, .slice l.a3 p.spans.length l.c3, .slice l.a4 p.ties.length l.c4], _] _ _
  have hr8 := h1.rules.1
  have hvl := h2.1
  obtain ⟨us, hus⟩ : ∃ us, us = vs ++ List.replicate (p.rules.length - vs.length) 0 := ⟨_, rfl⟩
  have hul : us.length = p.rules.length := by rw [hus]; simp; omega
  have hok : ValOk p us := by rw [hus]; exact pre_full h1 h2
  have hsu := sums_le h1 hok
  have HE := hidOf (show costSum p vs = vcost p.rules us + scost p.chunks us p.spans by rw [← sum_zero p vs (p.rules.length - vs.length), ← hus]; rfl)
  rw [HE.out]
  obtain ⟨W0, hW0, X0, B0, S0⟩ := boxed w p l 29
  obtain ⟨W1, hW1⟩ : ∃ W1, W1 = W0.alloc (.cells eight 152) := ⟨_, rfl⟩
  have B1 : Below W0.heap.size W0 W1 := by rw [hW1]; exact (Below.refl _ _).alloc (Nat.le_refl _) _
  have R1 : W1.heap[W0.heap.size]? = some (.cells eight 152 (0, 0)) := by rw [hW1]; exact heap_alloc_new W0 _
  have hc1 : ∀ j, j < 8 → W1.cell? ⟨W0.heap.size, j, none⟩ = some (.int .i64 0) := fun j hj => by
    rw [cell_of_row W1 _ j _ _ _ R1]
    match j, hj with
    | 0, _ => rfl
    | 1, _ => rfl
    | 2, _ => rfl
    | 3, _ => rfl
    | 4, _ => rfl
    | 5, _ => rfl
    | 6, _ => rfl
    | 7, _ => rfl
  have hNl : W0.heap.size < W1.heap.size := (Array.getElem?_eq_some_iff.1 R1).1
  have C1 := B0.trans (B1.mono B0.size)
  have V1 := hv.below C1 (Nat.le_refl _)
  have hcp := run_copy8 W1 W0.heap.size a c vs V1 (by omega) hc1 (fun j => frozen_of_row W1 _ j _ _ R1)
  have K2 := kids8 W1 W0.heap.size vs (p.rules.length - vs.length) (by omega) hNl hc1
  rw [← hus] at K2
  have hX : w.heap.size < W0.heap.size := by omega
  obtain ⟨W2, hW2⟩ : ∃ W2, W2 = W1.setCells W0.heap.size 0 (intVals vs) := ⟨_, rfl⟩
  rw [← hW2] at hcp K2
  have B2 : Below W0.heap.size W0 W2 := by rw [hW2]; exact below_setCells (Nat.le_refl _) _ _ _ B1
  have I2 := (hp.below B0 (Nat.le_refl _)).below B2 (Nat.le_refl _)
  have X2 := X0.below B2 hX
  have BW : Below w.heap.size w W2 := B0.trans (B2.mono B0.size)
  obtain ⟨N, hN⟩ : ∃ N, N = W0.heap.size := ⟨_, rfl⟩
  have hat := arr_to N p.rules.length hr8
  have hal := arr_all N
  rw [← hN] at hcp K2
  have HN1 : Hid (w.heap.size + 1 = N) := hidOf (by omega)
  have qV := fun W hP hK => iVaCost_any p l (some ⟨N, 0, none⟩) 8 us W (by omega) hP hK h1 hok
  have qS := fun W hP hK => iSpCost_any p l (some ⟨N, 0, none⟩) 8 us W hF (by omega) hcap hP hK h1 hok
  rw [hul] at qV qS
  obtain ⟨vc, hvc⟩ : ∃ vc, vc = vcost p.rules us := ⟨_, rfl⟩
  obtain ⟨sc, hsc⟩ : ∃ sc, sc = scost p.chunks us p.spans := ⟨_, rfl⟩
  rw [← hvc, ← hsc] at hsu
  rw [← hvc, ← hsc]
  rw [← hvc] at qV
  rw [← hsc] at qS
  clear hvc hsc HE
  obtain ⟨⟨u1, u2⟩, u3, u4⟩ := hsu
  have hws : IntKind.i64.wrap (vc + sc) = vc + sc := IntWalk.i64_in _ ⟨by omega, by omega⟩
  have hXW : w.heap.size < W2.heap.size := Nat.lt_of_lt_of_le hX B2.size
  clear X0 hc1 hNl R1 V1 hv hp C1 hul hus hok S0 hN hX
  go_enter Try.func109, Try.ntmps109
  go_upto_region 2 with fail
  rw [← hW0, ← hW1, HN1.out]
  clear hW0 hW1 hW2 B1
  obtain ⟨-, c0, c1, c2, c3, c4⟩ := X2
  go_upto_region 4 with fail
  have ID := I2.below (Below.refl W2.heap.size W2).drew (Nat.le_refl _)
  have VD := K2.below (Below.refl W2.heap.size W2).drew (Nat.le_refl _)
  go_region_held3 (fun W => ((W.cell? ⟨w.heap.size, 0, none⟩ = some (.int .i64 p.indent) ∧ W.cell? ⟨w.heap.size, 1, none⟩ = some (.slice l.a1 p.rules.length l.c1) ∧ W.cell? ⟨w.heap.size, 2, none⟩ = some (.slice l.a2 p.chunks.length l.c2) ∧ W.cell? ⟨w.heap.size, 3, none⟩ = some (.slice l.a3 p.spans.length l.c3) ∧ W.cell? ⟨w.heap.size, 4, none⟩ = some (.slice l.a4 p.ties.length l.c4)))) (first | trivial | go_keep)
    ((first
    | (go_at_call 104; refine (qV _ ID VD).mono ?_; rintro e w2 ⟨rfl, hb2⟩; have A2 := (Below.refl W2.heap.size W2).drew.trans hb2; have hc2 := (bcell A2).1; have hd2 := (bcell A2).2)
    | (go_at_call 105; refine (qS _ (I2.below A2 (Nat.le_refl _)) (K2.below A2 (Nat.le_refl _))).mono ?_; rintro e w3 ⟨rfl, hb3⟩; have A3 := A2.trans (hb3.mono A2.size); have hc3 := (bcell A3).1; have hd3 := (bcell A3).2)))
  go_wp2
  go_ret
  exact ⟨rfl, BW.trans (A3.mono BW.size)⟩
end Go.Proofs.Ytghfpcjgionbaaa
/- When ties hold, in plain words. -/
namespace Go.Proofs.Ytghfpcjgionbaaa
open Go.RowKit

/-- What a list of values makes of a rule: 0 it is not there, 1 its value is 0, 2 it is above 0. -/
def st (vs : List Int) (r : Int) : Nat := if 0 ≤ r ∧ r < (vs.length : Int) then (if 0 < vs.getD r.toNat 0 then 2 else 1) else 0
theorem st_cases (vs : List Int) (r : Int) : st vs r = 0 ∨ st vs r = 1 ∨ st vs r = 2 := by
  unfold st
  split
  · split <;> simp
  · simp
theorem st_in {vs : List Int} {k : Nat} {z : Int} (hz : vs[k]? = some z) : st vs (k : Int) = if 0 < z then 2 else 1 := by
  have hk := (List.getElem?_eq_some_iff.1 hz).1
  unfold st
  rw [if_pos ⟨by omega, by omega⟩, Int.toNat_natCast, List.getD_eq_getElem?_getD, hz]
  rfl
/-- A tie whose rules are so holds. -/
def holdB (s t : Nat) : Bool := decide (1 ≤ s) && decide (1 ≤ t) && (decide (s ≤ 1) || decide (2 ≤ t))
/-- A tie holds. -/
def TieOk (vs : List Int) (x : Ti) : Prop := holdB (st vs x.kid) (st vs x.up) = true
structure TiesHold (p : Pc) (vs : List Int) : Prop where
  vals : ValOk p vs
  ties : ∀ (j : Nat) (x : Ti), p.ties[j]? = some x → TieOk vs x
theorem st_of {vs : List Int} {r : Int} (h0 : 0 ≤ r) (h1 : r ≤ (vs.length : Int) - 1) : ∃ z, vs[r.toNat]? = some z ∧ st vs r = if 0 < z then 2 else 1 := by
  obtain ⟨k, rfl⟩ := Int.eq_ofNat_of_zero_le h0
  have hk : k < vs.length := by omega
  exact ⟨vs[k], by simp [hk], st_in (List.getElem?_eq_getElem hk)⟩
end Go.Proofs.Ytghfpcjgionbaaa
/- Costs, and which is less. -/
namespace Go.Proofs.Ytghfpcjgionbaaa
open Go.RowKit

/-- A cost. -/
abbrev coV (o s : Int) : Value := .agg #[.int .i64 o, .int .i64 s]
def lessC (o1 s1 o2 s2 : Int) : Bool := decide (o1 < o2 ∨ o1 = o2 ∧ s1 < s2)
def uptoC (o1 s1 o2 s2 : Int) : Bool := decide (o1 < o2 ∨ o1 = o2 ∧ s1 ≤ s2)
end Go.Proofs.Ytghfpcjgionbaaa
