/- What impl.MeasureOf answers. -/
import Derived.Test.YtcbbnphpkgifoaaGreatDoorKaz
import Derived.Test.YtcbbnphpkgifoaaGreatDoorMsT
import Derived.Test.YtcbbnphpkgifoaaGreatDoorKba
import Derived.Test.YtcbbnphpkgifoaaGreatDoorKbb
import Derived.Deep.CutBlock
import Derived.Handed
import Derived.SizedLaws
namespace Go.Proofs.YtcbbnphpkgifoaaGreatDoor
open Go.RowKit
theorem arr40 (t : Array Value) (h : t.size = 40) : ∃ x0 x1 x2 x3 x4 x5 x6 x7 x8 x9 x10 x11 x12 x13 x14 x15 x16 x17 x18 x19 x20 x21 x22 x23 x24 x25 x26 x27 x28 x29 x30 x31 x32 x33 x34 x35 x36 x37 x38 x39, t = #[x0, x1, x2, x3, x4, x5, x6, x7, x8, x9, x10, x11, x12, x13, x14, x15, x16, x17, x18, x19, x20, x21, x22, x23, x24, x25, x26, x27, x28, x29, x30, x31, x32, x33, x34, x35, x36, x37, x38, x39] := by
 obtain ⟨l⟩ := t
 match l, h with
 | x0 :: x1 :: x2 :: x3 :: x4 :: x5 :: x6 :: x7 :: x8 :: x9 :: x10 :: x11 :: x12 :: x13 :: x14 :: x15 :: x16 :: x17 :: x18 :: x19 :: x20 :: x21 :: x22 :: x23 :: x24 :: x25 :: x26 :: x27 :: x28 :: x29 :: x30 :: x31 :: x32 :: x33 :: x34 :: x35 :: x36 :: x37 :: x38 :: x39 :: [], _ => exact ⟨_, _, _, _, _, _, _, _, _, _, _, _, _, _, _, _, _, _, _, _, _, _, _, _, _, _, _, _, _, _, _, _, _, _, _, _, _, _, _, _, rfl⟩
theorem grown_cell {w X : World} {R : Nat} (h : w.grownBy X (some R)) {b : Nat} (hb : b < w.heap.size) (hne : b ≠ R) (j : Nat) : X.cell? ⟨b, j, none⟩ = w.cell? ⟨b, j, none⟩ := by
 have e := h.block b hb (fun e => hne (Option.some.inj e))
 simp only [World.cell?, e]
theorem far_kind {w : World} {B e s n R T : Nat} {v : Value} {xs : List Value} {cs : Array Value} (h : w.ownsRow B e s v n xs) (hr : w.heap[R]? = some (.cells cs T (0, 0))) (hne : e ≠ T) : v.ownBlock = none ∨ v.ownBlock ≠ some R := by
 rcases h.2 with ⟨rfl, _⟩ | ⟨g, cap, cur, rfl, hb', hgg, rest⟩
 ·exact .inl rfl
 ·refine .inr (fun e1 => ?_)
  have e2 : g = R := by injection e1
  subst e2
  rw [hr] at hgg
  injection hgg with hgg
  injection hgg with _ hgg _
  exact hne hgg.symm
theorem nds_grown {w X : World} {B R : Nat} {a : Option Addr} {c : Nat} {qs : List Np} {cs : Array Value} (h : Nds w B a c qs) (hr : w.heap[R]? = some (.cells cs 28 (0, 0))) (hg : w.grownBy X (some R)) : Nds X B a c qs :=
 ⟨World.ownsRow.kept h.row hg (far_kind h.row hr (by decide)), fun q hq => World.ownsRow.kept (h.each q hq) hg (far_kind (h.each q hq) hr (by decide))⟩
theorem grown_one {w X : World} {R : Nat} (h : w.grownBy X (some R)) (j : Nat) (v : Value) : w.grownBy (X.setCell ⟨R, j, none⟩ v) (some R) :=
 grownBy_trans h ⟨rfl, rfl, rfl, by simp, fun k _ hk => heap_setCell_other X ⟨R, j, none⟩ k v (fun e => hk (by simp [e]))⟩
theorem putMs_grown (X : World) (R : Nat) (a b c s d n : Int) : X.grownBy (putMs X R a b c s d n) (some R) :=
 grown_one (grown_one (grown_one (grown_one (grown_one (grown_one (World.grownBy.refl X (some R)) 0 _) 1 _) 2 _) 3 _) 4 _) 5 _
def Bv (w : World) (R : Nat) (X : World) : Prop := w.grownBy X (some R) ∧ ∃ cs : Array Value, cs.size = 6 ∧ X.heap[R]? = some (.cells cs 28 (0, 0))
theorem Bv.call {w X X2 : World} {R : Nat} (h : Bv w R X) (A : Below X.heap.size X X2) : Bv w R X2 := by
 obtain ⟨h1, cs, h2, h3⟩ := h
 exact ⟨grownBy_trans h1 (grownBy_of_below A _), cs, h2, (A.block R (Array.getElem?_eq_some_iff.1 h3).1).trans h3⟩
theorem Bv.put {w X : World} {R : Nat} (h : Bv w R X) (a b c s d n : Int) : Bv w R (putMs X R a b c s d n) := by
 obtain ⟨h1, cs, h2, h3⟩ := h
 exact ⟨grownBy_trans h1 (putMs_grown X _ _ _ _ _ _ _), _, rfl, putMs_row h3 h2 a b c s d n⟩
def fullMs (a b : Int) (kl sn nn : Nat) (d : Int) : Array Value := #[.int .i64 a, .int .i64 b, .int .i64 kl, .int .i64 sn, .int .i64 d, .int .i64 nn]
def mjPost (t : ByteArray) (R g m nc : Nat) (a b : Int) (kl sn nn : Nat) (ka : Option Addr) (kc : Nat) (ns : List Nd) : Nat → Value → World → Prop
 | 0 => fun v _ => v = .string t
 | 1 => fun v _ => ∃ (la : Option Addr) (n lc : Nat), v = .slice la n lc ∧ (n : Int) = a
 | 2 => fun v _ => v = .int .i64 a
 | 3 => fun v _ => v = .string t
 | 4 => fun v _ => v = .int .i64 b
 | 5 => fun v _ => v = .slice (some ⟨g, 0, none⟩) (m + 1) nc
 | 6 => fun v _ => v = .int .i64 m
 | 7 => fun v _ => v = .pointer (some ⟨g, m * 4, none⟩)
 | 8 => fun v _ => v = .pointer (some ⟨g, m * 4 + 2, none⟩)
 | 9 => fun v _ => v = .slice ka kl kc
 | 10 => fun v _ => v = .int .i64 kl
 | 11 => fun v _ => v = .slice (some ⟨g, 0, none⟩) (m + 1) nc
 | 12 => fun v _ => v = .int .i64 sn
 | 13 => fun v _ => v = .slice (some ⟨g, 0, none⟩) (m + 1) nc
 | 14 => fun v _ => v = .int .i64 m
 | 15 => fun v _ => ∃ d : Int, v = .int .i64 d ∧ Hid (DeepV ns d)
 | 16 => fun v _ => v = .slice (some ⟨g, 0, none⟩) (m + 1) nc
 | 17 => fun v _ => v = .func (.func 29) #[] #[]
 | 18 => fun v _ => v = .int .i64 nn
 | 19 => fun v _ => ∃ d : Int, v = .agg (fullMs a b kl sn nn d) ∧ Hid (DeepV ns d)
 | 20 => fun _ X => ∃ d : Int, X.heap[R]? = some (.cells (fullMs a b kl sn nn d) 28 (0, 0)) ∧ Hid (DeepV ns d)
 | _ => fun _ _ => True
def mjStep (t : ByteArray) (R g m nc : Nat) (a b : Int) (kl sn nn : Nat) (ka : Option Addr) (kc : Nat) (ns : List Nd) (X X' : World) : Prop := X'.heap[R]? = X.heap[R]? ∨ mjPost t R g m nc a b kl sn nn ka kc ns 20 undef X'
theorem mjPost_stab (t : ByteArray) (R g m nc : Nat) (a b : Int) (kl sn nn : Nat) (ka : Option Addr) (kc : Nat) (ns : List Nd) : ∀ k v (X X' : World), mjPost t R g m nc a b kl sn nn ka kc ns k v X → mjStep t R g m nc a b kl sn nn ka kc ns X X' → mjPost t R g m nc a b kl sn nn ka kc ns k v X'
 | 0, _, _, _, h, _ => h
 | 1, _, _, _, h, _ => h
 | 2, _, _, _, h, _ => h
 | 3, _, _, _, h, _ => h
 | 4, _, _, _, h, _ => h
 | 5, _, _, _, h, _ => h
 | 6, _, _, _, h, _ => h
 | 7, _, _, _, h, _ => h
 | 8, _, _, _, h, _ => h
 | 9, _, _, _, h, _ => h
 | 10, _, _, _, h, _ => h
 | 11, _, _, _, h, _ => h
 | 12, _, _, _, h, _ => h
 | 13, _, _, _, h, _ => h
 | 14, _, _, _, h, _ => h
 | 15, _, _, _, h, _ => h
 | 16, _, _, _, h, _ => h
 | 17, _, _, _, h, _ => h
 | 18, _, _, _, h, _ => h
 | 19, _, _, _, h, _ => h
 | 20, _, _, _, ⟨d, h1, h2⟩, .inl e => ⟨d, e.trans h1, h2⟩
 | 20, _, _, _, _, .inr h => h
 | _ + 21, _, _, _, _, _ => trivial
set_option maxHeartbeats 8000000 in
set_option maxRecDepth 100000 in
theorem iMeas_any (t : ByteArray) (mx : Int) (w : World) (hs : t.size ≤ 4194304) (hM : MaxIn mx w) : Calls Tryz.prog 8 #[.string t] w fun e w' => MsAns t w e w' := by
 obtain ⟨W0, hW0⟩ : ∃ W0, W0 = w.alloc (.cells #[.int .i64 0, .int .i64 0, .int .i64 0, .int .i64 0, .int .i64 0, .int .i64 0] 28) := ⟨_, rfl⟩
 have B0 : Below w.heap.size w W0 := by rw [hW0]; exact (Below.refl _ _).alloc (Nat.le_refl _) _
 have F0 : W0.heap[w.heap.size]? = some (.cells #[.int .i64 0, .int .i64 0, .int .i64 0, .int .i64 0, .int .i64 0, .int .i64 0] 28 (0, 0)) := by rw [hW0]; exact heap_alloc_new w _
 have z0 : w.heap.size < W0.heap.size := by rw [hW0]; simp
 have qR := iRead_any t W0 hs
 have HM := hidOf hM
 clear hM
 go_enter Tryz.func8, Tryz.ntmps8
 go_wp2_with fail
 rw [← hW0]
 clear hW0
 refine qR.mono ?_
 clear qR
 rintro e w1 ⟨na, nc, qs, pl, b, rfl, hN, hb1, hR, hq, -⟩
 have F1 := (hb1.block w.heap.size z0).trans F0
 have B1 := B0.trans (hb1.mono B0.size)
 have z1 : w.heap.size < w1.heap.size := Nat.lt_of_lt_of_le z0 hb1.size
 clear F0 B0 hb1 z0
 cases b with
 | false =>
  have r0 := cell_of_row _ w.heap.size 0 _ _ _ F1
  have r1 := cell_of_row _ w.heap.size 1 _ _ _ F1
  have r2 := cell_of_row _ w.heap.size 2 _ _ _ F1
  have r3 := cell_of_row _ w.heap.size 3 _ _ _ F1
  have r4 := cell_of_row _ w.heap.size 4 _ _ _ F1
  have r5 := cell_of_row _ w.heap.size 5 _ _ _ F1
  have y0 := frozen_of_row _ w.heap.size 0 _ _ F1
  have y1 := frozen_of_row _ w.heap.size 1 _ _ F1
  have y2 := frozen_of_row _ w.heap.size 2 _ _ F1
  have y3 := frozen_of_row _ w.heap.size 3 _ _ F1
  have y4 := frozen_of_row _ w.heap.size 4 _ _ F1
  have y5 := frozen_of_row _ w.heap.size 5 _ _ F1
  have HF := hidOf F1
  have HR := hidOf hR
  clear F1 hR hq hN
  go_wp2
  have R0 := heap_setCell_same w1 w.heap.size 0 _ _ (.int .i64 0) HF.out
  have R1 := heap_setCell_same _ w.heap.size 1 _ _ (.int .i64 0) R0
  have R2 := heap_setCell_same _ w.heap.size 2 _ _ (.int .i64 0) R1
  have R3 := heap_setCell_same _ w.heap.size 3 _ _ (.int .i64 0) R2
  have R4 := heap_setCell_same _ w.heap.size 4 _ _ (.int .i64 0) R3
  have R5 := heap_setCell_same _ w.heap.size 5 _ _ (.int .i64 0) R4
  refine bodyPost_ret (results_one6 rfl _ _ w.heap.size (.int .i64 0) (.int .i64 0) (.int .i64 0) (.int .i64 0) (.int .i64 0) (.int .i64 0) _ rfl (by simpa using R5) Tryz.underlying28 rfl infoMs) rfl ?_
  exact ⟨0, 0, 0, 0, 0, 0, rfl, .inr ⟨(fun h => by have := HR.out.2 h; cases this), rfl, rfl, rfl, rfl, rfl, rfl⟩, (((((B1.setCell (Nat.le_refl _) _).setCell (Nat.le_refl _) _).setCell (Nat.le_refl _) _).setCell (Nat.le_refl _) _).setCell (Nat.le_refl _) _).setCell (Nat.le_refl _) _⟩
 | true =>
  have hOk := hR.1 rfl
  have hq := hq rfl
  have hTS : TreeP (nodesOf t) ∧ ∀ x ∈ nodesOf t, SafeNd x := by
   obtain ⟨_, k, s, hf, hT⟩ := hOk
   rw [nodesOf_yes hf]
   exact ⟨hT, fun x hx => iv_file (sgs_of t) k s hf x hx⟩
  have HOk := hidOf hOk
  obtain ⟨ns, hns⟩ : ∃ ns, ns = nodesOf t := ⟨_, rfl⟩
  have HNS := hidOf hns
  rw [← hns] at hq hTS
  have hl : qs.length = ns.length := by rw [← hq, List.length_map]
  have hleast := hTS.1.least
  have hmost := hTS.1.most
  obtain ⟨m, hm⟩ : ∃ m, qs.length = m + 1 := ⟨qs.length - 1, by omega⟩
  have hm3 : m ≤ 299 := by omega
  obtain ⟨g, rfl⟩ := owns_at hN.row (by omega)
  have HNX := hidOf (fun X (hg : w1.grownBy X (some w.heap.size)) => nds_grown hN F1 hg)
  have hSf : ∀ q ∈ qs, SafeNd q.nd := fun q hqm => hTS.2 q.nd (by rw [← hq]; exact List.mem_map_of_mem hqm)
  have hdeep : HasD (qs.map Np.nd) (m + 1) := by rw [hq, ← hm, hl]; exact hTS.1.deep
  have hTP : TreeP (qs.map Np.nd) := by rw [hq]; exact hTS.1
  obtain ⟨x, hx⟩ : ∃ x, qs[m]? = some x := ⟨_, List.getElem?_eq_getElem (by omega)⟩
  have HX := hidOf hx
  have HLast := hidOf (show lastK ns = x.nd.kids.length by
   unfold lastK
   rw [show ns.length - 1 = m by omega, ← hq, List.getElem?_map, hx]
   rfl)
  have HSt := hidOf (fun X hg => iStepsN (HNX.out X hg) hTP (by omega) (by omega))
  have HNt := hidOf (fun X hg => iNotesN (HNX.out X hg) (by omega) (by omega))
  have HDp := hidOf (fun X hg => iDeepV (HNX.out X hg) hSf hm hm3 hdeep)
  have HMX := hidOf (fun X (hg : w1.grownBy X (some w.heap.size)) => show MaxIn mx X from ⟨Nat.lt_of_lt_of_le HM.out.1 (Nat.le_trans B1.size hg.size), (grown_cell hg (Nat.lt_of_lt_of_le HM.out.1 B1.size) (Nat.ne_of_lt HM.out.1) 0).trans ((B1.cell (p := ⟨_, 0, none⟩) HM.out.1).trans HM.out.2)⟩)
  rw [hq] at HSt HNt HDp
  rw [hm] at HSt HNt
  obtain ⟨sn, hsn⟩ : ∃ sn, sn = stepN ns ns := ⟨_, rfl⟩
  rw [← hsn] at HSt
  have HSN := hidOf hsn
  obtain ⟨nn, hnn⟩ : ∃ nn, nn = noteN ns := ⟨_, rfl⟩
  rw [← hnn] at HNt
  have HNN := hidOf hnn
  obtain ⟨wd, hwd⟩ : ∃ wd : Int, wd = (widest (lns t) : Int) := ⟨_, rfl⟩
  have HWD := hidOf hwd
  obtain ⟨la, hla⟩ : ∃ la : Int, la = ((lns t).length : Int) := ⟨_, rfl⟩
  have HLA := hidOf hla
  obtain ⟨kl, hkl⟩ : ∃ kl, kl = x.nd.kids.length := ⟨_, rfl⟩
  rw [← hkl] at HLast
  have HKL := hidOf hkl
  have HDv := hidOf (show m + 1 = ns.length by omega)
  have hA : (0 : Int) ≤ (m : Int) := by omega
  have hws : IntKind.i64.wrap (m : Int) = (m : Int) := IntWalk.i64_in _ ⟨by omega, by omega⟩
  have hB : (m : Int) < (m : Int) + 1 := by omega
  have HF1 := hidOf F1
  have HB1 := hidOf B1
  have hdr : Bv w1 w.heap.size w1.drew := ⟨grownBy_of_below (Below.refl w1.heap.size w1).drew _, _, rfl, F1⟩
  rw [hm]
  clear hN hq hR hOk F1 B1 hns hTS hl hleast hmost hx hm hkl hwd hla hsn hnn hTP hdeep hSf
  go_upto_region 6 with fail
  refine wp_region_guards (by kernel_rfl) (fun X => Bv w1 w.heap.size X) (mjStep t w.heap.size g m nc la wd kl sn nn x.a x.c ns) (mjPost t w.heap.size g m nc la wd kl sn nn x.a x.c ns) hdr (by kernel_rfl) (fun k v X X' h _ hb => mjPost_stab t w.heap.size g m nc la wd kl sn nn x.a x.c ns k v X X' h hb) ?_ ?_
  case refine_1 =>
   intro kk oo hk aa X hI hsz hfix hdep
   match kk, hk with
   | 0, hk =>
    cases hk
    refine .inl ⟨wanted_none rfl, fun K hK => ?_⟩
    have e0 : aa.tmps.getD 0 undef = .string t := hfix 0 (by kernel_rfl)
    refine wp_value (v := .string t) (w' := X) ?_ (hK _ _ (by simp) hI (.inl rfl) rfl)
    clear hfix hdep hK hk hsz hI
    go_simp
   | 1, hk =>
    cases hk
    refine .inl ⟨wanted_none rfl, fun K hK => ?_⟩
    have e20 : aa.tmps.getD 20 undef = .string t := hdep 0 _ rfl (by kernel_rfl)
    refine wp_calls 30 #[.string t] ?_ (iLines_any t mx X hs (HMX.out X hI.1).1 (HMX.out X hI.1).2) ?_
    ·clear hfix hdep hK hk hsz
     go_simp
     try rfl
    ·rintro e X2 ⟨A, v, rfl, ho⟩
     obtain ⟨aa2, lc2, rfl⟩ := owns_slice ho
     exact ⟨_, rfl, hK _ _ (by simp) (hI.call A) (.inl (A.block _ (Nat.lt_of_lt_of_le z1 hI.1.size))) ⟨aa2, _, lc2, rfl, HLA.out.symm⟩⟩
   | 2, hk =>
    cases hk
    refine .inl ⟨wanted_none rfl, fun K hK => ?_⟩
    obtain ⟨aa2, n2, lc2, e21, en⟩ : ∃ (la2 : Option Addr) (n lc : Nat), aa.tmps.getD 21 undef = .slice la2 n lc ∧ (n : Int) = la := hdep 1 _ rfl (by kernel_rfl)
    refine wp_value (v := .int .i64 la) (w' := X) ?_ (hK _ _ (by simp) hI (.inl rfl) rfl)
    clear hfix hdep hK hk hsz hI
    go_simp
   | 3, hk =>
    cases hk
    refine .inl ⟨wanted_none rfl, fun K hK => ?_⟩
    have e0 : aa.tmps.getD 0 undef = .string t := hfix 0 (by kernel_rfl)
    refine wp_value (v := .string t) (w' := X) ?_ (hK _ _ (by simp) hI (.inl rfl) rfl)
    clear hfix hdep hK hk hsz hI
    go_simp
   | 4, hk =>
    cases hk
    refine .inl ⟨wanted_none rfl, fun K hK => ?_⟩
    have e23 : aa.tmps.getD 23 undef = .string t := hdep 3 _ rfl (by kernel_rfl)
    refine wp_calls 31 #[.string t] ?_ (iWide_any t mx X hs (HMX.out X hI.1).1 (HMX.out X hI.1).2) ?_
    ·clear hfix hdep hK hk hsz
     go_simp
     try rfl
    ·rintro e X2 ⟨rfl, A⟩
     exact ⟨_, rfl, hK _ _ (by simp) (hI.call A) (.inl (A.block _ (Nat.lt_of_lt_of_le z1 hI.1.size))) (by rw [HWD.out]; rfl)⟩
   | 5, hk =>
    cases hk
    refine .inl ⟨wanted_none rfl, fun K hK => ?_⟩
    have e3 : aa.tmps.getD 3 undef = .slice (some ⟨g, 0, none⟩) (m + 1) nc := hfix 3 (by kernel_rfl)
    refine wp_value (v := .slice (some ⟨g, 0, none⟩) (m + 1) nc) (w' := X) ?_ (hK _ _ (by simp) hI (.inl rfl) rfl)
    clear hfix hdep hK hk hsz hI
    go_simp
   | 6, hk =>
    cases hk
    refine .inl ⟨wanted_none rfl, fun K hK => ?_⟩
    have e6 : aa.tmps.getD 6 undef = .int .i64 m := hfix 6 (by kernel_rfl)
    refine wp_value (v := .int .i64 m) (w' := X) ?_ (hK _ _ (by simp) hI (.inl rfl) rfl)
    clear hfix hdep hK hk hsz hI
    go_simp
   | 7, hk =>
    cases hk
    refine .inl ⟨wanted_none rfl, fun K hK => ?_⟩
    have e25 : aa.tmps.getD 25 undef = .slice (some ⟨g, 0, none⟩) (m + 1) nc := hdep 5 _ rfl (by kernel_rfl)
    have e26 : aa.tmps.getD 26 undef = .int .i64 m := hdep 6 _ rfl (by kernel_rfl)
    refine wp_value (v := .pointer (some ⟨g, m * 4, none⟩)) (w' := X) ?_ (hK _ _ (by simp) hI (.inl rfl) rfl)
    clear hfix hdep hK hk hsz hI
    go_simp
   | 8, hk =>
    cases hk
    refine .inl ⟨wanted_none rfl, fun K hK => ?_⟩
    have e27 : aa.tmps.getD 27 undef = .pointer (some ⟨g, m * 4, none⟩) := hdep 7 _ rfl (by kernel_rfl)
    refine wp_value (v := .pointer (some ⟨g, m * 4 + 2, none⟩)) (w' := X) ?_ (hK _ _ (by simp) hI (.inl rfl) rfl)
    clear hfix hdep hK hk hsz hI
    go_simp
   | 9, hk =>
    cases hk
    refine .inl ⟨wanted_none rfl, fun K hK => ?_⟩
    have e28 : aa.tmps.getD 28 undef = .pointer (some ⟨g, m * 4 + 2, none⟩) := hdep 8 _ rfl (by kernel_rfl)
    obtain ⟨g2, hgg, hgl, -, -, cc, -⟩ := (HNX.out X hI.1).node HX.out
    obtain rfl : g = g2 := by injection hgg with hgg; injection hgg
    rw [← HKL.out] at cc
    clear hgg
    refine wp_value (v := .slice x.a kl x.c) (w' := X) ?_ (hK _ _ (by simp) hI (.inl rfl) rfl)
    clear hfix hdep hK hk hsz hI
    go_simp
   | 10, hk =>
    cases hk
    refine .inl ⟨wanted_none rfl, fun K hK => ?_⟩
    have e29 : aa.tmps.getD 29 undef = .slice x.a kl x.c := hdep 9 _ rfl (by kernel_rfl)
    refine wp_value (v := .int .i64 kl) (w' := X) ?_ (hK _ _ (by simp) hI (.inl rfl) rfl)
    clear hfix hdep hK hk hsz hI
    go_simp
   | 11, hk =>
    cases hk
    refine .inl ⟨wanted_none rfl, fun K hK => ?_⟩
    have e3 : aa.tmps.getD 3 undef = .slice (some ⟨g, 0, none⟩) (m + 1) nc := hfix 3 (by kernel_rfl)
    refine wp_value (v := .slice (some ⟨g, 0, none⟩) (m + 1) nc) (w' := X) ?_ (hK _ _ (by simp) hI (.inl rfl) rfl)
    clear hfix hdep hK hk hsz hI
    go_simp
   | 12, hk =>
    cases hk
    refine .inl ⟨wanted_none rfl, fun K hK => ?_⟩
    have e31 : aa.tmps.getD 31 undef = .slice (some ⟨g, 0, none⟩) (m + 1) nc := hdep 11 _ rfl (by kernel_rfl)
    refine wp_calls 32 #[.slice (some ⟨g, 0, none⟩) (m + 1) nc] ?_ (HSt.out X hI.1) ?_
    ·clear hfix hdep hK hk hsz
     go_simp
     try rfl
    ·rintro e X2 ⟨rfl, A⟩
     exact ⟨_, rfl, hK _ _ (by simp) (hI.call A) (.inl (A.block _ (Nat.lt_of_lt_of_le z1 hI.1.size))) rfl⟩
   | 13, hk =>
    cases hk
    refine .inl ⟨wanted_none rfl, fun K hK => ?_⟩
    have e3 : aa.tmps.getD 3 undef = .slice (some ⟨g, 0, none⟩) (m + 1) nc := hfix 3 (by kernel_rfl)
    refine wp_value (v := .slice (some ⟨g, 0, none⟩) (m + 1) nc) (w' := X) ?_ (hK _ _ (by simp) hI (.inl rfl) rfl)
    clear hfix hdep hK hk hsz hI
    go_simp
   | 14, hk =>
    cases hk
    refine .inl ⟨wanted_none rfl, fun K hK => ?_⟩
    have e6 : aa.tmps.getD 6 undef = .int .i64 m := hfix 6 (by kernel_rfl)
    refine wp_value (v := .int .i64 m) (w' := X) ?_ (hK _ _ (by simp) hI (.inl rfl) rfl)
    clear hfix hdep hK hk hsz hI
    go_simp
   | 15, hk =>
    cases hk
    refine .inl ⟨wanted_none rfl, fun K hK => ?_⟩
    have e33 : aa.tmps.getD 33 undef = .slice (some ⟨g, 0, none⟩) (m + 1) nc := hdep 13 _ rfl (by kernel_rfl)
    have e34 : aa.tmps.getD 34 undef = .int .i64 m := hdep 14 _ rfl (by kernel_rfl)
    refine wp_calls 33 #[.slice (some ⟨g, 0, none⟩) (m + 1) nc, .int .i64 m] ?_ (HDp.out X hI.1) ?_
    ·clear hfix hdep hK hk hsz
     go_simp
     try rfl
    ·rintro e X2 ⟨d, rfl, ⟨es, n2, h1, h2, h3⟩, A⟩
     exact ⟨_, rfl, hK _ _ (by simp) (hI.call A) (.inl (A.block _ (Nat.lt_of_lt_of_le z1 hI.1.size))) ⟨d, rfl, hidOf ⟨es, n2, by rw [← HDv.out]; exact h1, by rw [← HDv.out]; exact h2, h3⟩⟩⟩
   | 16, hk =>
    cases hk
    refine .inl ⟨wanted_none rfl, fun K hK => ?_⟩
    have e3 : aa.tmps.getD 3 undef = .slice (some ⟨g, 0, none⟩) (m + 1) nc := hfix 3 (by kernel_rfl)
    refine wp_value (v := .slice (some ⟨g, 0, none⟩) (m + 1) nc) (w' := X) ?_ (hK _ _ (by simp) hI (.inl rfl) rfl)
    clear hfix hdep hK hk hsz hI
    go_simp
   | 17, hk =>
    cases hk
    refine .inl ⟨wanted_none rfl, fun K hK => ?_⟩
    have e7 : aa.tmps.getD 7 undef = .func (.func 29) #[] #[] := hfix 7 (by kernel_rfl)
    refine wp_value (v := .func (.func 29) #[] #[]) (w' := X) ?_ (hK _ _ (by simp) hI (.inl rfl) rfl)
    clear hfix hdep hK hk hsz hI
    go_simp
   | 18, hk =>
    cases hk
    refine .inl ⟨wanted_none rfl, fun K hK => ?_⟩
    have e36 : aa.tmps.getD 36 undef = .slice (some ⟨g, 0, none⟩) (m + 1) nc := hdep 16 _ rfl (by kernel_rfl)
    have e37 : aa.tmps.getD 37 undef = .func (.func 29) #[] #[] := hdep 17 _ rfl (by kernel_rfl)
    refine wp_calls 34 #[.slice (some ⟨g, 0, none⟩) (m + 1) nc, .func (.func 29) #[] #[]] ?_ (HNt.out X hI.1) ?_
    ·clear hfix hdep hK hk hsz
     go_simp
     try rfl
    ·rintro e X2 ⟨rfl, A⟩
     exact ⟨_, rfl, hK _ _ (by simp) (hI.call A) (.inl (A.block _ (Nat.lt_of_lt_of_le z1 hI.1.size))) rfl⟩
   | 19, hk =>
    cases hk
    refine .inl ⟨wanted_none rfl, fun K hK => ?_⟩
    have e22 : aa.tmps.getD 22 undef = .int .i64 la := hdep 2 _ rfl (by kernel_rfl)
    have e24 : aa.tmps.getD 24 undef = .int .i64 wd := hdep 4 _ rfl (by kernel_rfl)
    have e30 : aa.tmps.getD 30 undef = .int .i64 kl := hdep 10 _ rfl (by kernel_rfl)
    have e32 : aa.tmps.getD 32 undef = .int .i64 sn := hdep 12 _ rfl (by kernel_rfl)
    have e38 : aa.tmps.getD 38 undef = .int .i64 nn := hdep 18 _ rfl (by kernel_rfl)
    obtain ⟨d, e35, hd⟩ : ∃ d : Int, aa.tmps.getD 35 undef = .int .i64 d ∧ Hid (DeepV ns d) := hdep 15 _ rfl (by kernel_rfl)
    rw [Array.getD_eq_getD_getElem?] at e22 e24 e30 e32 e35 e38
    refine wp_value (v := .agg #[.int .i64 la, .int .i64 wd, .int .i64 kl, .int .i64 sn, .int .i64 d, .int .i64 nn]) (w' := X) ?_ (hK _ _ (by simp) hI (.inl rfl) ⟨d, rfl, hd⟩)
    clear hfix hdep hK hk hsz hI
    go_simp
   | 20, hk =>
    cases hk
    refine .inl ⟨wanted_none rfl, fun K hK => ?_⟩
    have e2 : aa.tmps.getD 2 undef = .pointer (some ⟨w.heap.size, 0, none⟩) := hfix 2 (by kernel_rfl)
    obtain ⟨d, e39, hd⟩ : ∃ d : Int, aa.tmps.getD 39 undef = .agg #[.int .i64 la, .int .i64 wd, .int .i64 kl, .int .i64 sn, .int .i64 d, .int .i64 nn] ∧ Hid (DeepV ns d) := hdep 19 _ rfl (by kernel_rfl)
    obtain ⟨cs, hc6, hr⟩ := hI.2
    have hrow := putMs_row hr hc6 la wd kl sn d nn
    refine wp_skip (w' := putMs X w.heap.size la wd kl sn d nn) ?_ (hK _ _ (fun _ => rfl) (hI.put _ _ _ _ _ _) (.inr ⟨d, hrow, hd⟩) ⟨d, hrow, hd⟩)
    have r0 := cell_of_row X _ 0 _ _ _ hr
    have r1 := cell_of_row X _ 1 _ _ _ hr
    have r2 := cell_of_row X _ 2 _ _ _ hr
    have r3 := cell_of_row X _ 3 _ _ _ hr
    have r4 := cell_of_row X _ 4 _ _ _ hr
    have r5 := cell_of_row X _ 5 _ _ _ hr
    have rf0 := frozen_of_row X _ 0 _ _ hr
    have rf1 := frozen_of_row X _ 1 _ _ hr
    have rf2 := frozen_of_row X _ 2 _ _ hr
    have rf3 := frozen_of_row X _ 3 _ _ hr
    have rf4 := frozen_of_row X _ 4 _ _ hr
    have rf5 := frozen_of_row X _ 5 _ _ hr
    rw [Array.getElem?_eq_getElem (by omega)] at r0 r1 r2 r3 r4 r5
    clear hfix hdep hK hk hsz hI hrow hr
    unfold putMs
    go_simp
   | k + 21, hk => cases hk
  case refine_2 =>
   intro aa X hI hd hsz hfix hpost
   have e2 : aa.tmps.getD 2 undef = .pointer (some ⟨w.heap.size, 0, none⟩) := hfix 2 (by kernel_rfl)
   obtain ⟨d, hrow, hdv⟩ : ∃ d : Int, X.heap[w.heap.size]? = some (.cells (fullMs la wd kl sn nn d) 28 (0, 0)) ∧ Hid (DeepV ns d) := hpost 20 _ rfl
   have HB := hidOf (show Below w.heap.size w X from HB1.out.trans ⟨hI.1.os, hI.1.tape, hI.1.output, hI.1.size, fun k hk => hI.1.block k (Nat.lt_trans hk z1) (fun e => by have := Option.some.inj e; omega)⟩)
   clear hfix hpost hI
   obtain ⟨tm, df⟩ := aa
   obtain ⟨x0, x1, x2, x3, x4, x5, x6, x7, x8, x9, x10, x11, x12, x13, x14, x15, x16, x17, x18, x19, x20, x21, x22, x23, x24, x25, x26, x27, x28, x29, x30, x31, x32, x33, x34, x35, x36, x37, x38, x39, rfl⟩ := arr40 tm hsz
   have hdf : df = [] := hd
   subst hdf
   have f2 : x2 = .pointer (some ⟨w.heap.size, 0, none⟩) := e2
   subst f2
   have HRow := hidOf hrow
   clear e2 hsz hd hrow
   go_wp2
   refine bodyPost_ret (results_one6 rfl _ _ w.heap.size (.int .i64 la) (.int .i64 wd) (.int .i64 kl) (.int .i64 sn) (.int .i64 d) (.int .i64 nn) _ rfl HRow.out Tryz.underlying28 rfl infoMs) rfl ?_
   exact ⟨la, wd, kl, sn, d, nn, rfl, .inl ⟨HOk.out, HLA.out, HWD.out, by rw [← HNS.out, HLast.out], by rw [← HNS.out, ← HSN.out], by rw [← HNS.out]; exact hdv.out, by rw [← HNS.out, ← HNN.out]⟩, HB.out⟩
theorem eqMs_same (a b c s d n : Int) (w : World) : Calls Tryz.prog 21 #[.agg #[.int .i64 a, .int .i64 b, .int .i64 c, .int .i64 s, .int .i64 d, .int .i64 n], .agg #[.int .i64 a, .int .i64 b, .int .i64 c, .int .i64 s, .int .i64 d, .int .i64 n]] w fun e w' => e = .returned (.bool true) ∧ Below w.heap.size w w' := by
 have h : ∀ z : Int, (z != z) = false := fun z => by simp
 have ha := h a
 have hb := h b
 have hc := h c
 have hs := h s
 have hd := h d
 have hn := h n
 have B0 : ∀ o1 o2, Below w.heap.size w ((w.alloc o1).alloc o2) := fun o1 o2 => ((Below.refl _ _).alloc (Nat.le_refl _) o1).alloc (by simp) o2
 clear h
 go_enter Tryz.func21, Tryz.ntmps21
 go_wp2
 go_ret
 exact ⟨rfl, B0 _ _⟩
set_option maxHeartbeats 4000000 in
set_option maxRecDepth 100000 in
theorem lawMeasureOf (t : ByteArray) (w : World) (hs : t.size ≤ maxLen) (m : Int) (hM : MaxIn m w) : Calls Tryz.prog 4 #[.string t] w fun e w' => e = .returned (.bool true) ∧ Below w.heap.size w w' := by
 unfold maxLen at hs
 by_cases h0 : 1048576 < t.size
 ·clear hM
  go_enter Tryz.func4, Tryz.ntmps4
  go_wp2
  go_ret
  exact ⟨rfl, Below.refl _ _⟩
 ·have HM := hidOf hM
  have qS := sMeas_any t w (by omega)
  have qI := fun W (hb : Below w.heap.size w W) => iMeas_any t m W (by omega) (show MaxIn m W from ⟨Nat.lt_of_lt_of_le HM.out.1 hb.size, (hb.cell (p := ⟨_, 0, none⟩) HM.out.1).trans HM.out.2⟩)
  clear hM
  go_enter Tryz.func4, Tryz.ntmps4
  go_wp2_with fail
  refine qS.mono ?_
  rintro e w1 ⟨a, b, c, s, d, n, rfl, hms, b1⟩
  have HS := hidOf hms
  clear hms qS
  go_upto_region 4 with fail
  obtain ⟨W1, hW1⟩ : ∃ W, W = w1.alloc (.cells #[.int .i64 a, .int .i64 b, .int .i64 c, .int .i64 s, .int .i64 d, .int .i64 n] 28) := ⟨_, rfl⟩
  rw [← hW1]
  have R1 : W1.heap[w1.heap.size]? = some (.cells #[.int .i64 a, .int .i64 b, .int .i64 c, .int .i64 s, .int .i64 d, .int .i64 n] 28 (0, 0)) := by rw [hW1]; exact heap_alloc_new w1 _
  have B1 : Below w.heap.size w W1 := by rw [hW1]; exact b1.alloc b1.size _
  have hl1 := (Array.getElem?_eq_some_iff.1 R1).1
  clear hW1
  go_wp2_with fail
  refine (qI _ B1).mono ?_
  rintro e w2 ⟨a', b', c', s', d', n', rfl, hms, b2⟩
  obtain ⟨rfl, rfl, rfl, rfl, rfl, rfl⟩ := ms_one HS.out hms
  clear hms qI
  have R2 := (b2.block _ hl1).trans R1
  have B2 := B1.trans (b2.mono B1.size)
  go_upto_region 5 with fail
  obtain ⟨W2, hW2⟩ : ∃ W, W = w2.alloc (.cells #[.int .i64 a, .int .i64 b, .int .i64 c, .int .i64 s, .int .i64 d, .int .i64 n] 28) := ⟨_, rfl⟩
  rw [← hW2]
  have b3 : Below w2.heap.size w2 W2 := by rw [hW2]; exact (Below.refl _ _).alloc (Nat.le_refl _) _
  have R4 : W2.heap[w2.heap.size]? = some (.cells #[.int .i64 a, .int .i64 b, .int .i64 c, .int .i64 s, .int .i64 d, .int .i64 n] 28 (0, 0)) := by rw [hW2]; exact heap_alloc_new w2 _
  have hl2 := (Array.getElem?_eq_some_iff.1 R2).1
  have R3 := (b3.block _ hl2).trans R2
  have B3 := hidOf (B2.trans (b3.mono B2.size))
  have g0 := cell_of_row _ w1.heap.size 0 _ _ _ R3
  have g1 := cell_of_row _ w1.heap.size 1 _ _ _ R3
  have g2 := cell_of_row _ w1.heap.size 2 _ _ _ R3
  have g3 := cell_of_row _ w1.heap.size 3 _ _ _ R3
  have g4 := cell_of_row _ w1.heap.size 4 _ _ _ R3
  have g5 := cell_of_row _ w1.heap.size 5 _ _ _ R3
  have k0 := cell_of_row _ w2.heap.size 0 _ _ _ R4
  have k1 := cell_of_row _ w2.heap.size 1 _ _ _ R4
  have k2 := cell_of_row _ w2.heap.size 2 _ _ _ R4
  have k3 := cell_of_row _ w2.heap.size 3 _ _ _ R4
  have k4 := cell_of_row _ w2.heap.size 4 _ _ _ R4
  have k5 := cell_of_row _ w2.heap.size 5 _ _ _ R4
  clear hW2 R3 R4 R1 R2 b1 b2 b3 B1 B2
  go_wp2_with fail
  refine (eqMs_same a b c s d n _).mono ?_
  rintro e w4 ⟨rfl, b4⟩
  go_wp2
  go_ret
  exact ⟨rfl, B3.out.trans (b4.mono B3.out.size)⟩
end Go.Proofs.YtcbbnphpkgifoaaGreatDoor
namespace Go.Proofs.YtcbbnphpkgifoaaGreatDoor
theorem handed_shaped {H : Type} {enc : TypeId × Value → H} {a : Assume} {C : Checked} {os : Os} {f : FuncId} {fn : Func} {s : ChangeSpec} {conds : List PathCond} {apart fresh handsOn again : Bool} {X : World → Array Value → Prop}
  (hX : ∀ (w w' : World) (args : Array Value), w.heap = w'.heap → X w args → X w' args)
  (own : ownKnob C.prog.godebug = none) (started : os.Started) (noInit : C.prog.inits.idxOf? f = none) (hfn : C.prog.funcs[f]? = some fn)
  (witness : ∃ (w : World) (tape : Tape) (i : Input), w.os = os ∧ (w.forCall tape i).Shaped C.prog ∧ i.vars = [] ∧ Input.okWide C.prog (w.forCall tape i) .any w.heap.size f i ∧
   ((s.pre enc C.prog fn conds apart (w.forCall tape i).memory i.args ∧ X (w.forCall tape i).memory i.args) ∧ sizedMet enc C.prog fn (OpenSpec.ofChange s) apart (w.forCall tape i).memory i.args) ∧ a.holds C.prog (lone (Frame.enter C.prog f i.args .normal) [] (w.forCall tape i)))
  (walk : ∀ (W : World) (base : Nat) (args : Array Value) (ds gs : List (DataW H)) (before : List MemPlace),
   (∀ (j : Nat) t v, fn.params[j]? = some t → args[j]? = some v → Value.okWide C.prog W .any base t v) →
   DataW.Whole enc C.prog fn.params.toList s.vars apart W args.toList ds gs before →
   X W args → W.ShapedOpen C.prog →
   Calls C.prog f args W fun e W' => ∃ v, e = .returned v ∧ s.post enc C.prog fn apart fresh handsOn again W args v W') :
  ReturnsInHanded a C os f .any (fun w args => (s.pre enc C.prog fn conds apart w args ∧ X w args) ∧ sizedMet enc C.prog fn (OpenSpec.ofChange s) apart w args) (s.post enc C.prog fn apart fresh handsOn again) := by
 refine returnsInHanded_of_calls own started noInit witness fun w tape i _ hsh _ hok hpre _ => ?_
 obtain ⟨_, _, _, g, hg, _, _, _, _, hval⟩ := hok
 obtain rfl : g = fn := Option.some.inj (hg.symm.trans hfn)
 obtain ⟨⟨⟨ds, gs, before, hw, _⟩, hx⟩, _⟩ := hpre
 refine (walk _ _ _ ds gs before hval (DataW.Whole.of_heap (w' := w.forCall tape i) (by rfl) hw) (hX _ _ _ (by rfl) hx) hsh).mono ?_
 rintro _ W' ⟨v, rfl, hp⟩
 exact ChangeSpec.post_blind hp
end Go.Proofs.YtcbbnphpkgifoaaGreatDoor
