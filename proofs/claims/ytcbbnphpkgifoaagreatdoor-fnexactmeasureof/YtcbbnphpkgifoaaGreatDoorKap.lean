/- spec.ReadSource, whole. -/
import Derived.Test.YtcbbnphpkgifoaaGreatDoorTrS5
import Derived.Test.YtcbbnphpkgifoaaGreatDoorTrS3
import Derived.Test.YtcbbnphpkgifoaaGreatDoorSpI20
import Derived.Test.YtcbbnphpkgifoaaGreatDoorKab
import Derived.Test.YtcbbnphpkgifoaaGreatDoorProg
import Derived.Lib.AppendIntMem
import Derived.WalkKit
import Derived.Laws.OwnMore
import Derived.Deep.RegionLaw
import Derived.Laws.ResultCell
namespace Go.Proofs.YtcbbnphpkgifoaaGreatDoor
open Go.RowKit
theorem sNode_R : NodeR 129 := fun _ _ _ _ _ _ _ h h1 h2 h3 => sNode h h1 h2 h3
theorem sTree_any : TreeR 62 := sTree_R sNode_R
theorem sRead_any (t : ByteArray) (w : World) (hs : t.size ≤ 4194304) : Calls Tryz.prog 24 #[.string t] w (RdsAns t w) := sReadSource t w hs sTree_any
theorem infoStrS : (Tryz.prog.info? 9).map (fun i => (i.zero, i.size, i.bytes)) = some (some (.string ByteArray.empty), 1, 16) := by kernel_rfl
set_option maxHeartbeats 1600000 in
set_option maxRecDepth 20000 in
theorem sLines_any (s : ByteArray) (w : World) (hs : s.size ≤ 4194304) :
  Calls Tryz.prog 14 #[.string s] w fun e w' => StrsAns (lns s) 9 w e w' := by
 obtain ⟨i0, hi, hz0, hz1, hz2⟩ := info_parts infoStrS
 have hby := by8_at s
 go_enter Tryz.func14, Tryz.ntmps14
 go_wp2
 go_loopw [3, 4, 5] (fun v b i wr => ∃ (k m : Nat) (os : List ByteArray), k ≤ s.size ∧ m ≤ k ∧ b = .int .i64 m ∧ i = .int .i64 k ∧ os.length ≤ k ∧ Hid (LInv s os m k) ∧ wr.ownsRow w.heap.size 9 1 v os.length (strVals os) ∧ Below w.heap.size w wr)
  (fun _ _ i _ => s.size - (intOf i).toNat)
 case atStart => exact ⟨0, 0, [], by omega, by omega, rfl, rfl, by simp, linv_zero s, World.ownsRow_made w #[] 0 (Nat.le_refl _) (by decide) rfl, (Below.refl _ w).alloc (Nat.le_refl _) _⟩
 case round =>
  obtain ⟨k, m, os, hk, hm, rfl, rfl, hol, HI, hown, hb⟩ := hrel
  obtain ⟨ao, cv, rfl⟩ := owns_slice hown
  have hr := by8_range s k
  have hsz := hb.size
  by_cases hlt : k < s.size
  ·by_cases h10 : by8 s k = 10
   ·have h10' : (by8 s k == 10) = true := by simp [h10]
    have H10 := hidOf h10
    clear h10
    have hsl := str_slice (P := Tryz.prog) 9 s m k (m : Int) (k : Int) Tryz.underlying9 rfl rfl (by omega) (by omega)
    go_wp2_with (at_builtin; refine wpList_append_own _ rfl _ _ 40 rfl w.heap.size 9 i0 (.string ByteArray.empty) 1 16 Tryz.underlying40 hi hz0 hz1 hz2 rfl (by decide) _ _ _ rfl (hown.alloc _) ⟨wr.heap.size, 0, none⟩ 1 1 [.string (s.extract m k)] rfl rfl (cell_one_new _ _ _) (fun x hx => by simp at hx; subst hx; rfl) (by unfold maxLen; omega) (by omega) (by simp; omega) ?_; intro v' w3 hown' hgrow3 hnil3)
    go_roundw
    case rel => exact ⟨k + 1, k + 1, os ++ [s.extract m k], by omega, by omega, by go_num, by go_num, by simp; omega, linv_line HI.out hlt H10.out, by simpa [strVals] using hown', (hb.alloc (by omega) _).grown hgrow3 (by simp; omega) (fun q hq => (hown.lt q hq).1)⟩
    case measure => simp [intOf]; omega
   ·have h10' : (by8 s k == 10) = false := by rw [beq_eq_false_iff_ne]; exact h10
    have H10 := hidOf h10
    clear h10
    go_wp2
    go_roundw
    case rel => exact ⟨k + 1, m, os, by omega, by omega, rfl, by go_num, by omega, linv_char HI.out hlt H10.out, hown, hb⟩
    case measure => simp [intOf]; omega
  ·have hke : k = s.size := by omega
   subst hke
   by_cases hmk : m < s.size
   ·have hsl := str_from (P := Tryz.prog) 9 s m (m : Int) Tryz.underlying9 rfl (by omega)
    go_wp2_with (at_builtin; refine wpList_append_own _ rfl _ _ 40 rfl w.heap.size 9 i0 (.string ByteArray.empty) 1 16 Tryz.underlying40 hi hz0 hz1 hz2 rfl (by decide) _ _ _ rfl (hown.alloc _) ⟨wr.heap.size, 0, none⟩ 1 1 [.string (s.extract m s.size)] rfl rfl (cell_one_new _ _ _) (fun x hx => by simp at hx; subst hx; rfl) (by unfold maxLen; omega) (by omega) (by simp; omega) ?_; intro v' w3 hown' hgrow3 hnil3)
    go_ret
    exact ⟨(hb.alloc (by omega) _).grown hgrow3 (by simp; omega) (fun q hq => (hown.lt q hq).1), _, rfl, by rw [← linv_last HI.out hmk]; simpa [strVals] using hown'⟩
   ·go_wp2
    go_ret
    exact ⟨hb, _, rfl, by rw [← linv_end HI.out (by omega)]; exact hown⟩
set_option maxHeartbeats 1600000 in
set_option maxRecDepth 20000 in
theorem sWide_any (s : ByteArray) (w : World) (hs : s.size ≤ 4194304) :
  Calls Tryz.prog 15 #[.string s] w fun e w' => e = .returned (.int .i64 (widest (lns s))) ∧ Below w.heap.size w w' := by
 have hmany := lns_many s
 go_enter Tryz.func15, Tryz.ntmps15
 go_wp2_with fail
 refine (sLines_any s _ hs).mono ?_
 rintro e w1 ⟨hb1, v, rfl, hown⟩
 obtain ⟨n, hn⟩ : ∃ n, n = (lns s).length := ⟨_, rfl⟩
 rw [← hn] at hown hmany
 have HN := hidOf hn
 clear hn
 obtain ⟨ao, cv, rfl⟩ := owns_slice hown
 go_wp2
 go_loop [3, 5] (fun r i => ∃ (k : Nat), k ≤ n ∧ r = .int .i64 (widest ((lns s).take k)) ∧ i = .int .i64 k) (fun _ i => n - (intOf i).toNat)
 case atStart => exact ⟨0, Nat.zero_le _, rfl, rfl⟩
 case round =>
  obtain ⟨k, hk, rfl, rfl⟩ := hrel
  by_cases hlt : k < n
  ·obtain ⟨t, ht⟩ : ∃ t, (lns s)[k]? = some t := ⟨_, List.getElem?_eq_getElem (by rw [← HN.out]; exact hlt)⟩
   have hts := lns_size (List.mem_of_getElem? ht)
   obtain ⟨g, rfl⟩ := owns_at hown (by omega)
   have hc := hown.cellAt k (by omega)
   rw [show (strVals (lns s))[k]? = some (.string t) by simp [strVals, ht]] at hc
   have hw : widest ((lns s).take (k + 1)) = max (widest ((lns s).take k)) t.size := by
    rw [List.take_add_one, ht]
    exact widest_snoc _ _
   have HW := hidOf hw
   have HT2 := hidOf ht
   clear ht hw
   generalize hr : widest ((lns s).take k) = r at *
   have HR := hidOf hr
   clear hr
   have hA : (0 : Int) ≤ (k : Int) := by omega
   have hB : (k : Int) < (n : Int) := by omega
   by_cases hg : r < t.size
   ·go_wp2
    go_round
    case rel => exact ⟨k + 1, by omega, by rw [HW.out, Nat.max_eq_right (by omega)], by go_num⟩
    case measure => simp [intOf]; omega
   ·go_wp2
    go_round
    case rel => exact ⟨k + 1, by omega, by rw [HW.out, Nat.max_eq_left (by omega)], by go_num⟩
    case measure => simp [intOf]; omega
  ·have hke : k = n := by omega
   have HK := hidOf hke
   clear hke
   go_wp2
   go_ret
   refine ⟨ret_int ?_, hb1⟩
   rw [HK.out, HN.out, List.take_length]
def noteN : List Nd → Nat
 | [] => 0
 | x :: xs => noteN xs + (if x.kind = 19 then 1 else 0)
def kdOf (ns : List Nd) (z : Int) : Int := match ns[z.toNat]? with | some x => x.kind | none => 0
def stepK (ns : List Nd) : List Int → Nat
 | [] => 0
 | z :: ks => stepK ns ks + (if kdOf ns z = 19 then 0 else 1)
def stepN (ns : List Nd) : List Nd → Nat
 | [] => 0
 | x :: xs => stepN ns xs + (if x.kind = 18 then stepK ns x.kids else 0)
theorem noteN_snoc (x : Nd) : ∀ l : List Nd, noteN (l ++ [x]) = noteN l + (if x.kind = 19 then 1 else 0)
 | [] => by simp [noteN]
 | y :: l => by rw [List.cons_append, noteN, noteN, noteN_snoc x l]; omega
theorem stepK_snoc (ns : List Nd) (z : Int) : ∀ l : List Int, stepK ns (l ++ [z]) = stepK ns l + (if kdOf ns z = 19 then 0 else 1)
 | [] => by simp [stepK]
 | y :: l => by rw [List.cons_append, stepK, stepK, stepK_snoc ns z l]; omega
theorem stepN_snoc (ns : List Nd) (x : Nd) : ∀ l : List Nd, stepN ns (l ++ [x]) = stepN ns l + (if x.kind = 18 then stepK ns x.kids else 0)
 | [] => by simp [stepN]
 | y :: l => by rw [List.cons_append, stepN, stepN, stepN_snoc ns x l]; omega
theorem noteN_le : ∀ l : List Nd, noteN l ≤ l.length
 | [] => Nat.le_refl _
 | x :: l => by
  have := noteN_le l
  rw [noteN, List.length_cons]
  split <;> omega
theorem stepK_le (ns : List Nd) : ∀ l : List Int, stepK ns l ≤ l.length
 | [] => Nat.le_refl _
 | x :: l => by
  have := stepK_le ns l
  rw [stepK, List.length_cons]
  split <;> omega
theorem stepN_le (ns : List Nd) : ∀ l : List Nd, (∀ x ∈ l, x.kids.length ≤ 1000000) → stepN ns l ≤ 1000000 * l.length
 | [], _ => Nat.le_refl _
 | x :: l, h => by
  have h1 := stepN_le ns l (fun y hy => h y (List.mem_cons_of_mem _ hy))
  have h2 := stepK_le ns x.kids
  have h3 := h x List.mem_cons_self
  rw [stepN, List.length_cons]
  split <;> omega
theorem take_snoc {α : Type} {l : List α} {k : Nat} {x : α} (h : l[k]? = some x) : l.take (k + 1) = l.take k ++ [x] := by
 rw [List.take_add_one, h]
 rfl
def DeepV (ns : List Nd) (d : Int) : Prop := ∃ (es : List Nat) (n : Nat), Deeps ns ns.length es ∧ es[ns.length - 1]? = some n ∧ d = (n : Int)
theorem deepV_one {ns : List Nd} {d e : Int} (h : DeepV ns d) (h' : DeepV ns e) : d = e := by
 obtain ⟨es, n, h1, h2, h3⟩ := h
 obtain ⟨es', n', h4, h5, h6⟩ := h'
 obtain rfl := deeps_one h1 h4
 rw [h2] at h5
 injection h5 with h5
 rw [h3, h6, h5]
def lastK (ns : List Nd) : Nat := match ns[ns.length - 1]? with | some x => x.kids.length | none => 0
def MsIs (t : ByteArray) (a b c s d n : Int) : Prop :=
 (ReadOk t ∧ a = ((lns t).length : Int) ∧ b = widest (lns t) ∧ c = (lastK (nodesOf t) : Int) ∧ s = (stepN (nodesOf t) (nodesOf t) : Int) ∧ DeepV (nodesOf t) d ∧ n = (noteN (nodesOf t) : Int)) ∨
 (¬ ReadOk t ∧ a = 0 ∧ b = 0 ∧ c = 0 ∧ s = 0 ∧ d = 0 ∧ n = 0)
theorem ms_one {t : ByteArray} {a b c s d n a' b' c' s' d' n' : Int} (h : MsIs t a b c s d n) (h' : MsIs t a' b' c' s' d' n') : a = a' ∧ b = b' ∧ c = c' ∧ s = s' ∧ d = d' ∧ n = n' := by
 rcases h with ⟨h0, h1, h2, h3, h4, h5, h6⟩ | ⟨h0, h1, h2, h3, h4, h5, h6⟩ <;> rcases h' with ⟨g0, g1, g2, g3, g4, g5, g6⟩ | ⟨g0, g1, g2, g3, g4, g5, g6⟩
 ·exact ⟨h1.trans g1.symm, h2.trans g2.symm, h3.trans g3.symm, h4.trans g4.symm, deepV_one h5 g5, h6.trans g6.symm⟩
 ·exact absurd h0 g0
 ·exact absurd g0 h0
 ·exact ⟨h1.trans g1.symm, h2.trans g2.symm, h3.trans g3.symm, h4.trans g4.symm, h5.trans g5.symm, h6.trans g6.symm⟩
def MsAns (t : ByteArray) (w : World) (e : Ending) (w' : World) : Prop := ∃ a b c s d n : Int, e = .returned (.agg #[.int .i64 a, .int .i64 b, .int .i64 c, .int .i64 s, .int .i64 d, .int .i64 n]) ∧ MsIs t a b c s d n ∧ Below w.heap.size w w'
theorem sDeepV {w : World} {B : Nat} {a : Option Addr} {c k : Nat} {qs : List Np} (h : Nds w B a c qs) (hS : ∀ q ∈ qs, SafeNd q.nd) (hn : qs.length ≤ 300) (hk : k < qs.length) (hT : HasD (qs.map Np.nd) (k + 1)) : Calls Tryz.prog 53 #[.slice a qs.length c, .int .i64 (k : Int)] w fun e w' => ∃ d : Int, e = .returned (.int .i64 d) ∧ (∃ (es : List Nat) (n : Nat), Deeps (qs.map Np.nd) (k + 1) es ∧ es[k]? = some n ∧ d = (n : Int)) ∧ Below w.heap.size w w' := by
 have hI := fun W => sIn2_any (k : Int) 0 ((qs.length : Int) - 1) W
 rw [inB2_yes (by omega)] at hI
 have qD := sDeeps sNode_R h hS hn hk
 clear h hS
 go_enter Tryz.func53, Tryz.ntmps53
 go_wp2_with fail
 refine (hI _).mono ?_
 rintro e w ⟨rfl, rfl⟩
 go_wp2_with fail
 refine qD.mono ?_
 rintro e w2 ⟨v, ds, rfl, hD, ho, hb⟩
 obtain ⟨d, hd, hd0⟩ := sDeep_last hD
 have hdl : k < ds.length := (List.getElem?_eq_some_iff.1 hd).1
 obtain ⟨ao, cc, rfl⟩ := owns_slice ho
 obtain ⟨ob, rfl⟩ := owns_at ho (by omega)
 have hobl := (ho.lt ob rfl).2
 have ck : w2.cell? ⟨ob, k, none⟩ = some (.int .i64 d) := (ho.cellAt k (by omega)).trans (by unfold intVals; rw [List.getElem?_map, hd]; rfl)
 have HA := hidOf (show ∃ (es : List Nat) (n : Nat), Deeps (qs.map Np.nd) (k + 1) es ∧ es[k]? = some n ∧ d = (n : Int) by
  rcases hD.2 with ⟨es, h1, h2⟩ | ⟨h1, -⟩
  ·rw [h2, List.getElem?_map] at hd
   obtain ⟨n, hn, rfl⟩ := Option.map_eq_some_iff.1 hd
   exact ⟨es, n, h1, hn, rfl⟩
  ·exact absurd hT h1)
 have hA1 : (0 : Int) ≤ (k : Int) := by omega
 have hB1 : (k : Int) < (ds.length : Int) := by omega
 clear qD hI hD hd hd0 ho hT
 go_wp2
 go_ret
 exact ⟨d, rfl, HA.out, hb⟩
def NdC (w : World) (g : Nat) (ns : List Nd) : Prop := ∀ k x, ns[k]? = some x → ∃ ka kc, w.cell? ⟨g, k * 4, none⟩ = some (.int .i64 x.kind) ∧ w.cell? ⟨g, k * 4 + 2, none⟩ = some (.slice ka x.kids.length kc) ∧ KidsAt w ka x.kids
theorem nds_c {w : World} {B : Nat} {a : Option Addr} {c : Nat} {qs : List Np} (h : Nds w B a c qs) (h1 : 1 ≤ qs.length) : ∃ g, a = some ⟨g, 0, none⟩ ∧ g < w.heap.size ∧ NdC w g (qs.map Np.nd) := by
 obtain ⟨g, rfl⟩ := owns_at h.row (by omega)
 refine ⟨g, rfl, (h.row.lt g rfl).2, fun k x hx => ?_⟩
 rw [List.getElem?_map] at hx
 obtain ⟨q, hq, rfl⟩ := Option.map_eq_some_iff.1 hx
 have hk : k < qs.length := (List.getElem?_eq_some_iff.1 hq).1
 have hc : ∀ j, j < 4 → w.cell? ⟨g, k * 4 + j, none⟩ = (npCells q)[j]? := fun j hj => by
  rw [h.row.cellAt (k * 4 + j) (by omega)]
  exact rowVals_at npCells_len qs k q hq j hj
 obtain ⟨c0, c1, c2, c3⟩ := np4 hc
 exact ⟨q.a, q.c, c0, c2, .of_own (h.each q (List.mem_of_getElem? hq))⟩
theorem infoMs : (Tryz.prog.info? 28).map (·.size) = some 6 := by kernel_rfl
theorem results_one6 {P : Program} {fn : Func} {p : Tmp} {ty : TypeId} (h : fn.results = #[.cell p ty]) (tmps : Array Value) (w : World) (g : Nat) (c0 c1 c2 c3 c4 c5 : Value) (d : TypeDesc)
  (hp : tmps.getD p undef = .pointer (some ⟨g, 0, none⟩)) (hg : w.heap[g]? = some (.cells #[c0, c1, c2, c3, c4, c5] ty (0, 0)))
  (hu : P.underlying ty = some d) (hd : d.isRow = true) (hi : (P.info? ty).map (·.size) = some 6) :
  (results fn tmps).run P w = .ok (.agg #[c0, c1, c2, c3, c4, c5]) w := by
 have hr : w.rangeAt g 0 [c0, c1, c2, c3, c4, c5] := by
  intro j v hv
  match j with
  | 0 => simpa using (cell_of_row w g 0 _ _ _ hg).trans hv
  | 1 => simpa using (cell_of_row w g 1 _ _ _ hg).trans hv
  | 2 => simpa using (cell_of_row w g 2 _ _ _ hg).trans hv
  | 3 => simpa using (cell_of_row w g 3 _ _ _ hg).trans hv
  | 4 => simpa using (cell_of_row w g 4 _ _ _ hg).trans hv
  | 5 => simpa using (cell_of_row w g 5 _ _ _ hg).trans hv
  | j + 6 => simp at hv
 have hp' : tmps[p]?.getD undef = .pointer (some ⟨g, 0, none⟩) := by simpa using hp
 simp [results, h, hp', asAddr, run_loadVar_mid w g 0 ty [c0, c1, c2, c3, c4, c5] d hr hu hd (by simpa using hi)]
theorem stepK_at {ns : List Nd} {ks : List Int} {k : Nat} {z : Int} (h : ks[k]? = some z) : stepK ns (ks.take (k + 1)) = stepK ns (ks.take k) + (if kdOf ns z = 19 then 0 else 1) := by
 rw [take_snoc h, stepK_snoc]
theorem stepN_at {ns l : List Nd} {k : Nat} {x : Nd} (h : l[k]? = some x) : stepN ns (l.take (k + 1)) = stepN ns (l.take k) + (if x.kind = 18 then stepK ns x.kids else 0) := by
 rw [take_snoc h, stepN_snoc]
theorem noteN_at {l : List Nd} {k : Nat} {x : Nd} (h : l[k]? = some x) : noteN (l.take (k + 1)) = noteN (l.take k) + (if x.kind = 19 then 1 else 0) := by
 rw [take_snoc h, noteN_snoc]
def MsK (ns : List Nd) : Prop := ∀ (i : Nat) (x : Nd), ns[i]? = some x → x.kids.length ≤ 12 ∧ ∀ (j : Nat) (z : Int), x.kids[j]? = some z → ∃ (kz : Nat) (y : Nd), z = (kz : Int) ∧ kz < ns.length ∧ ns[kz]? = some y ∧ kdOf ns z = y.kind ∧ (x.kind = 18 → StepK y.kind)
theorem msK {ns : List Nd} (hT : TreeP ns) : MsK ns := fun i x hx => by
 have hi : i < ns.length := (List.getElem?_eq_some_iff.1 hx).1
 have hn := hasD_node hT.deep hi hx
 refine ⟨cnt_12 hn.cnt, fun j z hz => ?_⟩
 obtain ⟨h0, h1⟩ := hn.place j z hz
 obtain ⟨kz, rfl⟩ : ∃ kz : Nat, z = (kz : Int) := ⟨z.toNat, by omega⟩
 have hy : ns[kz]? = some ns[kz] := List.getElem?_eq_getElem (by omega)
 refine ⟨kz, ns[kz], rfl, by omega, hy, ?_, fun hk => ?_⟩
 ·unfold kdOf
  rw [Int.toNat_natCast, hy]
 ·have hr := (hn.fits j _ ns[kz] hz (by rw [Int.toNat_natCast]; exact hy)).2
  unfold roleK at hr
  rw [if_neg (by omega), if_neg (by omega), if_neg (by omega), if_neg (by omega), if_pos hk] at hr
  exact hr
set_option maxHeartbeats 2500000
set_option maxRecDepth 100000
def InF (ks : List Int) (n : Nat) (z : Int) : Prop := ∃ i, i < n ∧ ks[i]? = some z
theorem iIndex {w : World} {b c n : Nat} {ks : List Int} {z : Int} (hn : n ≤ ks.length) (hm : ks.length ≤ 12) (hc : ∀ i u, ks[i]? = some u → w.cell? ⟨b, i, none⟩ = some (.int .i64 u)) :
  Calls Tryz.prog 242 #[.slice (some ⟨b, 0, none⟩) n c, .int .i64 z] w fun e w' => w' = w ∧ ∃ r : Int, e = .returned (.int .i64 r) ∧ (0 ≤ r ↔ InF ks n z) := by
 have HC := hidOf hc
 clear hc
 go_enter Tryz.func242, Tryz.ntmps242
 go_wp2
 go_loop [8] (fun i => ∃ j : Nat, j ≤ n ∧ i = .int .i64 (j : Int) ∧ Hid (∀ i', i' < j → ks[i']? ≠ some z)) (fun i => n - (intOf i).toNat)
 case atStart => exact ⟨0, Nat.zero_le _, rfl, hidOf fun i h => by omega⟩
 case round =>
  obtain ⟨j, hj, rfl, HQ⟩ := hrel
  by_cases hlt : j < n
  ·have hA : (0 : Int) ≤ (j : Int) := by omega
   have hB : (j : Int) < (n : Int) := by omega
   obtain ⟨u, eu⟩ : ∃ u, ks[j]? = some u := ⟨_, List.getElem?_eq_getElem (by omega)⟩
   have cu := HC.out j u eu
   have EU := hidOf eu
   clear eu
   cases hzu : (z == u) with
   | true =>
    have HE := hidOf (show InF ks n z from ⟨j, hlt, by rw [show z = u by simpa using hzu]; exact EU.out⟩)
    go_wp2
    go_ret
    exact ⟨rfl, (j : Int), rfl, by simp [HE.out]⟩
   | false =>
    have HE := hidOf (show z ≠ u from by simpa using hzu)
    go_wp2
    go_round
    case rel => exact ⟨j + 1, by omega, by go_num, hidOf fun i' h9 e9 => by
     by_cases e : i' = j
     ·subst e; rw [EU.out] at e9; injection e9 with e9; exact HE.out e9.symm
     ·exact HQ.out i' (by omega) e9⟩
    case measure => simp [intOf]; omega
  ·have hB : ¬ (j : Int) < (n : Int) := by omega
   go_wp2
   go_ret
   refine ⟨rfl, -1, rfl, ?_⟩
   constructor
   ·intro e; omega
   ·rintro ⟨i, h1, h2⟩; exact absurd h2 (HQ.out i (by omega))
theorem iHas {w : World} {b c n : Nat} {ks : List Int} {z : Int} (hn : n ≤ ks.length) (hm : ks.length ≤ 12) (hc : ∀ i u, ks[i]? = some u → w.cell? ⟨b, i, none⟩ = some (.int .i64 u)) :
  Calls Tryz.prog 202 #[.slice (some ⟨b, 0, none⟩) n c, .int .i64 z] w (TelQ (InF ks n z) w) := by
 have q := iIndex (c := c) (z := z) hn hm hc
 clear hc
 go_enter Tryz.func202, Tryz.ntmps202
 go_wp2_with fail
 refine q.mono ?_
 rintro e w1 ⟨rfl, r, rfl, hr⟩
 have HR := hidOf hr
 clear hr q
 obtain ⟨bb, hbb⟩ : ∃ bb, bb = decide ((0 : Int) ≤ r) := ⟨_, rfl⟩
 have HB := hidOf (show bb = true ↔ (0 : Int) ≤ r by rw [hbb]; simp)
 go_wp2
 rw [← hbb]
 go_ret
 exact ⟨bb, rfl, HB.out.trans HR.out, rfl⟩
theorem iPlaces {w : World} {B : Nat} {a : Option Addr} {c k : Nat} {qs : List Np} {q : Np} (h : Nds w B a c qs) (h1 : qs[k]? = some q) :
  Calls Tryz.prog 158 #[.slice q.a q.nd.kids.length q.c, .int .i64 (k : Int)] w (TelQ (q.nd.kids.length ≤ 12 ∧ PlK q.nd.kids k q.nd.kids.length) w) := by
 obtain ⟨⟨kd, tx, ks, bl⟩, ka, kc⟩ := q
 have HH := hidOf (show ∀ i z, ks[i]? = some z → ∃ b, ka = some ⟨b, 0, none⟩ ∧ b < w.heap.size ∧ w.cell? ⟨b, i, none⟩ = some (.int .i64 z) from fun i z hz => h.kid h1 hz)
 have hcap : ks.length ≤ kc := by
  rcases (h.each _ (List.mem_of_getElem? h1)).2 with ⟨e, e2⟩ | ⟨g, cap, cur, e, _, _, hnc, _⟩
  ·simp only at e2; omega
  ·injection e with _ _ e3
   rw [show kc = cap from e3]
   exact hnc
 clear h h1
 show Calls _ _ #[.slice ka ks.length kc, _] _ (TelQ (ks.length ≤ 12 ∧ PlK ks k ks.length) w)
 obtain ⟨P, hP⟩ : ∃ P, P = (ks.length ≤ 12 ∧ PlK ks k ks.length) := ⟨_, rfl⟩
 have HP := hidOf (show P ↔ (ks.length ≤ 12 ∧ PlK ks k ks.length) by rw [hP])
 rw [← hP]
 clear hP
 by_cases h12 : ks.length ≤ 12
 case neg =>
  have hgt : (12 : Int) < (ks.length : Int) := by omega
  have HN := hidOf h12
  clear h12
  go_enter Tryz.func158, Tryz.ntmps158
  go_wp2
  go_ret
  exact telQ_no (fun e => HN.out (HP.out.1 e).1)
 have hgt : ¬ (12 : Int) < (ks.length : Int) := by omega
 go_enter Tryz.func158, Tryz.ntmps158
 go_wp2
 go_loop [12] (fun i => ∃ j : Nat, j ≤ ks.length ∧ i = .int .i64 (j : Int) ∧ Hid (PlK ks k j)) (fun i => ks.length - (intOf i).toNat)
 case atStart => exact ⟨0, Nat.zero_le _, rfl, hidOf (plK_zero ks k)⟩
 case round =>
  obtain ⟨j, hj, rfl, HPL⟩ := hrel
  by_cases hlt : j < ks.length
  ·have hA : (0 : Int) ≤ (j : Int) := by omega
   have hB : (j : Int) < (ks.length : Int) := by omega
   have hB2 : (j : Int) ≤ (kc : Int) := by omega
   obtain ⟨z, ez⟩ : ∃ z, ks[j]? = some z := ⟨_, List.getElem?_eq_getElem hlt⟩
   obtain ⟨b, rfl, hb, ck⟩ := HH.out j z ez
   have qH := iHas (c := kc) (z := z) hj h12 (fun i u hu => by
    obtain ⟨b', e1, -, e3⟩ := HH.out i u hu
    obtain rfl : b = b' := by injection e1 with e1; injection e1
    exact e3)
   have EZ := hidOf ez
   clear ez
   by_cases hz0 : z < 0
   ·have HN := hidOf (show ¬ P from fun e => by replace e := HP.out.1 e; have := (e.2.1 j z hlt EZ.out).1; omega)
    go_wp2
    go_ret
    exact telQ_no HN.out
   by_cases hzk : (k : Int) ≤ z
   ·have HN := hidOf (show ¬ P from fun e => by replace e := HP.out.1 e; have := (e.2.1 j z hlt EZ.out).2; omega)
    go_wp2
    go_ret
    exact telQ_no HN.out
   by_cases hin : InF ks j z
   ·have HI := hidOf hin
    have HN := hidOf (show ¬ P from fun e => by replace e := HP.out.1 e; obtain ⟨i, h1, h2⟩ := hin; exact e.2.2 i j z h1 hlt h2 EZ.out)
    clear hin
    go_wp2_with fail
    refine qH.mono ?_
    rintro e w1 h9
    obtain ⟨rfl, rfl⟩ := h9.yes HI.out
    clear h9 qH
    go_wp2
    go_ret
    exact telQ_no HN.out
   ·have HI := hidOf hin
    clear hin
    go_wp2_with fail
    refine qH.mono ?_
    rintro e w1 h9
    obtain ⟨rfl, rfl⟩ := h9.no HI.out
    clear h9 qH
    go_wp2
    go_round
    case rel => exact ⟨j + 1, by omega, by go_num, hidOf (plK_next HPL.out EZ.out (by omega) (fun i h1 h2 => HI.out ⟨i, h1, h2⟩))⟩
    case measure => simp [intOf]; omega
  ·have hB : ¬ (j : Int) < (ks.length : Int) := by omega
   obtain rfl : j = ks.length := by omega
   go_wp2
   go_ret
   exact telQ_yes (HP.out.2 ⟨h12, HPL.out⟩)
end Go.Proofs.YtcbbnphpkgifoaaGreatDoor
