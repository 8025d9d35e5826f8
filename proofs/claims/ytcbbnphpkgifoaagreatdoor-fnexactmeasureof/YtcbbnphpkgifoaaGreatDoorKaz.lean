/- What the program measures of nodes: how many notes, how many statements, how deep the file is. -/
import Derived.Test.YtcbbnphpkgifoaaGreatDoorKap
import Derived.Test.YtcbbnphpkgifoaaGreatDoorKay
import Derived.Test.YtcbbnphpkgifoaaGreatDoorKas
namespace Go.Proofs.YtcbbnphpkgifoaaGreatDoor
open Go.RowKit
set_option maxHeartbeats 2500000
set_option maxRecDepth 100000
theorem iNoteK (q : Np) (w : World) : Calls Tryz.prog 29 #[agN q] w fun e w' => e = .returned (.bool (q.nd.kind == 19)) ∧ Below w.heap.size w w' := by
 unfold agN
 obtain ⟨b, hb⟩ : ∃ b, b = (q.nd.kind == 19) := ⟨_, rfl⟩
 rw [← hb]
 have hb1 := hb.symm
 clear hb
 have B0 : ∀ o, Below w.heap.size w (w.alloc o) := fun o => (Below.refl _ _).alloc (Nat.le_refl _) o
 go_enter Tryz.func29, Tryz.ntmps29
 go_wp2
 go_ret
 exact ⟨by first | rfl | (rw [← hb1]; rfl), B0 _⟩
theorem iNotesN {w : World} {B : Nat} {a : Option Addr} {c : Nat} {qs : List Np} (h : Nds w B a c qs) (hn1 : 1 ≤ qs.length) (hn : qs.length ≤ 300) : Calls Tryz.prog 34 #[.slice a qs.length c, .func (.func 29) #[] #[]] w fun e w' => e = .returned (.int .i64 (noteN (qs.map Np.nd) : Nat)) ∧ Below w.heap.size w w' := by
 obtain ⟨b, rfl⟩ := owns_at h.row (by omega)
 have HH := hidOf h
 clear h
 go_enter Tryz.func34, Tryz.ntmps34
 go_wp2
 go_loopw [5, 10] (fun v i wr => ∃ (j n : Nat), j ≤ qs.length ∧ n ≤ j ∧ v = .int .i64 (n : Int) ∧ i = .int .i64 (j : Int) ∧ Hid (n = noteN ((qs.map Np.nd).take j)) ∧ Below w.heap.size w wr) (fun _ i _ => qs.length - (intOf i).toNat)
 case atStart => exact ⟨0, 0, Nat.zero_le _, Nat.le_refl _, rfl, rfl, hidOf rfl, Below.refl _ _⟩
 case round =>
  obtain ⟨j, n, hj, hnj, rfl, rfl, HN, br⟩ := hrel
  by_cases hlt : j < qs.length
  ·have hC1 : (j : Int) < (qs.length : Int) := by omega
   have hA2 : (0 : Int) ≤ (j : Int) := by omega
   obtain ⟨q, hq⟩ : ∃ q, qs[j]? = some q := ⟨_, List.getElem?_eq_getElem hlt⟩
   have HQ := hidOf hq
   have HT := hidOf (noteN_at (l := qs.map Np.nd) (k := j) (x := q.nd) (by rw [List.getElem?_map, hq]; rfl))
   clear hq
   obtain ⟨b', hbb, hb2, d0, d1, d2, d3⟩ := (HH.out.below br).node HQ.out
   obtain rfl : b = b' := by injection hbb with hbb; injection hbb
   clear hbb
   have hsz := br.size
   have qK := fun W => iNoteK q W
   unfold agN at qK
   obtain ⟨kb, hkb⟩ : ∃ kb, kb = (q.nd.kind == 19) := ⟨_, rfl⟩
   rw [← hkb] at qK
   have HB := hidOf hkb
   clear hkb
   go_wp2_with fail
   refine (qK _).mono ?_
   rintro e w2 ⟨rfl, hb3⟩
   have B2 := hidOf (((br.alloc hsz _).trans (hb3.mono (Nat.le_trans hsz (by simp)))))
   clear qK hb3 br d0 d1 d2 d3
   cases kb with
   | true =>
    have HM := hidOf (show n + 1 = noteN ((qs.map Np.nd).take (j + 1)) by rw [HT.out, ← HN.out, if_pos (by simpa using HB.out.symm)])
    go_wp2
    go_roundw
    case rel => exact ⟨j + 1, n + 1, by omega, by omega, by go_num, by go_num, HM, B2.out⟩
    case measure => simp [intOf]; omega
   | false =>
    have HM := hidOf (show n = noteN ((qs.map Np.nd).take (j + 1)) by rw [HT.out, ← HN.out, if_neg (by simpa using HB.out.symm), Nat.add_zero])
    go_wp2
    go_roundw
    case rel => exact ⟨j + 1, n, by omega, by omega, rfl, by go_num, HM, B2.out⟩
    case measure => simp [intOf]; omega
  ·have hC1 : ¬ (j : Int) < (qs.length : Int) := by omega
   obtain rfl : j = qs.length := by omega
   have HM := hidOf (show n = noteN (qs.map Np.nd) by rw [HN.out, List.take_of_length_le (by simp)])
   go_wp2
   go_ret
   exact ⟨by rw [← HM.out]; rfl, br⟩
theorem iStepB {w : World} {B nb : Nat} {a : Option Addr} {c : Nat} {qs : List Np} (h : Nds w B a c qs) (hc : w.cell? ⟨nb, 0, none⟩ = some (.slice a qs.length c)) {k : Nat} {q : Np} (hq : qs[k]? = some q) (hs : StepK q.nd.kind) : Calls Tryz.prog 69 #[.int .i64 (k : Int), .pointer (some ⟨nb, 0, none⟩)] w fun e w' => e = .returned (.bool (q.nd.kind != 19)) ∧ w' = w := by
 have hk : k < qs.length := (List.getElem?_eq_some_iff.1 hq).1
 obtain ⟨b, rfl, hb, c0, -, -, -⟩ := h.node hq
 have hA : (0 : Int) ≤ (k : Int) := by omega
 have hB : (k : Int) < (qs.length : Int) := by omega
 obtain ⟨kd, hkd⟩ : ∃ kd, kd = q.nd.kind := ⟨_, rfl⟩
 rw [← hkd] at c0 hs
 rw [← hkd]
 have qS := fun W => iStepK kd W
 obtain ⟨b1, hb1⟩ : ∃ b1, b1 = (kd != 19) := ⟨_, rfl⟩
 rw [← hb1]
 have hb2 := hb1.symm
 have HS := hidOf hs
 clear hb1 hkd h hq hs
 go_enter Tryz.func69, Tryz.ntmps69
 go_wp2_with fail
 refine (qS _).mono ?_
 rintro e w2 hq
 obtain ⟨rfl, rfl⟩ := hq.yes HS.out
 clear qS
 go_wp2
 go_ret
 exact ⟨by first | rfl | (rw [← hb2]; rfl), rfl⟩
theorem iStepsK {w : World} {B nb : Nat} {a : Option Addr} {c : Nat} {qs : List Np} (h : Nds w B a c qs) (hc : w.cell? ⟨nb, 0, none⟩ = some (.slice a qs.length c)) (ka : Option Addr) (kc : Nat) (ks : List Int) (hk12 : ks.length ≤ 12) (hka : ∀ (j : Nat) (z : Int), ks[j]? = some z → ∃ b o, ka = some ⟨b, o, none⟩ ∧ b < w.heap.size ∧ w.cell? ⟨b, o + j, none⟩ = some (.int .i64 z))
  (hks : ∀ (j : Nat) (z : Int), ks[j]? = some z → ∃ (kz : Nat) (q : Np), z = (kz : Int) ∧ qs[kz]? = some q ∧ kdOf (qs.map Np.nd) z = q.nd.kind ∧ StepK q.nd.kind) :
  Calls Tryz.prog 71 #[.slice ka ks.length kc, .func (.func 69) #[] #[.pointer (some ⟨nb, 0, none⟩)]] w fun e w' => e = .returned (.int .i64 (stepK (qs.map Np.nd) ks : Nat)) ∧ w' = w := by
 have HH := hidOf h
 have HC := hidOf hc
 have HA := hidOf hka
 have HK := hidOf hks
 clear h hc hka hks
 go_enter Tryz.func71, Tryz.ntmps71
 go_wp2
 go_loop [5, 10] (fun v i => ∃ (j n : Nat), j ≤ ks.length ∧ n ≤ j ∧ v = .int .i64 (n : Int) ∧ i = .int .i64 (j : Int) ∧ Hid (n = stepK (qs.map Np.nd) (ks.take j))) (fun _ i => ks.length - (intOf i).toNat)
 case atStart => exact ⟨0, 0, Nat.zero_le _, Nat.le_refl _, rfl, rfl, hidOf rfl⟩
 case round =>
  obtain ⟨j, n, hj, hnj, rfl, rfl, HN⟩ := hrel
  by_cases hlt : j < ks.length
  ·have hC1 : (j : Int) < (ks.length : Int) := by omega
   have hA2 : (0 : Int) ≤ (j : Int) := by omega
   obtain ⟨z, hz⟩ : ∃ z, ks[j]? = some z := ⟨_, List.getElem?_eq_getElem hlt⟩
   obtain ⟨kz, q, rfl, hq, hkd, hst⟩ := HK.out j z hz
   obtain ⟨b, o, rfl, hbl, ck⟩ := HA.out j _ hz
   have HT := hidOf (stepK_at (ns := qs.map Np.nd) hz)
   have qB := iStepB HH.out HC.out hq hst
   have HD := hidOf hkd
   obtain ⟨kb, hkb⟩ : ∃ kb, kb = (q.nd.kind != 19) := ⟨_, rfl⟩
   rw [← hkb] at qB
   have HB := hidOf hkb
   clear hkb hq hkd hst hz
   go_wp2_with fail
   refine qB.mono ?_
   rintro e w ⟨rfl, rfl⟩
   clear qB ck
   cases kb with
   | true =>
    have HM := hidOf (show n + 1 = stepK (qs.map Np.nd) (ks.take (j + 1)) by rw [HT.out, ← HN.out, HD.out, if_neg (by simpa using HB.out.symm)])
    go_wp2
    go_round
    case rel => exact ⟨j + 1, n + 1, by omega, by omega, by go_num, by go_num, HM⟩
    case measure => simp [intOf]; omega
   | false =>
    have HM := hidOf (show n = stepK (qs.map Np.nd) (ks.take (j + 1)) by rw [HT.out, ← HN.out, HD.out, if_pos (by simpa using HB.out.symm), Nat.add_zero])
    go_wp2
    go_round
    case rel => exact ⟨j + 1, n, by omega, by omega, rfl, by go_num, HM⟩
    case measure => simp [intOf]; omega
  ·have hC1 : ¬ (j : Int) < (ks.length : Int) := by omega
   obtain rfl : j = ks.length := by omega
   have HM := hidOf (show n = stepK (qs.map Np.nd) ks by rw [HN.out, List.take_of_length_le (by simp)])
   go_wp2
   go_ret
   exact ⟨by rw [← HM.out]; rfl, rfl⟩
theorem iStepsN {w : World} {B : Nat} {a : Option Addr} {c : Nat} {qs : List Np} (h : Nds w B a c qs) (hT : TreeP (qs.map Np.nd)) (hn1 : 1 ≤ qs.length) (hn : qs.length ≤ 300) : Calls Tryz.prog 32 #[.slice a qs.length c] w fun e w' => e = .returned (.int .i64 (stepN (qs.map Np.nd) (qs.map Np.nd) : Nat)) ∧ Below w.heap.size w w' := by
 obtain ⟨b, rfl⟩ := owns_at h.row (by omega)
 have HH := hidOf h
 have HK := hidOf (msK hT)
 clear h hT
 obtain ⟨W0, hW0⟩ : ∃ W, W = w.alloc (.cells #[.slice (some ⟨b, 0, none⟩) qs.length c] 49) := ⟨_, rfl⟩
 have B0 : Below w.heap.size w W0 := by rw [hW0]; exact (Below.refl _ _).alloc (Nat.le_refl _) _
 have R0 : W0.heap[w.heap.size]? = some (.cells #[.slice (some ⟨b, 0, none⟩) qs.length c] 49 (0, 0)) := by rw [hW0]; exact heap_alloc_new w _
 have hl0 : w.heap.size < W0.heap.size := (Array.getElem?_eq_some_iff.1 R0).1
 have c0 : W0.cell? ⟨w.heap.size, 0, none⟩ = some (.slice (some ⟨b, 0, none⟩) qs.length c) := cell_of_row W0 _ 0 _ _ _ R0
 have HC := hidOf c0
 clear R0
 go_enter Tryz.func32, Tryz.ntmps32
 go_wp2_with fail
 rw [← hW0]
 clear hW0
 go_wp2
 go_loopw [4, 10] (fun v i wr => ∃ (j n : Nat), j ≤ qs.length ∧ n ≤ 12 * j ∧ v = .int .i64 (n : Int) ∧ i = .int .i64 (j : Int) ∧ Hid (n = stepN (qs.map Np.nd) ((qs.map Np.nd).take j)) ∧ Below W0.heap.size W0 wr) (fun _ i _ => qs.length - (intOf i).toNat)
 case atStart => exact ⟨0, 0, Nat.zero_le _, Nat.le_refl _, rfl, rfl, hidOf rfl, Below.refl _ _⟩
 case round =>
  clear c0
  obtain ⟨j, n, hj, hnj, rfl, rfl, HN, br⟩ := hrel
  have hsz := br.size
  by_cases hlt : j < qs.length
  ·have hC1 : (j : Int) < (qs.length : Int) := by omega
   have hA2 : (0 : Int) ≤ (j : Int) := by omega
   obtain ⟨q, hq⟩ : ∃ q, qs[j]? = some q := ⟨_, List.getElem?_eq_getElem hlt⟩
   have hq' : (qs.map Np.nd)[j]? = some q.nd := by rw [List.getElem?_map, hq]; rfl
   have HQ := hidOf hq
   have HT := hidOf (stepN_at (ns := qs.map Np.nd) hq')
   obtain ⟨hk12, hkk⟩ := HK.out j q.nd hq'
   have HKK := hidOf hkk
   clear hq hq' hkk
   obtain ⟨W1, hW1⟩ : ∃ W, W = wr.alloc (.cells #[.int .i64 q.nd.kind, .string q.nd.text, .slice q.a q.nd.kids.length q.c, .bool q.nd.blank] 59) := ⟨_, rfl⟩
   have b1 : Below wr.heap.size wr W1 := by rw [hW1]; exact (Below.refl _ _).alloc (Nat.le_refl _) _
   have B1 : Below W0.heap.size W0 W1 := br.trans (b1.mono hsz)
   have R1 : W1.heap[wr.heap.size]? = some (.cells #[.int .i64 q.nd.kind, .string q.nd.text, .slice q.a q.nd.kids.length q.c, .bool q.nd.blank] 59 (0, 0)) := by rw [hW1]; exact heap_alloc_new wr _
   have hl1 : wr.heap.size < W1.heap.size := (Array.getElem?_eq_some_iff.1 R1).1
   have r0 := cell_of_row W1 _ 0 _ _ _ R1
   have r2 := cell_of_row W1 _ 2 _ _ _ R1
   obtain ⟨b', hbb, hb2, d0, d1, d2, d3⟩ := (HH.out.below (B0.trans (br.mono B0.size))).node HQ.out
   obtain rfl : b = b' := by injection hbb with hbb; injection hbb
   have N1 : Nds W1 B (some ⟨b, 0, none⟩) c qs := HH.out.below (B0.trans (B1.mono B0.size))
   have C1 := (B1.cell (p := ⟨w.heap.size, 0, none⟩) hl0).trans HC.out
   have HB1 := hidOf B1
   by_cases h18 : q.nd.kind = 18
   ·have qK := iStepsK N1 C1 q.a q.c q.nd.kids hk12 (fun jj z hz => by
      obtain ⟨kb, hkb, hkbl, ck⟩ := N1.kid HQ.out hz
      exact ⟨kb, 0, hkb, hkbl, by rw [Nat.zero_add]; exact ck⟩) (fun jj z hz => by
      obtain ⟨kz, y, e1, -, e2, e3, e4⟩ := HKK.out jj z hz
      rw [List.getElem?_map] at e2
      obtain ⟨q2, hq2, rfl⟩ := Option.map_eq_some_iff.1 e2
      exact ⟨kz, q2, e1, hq2, e3, e4 h18⟩)
    have hsk := stepK_le (qs.map Np.nd) q.nd.kids
    have HM := hidOf (show stepN (qs.map Np.nd) ((qs.map Np.nd).take (j + 1)) = n + stepK (qs.map Np.nd) q.nd.kids by rw [HT.out, ← HN.out, if_pos h18])
    obtain ⟨sk, hsk0⟩ : ∃ sk, sk = stepK (qs.map Np.nd) q.nd.kids := ⟨_, rfl⟩
    rw [← hsk0] at qK hsk HM
    have hk18 : (q.nd.kind == 18) = true := by rw [beq_iff_eq]; exact h18
    clear hsk0 N1 C1 R1 b1 B1 br hbb h18
    go_upto_region 6 with fail
    rw [← hW1]
    clear hW1 d0 d1 d2 d3
    go_wp2_with fail
    refine qK.mono ?_
    rintro e w4 ⟨rfl, rfl⟩
    clear qK r0 r2
    go_wp2
    go_roundw
    case rel => exact ⟨j + 1, n + sk, by omega, by omega, by go_num, by go_num, hidOf HM.out.symm, HB1.out⟩
    case measure => simp [intOf]; omega
   ·have HM := hidOf (show stepN (qs.map Np.nd) ((qs.map Np.nd).take (j + 1)) = n by rw [HT.out, ← HN.out, if_neg h18, Nat.add_zero])
    have hk18 : (q.nd.kind == 18) = false := by rw [beq_eq_false_iff_ne]; exact h18
    clear N1 C1 R1 b1 B1 br hbb h18
    go_upto_region 6 with fail
    rw [← hW1]
    clear hW1 d0 d1 d2 d3
    go_wp2
    go_roundw
    case rel => exact ⟨j + 1, n, by omega, by omega, rfl, by go_num, hidOf HM.out.symm, HB1.out⟩
    case measure => simp [intOf]; omega
  ·have hC1 : ¬ (j : Int) < (qs.length : Int) := by omega
   obtain rfl : j = qs.length := by omega
   have HM := hidOf (show n = stepN (qs.map Np.nd) (qs.map Np.nd) by rw [HN.out, List.take_of_length_le (by simp)])
   go_wp2
   go_ret
   exact ⟨by rw [← HM.out]; rfl, B0.trans (br.mono B0.size)⟩
theorem iDeepV {w : World} {B : Nat} {a : Option Addr} {c m : Nat} {qs : List Np} (h : Nds w B a c qs) (hS : ∀ q ∈ qs, SafeNd q.nd) (hm : qs.length = m + 1) (hn : m ≤ 299) (hT : HasD (qs.map Np.nd) (m + 1)) : Calls Tryz.prog 33 #[.slice a (m + 1) c, .int .i64 (m : Int)] w fun e w' => ∃ d : Int, e = .returned (.int .i64 d) ∧ (∃ (es : List Nat) (n : Nat), Deeps (qs.map Np.nd) (m + 1) es ∧ es[m]? = some n ∧ d = (n : Int)) ∧ Below w.heap.size w w' := by
 have qD := iDepths iNode_R h hS (by omega) (by omega)
 rw [hm] at qD
 have hnat : ((m + 1 : Nat) : Int) = (m : Int) + 1 := by omega
 rw [hnat] at qD
 have HT := hidOf hT
 have h0 : ¬ (m : Int) < 0 := by omega
 have h1 : ¬ (m : Int) + 1 ≤ (m : Int) := by omega
 clear h hS hT hm hnat
 go_enter Tryz.func33, Tryz.ntmps33
 go_wp2_with fail
 refine qD.mono ?_
 rintro e w2 ⟨v, bb, rfl, hd, b2, hv⟩
 obtain rfl : bb = true := hd.2 HT.out
 obtain ⟨es, he, ho⟩ := hv rfl
 have hel : es.length = m + 1 := deeps_len he
 obtain ⟨ao, cc, rfl⟩ := owns_slice ho
 obtain ⟨ob, rfl⟩ := owns_at ho (by omega)
 have hobl := (ho.lt ob rfl).2
 obtain ⟨n, hnn⟩ : ∃ n, es[m]? = some n := ⟨_, List.getElem?_eq_getElem (by omega)⟩
 have ck : w2.cell? ⟨ob, m, none⟩ = some (.int .i64 (n : Int)) := (ho.cellAt m (by omega)).trans (by unfold intVals; rw [List.getElem?_map, List.getElem?_map, hnn]; rfl)
 have HA := hidOf (show ∃ (es : List Nat) (n2 : Nat), Deeps (qs.map Np.nd) (m + 1) es ∧ es[m]? = some n2 ∧ (n : Int) = (n2 : Int) from ⟨es, n, he, hnn, rfl⟩)
 have hA1 : (0 : Int) ≤ (m : Int) := by omega
 have hB1 : (m : Int) < (m : Int) + 1 := by omega
 clear qD hd hv he ho hel hnn
 go_wp2
 go_ret
 exact ⟨_, rfl, HA.out, b2⟩
section
variable {P : Program} {ops : Array Oper} {Q : Exit → Act → World → Prop}
structure RegR (ops : Array Oper) (r : Nat) (a0 : Act) (Inv : World → Prop) (Post : Nat → Value → Value → World → Prop) (L : Array Bool) (a : Act) (w : World) : Prop where
 size : L.size = ops.size
 inv : Inv w
 defers : a.defers = a0.defers
 tsize : a.tmps.size = a0.tmps.size
 fix : ∀ s, (∀ (j : Nat) (o : Oper), ops[j]? = some o → o.dst ≠ some s) → a.tmps.getD s undef = a0.tmps.getD s undef
 shut : ∀ (k : Nat) (o : Oper), ops[k]? = some o → L.getD k true = true → ∀ e ∈ o.after, Region.binds .any e = true → L.getD e.on true = true
 post : ∀ (k : Nat) (o : Oper), ops[k]? = some o → L.getD k true = true → Post k (slotOf a o) (a.tmps.getD r undef) w
def waitsG (ops : Array Oper) (m : Nat) (speaks : List Nat) : Bool := speaks.all fun k => k == m || match ops[k]? with
 | none => true
 | some o => o.after.any fun e => Region.binds .any e && e.on == m
theorem RegR.put {r m : Nat} {speaks : List Nat} {a0 : Act} {Inv : World → Prop} {Post : Nat → Value → Value → World → Prop} {L : Array Bool} {a : Act} {w w' : World} {i : Nat} {o : Oper} {v : Value} (ht : tidyG ops a0.tmps.size = true) (hm : ∃ om, ops[m]? = some om ∧ om.dst = some r) (hw : waitsG ops m speaks = true) (hmute : ∀ k u x y W, k ∉ speaks → Post k u x W → Post k u y W)
  (h : RegR ops r a0 Inv Post L a w) (hun : L.getD i true = false) (hdep : ∀ e ∈ o.after, Region.binds .any e = true → L.getD e.on true = true) (ho : ops[i]? = some o) (hv : o.dst = none → v = undef) (hinv : Inv w')
  (hold : ∀ (k : Nat) (u : Value), Post k u (a.tmps.getD r undef) w → Post k u (a.tmps.getD r undef) w') (hpost : Post i v ((a.put o.dst v).tmps.getD r undef) w') : RegR ops r a0 Inv Post (L.setIfInBounds i true) (a.put o.dst v) w' := by
 obtain ⟨hb, hd⟩ := tidyG_at ht ho
 obtain ⟨om, hom, hmr⟩ := hm
 have hset : ∀ k, L.getD k true = true → (L.setIfInBounds i true).getD k true = true := fun k hk => by
  by_cases e : i = k
  ·subst e
   rw [hun] at hk
   cases hk
  ·rw [getD_set_ne true e]
   exact hk
 refine ⟨by simpa using h.size, hinv, ?_, ?_, ?_, ?_, ?_⟩
 ·cases hod : o.dst with
  | none => exact h.defers
  | some d => exact h.defers
 ·cases hod : o.dst with
  | none => exact h.tsize
  | some d => simpa [Act.put] using h.tsize
 ·intro s hs
  rw [← h.fix s hs]
  cases hod : o.dst with
  | none => rfl
  | some d =>
   have hne : d ≠ s := fun e => hs i o ho (by rw [hod, e])
   simp [Act.put, Array.getElem?_setIfInBounds_ne hne]
 ·intro k o' hk hL e he hbn
  by_cases hik : i = k
  ·subst hik
   rw [ho] at hk
   cases hk
   exact hset _ (hdep e he hbn)
  ·rw [getD_set_ne true hik] at hL
   exact hset _ (h.shut k o' hk hL e he hbn)
 ·intro k o' hk hL
  by_cases hik : i = k
  ·subst hik
   rw [ho] at hk
   cases hk
   cases hod : o.dst with
   | none =>
    have : slotOf (a.put none v) o = v := by rw [hv hod]; unfold slotOf; rw [hod]
    rw [this]
    rw [hod] at hpost
    exact hpost
   | some d =>
    have hlt : d < a.tmps.size := by rw [h.tsize]; exact (hd d hod).1
    have : slotOf (a.put (some d) v) o = v := by
     unfold slotOf
     rw [hod]
     simp [Act.put, hlt]
    rw [this]
    rw [hod] at hpost
    exact hpost
  ·rw [getD_set_ne true hik] at hL
   have hp := hold k _ (h.post k o' hk hL)
   have : slotOf (a.put o.dst v) o' = slotOf a o' := by
    cases hod : o.dst with
    | none => rfl
    | some d =>
     unfold slotOf
     cases hod' : o'.dst with
     | none => rfl
     | some d' =>
      have hne : d ≠ d' := fun e => hik ((hd d hod).2 k o' hk (by rw [hod', e]))
      simp [Act.put, Array.getElem?_setIfInBounds_ne hne]
   rw [this]
   by_cases hks : k ∈ speaks
   ·have hne : o.dst ≠ some r := fun e => by
     have him : i = m := (hd r e).2 m om hom hmr
     have h1 := List.all_eq_true.1 hw k hks
     rw [Bool.or_eq_true] at h1
     rcases h1 with h1 | h1
     ·exact hik (him.trans (by simpa using h1 : k = m).symm)
     ·rw [hk] at h1
      obtain ⟨e', he', hb'⟩ := Array.any_eq_true'.1 h1
      rw [Bool.and_eq_true, beq_iff_eq] at hb'
      have h2 := h.shut k o' hk hL e' he' hb'.1
      rw [hb'.2, ← him, hun] at h2
      cases h2
    have : (a.put o.dst v).tmps.getD r undef = a.tmps.getD r undef := by
     cases hod : o.dst with
     | none => rfl
     | some d =>
      have hne' : d ≠ r := fun e => hne (by rw [hod, e])
      simp [Act.put, Array.getElem?_setIfInBounds_ne hne']
    rw [this]
    exact hp
   ·exact hmute k _ _ _ _ hks hp
theorem wpAny_slot {r m : Nat} {speaks : List Nat} {a0 : Act} (Inv : World → Prop) (Step : World → World → Prop) (Post : Nat → Value → Value → World → Prop) (ht : tidyG ops a0.tmps.size = true) (hm : ∃ om, ops[m]? = some om ∧ om.dst = some r) (hw : waitsG ops m speaks = true) (hmute : ∀ k u x y W, k ∉ speaks → Post k u x W → Post k u y W)
  (hstab : ∀ k v x w w', Post k v x w → Inv w → Step w w' → Post k v x w')
  (hstep : ∀ (k : Nat) (o : Oper), ops[k]? = some o → ∀ a w, Inv w → a.tmps.size = a0.tmps.size → (∀ s, (∀ (j : Nat) (o' : Oper), ops[j]? = some o' → o'.dst ≠ some s) → a.tmps.getD s undef = a0.tmps.getD s undef) →
   (∀ e ∈ o.after, Region.binds .any e = true → ∀ (o' : Oper), ops[e.on]? = some o' → Post e.on (slotOf a o') (a.tmps.getD r undef) w) →
   (Region.wanted o (yielded ops a.tmps) = true ∧ ∀ K : Act → World → Prop, (∀ v w', (o.dst = none → v = undef) → Inv w' → Step w w' ∨ (∀ j u, Post j u (a.tmps.getD r undef) w → Post j u (a.tmps.getD r undef) w') → Post k v ((a.put o.dst v).tmps.getD r undef) w' → K (a.put o.dst v) w') → Oper.wp P o a w K Q) ∨ (Region.wanted o (yielded ops a.tmps) = false ∧ Post k undef ((a.put o.dst undef).tmps.getD r undef) w))
  (hend : ∀ a w, Inv w → a.defers = a0.defers → a.tmps.size = a0.tmps.size → (∀ s, (∀ (j : Nat) (o' : Oper), ops[j]? = some o' → o'.dst ≠ some s) → a.tmps.getD s undef = a0.tmps.getD s undef) →
   (∀ (k : Nat) (o : Oper), ops[k]? = some o → Post k (slotOf a o) (a.tmps.getD r undef) w) → Q .normal a w) :
  ∀ (fuel : Nat) (L : Array Bool) (a : Act) (w : World), RegR ops r a0 Inv Post L a w → L.count false ≤ fuel → wpAny P .any ops Q fuel L a w := by
 have fin : ∀ (L : Array Bool) (a : Act) (w : World), RegR ops r a0 Inv Post L a w → Region.ready .any ops L = [] → Q .normal a w := fun L a w h hr =>
  hend a w h.inv h.defers h.tsize h.fix (fun k o hk => h.post k o hk (all_listed h.size (fun k o hk => (tidyG_at ht hk).1) hr k))
 intro fuel
 induction fuel with
 | zero =>
  intro L a w h hc
  have hr : Region.ready .any ops L = [] := by
   cases hr : Region.ready .any ops L with
   | nil => rfl
   | cons x xs =>
    have hx : x ∈ Region.ready .any ops L := by rw [hr]; exact List.mem_cons_self
    have := count_set (mem_ready.1 hx).1
    omega
  exact ⟨hr, fin L a w h hr⟩
 | succ fuel ih =>
  intro L a w h hc
  refine ⟨fin L a w h, fun i hi => ?_⟩
  obtain ⟨hun, o, ho, hall⟩ := mem_ready.1 hi
  have hcs := count_set hun
  have hdp : ∀ e ∈ o.after, Region.binds .any e = true → L.getD e.on true = true := fun e he hbn => by
   have h1 := hall e he hbn
   have hel : e.on < L.size := by
    rcases Nat.lt_or_ge e.on L.size with h' | h'
    ·exact h'
    ·simp [Array.getElem?_eq_none h'] at h1
   simp [hel] at h1 ⊢
   exact h1
  unfold wpOp
  simp only [ho]
  rcases hstep i o ho a w h.inv h.tsize h.fix (fun e he hbn o' ho' => h.post e.on o' ho' (hdp e he hbn)) with ⟨hwt, hrun⟩ | ⟨hwt, hpost⟩
  ·rw [if_pos hwt]
   exact .inl (hrun _ (fun v w' hv hinv hst hpost => ih _ _ _ (h.put ht hm hw hmute hun hdp ho hv hinv (fun k u hu => by
    rcases hst with hst | hst
    ·exact hstab k u _ w w' hu h.inv hst
    ·exact hst k u hu) hpost) (by omega)))
  ·rw [if_neg (by rw [hwt]; exact Bool.false_ne_true)]
   exact ih _ _ _ (h.put ht hm hw hmute hun hdp ho (fun _ => rfl) h.inv (fun k u hu => hu) hpost) (by omega)
theorem wp_region_slot {id : Nat} {a0 : Act} {w0 : World} (hmx : P.follows .mixedOrders = true) (r m : Nat) (speaks : List Nat) (Inv : World → Prop) (Step : World → World → Prop) (Post : Nat → Value → Value → World → Prop) (h0 : Inv { w0 with drawn := w0.drawn + 1 }) (ht : tidyG ops a0.tmps.size = true) (hm : ∃ om, ops[m]? = some om ∧ om.dst = some r) (hw : waitsG ops m speaks = true) (hmute : ∀ k u x y W, k ∉ speaks → Post k u x W → Post k u y W)
  (hstab : ∀ k v x w w', Post k v x w → Inv w → Step w w' → Post k v x w')
  (hstep : ∀ (k : Nat) (o : Oper), ops[k]? = some o → ∀ a w, Inv w → a.tmps.size = a0.tmps.size → (∀ s, ops.all (fun o => o.dst != some s) = true → a.tmps.getD s undef = a0.tmps.getD s undef) →
   (∀ (j : Nat) (o' : Oper), ops[j]? = some o' → o.after.any (fun e => Region.binds .any e && e.on == j) = true → Post j (slotOf a o') (a.tmps.getD r undef) w) →
   (Region.wanted o (yielded ops a.tmps) = true ∧ ∀ K : Act → World → Prop, (∀ v w', (o.dst = none → v = undef) → Inv w' → Step w w' ∨ (∀ j u, Post j u (a.tmps.getD r undef) w → Post j u (a.tmps.getD r undef) w') → Post k v ((a.put o.dst v).tmps.getD r undef) w' → K (a.put o.dst v) w') → Oper.wp P o a w K Q) ∨ (Region.wanted o (yielded ops a.tmps) = false ∧ Post k undef ((a.put o.dst undef).tmps.getD r undef) w))
  (hend : ∀ a w, Inv w → a.defers = a0.defers → a.tmps.size = a0.tmps.size → (∀ s, ops.all (fun o => o.dst != some s) = true → a.tmps.getD s undef = a0.tmps.getD s undef) →
   (∀ (k : Nat) (o : Oper), ops[k]? = some o → Post k (slotOf a o) (a.tmps.getD r undef) w) → Q .normal a w) : (Code.region id ops true).wp P Q a0 w0 := by
 have hfx : ∀ s, ops.all (fun o => o.dst != some s) = true → ∀ (j : Nat) (o' : Oper), ops[j]? = some o' → o'.dst ≠ some s := fun s hs j o' hj e => by
  have := Array.all_eq_true_iff_forall_mem.1 hs o' (Array.mem_of_getElem? hj)
  simp [e] at this
 refine wp_region_any hmx (wpAny_slot (r := r) (m := m) (speaks := speaks) Inv Step Post ht hm hw hmute hstab (fun k o hk a w hI hsz hfix hdep => hstep k o hk a w hI hsz (fun s hs => hfix s (hfx s hs)) (fun j o' hj ha => ?_)) (fun a w hI hd hsz hfix hpost => hend a w hI hd hsz (fun s hs => hfix s (hfx s hs)) hpost) _ _ _ _ ⟨by simp, h0, rfl, rfl, fun _ _ => rfl, fun k o hk hL => ?_, fun k o hk hL => ?_⟩ ?_)
 ·obtain ⟨e, he, hb⟩ := Array.any_eq_true'.1 ha
  rw [Bool.and_eq_true, beq_iff_eq] at hb
  obtain ⟨hb, rfl⟩ := hb
  exact hdep e he hb o' hj
 ·have hlt : k < ops.size := (Array.getElem?_eq_some_iff.1 hk).1
  simp [hlt] at hL
 ·have hlt : k < ops.size := (Array.getElem?_eq_some_iff.1 hk).1
  simp [hlt] at hL
 ·exact Nat.le_trans Array.count_le_size (by simp)
end
end Go.Proofs.YtcbbnphpkgifoaaGreatDoor
