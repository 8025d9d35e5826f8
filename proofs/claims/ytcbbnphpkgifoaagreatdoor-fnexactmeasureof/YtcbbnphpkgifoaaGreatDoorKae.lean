/- What the specification's helpers on texts and marks answer. -/
import Derived.Test.YtcbbnphpkgifoaaGreatDoorKad
import Derived.Test.YtcbbnphpkgifoaaGreatDoorProg
import Derived.Test.YtcbbnphpkgifoaaGreatDoorKab
import Derived.WalkKit
import Derived.Deep.MidRow
import Derived.Laws.ResultCell
namespace Go.Proofs.YtcbbnphpkgifoaaGreatDoor
open Go.RowKit
set_option maxHeartbeats 4000000
def qtRaw (t : ByteArray) (k : Nat) : Nat := if k + 1 + spn texB t (k + 1) < t.size ∧ by8 t (k + 1 + spn texB t (k + 1)) = 39 then spn texB t (k + 1) + 2 else 0
theorem qtSz_rest {t : ByteArray} {k : Nat} (hk : k < t.size) : qtSz (t.extract k t.size) = qtRaw t k := by
 unfold qtSz qtRaw
 rw [spn_rest, rest_size, by8_rest, show k + (1 + spn texB t (k + 1)) = k + 1 + spn texB t (k + 1) by omega]
 by_cases h : k + 1 + spn texB t (k + 1) < t.size ∧ by8 t (k + 1 + spn texB t (k + 1)) = 39
 ·rw [if_pos h, if_pos ⟨by omega, h.2⟩]
  omega
 ·rw [if_neg h, if_neg (fun h' => h ⟨by omega, h'.2⟩)]
theorem sQuoted_any (t : ByteArray) (k : Nat) (w : World) (hs : t.size ≤ 4194304) (hk : k < t.size) :
  Calls Tryz.prog 135 #[.string t, .int .i64 k] w fun e w' => e = .returned (.int .i64 (qtRaw t k)) ∧ w' = w := by
 have hby := by8_at t
 go_enter Tryz.func135, Tryz.ntmps135
 go_wp2
 go_loop [5] (fun i => ∃ j : Nat, k + 1 + j ≤ t.size ∧ i = .int .i64 ((k : Int) + 1 + j) ∧ Hid (∀ m, m < j → texB (by8 t (k + 1 + m)) = true)) (fun i => t.size - (intOf i).toNat)
 case atStart => exact ⟨0, by omega, by go_num, hidOf fun m h => by omega⟩
 case round =>
  obtain ⟨j, hj, rfl, HA⟩ := hrel
  by_cases hlt : k + 1 + j < t.size
  ·have hA : (0 : Int) ≤ (k : Int) + 1 + j := by omega
   have hB : (k : Int) + 1 + j < (t.size : Int) := by omega
   have hbr := by8_range t (k + 1 + j)
   have hix : ((k : Int) + 1 + j).toNat = k + 1 + j := by omega
   by_cases h39 : by8 t (k + 1 + j) = 39
   ·have hS : spn texB t (k + 1) = j := spn_is j (k + 1) hj HA.out (fun _ => by rw [h39]; rfl)
    have hr : qtRaw t k = j + 2 := by unfold qtRaw; rw [hS, if_pos ⟨hlt, h39⟩]
    have HR := hidOf hr
    have h39' : (by8 t (k + 1 + j) == 39) = true := by simp [h39]
    clear h39 hS hr
    go_wp2
    go_ret
    exact ⟨ret_int (by rw [HR.out]; omega), rfl⟩
   ·have h39' : (by8 t (k + 1 + j) == 39) = false := by simpa using h39
    have hP := fun W => sPla_any (by8 t (k + 1 + j)) W
    have ht : texB (by8 t (k + 1 + j)) = plaB (by8 t (k + 1 + j)) := by
     unfold texB
     rw [bne, h39']
     simp
    cases hpl : plaB (by8 t (k + 1 + j))
    ·rw [hpl] at hP ht
     have hS : spn texB t (k + 1) = j := spn_is j (k + 1) hj HA.out (fun _ => ht)
     have hr : qtRaw t k = 0 := by unfold qtRaw; rw [hS, if_neg (fun h => h39 h.2)]
     have HR := hidOf hr
     clear hS hpl h39 ht hr
     go_wp2_with fail
     refine (hP _).mono ?_
     rintro e w ⟨rfl, rfl⟩
     go_wp2
     go_ret
     exact ⟨ret_int (by rw [HR.out]; rfl), rfl⟩
    ·rw [hpl] at hP ht
     have HP := hidOf ht
     clear hpl h39 ht
     go_wp2_with fail
     refine (hP _).mono ?_
     rintro e w ⟨rfl, rfl⟩
     go_wp2
     go_round
     case rel => exact ⟨j + 1, by omega, by go_num, hidOf fun m hm => by
      by_cases e : m = j
      ·subst e; exact HP.out
      ·exact HA.out m (by omega)⟩
     case measure => simp [intOf]; omega
  ·have hS : spn texB t (k + 1) = j := spn_is j (k + 1) hj HA.out (fun h => by omega)
   have hr : qtRaw t k = 0 := by unfold qtRaw; rw [hS, if_neg (fun h => hlt h.1)]
   have HR := hidOf hr
   clear hS hr
   go_wp2
   go_ret
   exact ⟨ret_int (by rw [HR.out]; rfl), rfl⟩
def Stands (t : ByteArray) (k : Nat) (m : ByteArray) : Prop := k + m.size ≤ t.size ∧ t.extract k (k + m.size) = m
theorem mkStrs_size : ∀ j, j < 21 → (mkStrs.getD j ByteArray.empty).size = if j < 5 then 2 else 1 := by decide
theorem mk_size {j : Nat} {m : ByteArray} (h : mkStrs[j]? = some m) : m.size = if j < 5 then 2 else 1 := by
 have hj : j < 21 := (List.getElem?_eq_some_iff.1 h).1
 have := mkStrs_size j hj
 rw [List.getD_eq_getElem?_getD, h] at this
 exact this
theorem mkIs_some {l : List UInt8} (h : mkIs l = true) : ∃ (j : Nat) (m : ByteArray), mkStrs[j]? = some m ∧ m.data.toList = l := by
 unfold mkIs at h
 rw [List.any_eq_true] at h
 obtain ⟨p, hp, he⟩ := h
 obtain ⟨j, hj, e⟩ := List.getElem_of_mem hp
 refine ⟨j, ⟨p.1.toArray⟩, ?_, ?_⟩
 ·simp [mkStrs, hj, e]
 ·simpa using he
theorem stands_take {t : ByteArray} {k n : Nat} {m : ByteArray} (hk : k ≤ t.size) (hn : n ≤ t.size - k) (h : m.data.toList = (t.extract k t.size).data.toList.take n) : m.size = n ∧ Stands t k m := by
 have hs : m.size = n := by
  have := congrArg List.length h
  rw [rest_bytes] at this
  simp at this
  omega
 refine ⟨hs, by omega, ?_⟩
 apply str_ext
 rw [bytes_ext, h, rest_bytes, hs, List.take_drop]
theorem stands_is {t : ByteArray} {k j : Nat} {m : ByteArray} (hm : mkStrs[j]? = some m) (h : Stands t k m) : mkIs ((t.extract k t.size).data.toList.take m.size) = true := by
 refine mkIs_at hm ?_
 rw [ByteArray.toList_eq, rest_bytes, List.take_drop, ← bytes_ext, h.2]
theorem mkSz_not {t : ByteArray} {k : Nat} (hk : k ≤ t.size) (h : ∀ (j : Nat) (m : ByteArray), mkStrs[j]? = some m → ¬ Stands t k m) : mkSz (t.extract k t.size) = 0 := by
 unfold mkSz
 rw [rest_size, if_neg, if_neg]
 ·rintro ⟨h1, h2⟩
  obtain ⟨j, m, hm, he⟩ := mkIs_some h2
  exact h j m hm (stands_take hk h1 he).2
 ·rintro ⟨h1, h2⟩
  obtain ⟨j, m, hm, he⟩ := mkIs_some h2
  exact h j m hm (stands_take hk h1 he).2
theorem mkSz_first {t : ByteArray} {k i : Nat} {m : ByteArray} (hk : k ≤ t.size) (h : ∀ (j : Nat) (m : ByteArray), j < i → mkStrs[j]? = some m → ¬ Stands t k m) (hm : mkStrs[i]? = some m) (hst : Stands t k m) : mkSz (t.extract k t.size) = m.size := by
 have hs := mk_size hm
 have hi := stands_is hm hst
 have hle := hst.1
 unfold mkSz
 rw [rest_size]
 by_cases h5 : i < 5
 ·rw [if_pos h5] at hs
  rw [hs] at hi ⊢
  rw [if_pos ⟨by omega, hi⟩]
 ·rw [if_neg h5] at hs
  rw [hs] at hi ⊢
  rw [if_neg, if_pos ⟨by omega, hi⟩]
  rintro ⟨h1, h2⟩
  obtain ⟨j, m2, hm2, he⟩ := mkIs_some h2
  obtain ⟨hs2, hst2⟩ := stands_take hk h1 he
  have hj := mk_size hm2
  rw [hs2] at hj
  by_cases hj5 : j < 5
  ·exact h j m2 (by omega) hm2 hst2
  ·rw [if_neg hj5] at hj
   omega
theorem sMarkAt_any (t : ByteArray) (k : Nat) (w : World) (hs : t.size ≤ 4194304) (hk : k < t.size) :
  Calls Tryz.prog 136 #[.string t, .int .i64 k] w fun e w' => e = .returned (.string (t.extract k (k + mkSz (t.extract k t.size)))) ∧ Below w.heap.size w w' := by
 go_enter Tryz.func136, Tryz.ntmps136
 go_wp2_with fail
 refine (sMarks_any _).mono ?_
 rintro e w1 ⟨hb, v, rfl, ho⟩
 rw [mkStrs_len] at ho
 rcases ho.2 with ⟨_, e⟩ | ⟨g, cap, cur, rfl, _⟩
 ·omega
 go_wp2
 go_loopw [6] (fun i wr => ∃ (j q : Nat), j ≤ 21 ∧ i = .int .i64 j ∧ wr = w1.drewN q ∧ Hid (∀ (n : Nat) (m : ByteArray), n < j → mkStrs[n]? = some m → ¬ Stands t k m)) (fun i _ => 21 - (intOf i).toNat)
 case atStart => exact ⟨0, 0, by omega, rfl, rfl, hidOf fun n m h => by omega⟩
 case round =>
  obtain ⟨j, q, hj, rfl, rfl, HB⟩ := hrel
  by_cases hlt : j < 21
  ·obtain ⟨m, hm⟩ : ∃ m, mkStrs[j]? = some m := ⟨_, List.getElem?_eq_getElem (by rw [mkStrs_len]; exact hlt)⟩
   have hc := ho.cellAt j (by omega)
   rw [show (strVals mkStrs)[j]? = some (.string m) by simp [strVals, hm]] at hc
   have hmsz : m.size ≤ 2 := by have := mk_size hm; split at this <;> omega
   have HM := hidOf hm
   clear hm
   have hA : (0 : Int) ≤ (j : Int) := by omega
   have hB : (j : Int) < 21 := by omega
   by_cases hfit : k + m.size ≤ t.size
   ·have hfd : decide ((k : Int) + m.size ≤ (t.size : Int)) = true := by simp; omega
    have hfi : (k : Int) + m.size ≤ (t.size : Int) := by omega
    have hsl := str_slice (P := Tryz.prog) 9 t k (k + m.size) (k : Int) ((k : Int) + m.size) Tryz.underlying9 rfl (by omega) (by omega) hfit
    obtain ⟨u, hu⟩ : ∃ u, u = t.extract k (k + m.size) := ⟨_, rfl⟩
    rw [← hu] at hsl
    have HU := hidOf hu
    clear hu
    have hwr : IntKind.i64.wrap ((k : Int) + m.size) = (k : Int) + m.size := IntWalk.i64_in _ ⟨by omega, by omega⟩
    cases hE : (u.toList == m.toList)
    ·go_wp2
     go_quiet (fail)
     go_wp2
     go_roundw
     case rel => exact ⟨j + 1, q + nq, by omega, by go_num, rfl, hidOf fun n m' h1 h2 => by
      by_cases e : n = j
      ·subst e
       have := HM.out
       rw [h2] at this
       cases this
       intro h
       have h3 := h.2
       rw [← HU.out] at h3
       rw [h3] at hE
       simp at hE
      ·exact HB.out n m' (by omega) h2⟩
     case measure => simp [intOf]; omega
    ·go_wp2
     go_quiet (fail)
     go_wp2
     go_ret
     have hum : u = m := by rw [str_beq, decide_eq_true_eq] at hE; exact hE
     have hst : Stands t k m := ⟨hfit, by rw [← HU.out]; exact hum⟩
     refine ⟨ret_str ?_, bel_drewN hb _⟩
     rw [mkSz_first (by omega) HB.out HM.out hst]
     exact hst.2.symm
   ·have hfd : decide ((k : Int) + m.size ≤ (t.size : Int)) = false := by simp; omega
    have hwr : IntKind.i64.wrap ((k : Int) + m.size) = (k : Int) + m.size := IntWalk.i64_in _ ⟨by omega, by omega⟩
    go_wp2
    go_quiet (fail)
    go_wp2
    go_roundw
    case rel => exact ⟨j + 1, q + nq, by omega, by go_num, rfl, hidOf fun n m' h1 h2 => by
     by_cases e : n = j
     ·subst e
      have := HM.out
      rw [h2] at this
      cases this
      exact fun h => hfit h.1
     ·exact HB.out n m' (by omega) h2⟩
    case measure => simp [intOf]; omega
  ·go_wp2
   go_ret
   refine ⟨ret_str ?_, bel_drewN hb _⟩
   rw [mkSz_not (by omega) (fun n m h => HB.out n m (by have := (List.getElem?_eq_some_iff.1 h).1; rw [mkStrs_len] at this; omega) h)]
   apply str_ext
   rw [bytes_ext]
   simp
set_option maxHeartbeats 1600000 in
theorem sTrim_any (s : ByteArray) (w : World) (hs : s.size ≤ 4194304) :
  Calls Tryz.prog 132 #[.string s] w fun e w' => e = .returned (.string (trimB s)) ∧ w' = w := by
 have hby := by8_at s
 go_enter Tryz.func132, Tryz.ntmps132
 go_wp2
 go_loop [3] (fun i => ∃ k : Nat, k ≤ s.size ∧ i = .int .i64 k ∧ Hid (∀ j, k ≤ j → j < s.size → by8 s j = 32)) (fun i => (intOf i).toNat)
 case atStart => exact ⟨s.size, Nat.le_refl _, rfl, fun j h1 h2 => by omega⟩
 case round =>
  obtain ⟨k, hk, rfl, HB⟩ := hrel
  cases k with
  | zero =>
   have hsl := str_to (P := Tryz.prog) 9 s 0 (0 : Int) Tryz.underlying9 rfl (Nat.zero_le _)
   go_wp2
   go_ret
   exact ⟨ret_str (by have h := trimB_is (Nat.zero_le _) HB.out (fun h => by omega); rw [← h]; simp), rfl⟩
  | succ k =>
   have hr := by8_range s k
   by_cases h32 : by8 s k = 32
   ·have h32' : (by8 s k == 32) = true := by simp [h32]
    have H32 := hidOf h32
    clear h32
    go_wp2
    go_round
    case rel => exact ⟨k, by omega, by go_num, hidOf fun j h1 h2 => by
     by_cases e : j = k
     ·subst e; exact H32.out
     ·exact HB.out j (by omega) h2⟩
    case measure => simp [intOf]
   ·have h32' : (by8 s k == 32) = false := by rw [beq_eq_false_iff_ne]; exact h32
    have H32 := hidOf h32
    clear h32
    have hsl := str_to (P := Tryz.prog) 9 s (k + 1) ((k : Int) + 1) Tryz.underlying9 (by omega) hk
    go_wp2
    go_ret
    exact ⟨ret_str (trimB_is hk HB.out (fun _ => by simpa using H32.out)), rfl⟩
theorem results_agg4 {P : Program} {fn : Func} {p u : Tmp} {ty : TypeId} (h : fn.results = #[.cell p ty, .tmp u]) (tmps : Array Value) (w : World) (g : Nat) (c0 c1 c2 c3 : Value) (d : TypeDesc)
  (hp : tmps.getD p undef = .pointer (some ⟨g, 0, none⟩)) (h0 : w.cell? ⟨g, 0, none⟩ = some c0) (h1 : w.cell? ⟨g, 1, none⟩ = some c1) (h2 : w.cell? ⟨g, 2, none⟩ = some c2) (h3 : w.cell? ⟨g, 3, none⟩ = some c3)
  (hu : P.underlying ty = some d) (hd : d.isRow = true) (hi : (P.info? ty).map (·.size) = some 4) :
  (results fn tmps).run P w = .ok (.tuple #[.agg #[c0, c1, c2, c3], tmps.getD u undef]) w := by
 have hr : w.rangeAt g 0 [c0, c1, c2, c3] := by
  intro j v hv
  match j with
  | 0 => simpa using h0.trans hv
  | 1 => simpa using h1.trans hv
  | 2 => simpa using h2.trans hv
  | 3 => simpa using h3.trans hv
  | j + 4 => simp at hv
 rw [results_cell_tmp h, hp]
 simp only [asAddr, Sem.run_pure, Result.andThen_ok]
 rw [run_loadVar_mid w g 0 ty [c0, c1, c2, c3] d hr hu hd (by simpa using hi)]
 rfl
def SgAnsOk (t : ByteArray) (k : Nat) (kd : Int) (x : ByteArray) (n : Nat) : Prop :=
 ((hd (t.extract k t.size)).2 = 0 ∧ n = 0) ∨
 ((hd (t.extract k t.size)).2 ≠ 0 ∧ kd = (hd (t.extract k t.size)).1 ∧ x = t.extract k (k + (hd (t.extract k t.size)).2) ∧ (hd (t.extract k t.size)).2 ≤ n ∧ k + n ≤ t.size ∧ ∀ j, (hd (t.extract k t.size)).2 ≤ j → j < n → by8 t (k + j) = 32)
theorem sgOk_same {t : ByteArray} {k n : Nat} {kd : Int} (h : hd (t.extract k t.size) = (kd, n)) (hk : k ≤ t.size) : SgAnsOk t k kd (t.extract k (k + n)) n := by
 have hl := hd_le (t.extract k t.size)
 rw [rest_size, h] at hl
 simp only at hl
 unfold SgAnsOk
 rw [h]
 by_cases hn : n = 0
 ·exact .inl ⟨hn, hn⟩
 ·exact .inr ⟨hn, rfl, rfl, Nat.le_refl _, by omega, fun j h1 h2 => by simp only at h1; omega⟩
theorem sgOk_none {t : ByteArray} {k : Nat} {kd : Int} {x : ByteArray} (h : (hd (t.extract k t.size)).2 = 0) : SgAnsOk t k kd x 0 := .inl ⟨h, rfl⟩
theorem spn_rest0 (p : Int → Bool) (t : ByteArray) (k : Nat) : spn p (t.extract k t.size) 0 = spn p t k := by rw [spn_rest, Nat.add_zero]
theorem by8_rest0 (t : ByteArray) (k : Nat) : by8 (t.extract k t.size) 0 = by8 t k := by rw [by8_rest, Nat.add_zero]
theorem ext_rest0 {t : ByteArray} {k n : Nat} (h : k + n ≤ t.size) : (t.extract k t.size).extract 0 n = t.extract k (k + n) := by
 rw [ext_rest, Nat.add_zero, Nat.min_eq_left h]
theorem sgOk_note {t : ByteArray} {k : Nat} (hk : k < t.size) (h : 0 < ntRaw t k) : SgAnsOk t k 5 (trimB (t.extract k (k + ntRaw t k))) (ntRaw t k) ∧ k + ntRaw t k ≤ t.size := by
 by_cases h47 : by8 t k = 47 ∧ by8 t (k + 1) = 47
 ·by_cases hbad : k + spn plaB t k < t.size ∧ by8 t (k + spn plaB t k) ≠ 10
  ·have : ntRaw t k = 0 := by unfold ntRaw; rw [if_pos h47, if_pos hbad]
   omega
  ·have e : ntRaw t k = spn plaB t k := by unfold ntRaw; rw [if_pos h47, if_neg hbad]
   have hle := spn_le (p := plaB) (s := t) (k := k) (by omega)
   rw [← e] at hle hbad
   have hz : ntSz (t.extract k t.size) = (trimB (t.extract k (k + ntRaw t k))).size := by
    unfold ntSz
    rw [spn_rest0, ← e, by8_rest, rest_size, if_neg (fun h => hbad ⟨by omega, h.2⟩), ext_rest0 hle]
   have hh : hd (t.extract k t.size) = (5, (trimB (t.extract k (k + ntRaw t k))).size) := by
    rw [hd_nt (by rw [by8_rest0, by8_rest]; exact h47), hz]
   obtain ⟨m, hm1, hm2, hm3, hm4⟩ := trimB_has (t.extract k (k + ntRaw t k))
   have hsz : (t.extract k (k + ntRaw t k)).size = ntRaw t k := by simp; omega
   rw [hsz] at hm1 hm4
   have hpos : m ≠ 0 := by
    intro e0
    have := hm4 0 (by omega) h
    rw [by8_ext (by omega), Nat.add_zero] at this
    omega
   refine ⟨.inr ?_, hle⟩
   rw [hh]
   refine ⟨by rw [hm3]; exact hpos, rfl, ?_, by rw [hm3]; exact hm1, hle, fun j h1 h2 => ?_⟩
   ·show trimB _ = t.extract k (k + (trimB (t.extract k (k + ntRaw t k))).size)
    rw [hm3, hm2]
    apply str_ext
    rw [bytes_ext, bytes_ext, bytes_ext, List.drop_zero, List.drop_take, List.drop_take, List.take_take]
    congr 1
    omega
   ·have h3 := hm4 j (by rw [hm3] at h1; exact h1) h2
    rw [by8_ext (by omega)] at h3
    exact h3
 ·have : ntRaw t k = 0 := by unfold ntRaw; rw [if_neg h47]
  omega
theorem mkPs_no47 : (mkPs.all fun p => p.1.head? != some 47) = true := by decide
theorem mkIs_no47 {l : List UInt8} (h : l.head? = some 47) : mkIs l = false := by
 unfold mkIs
 rw [List.any_eq_false]
 intro p hp he
 have h1 := List.all_eq_true.1 mkPs_no47 p hp
 have h2 : p.1 = l := by simpa using he
 rw [h2, h] at h1
 simp at h1
theorem by8_head {r : ByteArray} {c : UInt8} (hc : c ≠ 0) (h : by8 r 0 = (c.toNat : Int)) : ∀ n, 0 < n → (r.data.toList.take n).head? = some c := by
 intro n hn
 unfold by8 at h
 cases hl : r.data.toList with
 | nil =>
  rw [hl] at h
  have : c.toNat = 0 := by simp at h; omega
  exact absurd (UInt8.toNat_inj.1 (by rw [this]; rfl)) hc
 | cons u l =>
  rw [hl] at h
  simp only [List.getD_cons_zero] at h
  obtain ⟨m, rfl⟩ : ∃ m, n = m + 1 := ⟨n - 1, by omega⟩
  rw [List.take_succ_cons]
  simp only [List.head?_cons, Option.some.injEq]
  exact UInt8.toNat_inj.1 (by omega)
theorem mkSz_no47 {r : ByteArray} (h : by8 r 0 = 47) : mkSz r = 0 := by
 have hh := by8_head (r := r) (c := 47) (by decide) h
 unfold mkSz
 rw [if_neg (fun x => by rw [mkIs_no47 (hh 2 (by omega))] at x; exact absurd x.2 (by decide)), if_neg (fun x => by rw [mkIs_no47 (hh 1 (by omega))] at x; exact absurd x.2 (by decide))]
theorem sgOk_mark {t : ByteArray} {k : Nat} (hk : k < t.size) (hn : ntRaw t k = 0) (h1 : figB (by8 t k) = false) (h2 : firB (by8 t k) = false) (h3 : by8 t k ≠ 39) :
  SgAnsOk t k 4 (t.extract k (k + mkSz (t.extract k t.size))) (t.extract k (k + mkSz (t.extract k t.size))).size := by
 by_cases h47 : by8 t k = 47 ∧ by8 t (k + 1) = 47
 ·have hz : mkSz (t.extract k t.size) = 0 := mkSz_no47 (by rw [by8_rest0]; exact h47.1)
  have hh : hd (t.extract k t.size) = (5, ntSz (t.extract k t.size)) := hd_nt (by rw [by8_rest0, by8_rest]; exact h47)
  have hle := spn_le (p := plaB) (s := t) (k := k) (by omega)
  have h0 : ntSz (t.extract k t.size) = 0 := by
   unfold ntRaw at hn
   rw [if_pos h47] at hn
   unfold ntSz
   rw [spn_rest0, by8_rest, rest_size]
   by_cases hbad : k + spn plaB t k < t.size ∧ by8 t (k + spn plaB t k) ≠ 10
   ·rw [if_pos ⟨by omega, hbad.2⟩]
   ·rw [if_neg hbad] at hn
    have : 0 < spn plaB t k := (spn_pos hk).2 (by rw [h47.1]; decide)
    omega
  have hsz : (t.extract k (k + mkSz (t.extract k t.size))).size = 0 := by rw [hz]; simp
  rw [hsz]
  exact sgOk_none (by rw [hh]; exact h0)
 ·have hh : hd (t.extract k t.size) = (4, mkSz (t.extract k t.size)) := hd_mk (by rw [by8_rest0]; exact h1) (by rw [by8_rest0]; exact h2) (by rw [by8_rest0]; exact h3) (by rw [by8_rest0, by8_rest]; exact h47)
  have hl := hd_le (t.extract k t.size)
  rw [rest_size, hh] at hl
  simp only at hl
  have hsz : (t.extract k (k + mkSz (t.extract k t.size))).size = mkSz (t.extract k t.size) := by simp; omega
  rw [hsz]
  exact sgOk_same hh (by omega)
end Go.Proofs.YtcbbnphpkgifoaaGreatDoor
