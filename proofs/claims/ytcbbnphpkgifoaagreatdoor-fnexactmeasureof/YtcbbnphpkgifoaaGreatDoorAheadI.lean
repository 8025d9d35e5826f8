/- What impl.signAhead and what it calls answer. -/
import Derived.Test.YtcbbnphpkgifoaaGreatDoorKaq
namespace Go.Proofs.YtcbbnphpkgifoaaGreatDoor
set_option maxHeartbeats 4000000
open Go.RowKit Go.Maps Go.WideMaps
theorem pre1_is (r : ByteArray) (c : UInt8) (hc : c ≠ 0) : Lib.hasPrefix r.data.toList [c] = (by8 r 0 == (c.toNat : Int)) := by
 unfold Lib.hasPrefix by8
 have hz : c.toNat ≠ 0 := fun h => hc (UInt8.toNat_inj.1 (by rw [h]; rfl))
 cases r.data.toList with
 | nil =>
  have e : ((0 : Int) == (c.toNat : Int)) = false := by rw [beq_eq_false_iff_ne]; omega
  simpa using e
 | cons u l =>
  rw [Bool.eq_iff_iff]
  simp only [List.isPrefixOf, Bool.and_true, beq_iff_eq, List.getD_cons_zero]
  constructor
  ·rintro rfl; rfl
  ·intro h
   exact UInt8.toNat_inj.1 (by omega)
theorem pre2_is (r : ByteArray) : Lib.hasPrefix r.data.toList [47, 47] = ((by8 r 0 == 47) && (by8 r 1 == 47)) := by
 unfold Lib.hasPrefix by8
 have key : ∀ u : UInt8, ((47 : UInt8) == u) = ((u.toNat : Int) == 47) := fun u => by
  rw [Bool.eq_iff_iff]
  simp only [beq_iff_eq]
  constructor
  ·rintro rfl; rfl
  ·intro h
   exact UInt8.toNat_inj.1 (by rw [show u.toNat = 47 by omega]; rfl)
 match r.data.toList with
 | [] => rfl
 | [u] => simp [List.isPrefixOf]
 | u :: v :: l =>
  simp only [List.isPrefixOf, Bool.and_true, List.getD_cons_zero, List.getD_cons_succ, key]
theorem has_any (s p : ByteArray) (w : World) : Calls Tryz.prog 149 #[.string s, .string p] w fun e w' => e = .returned (.bool (Lib.hasPrefix s.data.toList p.data.toList)) ∧ w' = w := Tryz.strings_HasPrefix s p w
theorem ln_clone (s : ByteArray) (w : World) (h : s.size ≤ 4194304) :
  Calls Tryz.prog 68 #[.string s] w fun e w' => e = .returned (.string s) ∧ Below w.heap.size w w' := by
 go_enter Tryz.func68, Tryz.ntmps68
 go_wp2_with fail
 refine (Tryz.stringslite_Clone s _ (by omega)).mono ?_
 rintro e w1 ⟨rfl, hb⟩
 go_wp2
 go_ret
 exact ⟨rfl, hb⟩
theorem right_any (s : ByteArray) (w : World) (hs : s.size ≤ 4194304) :
  Calls Tryz.prog 232 #[.string s, .string ⟨#[32]⟩] w fun e w' => e = .returned (.string (trimB s)) ∧ w' = w :=
 Tryz.strings_TrimRight_one s 32 (by decide) w (by omega)
theorem iTrim_any (s : ByteArray) (w : World) (hs : s.size ≤ 4194304) :
  Calls Tryz.prog 191 #[.string s] w fun e w' => e = .returned (.string (trimB s)) ∧ Below w.heap.size w w' := by
 have ht := trimB_size s
 go_enter Tryz.func191, Tryz.ntmps191
 go_wp2_with fail
 refine (right_any s _ hs).mono ?_
 rintro e w ⟨rfl, rfl⟩
 go_wp2_with fail
 refine (ln_clone (trimB s) _ (by omega)).mono ?_
 rintro e w1 ⟨rfl, hb⟩
 go_wp2
 go_ret
 exact ⟨rfl, hb⟩
theorem upTo_any (m n : Nat) (w : World) :
  Calls Tryz.prog 147 #[.int .i64 m, .int .i64 n] w fun e w' => e = .returned (.int .i64 (capN m n)) ∧ w' = w := by
 by_cases h : m < n
 ·have hc : capN m n = 0 := by unfold capN; rw [if_pos h]
  rw [hc]
  go_enter Tryz.func147, Tryz.ntmps147
  go_wp2
  go_ret
  exact ⟨rfl, rfl⟩
 ·have hc : capN m n = n := by unfold capN; rw [if_neg h]
  rw [hc]
  go_enter Tryz.func147, Tryz.ntmps147
  go_wp2
  go_ret
  exact ⟨rfl, rfl⟩
theorem textSz_any (r : ByteArray) (w : World) (hs : r.size ≤ 4194304) (h0 : 0 < r.size) :
  Calls Tryz.prog 150 #[.string r] w fun e w' => e = .returned (.int .i64 (qtSz r)) ∧ Below w.heap.size w w' := by
 have hS := span_tex (r.extract 1 r.size) w (by simp; omega)
 rw [spn_rest, Nat.add_zero] at hS
 have hle := spn_le (p := texB) (s := r) (k := 1) (by omega)
 obtain ⟨n, hn⟩ : ∃ n, n = spn texB r 1 := ⟨_, rfl⟩
 have hq : qtSz r = if (by8 r (1 + n) == 39) = true then 1 + n + 1 else 0 := by
  unfold qtSz
  rw [← hn]
  by_cases e : by8 r (1 + n) = 39
  ·have hl : 1 + n < r.size := by
    rcases Nat.lt_or_ge (1 + n) r.size with h | h
    ·exact h
    ·rw [by8_past h] at e
     omega
   rw [if_pos ⟨hl, e⟩, if_pos (by simpa using e)]
  ·rw [if_neg (fun h => e h.2), if_neg (by simpa using e)]
 rw [← hn] at hS hle
 have h1 := str_from (P := Tryz.prog) 9 r 1 (1 : Int) Tryz.underlying9 rfl (by omega)
 have h2 := str_from (P := Tryz.prog) 9 r (1 + n) (1 + (n : Int)) Tryz.underlying9 (by omega) (by omega)
 have hP := fun W => has_any (r.extract (1 + n) r.size) ⟨#[39]⟩ W
 rw [show (⟨#[39]⟩ : ByteArray).data.toList = [39] from rfl, pre1_is _ _ (by decide), by8_rest, Nat.add_zero, show ((UInt8.toNat 39 : Nat) : Int) = 39 from rfl] at hP
 have HQ := hidOf hq
 clear hq hn
 go_enter Tryz.func150, Tryz.ntmps150
 go_wp2_with fail
 refine hS.mono ?_
 rintro e w1 ⟨rfl, hb⟩
 go_wp2_with fail
 refine (hP _).mono ?_
 cases hE : (by8 r (1 + n) == 39)
 ·rintro e w1 ⟨rfl, rfl⟩
  go_wp2
  go_ret
  exact ⟨ret_int (by rw [HQ.out, hE]; rfl), hb⟩
 ·rintro e w1 ⟨rfl, rfl⟩
  go_wp2
  go_ret
  exact ⟨ret_int (by rw [HQ.out, hE, if_pos rfl]; omega), hb⟩
theorem noteSz_any (r : ByteArray) (w : World) (hs : r.size ≤ 4194304) :
  Calls Tryz.prog 151 #[.string r] w fun e w' => e = .returned (.int .i64 (ntSz r)) ∧ Below w.heap.size w w' := by
 have hS := span_pla r w hs
 have hle := spn_le (p := plaB) (s := r) (k := 0) (by omega)
 obtain ⟨n, hn⟩ : ∃ n, n = spn plaB r 0 := ⟨_, rfl⟩
 have hq : ntSz r = if n < r.size ∧ by8 r n ≠ 10 then 0 else (trimB (r.extract 0 n)).size := by
  unfold ntSz
  rw [← hn]
 rw [← hn] at hS hle
 have h1 := str_to (P := Tryz.prog) 9 r n (n : Int) Tryz.underlying9 rfl (by omega)
 have h2 := str_from (P := Tryz.prog) 9 r n (n : Int) Tryz.underlying9 rfl (by omega)
 have hP := fun W => has_any (r.extract n r.size) ⟨#[10]⟩ W
 rw [show (⟨#[10]⟩ : ByteArray).data.toList = [10] from rfl, pre1_is _ _ (by decide), by8_rest, Nat.add_zero, show ((UInt8.toNat 10 : Nat) : Int) = 10 from rfl] at hP
 have hT := fun W => iTrim_any (r.extract 0 n) W (by simp; omega)
 have hts := trimB_size (r.extract 0 n)
 obtain ⟨u, hu⟩ : ∃ u, u = trimB (r.extract 0 n) := ⟨_, rfl⟩
 rw [← hu] at hT hq hts
 have HQ := hidOf hq
 have hus : u.size ≤ 4194304 := by simp at hts; omega
 clear hq hn hu hts
 by_cases hlt : n < r.size
 ·go_enter Tryz.func151, Tryz.ntmps151
  go_wp2_with fail
  refine hS.mono ?_
  rintro e w1 ⟨rfl, hb⟩
  go_wp2_with fail
  refine (hP _).mono ?_
  cases hE : (by8 r n == 10)
  ·rintro e w1 ⟨rfl, rfl⟩
   go_wp2
   go_ret
   exact ⟨ret_int (by rw [HQ.out, if_pos ⟨hlt, by simpa using hE⟩]; rfl), hb⟩
  ·rintro e w1 ⟨rfl, rfl⟩
   go_wp2_with fail
   refine (hT _).mono ?_
   rintro e w2 ⟨rfl, hb2⟩
   go_wp2
   go_ret
   exact ⟨ret_int (by rw [HQ.out, if_neg (fun h => h.2 (by simpa using hE))]), hb.trans (hb2.mono hb.size)⟩
 ·go_enter Tryz.func151, Tryz.ntmps151
  go_wp2_with fail
  refine hS.mono ?_
  rintro e w1 ⟨rfl, hb⟩
  go_wp2_with fail
  refine (hT _).mono ?_
  rintro e w2 ⟨rfl, hb2⟩
  go_wp2
  go_ret
  exact ⟨ret_int (by rw [HQ.out, if_neg (fun h => hlt h.1)]), hb.trans (hb2.mono hb.size)⟩
def mkTo (r : ByteArray) : Nat → Nat
 | 0 => 0
 | k + 1 => if mkIs (r.data.toList.take (k + 1)) = true then k + 1 else mkTo r k
theorem mkSz_to (r : ByteArray) : mkSz r = mkTo r (min 2 r.size) := by
 unfold mkSz
 by_cases h2 : 2 ≤ r.size
 ·rw [Nat.min_eq_left h2, mkTo, mkTo, mkTo]
  by_cases e2 : mkIs (r.data.toList.take 2) = true
  ·rw [if_pos ⟨h2, e2⟩, if_pos e2]
  ·rw [if_neg (fun h => e2 h.2), if_neg e2]
   by_cases e1 : mkIs (r.data.toList.take 1) = true
   ·rw [if_pos ⟨by omega, e1⟩, if_pos e1]
   ·rw [if_neg (fun h => e1 h.2), if_neg e1]
 ·rw [if_neg (fun h => h2 h.1), Nat.min_eq_right (by omega)]
  by_cases h1 : 1 ≤ r.size
  ·rw [show r.size = 0 + 1 by omega, mkTo, mkTo]
   by_cases e1 : mkIs (r.data.toList.take 1) = true
   ·rw [if_pos ⟨by omega, e1⟩, if_pos e1]
   ·rw [if_neg (fun h => e1 h.2), if_neg e1]
  ·rw [if_neg (fun h => h1 h.1), show r.size = 0 by omega]
   rfl
theorem markSz_any (r : ByteArray) (b : Nat) (w : World) (hs : r.size ≤ 4194304) (hM : MkMap Tryz.prog w 9 3 b) :
  Calls Tryz.prog 152 #[.string r, .map (some b)] w fun e w' => e = .returned (.int .i64 (mkSz r)) ∧ w' = w := by
 obtain ⟨nn, D, ho, hat⟩ := hM
 obtain ⟨m, hm⟩ : ∃ m, m = min 2 r.size := ⟨_, rfl⟩
 have hmi : min (2 : Int) (r.size : Int) = (m : Int) := by omega
 have hq := mkSz_to r
 rw [← hm] at hq
 have hm2 : m ≤ r.size ∧ m ≤ 2 := by omega
 have HQ := hidOf hq
 clear hq hm
 go_enter Tryz.func152, Tryz.ntmps152
 go_wp2
 go_loop [5] (fun i => ∃ k : Nat, k ≤ m ∧ i = .int .i64 k ∧ Hid (mkSz r = mkTo r k)) (fun i => (intOf i).toNat)
 case atStart => exact ⟨m, Nat.le_refl _, rfl, HQ⟩
 case round =>
  obtain ⟨k, hk, rfl, HB⟩ := hrel
  cases k with
  | zero =>
   go_wp2
   go_ret
   exact ⟨ret_int (by rw [HB.out]; rfl), rfl⟩
  | succ k =>
   have hsl := str_to (P := Tryz.prog) 9 r (k + 1) ((k : Int) + 1) Tryz.underlying9 (by omega) (by omega)
   have hb8 : (r.extract 0 (k + 1)).data.toList = r.data.toList.take (k + 1) := by rw [bytes_ext, List.drop_zero]
   have hss : (r.extract 0 (k + 1)).size ≤ maxLen := by unfold maxLen; simp; omega
   obtain ⟨u, hu⟩ : ∃ u, u = r.extract 0 (k + 1) := ⟨_, rfl⟩
   rw [← hu] at hsl hb8 hss
   have HU := hidOf hb8
   clear hu hb8
   go_wp2_with (first | (at_lookup; refine wpList_lookup_own_int _ rfl _ _ 152 rfl 9 3 .i64 keyLaw Tryz.underlying152 Tryz.underlying3 (zeroInt _) b nn D rfl ho _ _ rfl (keyOf_string_mk Tryz.underlying9 hss) ?_; intro c hc hwc; rw [hat, HU.out] at hc; obtain rfl : mkAt (r.data.toList.take (k + 1)) = c := by simpa using hc) | go_in)
   ·rename_i hpos _
    go_ret
    exact ⟨ret_int (by rw [HB.out, mkTo, if_pos ((mkAt_pos _).1 hpos)]; rfl), rfl⟩
   ·rename_i hneg
    refine ⟨⟨k, by omega, rfl, hidOf ?_⟩, ?_⟩
    ·rw [HB.out, mkTo, if_neg (fun h => by have := (mkAt_pos _).2 h; omega)]
    ·simp [intOf]
theorem ahead_any (r : ByteArray) (b : Nat) (w : World) (hs : r.size ≤ 4194304) (h0 : 0 < r.size) (hM : MkMap Tryz.prog w 9 3 b) :
  Calls Tryz.prog 103 #[.string r, .map (some b)] w fun e w' => e = .returned (.tuple #[.int .i64 (hd r).1, .int .i64 (hd r).2]) ∧ Below w.heap.size w w' := by
 have hF := span_fig r w hs
 have hpf := spn_pos (p := figB) (s := r) (k := 0) h0
 have hlf := spn_le (p := figB) (s := r) (k := 0) (by omega)
 have hpn := spn_pos (p := namB) (s := r) (k := 0) h0
 have hln := spn_le (p := namB) (s := r) (k := 0) (by omega)
 cases hf : figB (by8 r 0)
 ·rw [hf] at hpf
  have hz : spn figB r 0 = 0 := by simpa using hpf
  rw [hz] at hF
  have hnf : namB (by8 r 0) = firB (by8 r 0) := by unfold namB; rw [hf, Bool.or_false]
  rw [hnf] at hpn
  cases hn : firB (by8 r 0)
  ·rw [hn] at hpn
   have hzn : spn namB r 0 = 0 := by simpa using hpn
   have hN := fun W => span_nam r W hs
   rw [hzn] at hN
   have hP1 := fun W => has_any r ⟨#[39]⟩ W
   rw [show (⟨#[39]⟩ : ByteArray).data.toList = [39] from rfl, pre1_is _ _ (by decide), show ((UInt8.toNat 39 : Nat) : Int) = 39 from rfl] at hP1
   have hP2 := fun W => has_any r ⟨#[47, 47]⟩ W
   rw [show (⟨#[47, 47]⟩ : ByteArray).data.toList = [47, 47] from rfl, pre2_is] at hP2
   cases hq : (by8 r 0 == 39)
   ·have hq' : by8 r 0 ≠ 39 := by simpa using hq
    rw [hq] at hP1
    cases hnt : ((by8 r 0 == 47) && (by8 r 1 == 47))
    ·have hnt' : ¬ (by8 r 0 = 47 ∧ by8 r 1 = 47) := by
      intro h
      simp [h.1, h.2] at hnt
     rw [hnt] at hP2
     rw [hd_mk hf hn hq' hnt']
     clear hf hn hq hq' hnt hnt' hz hzn hpf hpn hlf hln hnf
     go_enter Tryz.func103, Tryz.ntmps103
     go_wp2_with fail
     refine hF.mono ?_
     rintro e w1 ⟨rfl, hb1⟩
     go_wp2_with fail
     refine (hN _).mono ?_
     rintro e w2 ⟨rfl, hb2⟩
     have B2 := hb1.trans (hb2.mono hb1.size)
     go_wp2_with fail
     refine (hP1 _).mono ?_
     rintro e w2 ⟨rfl, rfl⟩
     go_wp2_with fail
     refine (hP2 _).mono ?_
     rintro e w2 ⟨rfl, rfl⟩
     go_wp2_with fail
     refine (markSz_any r b _ hs (hM.below B2)).mono ?_
     rintro e w2 ⟨rfl, rfl⟩
     go_wp2
     go_ret2
     exact ⟨rfl, B2⟩
    ·have hnt' : by8 r 0 = 47 ∧ by8 r 1 = 47 := by simpa using hnt
     rw [hnt] at hP2
     rw [hd_nt hnt']
     clear hf hn hq hq' hnt hnt' hz hzn hpf hpn hlf hln hnf
     go_enter Tryz.func103, Tryz.ntmps103
     go_wp2_with fail
     refine hF.mono ?_
     rintro e w1 ⟨rfl, hb1⟩
     go_wp2_with fail
     refine (hN _).mono ?_
     rintro e w2 ⟨rfl, hb2⟩
     have B2 := hb1.trans (hb2.mono hb1.size)
     go_wp2_with fail
     refine (hP1 _).mono ?_
     rintro e w2 ⟨rfl, rfl⟩
     go_wp2_with fail
     refine (hP2 _).mono ?_
     rintro e w2 ⟨rfl, rfl⟩
     go_wp2_with fail
     refine (noteSz_any r _ hs).mono ?_
     rintro e w3 ⟨rfl, hb3⟩
     go_wp2
     go_ret2
     exact ⟨rfl, B2.trans (hb3.mono B2.size)⟩
   ·have hq' : by8 r 0 = 39 := by simpa using hq
    rw [hq] at hP1
    rw [hd_qt hf hn hq']
    clear hf hn hq hq' hz hzn hpf hpn hlf hln hnf hP2
    go_enter Tryz.func103, Tryz.ntmps103
    go_wp2_with fail
    refine hF.mono ?_
    rintro e w1 ⟨rfl, hb1⟩
    go_wp2_with fail
    refine (hN _).mono ?_
    rintro e w2 ⟨rfl, hb2⟩
    have B2 := hb1.trans (hb2.mono hb1.size)
    go_wp2_with fail
    refine (hP1 _).mono ?_
    rintro e w2 ⟨rfl, rfl⟩
    go_wp2_with fail
    refine (textSz_any r _ hs h0).mono ?_
    rintro e w3 ⟨rfl, hb3⟩
    go_wp2
    go_ret2
    exact ⟨rfl, B2.trans (hb3.mono B2.size)⟩
  ·rw [hn] at hpn
   have hzn : 0 < spn namB r 0 := by simpa using hpn
   have hN := fun W => span_nam r W hs
   rw [hd_nam hf hn]
   obtain ⟨n, en⟩ : ∃ n, n = spn namB r 0 := ⟨_, rfl⟩
   rw [← en] at hN hzn hln ⊢
   have hU := fun W => upTo_any 30 n W
   obtain ⟨c, ec⟩ : ∃ c, c = capN 30 n := ⟨_, rfl⟩
   rw [← ec] at hU ⊢
   clear hf hn hz hpf hpn hlf hnf en ec
   go_enter Tryz.func103, Tryz.ntmps103
   go_wp2_with fail
   refine hF.mono ?_
   rintro e w1 ⟨rfl, hb1⟩
   go_wp2_with fail
   refine (hN _).mono ?_
   rintro e w2 ⟨rfl, hb2⟩
   have B2 := hb1.trans (hb2.mono hb1.size)
   go_wp2_with fail
   refine (hU _).mono ?_
   rintro e w2 ⟨rfl, rfl⟩
   go_wp2
   go_ret2
   exact ⟨rfl, B2⟩
 ·rw [hf] at hpf
  have hz : 0 < spn figB r 0 := by simpa using hpf
  rw [hd_fig hf]
  obtain ⟨n, en⟩ : ∃ n, n = spn figB r 0 := ⟨_, rfl⟩
  rw [← en] at hF hz hlf ⊢
  have hU := fun W => upTo_any 12 n W
  obtain ⟨c, ec⟩ : ∃ c, c = capN 12 n := ⟨_, rfl⟩
  rw [← ec] at hU ⊢
  clear hf hpf hpn hln en ec
  go_enter Tryz.func103, Tryz.ntmps103
  go_wp2_with fail
  refine hF.mono ?_
  rintro e w1 ⟨rfl, hb1⟩
  go_wp2_with fail
  refine (hU _).mono ?_
  rintro e w2 ⟨rfl, rfl⟩
  go_wp2
  go_ret2
  exact ⟨rfl, hb1⟩
theorem empty_any (s : ByteArray) (w : World) : Calls Tryz.prog 104 #[.string s] w fun e w' => e = .returned (.bool (decide (1 < Lib.countByte s.data.toList 10))) ∧ w' = w := by
 have hC := fun W => Tryz.strings_Count_one s 10 W
 have hle : Lib.countByte s.data.toList 10 ≤ s.size := by
  unfold Lib.countByte
  have := List.count_le_length (a := (10 : UInt8)) (l := s.data.toList)
  simpa using this
 obtain ⟨n, en⟩ : ∃ n, n = Lib.countByte s.data.toList 10 := ⟨_, rfl⟩
 rw [← en] at hle ⊢
 simp only [← en] at hC
 clear en
 go_enter Tryz.func104, Tryz.ntmps104
 go_wp2_with fail
 refine (hC _).mono ?_
 rintro e w ⟨rfl, rfl⟩
 go_wp2
 go_ret
 refine ⟨ret_bool ?_, rfl⟩
 rw [Bool.eq_iff_iff]
 simp
 omega
end Go.Proofs.YtcbbnphpkgifoaaGreatDoor
