/- What Search answers, on both sides, whatever comes. -/
import Derived.Test.YtghfpcjgionbaaaGreatSeS
import Derived.Test.YtghfpcjgionbaaaGreatProg
import Derived.Test.YtghfpcjgionbaaaGreatKag
import Derived.BigQuiet
import Derived.Deep.QuietTactic
import Derived.Test.YtghfpcjgionbaaaGreatKaa
import Derived.Test.YtghfpcjgionbaaaGreatLib
import Derived.Lib.ItoaNum
import Derived.Test.YtghfpcjgionbaaaGreatChecked
namespace Go.Proofs.YtghfpcjgionbaaaGreat
open Go.RowKit

theorem none_own (w0 w : World) (h : w0.heap.size ≤ w.heap.size) : (w.alloc (.cells #[] 3)).ownsRow w0.heap.size 3 1 (.slice (some ⟨w.heap.size, 0, none⟩) 0 0) 0 [] :=
  ⟨rfl, .inr ⟨w.heap.size, 0, #[], rfl, h, heap_alloc_new w _, Nat.le_refl _, by unfold maxLen; omega, rfl, rfl⟩⟩

set_option maxHeartbeats 4000000 in
theorem sSearch_no (p : Pc) (l : Pl) (wd bud : Int) (w : World) (hF : PcFew p) (hp : PcIn w p l) (h1 : ¬ Right p) :
    Calls Tryz.prog 7 #[pcV p l, .int .i64 wd, .int .i64 bud] w fun e w' => SeAns ([], 0) w e w' := by
  show Calls _ _ #[.agg #[.int .i64 p.indent, .slice l.a1 p.rules.length l.c1, .slice l.a2 p.chunks.length l.c2, .slice l.a3 p.spans.length l.c3, .slice l.a4 p.ties.length l.c4], _, _] _ _
  obtain ⟨W0, hW0, X0, B0, S0⟩ := boxed w p l 37
  have qO := sOk_any p l W0 hF (hp.below B0 (Nat.le_refl _))
  unfold pcV at qO
  clear S0
  obtain ⟨-, c0, c1, c2, c3, c4⟩ := X0
  go_enter Tryz.func7, Tryz.ntmps7
  go_wp2_with fail
  rw [← hW0]
  clear hW0
  refine qO.mono ?_
  rintro e w1 hq
  obtain ⟨rfl, b1⟩ := hq.no h1
  have B1 := B0.trans (b1.mono B0.size)
  clear hq qO c0 c1 c2 c3 c4
  go_wp2
  go_ret2
  exact ⟨B1.alloc B1.size _, _, 0, rfl, none_own w w1 B1.size⟩

set_option maxHeartbeats 4000000 in
theorem iTold_no (p : Pc) (l : Pl) (wd bud : Int) (w : World) (hF : PcFew p) (hp : PcIn w p l) (h1 : ¬ Right p) :
    Calls Tryz.prog 39 #[pcV p l, .int .i64 wd, .int .i64 bud, .func (.func 40) #[] #[]] w fun e w' => SeAns ([], 0) w e w' := by
  show Calls _ _ #[.agg #[.int .i64 p.indent, .slice l.a1 p.rules.length l.c1, .slice l.a2 p.chunks.length l.c2, .slice l.a3 p.spans.length l.c3, .slice l.a4 p.ties.length l.c4], _, _, _] _ _
  obtain ⟨W0, hW0, X0, B0, S0⟩ := boxed w p l 37
  have qO := iOk_any p l W0 hF (hp.below B0 (Nat.le_refl _))
  unfold pcV at qO
  clear S0
  obtain ⟨-, c0, c1, c2, c3, c4⟩ := X0
  go_enter Tryz.func39, Tryz.ntmps39
  go_wp2
  rw [← hW0]
  clear hW0
  go_step3
  go_wp2_with fail
  refine qO.mono ?_
  rintro e w1 hq
  obtain ⟨rfl, b1⟩ := hq.no h1
  have B1 := B0.trans (b1.mono B0.size)
  clear hq qO c0 c1 c2 c3 c4
  go_wp2
  rw [Exit.noGoto_ret]
  go_ret2
  exact ⟨B1.alloc B1.size _, _, 0, rfl, none_own w w1 B1.size⟩

theorem iSearch_no (p : Pc) (l : Pl) (wd bud : Int) (w : World) (hF : PcFew p) (hp : PcIn w p l) (h1 : ¬ Right p) :
    Calls Tryz.prog 9 #[pcV p l, .int .i64 wd, .int .i64 bud] w fun e w' => SeAns ([], 0) w e w' := iSearch_of p l wd bud w _ hp (fun W hP => iTold_no p l wd bud W hF hP h1)

/-- Both sides' answer, whatever comes. -/
theorem search_key (p : Pc) (wd bud : Int) (hbd : -9223372036854775808 ≤ bud ∧ bud ≤ 9223372036854775807) (hF : PcFew p) : ∃ (ks : List Int) (s : Int), ks.length ≤ 8 ∧
    (∀ (l : Pl) (w : World), PcIn w p l → Calls Tryz.prog 7 #[pcV p l, .int .i64 wd, .int .i64 bud] w fun e w' => SeAns (ks, s) w e w') ∧
    (∀ (l : Pl) (w : World), p.chunks.length ≤ l.c2 → PcIn w p l → Calls Tryz.prog 9 #[pcV p l, .int .i64 wd, .int .i64 bud] w fun e w' => SeAns (ks, s) w e w') := by
  by_cases h1 : Right p
  · refine ⟨(srchOf p wd bud (allV p)).1, (srchOf p wd bud (allV p)).2, ?_, fun l w hp => sSearch_yes p l wd bud w hbd hF hp h1, fun l w hc hp => iSearch_yes p l wd bud w hbd hF hc hp h1⟩
    rw [(srchOf_some h1 (allR_ties h1)).1.vals.len]
    exact h1.rules.1
  · exact ⟨[], 0, by simp, fun l w hp => sSearch_no p l wd bud w hF hp h1, fun l w _ hp => iSearch_no p l wd bud w hF hp h1⟩
end Go.Proofs.YtghfpcjgionbaaaGreat
/- What the laws' helpers on lists of numbers do: eqIntS tells two lists alike, markIntS writes its marks, heldIntS finds them again. -/
namespace Go.Proofs.YtghfpcjgionbaaaGreat
open Go.RowKit

set_option maxHeartbeats 1600000 in
theorem eqInts_same (a1 a2 : Option Addr) (c1 c2 : Nat) (ks : List Int) (w : World) (hx0 : ks.length ≤ 4611686018427387904) (h1 : KidsAt w a1 ks) (h2 : KidsAt w a2 ks) :
    Calls Tryz.prog 10 #[.slice a1 ks.length c1, .slice a2 ks.length c2] w fun e w' => e = .returned (.bool true) ∧ Below w.heap.size w w' := by
  have hx := hx0
  clear hx0
  unfold KidsAt at h1 h2
  obtain ⟨n, hn⟩ : ∃ n, n = ks.length := ⟨_, rfl⟩
  rw [← hn] at h1 h2 hx
  rw [← hn]
  have HN := hidOf hn
  clear hn
  go_enter Tryz.func10, Tryz.ntmps10
  go_wp2
  go_loopw [5] (fun i wr => ∃ k q : Nat, k ≤ n ∧ i = .int .i64 k ∧ wr = w.drewN q) (fun i _ => n - (intOf i).toNat)
  case atStart => exact ⟨0, 0, Nat.zero_le _, rfl, rfl⟩
  case round =>
    obtain ⟨k, q, hk, rfl, rfl⟩ := hrel
    by_cases hlt : k < n
    · obtain ⟨x, ex⟩ : ∃ x, ks[k]? = some x := ⟨_, List.getElem?_eq_getElem (by rw [← HN.out]; exact hlt)⟩
      obtain ⟨b1, o1, rfl, hb1, hc1⟩ := h1 (by omega)
      obtain ⟨b2, o2, rfl, hb2, hc2⟩ := h2 (by omega)
      have p0 := hc1 k x ex
      have q0 := hc2 k x ex
      clear ex hc1 hc2 h1 h2
      have hm1 : (x != x) = false := by simp
      have hA : (0 : Int) ≤ (k : Int) := by omega
      have hB : (k : Int) < (n : Int) := by omega
      go_wp2
      go_quiet (fail)
      go_wp2
      go_roundw
      case rel => exact ⟨k + 1, q + nq, by omega, by go_num, rfl⟩
      case measure => simp [intOf]; omega
    · go_wp2
      go_ret
      exact ⟨rfl, below_drewN _ _⟩
end Go.Proofs.YtghfpcjgionbaaaGreat
/- What the laws' helpers on a list of numbers of one's own do: markIntS writes its marks, heldIntS finds them again. -/
namespace Go.Proofs.YtghfpcjgionbaaaGreat
open Go.RowKit

set_option maxHeartbeats 1600000 in
theorem markInts_any (a : Option Addr) (b n c k : Nat) (xs : List Value) (w : World) (hn : n ≤ 1048576) (hk : k ≤ 16777216) (hown : w.ownsRow b 3 1 (.slice a n c) n xs) :
    Calls Tryz.prog 13 #[.slice a n c, .int .i64 k] w fun e w' => e = .returned (.int .i64 ((k : Int) + n)) ∧ w'.ownsRow b 3 1 (.slice a n c) n (intVals (marksI k n)) ∧ w.grownBy w' (Value.slice a n c).ownBlock := by
  by_cases hz : n = 0
  · subst hz
    have hl : xs.length = 0 * 1 := hown.1
    have hx : xs = intVals (marksI k 0) := by rw [List.length_eq_zero_iff.1 (show xs.length = 0 by omega)]; rfl
    rw [hx] at hown
    have HO := hidOf hown
    clear hown hx hl
    go_enter Tryz.func13, Tryz.ntmps13
    go_wp2
    go_loop [1, 5] (fun q i => i = .int .i64 0 ∧ q = .int .i64 k) (fun _ _ => 0)
    case atStart => exact ⟨rfl, rfl⟩
    case round =>
      obtain ⟨rfl, rfl⟩ := hrel
      go_wp2
      go_ret
      exact ⟨ret_int (by omega), HO.out, World.grownBy.refl _ _⟩
  · obtain ⟨g, rfl⟩ := owns_at hown (by omega)
    go_enter Tryz.func13, Tryz.ntmps13
    go_wp2
    go_loopw [1, 5] (fun q i wr => ∃ (j : Nat) (zs : List Value), j ≤ n ∧ i = .int .i64 j ∧ q = .int .i64 ((k : Int) + j) ∧ wr.ownsRow b 3 1 (.slice (some ⟨g, 0, none⟩) n c) n zs ∧ Hid (zs.take j = intVals ((marksI k n).take j)) ∧ w.grownBy wr (some g)) (fun _ i _ => n - (intOf i).toNat)
    case atStart => exact ⟨0, _, Nat.zero_le _, rfl, by go_num, hown, rfl, World.grownBy.refl _ _⟩
    case round =>
      obtain ⟨j, zs, hj, rfl, rfl, ho, HZ, hg⟩ := hrel
      by_cases hlt : j < n
      · have hA : (0 : Int) ≤ (j : Int) := by omega
        have hB : (j : Int) < (n : Int) := by omega
        have hlz : zs.length = n * 1 := ho.1
        have s0 := ho.stored j (.int .i64 ((k : Int) + j))
        have HS := hidOf (And.intro s0.1 (grownBy_trans hg s0.2))
        have HE := hidOf (show (zs.set j (.int .i64 ((k : Int) + j))).take (j + 1) = intVals ((marksI k n).take (j + 1)) by
          rw [List.take_add_one, List.take_set_of_le (Nat.le_refl _), HZ.out, List.getElem?_set_self (by omega), List.take_add_one, marksI_at hlt]
          simp [intVals])
        obtain ⟨u0, d0⟩ : ∃ u, wr.cell? ⟨g, j, none⟩ = some u := ⟨_, (ho.cellAt j (by omega)).trans (List.getElem?_eq_getElem (by omega))⟩
        have f0 := ho.frozenAt j
        clear s0 hlz ho
        go_wp2
        refine ⟨⟨j + 1, _, by omega, by go_num, ?_, HS.out.1, HE, HS.out.2⟩, ?_⟩
        · exact congrArg (Value.int .i64) (by omega)
        · simp only [intOf]
          omega
      · have hjn : j = n := by omega
        subst hjn
        go_wp2
        go_ret
        have h1 : zs.length = j * 1 := ho.1
        have h2 := HZ.out
        rw [List.take_of_length_le (by omega), List.take_of_length_le (by rw [marksI_len]; exact Nat.le_refl _)] at h2
        rw [h2] at ho
        exact ⟨rfl, ho, hg⟩

set_option maxHeartbeats 1600000 in
theorem heldInts_any (a : Option Addr) (b n c k : Nat) (w : World) (hn : n ≤ 1048576) (hk : k ≤ 16777216) (hown : w.ownsRow b 3 1 (.slice a n c) n (intVals (marksI k n))) :
    Calls Tryz.prog 14 #[.slice a n c, .int .i64 k] w fun e w' => e = .returned (.int .i64 ((k : Int) + n)) ∧ Below w.heap.size w w' := by
  have hat := KidsAt.of_own hown
  unfold KidsAt at hat
  rw [marksI_len] at hat
  clear hown
  go_enter Tryz.func14, Tryz.ntmps14
  go_wp2
  go_loop [1, 5] (fun q i => ∃ (j : Nat), j ≤ n ∧ i = .int .i64 j ∧ q = .int .i64 ((k : Int) + j)) (fun _ i => n - (intOf i).toNat)
  case atStart => exact ⟨0, Nat.zero_le _, rfl, by go_num⟩
  case round =>
    obtain ⟨j, hj, rfl, rfl⟩ := hrel
    by_cases hlt : j < n
    · have hA : (0 : Int) ≤ (j : Int) := by omega
      have hB : (j : Int) < (n : Int) := by omega
      obtain ⟨b1, o1, rfl, hb1, hc1⟩ := hat (by omega)
      have p0 := hc1 j _ (marksI_at hlt)
      rw [show ((k + j : Nat) : Int) = (k : Int) + (j : Int) by omega] at p0
      have hne : (((k : Int) + (j : Int)) != ((k : Int) + (j : Int))) = false := by simp
      clear hc1 hat
      go_wp2
      go_round
      case rel => exact ⟨j + 1, by omega, by go_num, congrArg (Value.int .i64) (by omega)⟩
      case measure => simp [intOf]; omega
    · have hjn : j = n := by omega
      subst hjn
      go_wp2
      go_ret
      exact ⟨rfl, Below.refl _ _⟩
end Go.Proofs.YtghfpcjgionbaaaGreat
/- Plain facts on decimal figures: how they grow, when a text of figures is what its number is written as. -/
namespace Go.Proofs.YtghfpcjgionbaaaGreat

/-- The figures of u, none for 0. -/
def dd (u : Nat) : List UInt8 := if u = 0 then [] else Lib.decDigits u
theorem dec_small {u : Nat} (h : u < 10) : Lib.decDigits u = [UInt8.ofNat (48 + u)] := by rw [Lib.decDigits, dif_pos h]
theorem dec_big {u : Nat} (h : ¬ u < 10) : Lib.decDigits u = Lib.decDigits (u / 10) ++ [UInt8.ofNat (48 + u % 10)] := by rw [Lib.decDigits, dif_neg h]
theorem dd_step {u : Nat} (h : 0 < u) : dd u = dd (u / 10) ++ [UInt8.ofNat (48 + u % 10)] := by
  unfold dd
  rw [if_neg (by omega)]
  by_cases h1 : u < 10
  · rw [dec_small h1, if_pos (by omega), Nat.mod_eq_of_lt h1]
    rfl
  · rw [dec_big h1, if_neg (by omega)]
theorem dec_len : ∀ (k u : Nat), u < 10 ^ (k + 1) → (Lib.decDigits u).length ≤ k + 1
  | 0, u, h => by rw [dec_small (by simpa using h)]; simp
  | k + 1, u, h => by
    by_cases h1 : u < 10
    · rw [dec_small h1]; simp
    · rw [dec_big h1]
      have := dec_len k (u / 10) (by rw [Nat.div_lt_iff_lt_mul (by omega)]; rw [Nat.pow_succ] at h; exact h)
      simp
      omega
theorem dec_pos : ∀ (u : Nat), 0 < (Lib.decDigits u).length := by
  intro u
  by_cases h1 : u < 10
  · rw [dec_small h1]; simp
  · rw [dec_big h1]; simp
theorem fig_byte (d : Nat) (h : d < 10) : UInt8.ofNat ((48 : Int) + (d : Int)).toNat = UInt8.ofNat (48 + d) := by
  have : ((48 : Int) + (d : Int)).toNat = 48 + d := by omega
  rw [this]
theorem head_not : ∀ (k u : Nat), u < 10 ^ (k + 1) → 0 < u → (Lib.decDigits u).head? ≠ some 48
  | 0, u, h, h0 => by
    have h1 : u < 10 := by simpa using h
    rw [dec_small h1]
    rcases (show u = 1 ∨ u = 2 ∨ u = 3 ∨ u = 4 ∨ u = 5 ∨ u = 6 ∨ u = 7 ∨ u = 8 ∨ u = 9 by omega) with rfl | rfl | rfl | rfl | rfl | rfl | rfl | rfl | rfl <;> decide
  | k + 1, u, h, h0 => by
    by_cases h1 : u < 10
    · exact head_not 0 u (by simpa using h1) h0
    · rw [dec_big h1]
      have hp := dec_pos (u / 10)
      have := head_not k (u / 10) (by rw [Nat.div_lt_iff_lt_mul (by omega)]; rw [Nat.pow_succ] at h; exact h) (by omega)
      cases hl : Lib.decDigits (u / 10) with
      | nil => rw [hl] at hp; simp at hp
      | cons a t => rw [hl] at this; simpa using this

/-- The first k bytes are figures; the number that they tell. -/
def Dig (s : ByteArray) (k : Nat) : Prop := ∀ j, j < k → 48 ≤ by8 s j ∧ by8 s j ≤ 57
def vl (s : ByteArray) : Nat → Nat
  | 0 => 0
  | k + 1 => vl s k * 10 + (by8 s k - 48).toNat
theorem dig_succ {s : ByteArray} {k : Nat} (h : Dig s k) (h1 : 48 ≤ by8 s k) (h2 : by8 s k ≤ 57) : Dig s (k + 1) := by
  intro j hj
  by_cases e : j = k
  · subst e; exact ⟨h1, h2⟩
  · exact h j (by omega)
theorem vl_mono (s : ByteArray) (k : Nat) : ∀ d, vl s k ≤ vl s (k + d)
  | 0 => Nat.le_refl _
  | d + 1 => by
    have := vl_mono s k d
    have e : vl s (k + (d + 1)) = vl s (k + d) * 10 + (by8 s (k + d) - 48).toNat := rfl
    omega
theorem vl_pow {s : ByteArray} : ∀ {k : Nat}, Dig s k → vl s k < 10 ^ k
  | 0, _ => by simp [vl]
  | k + 1, h => by
    have := vl_pow (k := k) (fun j hj => h j (by omega))
    have h1 := h k (by omega)
    rw [vl, Nat.pow_succ]
    omega
theorem vl_first {s : ByteArray} (h0 : 48 < by8 s 0) : ∀ k, 0 < k → 1 ≤ vl s k := by
  intro k hk
  have h1 : vl s 1 = (by8 s 0 - 48).toNat := by simp [vl]
  have := vl_mono s 1 (k - 1)
  rw [show 1 + (k - 1) = k by omega] at this
  omega
theorem byte_is (s : ByteArray) (k : Nat) (h1 : 48 ≤ by8 s k) : UInt8.ofNat (48 + (by8 s k - 48).toNat) = s.data.toList.getD k 0 := by
  unfold by8 at *
  have : 48 + (((s.data.toList.getD k 0).toNat : Int) - 48).toNat = (s.data.toList.getD k 0).toNat := by omega
  rw [this]
  exact UInt8.ofNat_toNat
theorem take_more (s : ByteArray) (k : Nat) (h : k < s.size) : s.data.toList.take (k + 1) = s.data.toList.take k ++ [s.data.toList.getD k 0] := by
  have h' : k < s.data.toList.length := by simpa using h
  rw [List.take_succ_eq_append_getElem h', List.getD_eq_getElem?_getD, List.getElem?_eq_getElem h']
  rfl
theorem dec_of_text {s : ByteArray} : ∀ {k : Nat}, k + 1 ≤ s.size → Dig s (k + 1) → (k = 0 ∨ 48 < by8 s 0) → Lib.decDigits (vl s (k + 1)) = s.data.toList.take (k + 1)
  | 0, hk, hd, _ => by
    have h1 := hd 0 (by omega)
    have e : vl s 1 = (by8 s 0 - 48).toNat := by simp [vl]
    rw [e, dec_small (by omega), byte_is s 0 h1.1, take_more s 0 (by omega)]
    simp
  | k + 1, hk, hd, h0 => by
    have h1 := hd (k + 1) (by omega)
    have hf : 48 < by8 s 0 := by omega
    have hv := vl_first hf (k + 1) (by omega)
    have e : vl s (k + 1 + 1) = vl s (k + 1) * 10 + (by8 s (k + 1) - 48).toNat := rfl
    rw [dec_big (by omega), e]
    have e1 : (vl s (k + 1) * 10 + (by8 s (k + 1) - 48).toNat) / 10 = vl s (k + 1) := by omega
    have e2 : (vl s (k + 1) * 10 + (by8 s (k + 1) - 48).toNat) % 10 = (by8 s (k + 1) - 48).toNat := by omega
    rw [e1, e2, dec_of_text (k := k) (by omega) (fun j hj => hd j (by omega)) (Or.inr hf), byte_is s (k + 1) h1.1, take_more s (k + 1) (by omega)]
/-- A text is read. -/
def RdOk (s : ByteArray) : Prop := 0 < s.size ∧ (s.size = 1 ∨ by8 s 0 ≠ 48) ∧ Dig s s.size ∧ vl s s.size ≤ 1000000000
theorem rd_eq {s : ByteArray} (hd : Dig s s.size) (h0 : 0 < s.size) (h1 : s.size = 1 ∨ by8 s 0 ≠ 48) : (⟨(Lib.decDigits (vl s s.size)).toArray⟩ : ByteArray) = s := by
  obtain ⟨k, hk⟩ : ∃ k, s.size = k + 1 := ⟨s.size - 1, by omega⟩
  have h2 := hd 0 h0
  have h := dec_of_text (s := s) (k := k) (by omega) (by rw [← hk]; exact hd) (by omega)
  apply ByteArray.ext
  apply Array.ext'
  rw [hk, List.toList_toArray, h]
  exact List.take_of_length_le (by simp [hk])
theorem rd_ne {s : ByteArray} (hk : s.size ≤ 10) (hd : Dig s s.size) (h : ¬ (0 < s.size ∧ (s.size = 1 ∨ by8 s 0 ≠ 48))) : (⟨(Lib.decDigits (vl s s.size)).toArray⟩ : ByteArray) ≠ s := by
  intro e
  have el : Lib.decDigits (vl s s.size) = s.data.toList := by
    have := congrArg (fun b : ByteArray => b.data.toList) e
    simpa using this
  have hlen := congrArg List.length el
  have hs : s.data.toList.length = s.size := by simp
  rw [hs] at hlen
  have hp := dec_pos (vl s s.size)
  have h48 : by8 s 0 = 48 := by omega
  have hh : s.data.toList.head? = some 48 := by
    have : s.data.toList.getD 0 0 = 48 := by
      unfold by8 at h48
      apply UInt8.toNat.inj
      show (s.data.toList.getD 0 0).toNat = 48
      omega
    cases hl : s.data.toList with
    | nil => rw [hl] at hs; simp at hs; omega
    | cons a t => rw [hl] at this; simpa using this
  by_cases hz : vl s s.size = 0
  · rw [hz, dec_small (by omega)] at hlen
    simp at hlen
    omega
  · refine head_not 9 (vl s s.size) ?_ (by omega) (by rw [el]; exact hh)
    have := vl_pow hd
    have : 10 ^ s.size ≤ 10 ^ 10 := Nat.pow_le_pow_right (by omega) hk
    omega
end Go.Proofs.YtghfpcjgionbaaaGreat
/- Decimal figures written from the last one on, in front of what is there. -/
namespace Go.Proofs.YtghfpcjgionbaaaGreat
open Go.RowKit

theorem conv_one (x : Int) (w : World) : (convert 149 9 (.slice (some ⟨w.heap.size, 0, none⟩) 1 1)).run Tryz.prog (w.alloc (.cells #[.int .u8 x] 5)) = .ok (.string (strOfNums [x])) (w.alloc (.cells #[.int .u8 x] 5)) := by
  refine run_convert_bytes_arg _ 149 5 Tryz.underlying149 Tryz.underlying5 w.heap.size 0 1 1 [x] rfl (fun i hi => ?_) 9 Tryz.underlying9
  have : i = 0 := by omega
  subst this
  simp

/-- What the loop has written so far stands behind what is still to come. -/
def DecInv (u m : Nat) (t : ByteArray) : Prop := dd m ++ t.data.toList = dd u
theorem decInv_step {u m : Nat} {t : ByteArray} (h : DecInv u m t) (hm : 0 < m) : DecInv u (m / 10) (strOfNums [48 + (m : Int) % 10] ++ t) := by
  unfold DecInv at *
  have e := fig_byte (m % 10) (by omega)
  rw [← h, dd_step hm, ByteArray.data_append, Array.toList_append, strOfNums_data, ← e, List.append_assoc]
  rfl
theorem decInv_size {u m : Nat} {t : ByteArray} (h : DecInv u m t) (hu : u < 10 ^ 20) : t.size ≤ 20 := by
  have h1 := congrArg List.length h
  have h2 : (dd u).length ≤ 20 := by
    unfold dd
    split
    · simp
    · exact dec_len 19 u hu
  have h3 : t.data.toList.length = t.size := by simp
  rw [List.length_append] at h1
  omega
theorem decInv_done {u : Nat} {t : ByteArray} (h : DecInv u 0 t) (hu : 0 < u) : t = ⟨(Lib.decDigits u).toArray⟩ := by
  unfold DecInv dd at h
  rw [if_pos rfl, if_neg (by omega), List.nil_append] at h
  apply ByteArray.ext
  apply Array.ext'
  simpa using h

end Go.Proofs.YtghfpcjgionbaaaGreat
/- What laws.markText answers: a text of its own for every number from 1 on. -/
namespace Go.Proofs.YtghfpcjgionbaaaGreat
open Go.RowKit

/-- The mark of number k. -/
def mk (k : Nat) : ByteArray := ⟨#[109]⟩ ++ ⟨(Lib.decDigits k).toArray⟩

set_option maxHeartbeats 800000 in
set_option maxRecDepth 20000 in
theorem markText_any (u : Nat) (w : World) (h0 : 0 < u) (h1 : u ≤ 4611686018427387904) :
    Calls Tryz.prog 80 #[.int .i64 u] w fun e w' => e = .returned (.string (mk u)) ∧ Below w.heap.size w w' := by
  go_enter Tryz.func80, Tryz.ntmps80
  go_wp2
  go_loopw [0, 3] (fun n s wr => ∃ (m : Nat) (t : ByteArray), m ≤ u ∧ n = .int .i64 m ∧ s = .string t ∧ Hid (DecInv u m t) ∧ Below w.heap.size w wr)
    (fun n _ _ => (intOf n).toNat)
  case atStart => exact ⟨u, ⟨#[]⟩, Nat.le_refl _, rfl, rfl, by unfold Hid DecInv; simp, Below.refl _ _⟩
  case round =>
    obtain ⟨m, t, hm, rfl, rfl, HI, hb⟩ := hrel
    have ht := decInv_size HI.out (by omega)
    have hsz := hb.size
    by_cases hmz : 0 < m
    · have hcv := conv_one
      have hs1 := strOfNums_size [48 + (m : Int) % 10]
      go_wp2
      go_roundw
      case rel => exact ⟨m / 10, _, by omega, by go_num, rfl, decInv_step HI.out hmz, hb.alloc (by omega) _⟩
      case measure => simp [intOf]; omega
    · have e : t = ⟨(Lib.decDigits u).toArray⟩ := decInv_done (by have := HI.out; rw [show m = 0 by omega] at this; exact this) h0
      have HE := hidOf e
      clear e
      go_wp2
      go_ret
      exact ⟨ret_str (by rw [HE.out]; rfl), hb⟩
end Go.Proofs.YtghfpcjgionbaaaGreat
