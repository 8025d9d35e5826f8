/- What laws.eqCost answers at a cost and itself; a cost in a variable of its own. -/
import Derived.Test.YtokfemlcamnaaaaProg
import Derived.Test.YtokfemlcamnaaaaLib
import Derived.Test.YtokfemlcamnaaaaIntLib
import Derived.BigQuiet
import Derived.Deep.QuietTactic
import Derived.Lib.ItoaNum
import Derived.Test.YtokfemlcamnaaaaChecked
import Derived.Test.YtokfemlcamnaaaaPcLib
import Derived.Deep.RegionWith
import Derived.Deep.RegionHeld3
namespace Go.Proofs.Ytokfemlcamnaaaa
open Go.RowKit

set_option maxHeartbeats 1600000 in
theorem eqCo_same (o s : Int) (w : World) :
    Calls Try.prog 61 #[.agg #[.int .i64 o, .int .i64 s], .agg #[.int .i64 o, .int .i64 s]] w fun e w' => e = .returned (.bool true) ∧ Below w.heap.size w w' := by
  have h1 : (o != o) = false := by simp
  have h2 : (s != s) = false := by simp
  have HB2 : ∀ a b : Obj, Below w.heap.size w ((w.alloc a).alloc b) := fun a b => ((Below.refl _ _).alloc (Nat.le_refl _) _).alloc (by simp) _
  go_enter Try.func61, Try.ntmps61
  go_wp2
  go_ret
  exact ⟨rfl, HB2 _ _⟩
/-- A variable is made, and holds a cost. -/
structure CoAt (w : World) (b : Nat) (o s : Int) : Prop where
  c0 : w.cell? ⟨b, 0, none⟩ = some (.int .i64 o)
  c1 : w.cell? ⟨b, 1, none⟩ = some (.int .i64 s)
theorem CoAt.below {w w' : World} {b B : Nat} {o s : Int} (h : CoAt w b o s) (hb : Below B w w') (hB : b < B) : CoAt w' b o s :=
  ⟨by rw [hb.cell hB]; exact h.c0, by rw [hb.cell hB]; exact h.c1⟩
theorem coBoxed (w : World) (o s : Int) (t : Nat) : ∃ W, W = w.alloc (.cells #[.int .i64 o, .int .i64 s] t) ∧ CoAt W w.heap.size o s ∧ Below w.heap.size w W ∧ W.heap.size = w.heap.size + 1 := by
  refine ⟨_, rfl, ⟨?_, ?_⟩, (Below.refl _ _).alloc (Nat.le_refl _) _, by simp⟩
  all_goals simp

end Go.Proofs.Ytokfemlcamnaaaa
/- What the laws' helpers on a list of numbers of one's own do: markIntS writes its marks, heldIntS finds them again. -/
namespace Go.Proofs.Ytokfemlcamnaaaa
open Go.RowKit

set_option maxHeartbeats 1600000 in
theorem markInts_any (a : Option Addr) (b n c k : Nat) (xs : List Value) (w : World) (hn : n ≤ 1048576) (hk : k ≤ 16777216) (hown : w.ownsRow b 3 1 (.slice a n c) n xs) :
    Calls Try.prog 63 #[.slice a n c, .int .i64 k] w fun e w' => e = .returned (.int .i64 ((k : Int) + n)) ∧ w'.ownsRow b 3 1 (.slice a n c) n (intVals (marksI k n)) ∧ w.grownBy w' (Value.slice a n c).ownBlock := by
  by_cases hz : n = 0
  · subst hz
    have hl : xs.length = 0 * 1 := hown.1
    have hx : xs = intVals (marksI k 0) := by rw [List.length_eq_zero_iff.1 (show xs.length = 0 by omega)]; rfl
    rw [hx] at hown
    have HO := hidOf hown
    clear hown hx hl
    go_enter Try.func63, Try.ntmps63
    go_wp2
    go_loop [1, 5] (fun q i => i = .int .i64 0 ∧ q = .int .i64 k) (fun _ _ => 0)
    case atStart => exact ⟨rfl, rfl⟩
    case round =>
      obtain ⟨rfl, rfl⟩ := hrel
      go_wp2
      go_ret
      exact ⟨ret_int (by omega), HO.out, World.grownBy.refl _ _⟩
  · obtain ⟨g, rfl⟩ := owns_at hown (by omega)
    go_enter Try.func63, Try.ntmps63
    go_wp2
    go_loopw [1, 5] (fun q i wr => ∃ (j : Nat) (zs : List Value), j ≤ n ∧ i = .int .i64 j ∧ q = .int .i64 ((k : Int) + j) ∧ wr.ownsRow b 3 1 (.slice (some ⟨g, 0, none⟩) n c) n zs ∧ Hid (zs.take j = intVals ((marksI k n).take j)) ∧ w.grownBy wr (some g)) (fun _ i _ => n - (intOf i).toNat)
    case atStart => exact ⟨0, _, Nat.zero_le _, rfl, by go_num, hown, rfl, World.grownBy.refl _ _⟩
    case round =>
      obtain ⟨j, zs, hj, rfl, rfl, ho, HZ, hg⟩ := hrel
      by_cases hlt : j < n
      · have hA : (0 : Int) ≤ (j : Int) := by omega
        have hB : (j : Int) < (n : Int) := by omega
        have hlz : zs.length = n * 1 := ho.1
        have s0 := ho.stored j (.int .i64 ((k : Int) + j))
        have HS := hidOf (And.intro s0.1 (grownBy_trans hg s0.2))
        have HE := hidOf (show (zs.set j (.int .i64 ((k : Int) + j))).take (j + 1) = intVals ((marksI k n).take (j + 1)) by
          rw [List.take_add_one, List.take_set_of_le (Nat.le_refl _), HZ.out, List.getElem?_set_self (by omega), List.take_add_one, marksI_at hlt]
          simp [intVals])
        obtain ⟨u0, d0⟩ : ∃ u, wr.cell? ⟨g, j, none⟩ = some u := ⟨_, (ho.cellAt j (by omega)).trans (List.getElem?_eq_getElem (by omega))⟩
        have f0 := ho.frozenAt j
        clear s0 hlz ho
        go_wp2
        refine ⟨⟨j + 1, _, by omega, by go_num, ?_, HS.out.1, HE, HS.out.2⟩, ?_⟩
        · exact congrArg (Value.int .i64) (by omega)
        · simp only [intOf]
          omega
      · have hjn : j = n := by omega
        subst hjn
        go_wp2
        go_ret
        have h1 : zs.length = j * 1 := ho.1
        have h2 := HZ.out
        rw [List.take_of_length_le (by omega), List.take_of_length_le (by rw [marksI_len]; exact Nat.le_refl _)] at h2
        rw [h2] at ho
        exact ⟨rfl, ho, hg⟩

set_option maxHeartbeats 1600000 in
theorem heldInts_any (a : Option Addr) (b n c k : Nat) (w : World) (hn : n ≤ 1048576) (hk : k ≤ 16777216) (hown : w.ownsRow b 3 1 (.slice a n c) n (intVals (marksI k n))) :
    Calls Try.prog 64 #[.slice a n c, .int .i64 k] w fun e w' => e = .returned (.int .i64 ((k : Int) + n)) ∧ Below w.heap.size w w' := by
  have hat := KidsAt.of_own hown
  unfold KidsAt at hat
  rw [marksI_len] at hat
  clear hown
  go_enter Try.func64, Try.ntmps64
  go_wp2
  go_loop [1, 5] (fun q i => ∃ (j : Nat), j ≤ n ∧ i = .int .i64 j ∧ q = .int .i64 ((k : Int) + j)) (fun _ i => n - (intOf i).toNat)
  case atStart => exact ⟨0, Nat.zero_le _, rfl, by go_num⟩
  case round =>
    obtain ⟨j, hj, rfl, rfl⟩ := hrel
    by_cases hlt : j < n
    · have hA : (0 : Int) ≤ (j : Int) := by omega
      have hB : (j : Int) < (n : Int) := by omega
      obtain ⟨b1, o1, rfl, hb1, hc1⟩ := hat (by omega)
      have p0 := hc1 j _ (marksI_at hlt)
      rw [show ((k + j : Nat) : Int) = (k : Int) + (j : Int) by omega] at p0
      have hne : (((k : Int) + (j : Int)) != ((k : Int) + (j : Int))) = false := by simp
      clear hc1 hat
      go_wp2
      go_round
      case rel => exact ⟨j + 1, by omega, by go_num, congrArg (Value.int .i64) (by omega)⟩
      case measure => simp [intOf]; omega
    · have hjn : j = n := by omega
      subst hjn
      go_wp2
      go_ret
      exact ⟨rfl, Below.refl _ _⟩
end Go.Proofs.Ytokfemlcamnaaaa
/- Plain facts on decimal figures: how they grow, when a text of figures is what its number is written as. -/
namespace Go.Proofs.Ytokfemlcamnaaaa

/-- The figures of u, none for 0. -/
def dd (u : Nat) : List UInt8 := if u = 0 then [] else Lib.decDigits u
theorem dec_small {u : Nat} (h : u < 10) : Lib.decDigits u = [UInt8.ofNat (48 + u)] := by rw [Lib.decDigits, dif_pos h]
theorem dec_big {u : Nat} (h : ¬ u < 10) : Lib.decDigits u = Lib.decDigits (u / 10) ++ [UInt8.ofNat (48 + u % 10)] := by rw [Lib.decDigits, dif_neg h]
theorem dd_step {u : Nat} (h : 0 < u) : dd u = dd (u / 10) ++ [UInt8.ofNat (48 + u % 10)] := by
  unfold dd
  rw [if_neg (by omega)]
  by_cases h1 : u < 10
  · rw [dec_small h1, if_pos (by omega), Nat.mod_eq_of_lt h1]
    rfl
  · rw [dec_big h1, if_neg (by omega)]
theorem dec_len : ∀ (k u : Nat), u < 10 ^ (k + 1) → (Lib.decDigits u).length ≤ k + 1
  | 0, u, h => by rw [dec_small (by simpa using h)]; simp
  | k + 1, u, h => by
    by_cases h1 : u < 10
    · rw [dec_small h1]; simp
    · rw [dec_big h1]
      have := dec_len k (u / 10) (by rw [Nat.div_lt_iff_lt_mul (by omega)]; rw [Nat.pow_succ] at h; exact h)
      simp
      omega
theorem dec_pos : ∀ (u : Nat), 0 < (Lib.decDigits u).length := by
  intro u
  by_cases h1 : u < 10
  · rw [dec_small h1]; simp
  · rw [dec_big h1]; simp
theorem fig_byte (d : Nat) (h : d < 10) : UInt8.ofNat ((48 : Int) + (d : Int)).toNat = UInt8.ofNat (48 + d) := by
  have : ((48 : Int) + (d : Int)).toNat = 48 + d := by omega
  rw [this]
theorem head_not : ∀ (k u : Nat), u < 10 ^ (k + 1) → 0 < u → (Lib.decDigits u).head? ≠ some 48
  | 0, u, h, h0 => by
    have h1 : u < 10 := by simpa using h
    rw [dec_small h1]
    rcases (show u = 1 ∨ u = 2 ∨ u = 3 ∨ u = 4 ∨ u = 5 ∨ u = 6 ∨ u = 7 ∨ u = 8 ∨ u = 9 by omega) with rfl | rfl | rfl | rfl | rfl | rfl | rfl | rfl | rfl <;> decide
  | k + 1, u, h, h0 => by
    by_cases h1 : u < 10
    · exact head_not 0 u (by simpa using h1) h0
    · rw [dec_big h1]
      have hp := dec_pos (u / 10)
      have := head_not k (u / 10) (by rw [Nat.div_lt_iff_lt_mul (by omega)]; rw [Nat.pow_succ] at h; exact h) (by omega)
      cases hl : Lib.decDigits (u / 10) with
      | nil => rw [hl] at hp; simp at hp
      | cons a t => rw [hl] at this; simpa using this

/-- The first k bytes are figures; the number that they tell. -/
def Dig (s : ByteArray) (k : Nat) : Prop := ∀ j, j < k → 48 ≤ by8 s j ∧ by8 s j ≤ 57
def vl (s : ByteArray) : Nat → Nat
  | 0 => 0
  | k + 1 => vl s k * 10 + (by8 s k - 48).toNat
theorem dig_succ {s : ByteArray} {k : Nat} (h : Dig s k) (h1 : 48 ≤ by8 s k) (h2 : by8 s k ≤ 57) : Dig s (k + 1) := by
  intro j hj
  by_cases e : j = k
  · subst e; exact ⟨h1, h2⟩
  · exact h j (by omega)
theorem vl_mono (s : ByteArray) (k : Nat) : ∀ d, vl s k ≤ vl s (k + d)
  | 0 => Nat.le_refl _
  | d + 1 => by
    have := vl_mono s k d
    have e : vl s (k + (d + 1)) = vl s (k + d) * 10 + (by8 s (k + d) - 48).toNat := rfl
    omega
theorem vl_pow {s : ByteArray} : ∀ {k : Nat}, Dig s k → vl s k < 10 ^ k
  | 0, _ => by simp [vl]
  | k + 1, h => by
    have := vl_pow (k := k) (fun j hj => h j (by omega))
    have h1 := h k (by omega)
    rw [vl, Nat.pow_succ]
    omega
theorem vl_first {s : ByteArray} (h0 : 48 < by8 s 0) : ∀ k, 0 < k → 1 ≤ vl s k := by
  intro k hk
  have h1 : vl s 1 = (by8 s 0 - 48).toNat := by simp [vl]
  have := vl_mono s 1 (k - 1)
  rw [show 1 + (k - 1) = k by omega] at this
  omega
theorem byte_is (s : ByteArray) (k : Nat) (h1 : 48 ≤ by8 s k) : UInt8.ofNat (48 + (by8 s k - 48).toNat) = s.data.toList.getD k 0 := by
  unfold by8 at *
  have : 48 + (((s.data.toList.getD k 0).toNat : Int) - 48).toNat = (s.data.toList.getD k 0).toNat := by omega
  rw [this]
  exact UInt8.ofNat_toNat
theorem take_more (s : ByteArray) (k : Nat) (h : k < s.size) : s.data.toList.take (k + 1) = s.data.toList.take k ++ [s.data.toList.getD k 0] := by
  have h' : k < s.data.toList.length := by simpa using h
  rw [List.take_succ_eq_append_getElem h', List.getD_eq_getElem?_getD, List.getElem?_eq_getElem h']
  rfl
theorem dec_of_text {s : ByteArray} : ∀ {k : Nat}, k + 1 ≤ s.size → Dig s (k + 1) → (k = 0 ∨ 48 < by8 s 0) → Lib.decDigits (vl s (k + 1)) = s.data.toList.take (k + 1)
  | 0, hk, hd, _ => by
    have h1 := hd 0 (by omega)
    have e : vl s 1 = (by8 s 0 - 48).toNat := by simp [vl]
    rw [e, dec_small (by omega), byte_is s 0 h1.1, take_more s 0 (by omega)]
    simp
  | k + 1, hk, hd, h0 => by
    have h1 := hd (k + 1) (by omega)
    have hf : 48 < by8 s 0 := by omega
    have hv := vl_first hf (k + 1) (by omega)
    have e : vl s (k + 1 + 1) = vl s (k + 1) * 10 + (by8 s (k + 1) - 48).toNat := rfl
    rw [dec_big (by omega), e]
    have e1 : (vl s (k + 1) * 10 + (by8 s (k + 1) - 48).toNat) / 10 = vl s (k + 1) := by omega
    have e2 : (vl s (k + 1) * 10 + (by8 s (k + 1) - 48).toNat) % 10 = (by8 s (k + 1) - 48).toNat := by omega
    rw [e1, e2, dec_of_text (k := k) (by omega) (fun j hj => hd j (by omega)) (Or.inr hf), byte_is s (k + 1) h1.1, take_more s (k + 1) (by omega)]
/-- A text is read. -/
def RdOk (s : ByteArray) : Prop := 0 < s.size ∧ (s.size = 1 ∨ by8 s 0 ≠ 48) ∧ Dig s s.size ∧ vl s s.size ≤ 1000000000
theorem rd_eq {s : ByteArray} (hd : Dig s s.size) (h0 : 0 < s.size) (h1 : s.size = 1 ∨ by8 s 0 ≠ 48) : (⟨(Lib.decDigits (vl s s.size)).toArray⟩ : ByteArray) = s := by
  obtain ⟨k, hk⟩ : ∃ k, s.size = k + 1 := ⟨s.size - 1, by omega⟩
  have h2 := hd 0 h0
  have h := dec_of_text (s := s) (k := k) (by omega) (by rw [← hk]; exact hd) (by omega)
  apply ByteArray.ext
  apply Array.ext'
  rw [hk, List.toList_toArray, h]
  exact List.take_of_length_le (by simp [hk])
theorem rd_ne {s : ByteArray} (hk : s.size ≤ 10) (hd : Dig s s.size) (h : ¬ (0 < s.size ∧ (s.size = 1 ∨ by8 s 0 ≠ 48))) : (⟨(Lib.decDigits (vl s s.size)).toArray⟩ : ByteArray) ≠ s := by
  intro e
  have el : Lib.decDigits (vl s s.size) = s.data.toList := by
    have := congrArg (fun b : ByteArray => b.data.toList) e
    simpa using this
  have hlen := congrArg List.length el
  have hs : s.data.toList.length = s.size := by simp
  rw [hs] at hlen
  have hp := dec_pos (vl s s.size)
  have h48 : by8 s 0 = 48 := by omega
  have hh : s.data.toList.head? = some 48 := by
    have : s.data.toList.getD 0 0 = 48 := by
      unfold by8 at h48
      apply UInt8.toNat.inj
      show (s.data.toList.getD 0 0).toNat = 48
      omega
    cases hl : s.data.toList with
    | nil => rw [hl] at hs; simp at hs; omega
    | cons a t => rw [hl] at this; simpa using this
  by_cases hz : vl s s.size = 0
  · rw [hz, dec_small (by omega)] at hlen
    simp at hlen
    omega
  · refine head_not 9 (vl s s.size) ?_ (by omega) (by rw [el]; exact hh)
    have := vl_pow hd
    have : 10 ^ s.size ≤ 10 ^ 10 := Nat.pow_le_pow_right (by omega) hk
    omega
end Go.Proofs.Ytokfemlcamnaaaa
/- Decimal figures written from the last one on, in front of what is there. -/
namespace Go.Proofs.Ytokfemlcamnaaaa
open Go.RowKit

theorem conv_one (x : Int) (w : World) : (convert 22 9 (.slice (some ⟨w.heap.size, 0, none⟩) 1 1)).run Try.prog (w.alloc (.cells #[.int .u8 x] 5)) = .ok (.string (strOfNums [x])) (w.alloc (.cells #[.int .u8 x] 5)) := by
  refine run_convert_bytes_arg _ 22 5 Try.underlying22 Try.underlying5 w.heap.size 0 1 1 [x] rfl (fun i hi => ?_) 9 Try.underlying9
  have : i = 0 := by omega
  subst this
  simp

/-- What the loop has written so far stands behind what is still to come. -/
def DecInv (u m : Nat) (t : ByteArray) : Prop := dd m ++ t.data.toList = dd u
theorem decInv_step {u m : Nat} {t : ByteArray} (h : DecInv u m t) (hm : 0 < m) : DecInv u (m / 10) (strOfNums [48 + (m : Int) % 10] ++ t) := by
  unfold DecInv at *
  have e := fig_byte (m % 10) (by omega)
  rw [← h, dd_step hm, ByteArray.data_append, Array.toList_append, strOfNums_data, ← e, List.append_assoc]
  rfl
theorem decInv_size {u m : Nat} {t : ByteArray} (h : DecInv u m t) (hu : u < 10 ^ 20) : t.size ≤ 20 := by
  have h1 := congrArg List.length h
  have h2 : (dd u).length ≤ 20 := by
    unfold dd
    split
    · simp
    · exact dec_len 19 u hu
  have h3 : t.data.toList.length = t.size := by simp
  rw [List.length_append] at h1
  omega
theorem decInv_done {u : Nat} {t : ByteArray} (h : DecInv u 0 t) (hu : 0 < u) : t = ⟨(Lib.decDigits u).toArray⟩ := by
  unfold DecInv dd at h
  rw [if_pos rfl, if_neg (by omega), List.nil_append] at h
  apply ByteArray.ext
  apply Array.ext'
  simpa using h

end Go.Proofs.Ytokfemlcamnaaaa
/- What laws.markText answers: a text of its own for every number from 1 on. -/
namespace Go.Proofs.Ytokfemlcamnaaaa
open Go.RowKit

/-- The mark of number k. -/
def mk (k : Nat) : ByteArray := ⟨#[109]⟩ ++ ⟨(Lib.decDigits k).toArray⟩

set_option maxHeartbeats 800000 in
set_option maxRecDepth 20000 in
theorem markText_any (u : Nat) (w : World) (h0 : 0 < u) (h1 : u ≤ 4611686018427387904) :
    Calls Try.prog 171 #[.int .i64 u] w fun e w' => e = .returned (.string (mk u)) ∧ Below w.heap.size w w' := by
  go_enter Try.func171, Try.ntmps171
  go_wp2
  go_loopw [0, 3] (fun n s wr => ∃ (m : Nat) (t : ByteArray), m ≤ u ∧ n = .int .i64 m ∧ s = .string t ∧ Hid (DecInv u m t) ∧ Below w.heap.size w wr)
    (fun n _ _ => (intOf n).toNat)
  case atStart => exact ⟨u, ⟨#[]⟩, Nat.le_refl _, rfl, rfl, by unfold Hid DecInv; simp, Below.refl _ _⟩
  case round =>
    obtain ⟨m, t, hm, rfl, rfl, HI, hb⟩ := hrel
    have ht := decInv_size HI.out (by omega)
    have hsz := hb.size
    by_cases hmz : 0 < m
    · have hcv := conv_one
      have hs1 := strOfNums_size [48 + (m : Int) % 10]
      go_wp2
      go_roundw
      case rel => exact ⟨m / 10, _, by omega, by go_num, rfl, decInv_step HI.out hmz, hb.alloc (by omega) _⟩
      case measure => simp [intOf]; omega
    · have e : t = ⟨(Lib.decDigits u).toArray⟩ := decInv_done (by have := HI.out; rw [show m = 0 by omega] at this; exact this) h0
      have HE := hidOf e
      clear e
      go_wp2
      go_ret
      exact ⟨ret_str (by rw [HE.out]; rfl), hb⟩
end Go.Proofs.Ytokfemlcamnaaaa
/- What the laws' helpers on rules, spans and ties that came in do: they are copied. -/
namespace Go.Proofs.Ytokfemlcamnaaaa
open Go.RowKit

theorem infoRu : (Try.prog.info? 98).map (·.size) = some 2 ∧ (Try.prog.info? 98).map (fun i => (i.zero, i.size, i.bytes)) = some (some (.agg #[.int .i64 0, .int .i64 0]), 2, 16) := ⟨by kernel_rfl, by kernel_rfl⟩

set_option maxHeartbeats 1600000 in
theorem toRu_any (x : Ru) (w : World) :
    Calls Try.prog 163 #[.agg #[.int .i64 x.values, .int .i64 x.cost]] w fun e w' => e = .returned (.agg #[.int .i64 x.values, .int .i64 x.cost]) ∧ Below w.heap.size w w' := by
  go_enter Try.func163, Try.ntmps163
  go_wp2
  refine bodyPost_ret (results_cell_row rfl _ _ (w.heap.size + 1) 98 #[.int .i64 x.values, .int .i64 x.cost] (0, 0) _ rfl ?_ Try.underlying98 rfl infoRu.1) rfl ?_
  · rw [heap_alloc_old _ _ (by simp)]
    exact heap_alloc2_new w _ _
  · exact ⟨rfl, (((Below.refl _ _).alloc (Nat.le_refl _) _).alloc (by simp) _).alloc (by simp; omega) _⟩

set_option maxHeartbeats 4000000 in
theorem toRus_any (a : Option Addr) (c : Nat) (xs : List Ru) (w : World) (hn0 : xs.length ≤ 1048576) (hT : RowsAt 2 ruCells w a xs) :
    Calls Try.prog 121 #[.slice a xs.length c] w fun e w' => e = .returned (.slice (some ⟨w.heap.size, 0, none⟩) xs.length xs.length) ∧ w'.ownsRow w.heap.size 98 2 (.slice (some ⟨w.heap.size, 0, none⟩) xs.length xs.length) xs.length (rowVals ruCells xs) ∧ Below w.heap.size w w' := by
  unfold RowsAt at hT
  obtain ⟨n, hn⟩ : ∃ n, n = xs.length := ⟨_, rfl⟩
  rw [← hn] at hT hn0 ⊢
  have HN := hidOf hn
  clear hn
  obtain ⟨i0, hi, hz0, hz1, hz2⟩ := info_parts infoRu.2
  go_enter Try.func121, Try.ntmps121
  go_wp2_with (at_make; refine wpList_make_full _ rfl _ _ 24 rfl w.heap.size 98 i0 _ 2 Try.underlying24 hi hz0 hz1 .i64 .i64 _ _ n rfl rfl rfl rfl (by rw [hz2]; omega) (by unfold maxLen; omega) (Nat.le_refl _) ?_; intro w1 hown hgrow)
  have hb1 : Below w.heap.size w w1 := (Below.refl _ w).grown hgrow (Nat.le_refl _) (fun k e => by cases e)
  obtain ⟨zs, hzs⟩ : ∃ zs, zs = (madeCells (Value.agg #[Value.int IntKind.i64 0, Value.int IntKind.i64 0]).cells (n * 2)).toList := ⟨_, rfl⟩
  rw [← hzs] at hown
  clear hzs hgrow
  go_loopw [4] (fun i wr => ∃ (k : Nat) (zs : List Value), k ≤ n ∧ i = .int .i64 k ∧ wr.ownsRow w.heap.size 98 2 (.slice (some ⟨w.heap.size, 0, none⟩) n n) n zs ∧ Hid (zs.take (k * 2) = rowVals ruCells (xs.take k)) ∧ Below w.heap.size w wr) (fun i _ => n - (intOf i).toNat)
  case atStart => exact ⟨0, zs, Nat.zero_le _, rfl, hown, hidOf (by simp [rowVals]), hb1⟩
  case round =>
    obtain ⟨k, zs, hk, rfl, ho, HZ, hb⟩ := hrel
    by_cases hlt : k < n
    · obtain ⟨x, ex⟩ : ∃ x, xs[k]? = some x := ⟨_, List.getElem?_eq_getElem (by rw [← HN.out]; exact hlt)⟩
      obtain ⟨b1, o1, rfl, hb1, hc1⟩ := hT (by omega)
      obtain ⟨p0, p1⟩ := ruC (w := wr) (fun j hj => by rw [hb.cell hb1]; exact hc1 k x ex j hj)
      have EX := hidOf ex
      clear ex hc1 hT
      have hA : (0 : Int) ≤ (k : Int) := by omega
      have hB : (k : Int) < (n : Int) := by omega
      go_wp2_with fail
      refine (toRu_any x _).mono ?_
      rintro e w2 ⟨rfl, hb2⟩
      have ho2 := owns_below ho hb2
      have hlz : zs.length = n * 2 := ho2.1
      have s0 := ho2.stored (k * 2) (.int .i64 x.values)
      have s1 := s0.1.stored (k * 2 + 1) (.int .i64 x.cost)
      have HS := hidOf (And.intro s1.1 (grownBy_trans s0.2 s1.2))
      obtain ⟨u0, d0⟩ : ∃ u, w2.cell? ⟨w.heap.size, k * 2, none⟩ = some u := ⟨_, (ho2.cellAt (k * 2) (by omega)).trans (List.getElem?_eq_getElem (by omega))⟩
      obtain ⟨u1, d1⟩ : ∃ u, w2.cell? ⟨w.heap.size, k * 2 + 1, none⟩ = some u := ⟨_, (ho2.cellAt (k * 2 + 1) (by omega)).trans (List.getElem?_eq_getElem (by omega))⟩
      have f0 := ho2.frozenAt (k * 2)
      have f1 := ho2.frozenAt (k * 2 + 1)
      have HLZ := hidOf hlz
      clear s0 s1 hlz ho ho2 p0 p1
      go_wp2
      go_roundw
      case rel => exact ⟨k + 1, layAt zs (k * 2) (ruCells x), by omega, by go_num, HS.out.1, hidOf (layAt_take ruCells_len (by have := HLZ.out; omega) EX.out HZ.out), (hb.trans (hb2.mono hb.size)).grown HS.out.2 (Nat.le_trans hb.size hb2.size) (fun q hq => by cases hq; exact Nat.le_refl _)⟩
      case measure => simp [intOf]; omega
    · go_wp2
      go_ret
      refine ⟨rfl, ?_, hb⟩
      have hz : zs = rowVals ruCells xs := by
        have h1 := HZ.out
        have h2 : zs.length = n * 2 := ho.1
        have h3 := HN.out
        rw [List.take_of_length_le (by omega), List.take_of_length_le (by omega)] at h1
        exact h1
      rw [← hz]
      exact ho

set_option maxHeartbeats 1600000 in
theorem szRus_any (a : Option Addr) (n c : Nat) (L : Int) (w : World) (hn : n ≤ 9223372036854775807) (h0 : 0 ≤ L) (h1 : L ≤ 1048576) :
    Calls Try.prog 117 #[.slice a n c, .int .i64 L] w fun e w' => ∃ r : Int, e = .returned (.int .i64 r) ∧ ((r = -1) ∨ (0 ≤ r ∧ r ≤ L ∧ n ≤ 1048576)) ∧ Below w.heap.size w w' := by
  by_cases hb : L < n
  · go_enter Try.func117, Try.ntmps117
    go_wp2
    go_ret
    exact ⟨-1, rfl, .inl rfl, Below.refl _ _⟩
  · go_enter Try.func117, Try.ntmps117
    go_wp2
    go_ret
    exact ⟨_, rfl, .inr ⟨by omega, by omega, by omega⟩, Below.refl _ _⟩
theorem infoSn : (Try.prog.info? 115).map (·.size) = some 3 ∧ (Try.prog.info? 115).map (fun i => (i.zero, i.size, i.bytes)) = some (some (.agg #[.int .i64 0, .int .i64 0, .int .i64 0]), 3, 24) := ⟨by kernel_rfl, by kernel_rfl⟩

set_option maxHeartbeats 1600000 in
theorem toSn_any (x : Sn) (w : World) :
    Calls Try.prog 165 #[.agg #[.int .i64 x.frm, .int .i64 x.til, .int .i64 x.cost]] w fun e w' => e = .returned (.agg #[.int .i64 x.frm, .int .i64 x.til, .int .i64 x.cost]) ∧ Below w.heap.size w w' := by
  go_enter Try.func165, Try.ntmps165
  go_wp2
  refine bodyPost_ret (results_cell_row rfl _ _ (w.heap.size + 1) 115 #[.int .i64 x.frm, .int .i64 x.til, .int .i64 x.cost] (0, 0) _ rfl ?_ Try.underlying115 rfl infoSn.1) rfl ?_
  · rw [heap_alloc_old _ _ (by simp)]
    exact heap_alloc2_new w _ _
  · exact ⟨rfl, (((Below.refl _ _).alloc (Nat.le_refl _) _).alloc (by simp) _).alloc (by simp; omega) _⟩

set_option maxHeartbeats 4000000 in
theorem toSns_any (a : Option Addr) (c : Nat) (xs : List Sn) (w : World) (hn0 : xs.length ≤ 1048576) (hT : RowsAt 3 snCells w a xs) :
    Calls Try.prog 123 #[.slice a xs.length c] w fun e w' => e = .returned (.slice (some ⟨w.heap.size, 0, none⟩) xs.length xs.length) ∧ w'.ownsRow w.heap.size 115 3 (.slice (some ⟨w.heap.size, 0, none⟩) xs.length xs.length) xs.length (rowVals snCells xs) ∧ Below w.heap.size w w' := by
  unfold RowsAt at hT
  obtain ⟨n, hn⟩ : ∃ n, n = xs.length := ⟨_, rfl⟩
  rw [← hn] at hT hn0 ⊢
  have HN := hidOf hn
  clear hn
  obtain ⟨i0, hi, hz0, hz1, hz2⟩ := info_parts infoSn.2
  go_enter Try.func123, Try.ntmps123
  go_wp2_with (at_make; refine wpList_make_full _ rfl _ _ 26 rfl w.heap.size 115 i0 _ 3 Try.underlying26 hi hz0 hz1 .i64 .i64 _ _ n rfl rfl rfl rfl (by rw [hz2]; omega) (by unfold maxLen; omega) (Nat.le_refl _) ?_; intro w1 hown hgrow)
  have hb1 : Below w.heap.size w w1 := (Below.refl _ w).grown hgrow (Nat.le_refl _) (fun k e => by cases e)
  obtain ⟨zs, hzs⟩ : ∃ zs, zs = (madeCells (Value.agg #[Value.int IntKind.i64 0, Value.int IntKind.i64 0, Value.int IntKind.i64 0]).cells (n * 3)).toList := ⟨_, rfl⟩
  rw [← hzs] at hown
  clear hzs hgrow
  go_loopw [4] (fun i wr => ∃ (k : Nat) (zs : List Value), k ≤ n ∧ i = .int .i64 k ∧ wr.ownsRow w.heap.size 115 3 (.slice (some ⟨w.heap.size, 0, none⟩) n n) n zs ∧ Hid (zs.take (k * 3) = rowVals snCells (xs.take k)) ∧ Below w.heap.size w wr) (fun i _ => n - (intOf i).toNat)
  case atStart => exact ⟨0, zs, Nat.zero_le _, rfl, hown, hidOf (by simp [rowVals]), hb1⟩
  case round =>
    obtain ⟨k, zs, hk, rfl, ho, HZ, hb⟩ := hrel
    by_cases hlt : k < n
    · obtain ⟨x, ex⟩ : ∃ x, xs[k]? = some x := ⟨_, List.getElem?_eq_getElem (by rw [← HN.out]; exact hlt)⟩
      obtain ⟨b1, o1, rfl, hb1, hc1⟩ := hT (by omega)
      obtain ⟨p0, p1, p2⟩ := snC (w := wr) (fun j hj => by rw [hb.cell hb1]; exact hc1 k x ex j hj)
      have EX := hidOf ex
      clear ex hc1 hT
      have hA : (0 : Int) ≤ (k : Int) := by omega
      have hB : (k : Int) < (n : Int) := by omega
      go_wp2_with fail
      refine (toSn_any x _).mono ?_
      rintro e w2 ⟨rfl, hb2⟩
      have ho2 := owns_below ho hb2
      have hlz : zs.length = n * 3 := ho2.1
      have s0 := ho2.stored (k * 3) (.int .i64 x.frm)
      have s1 := s0.1.stored (k * 3 + 1) (.int .i64 x.til)
      have s2 := s1.1.stored (k * 3 + 2) (.int .i64 x.cost)
      have HS := hidOf (And.intro s2.1 (grownBy_trans (grownBy_trans s0.2 s1.2) s2.2))
      obtain ⟨u0, d0⟩ : ∃ u, w2.cell? ⟨w.heap.size, k * 3, none⟩ = some u := ⟨_, (ho2.cellAt (k * 3) (by omega)).trans (List.getElem?_eq_getElem (by omega))⟩
      obtain ⟨u1, d1⟩ : ∃ u, w2.cell? ⟨w.heap.size, k * 3 + 1, none⟩ = some u := ⟨_, (ho2.cellAt (k * 3 + 1) (by omega)).trans (List.getElem?_eq_getElem (by omega))⟩
      obtain ⟨u2, d2⟩ : ∃ u, w2.cell? ⟨w.heap.size, k * 3 + 2, none⟩ = some u := ⟨_, (ho2.cellAt (k * 3 + 2) (by omega)).trans (List.getElem?_eq_getElem (by omega))⟩
      have f0 := ho2.frozenAt (k * 3)
      have f1 := ho2.frozenAt (k * 3 + 1)
      have f2 := ho2.frozenAt (k * 3 + 2)
      have HLZ := hidOf hlz
      clear s0 s1 s2 hlz ho ho2 p0 p1 p2
      go_wp2
      go_roundw
      case rel => exact ⟨k + 1, layAt zs (k * 3) (snCells x), by omega, by go_num, HS.out.1, hidOf (layAt_take snCells_len (by have := HLZ.out; omega) EX.out HZ.out), (hb.trans (hb2.mono hb.size)).grown HS.out.2 (Nat.le_trans hb.size hb2.size) (fun q hq => by cases hq; exact Nat.le_refl _)⟩
      case measure => simp [intOf]; omega
    · go_wp2
      go_ret
      refine ⟨rfl, ?_, hb⟩
      have hz : zs = rowVals snCells xs := by
        have h1 := HZ.out
        have h2 : zs.length = n * 3 := ho.1
        have h3 := HN.out
        rw [List.take_of_length_le (by omega), List.take_of_length_le (by omega)] at h1
        exact h1
      rw [← hz]
      exact ho

set_option maxHeartbeats 1600000 in
theorem szSns_any (a : Option Addr) (n c : Nat) (L : Int) (w : World) (hn : n ≤ 9223372036854775807) (h0 : 0 ≤ L) (h1 : L ≤ 1048576) :
    Calls Try.prog 119 #[.slice a n c, .int .i64 L] w fun e w' => ∃ r : Int, e = .returned (.int .i64 r) ∧ ((r = -1) ∨ (0 ≤ r ∧ r ≤ L ∧ n ≤ 1048576)) ∧ Below w.heap.size w w' := by
  by_cases hb : L < n
  · go_enter Try.func119, Try.ntmps119
    go_wp2
    go_ret
    exact ⟨-1, rfl, .inl rfl, Below.refl _ _⟩
  · go_enter Try.func119, Try.ntmps119
    go_wp2
    go_ret
    exact ⟨_, rfl, .inr ⟨by omega, by omega, by omega⟩, Below.refl _ _⟩
theorem infoTi : (Try.prog.info? 108).map (·.size) = some 2 ∧ (Try.prog.info? 108).map (fun i => (i.zero, i.size, i.bytes)) = some (some (.agg #[.int .i64 0, .int .i64 0]), 2, 16) := ⟨by kernel_rfl, by kernel_rfl⟩

set_option maxHeartbeats 1600000 in
theorem toTi_any (x : Ti) (w : World) :
    Calls Try.prog 166 #[.agg #[.int .i64 x.kid, .int .i64 x.up]] w fun e w' => e = .returned (.agg #[.int .i64 x.kid, .int .i64 x.up]) ∧ Below w.heap.size w w' := by
  go_enter Try.func166, Try.ntmps166
  go_wp2
  refine bodyPost_ret (results_cell_row rfl _ _ (w.heap.size + 1) 108 #[.int .i64 x.kid, .int .i64 x.up] (0, 0) _ rfl ?_ Try.underlying108 rfl infoTi.1) rfl ?_
  · rw [heap_alloc_old _ _ (by simp)]
    exact heap_alloc2_new w _ _
  · exact ⟨rfl, (((Below.refl _ _).alloc (Nat.le_refl _) _).alloc (by simp) _).alloc (by simp; omega) _⟩

set_option maxHeartbeats 4000000 in
theorem toTis_any (a : Option Addr) (c : Nat) (xs : List Ti) (w : World) (hn0 : xs.length ≤ 1048576) (hT : RowsAt 2 tiCells w a xs) :
    Calls Try.prog 124 #[.slice a xs.length c] w fun e w' => e = .returned (.slice (some ⟨w.heap.size, 0, none⟩) xs.length xs.length) ∧ w'.ownsRow w.heap.size 108 2 (.slice (some ⟨w.heap.size, 0, none⟩) xs.length xs.length) xs.length (rowVals tiCells xs) ∧ Below w.heap.size w w' := by
  unfold RowsAt at hT
  obtain ⟨n, hn⟩ : ∃ n, n = xs.length := ⟨_, rfl⟩
  rw [← hn] at hT hn0 ⊢
  have HN := hidOf hn
  clear hn
  obtain ⟨i0, hi, hz0, hz1, hz2⟩ := info_parts infoTi.2
  go_enter Try.func124, Try.ntmps124
  go_wp2_with (at_make; refine wpList_make_full _ rfl _ _ 27 rfl w.heap.size 108 i0 _ 2 Try.underlying27 hi hz0 hz1 .i64 .i64 _ _ n rfl rfl rfl rfl (by rw [hz2]; omega) (by unfold maxLen; omega) (Nat.le_refl _) ?_; intro w1 hown hgrow)
  have hb1 : Below w.heap.size w w1 := (Below.refl _ w).grown hgrow (Nat.le_refl _) (fun k e => by cases e)
  obtain ⟨zs, hzs⟩ : ∃ zs, zs = (madeCells (Value.agg #[Value.int IntKind.i64 0, Value.int IntKind.i64 0]).cells (n * 2)).toList := ⟨_, rfl⟩
  rw [← hzs] at hown
  clear hzs hgrow
  go_loopw [4] (fun i wr => ∃ (k : Nat) (zs : List Value), k ≤ n ∧ i = .int .i64 k ∧ wr.ownsRow w.heap.size 108 2 (.slice (some ⟨w.heap.size, 0, none⟩) n n) n zs ∧ Hid (zs.take (k * 2) = rowVals tiCells (xs.take k)) ∧ Below w.heap.size w wr) (fun i _ => n - (intOf i).toNat)
  case atStart => exact ⟨0, zs, Nat.zero_le _, rfl, hown, hidOf (by simp [rowVals]), hb1⟩
  case round =>
    obtain ⟨k, zs, hk, rfl, ho, HZ, hb⟩ := hrel
    by_cases hlt : k < n
    · obtain ⟨x, ex⟩ : ∃ x, xs[k]? = some x := ⟨_, List.getElem?_eq_getElem (by rw [← HN.out]; exact hlt)⟩
      obtain ⟨b1, o1, rfl, hb1, hc1⟩ := hT (by omega)
      obtain ⟨p0, p1⟩ := tiC (w := wr) (fun j hj => by rw [hb.cell hb1]; exact hc1 k x ex j hj)
      have EX := hidOf ex
      clear ex hc1 hT
      have hA : (0 : Int) ≤ (k : Int) := by omega
      have hB : (k : Int) < (n : Int) := by omega
      go_wp2_with fail
      refine (toTi_any x _).mono ?_
      rintro e w2 ⟨rfl, hb2⟩
      have ho2 := owns_below ho hb2
      have hlz : zs.length = n * 2 := ho2.1
      have s0 := ho2.stored (k * 2) (.int .i64 x.kid)
      have s1 := s0.1.stored (k * 2 + 1) (.int .i64 x.up)
      have HS := hidOf (And.intro s1.1 (grownBy_trans s0.2 s1.2))
      obtain ⟨u0, d0⟩ : ∃ u, w2.cell? ⟨w.heap.size, k * 2, none⟩ = some u := ⟨_, (ho2.cellAt (k * 2) (by omega)).trans (List.getElem?_eq_getElem (by omega))⟩
      obtain ⟨u1, d1⟩ : ∃ u, w2.cell? ⟨w.heap.size, k * 2 + 1, none⟩ = some u := ⟨_, (ho2.cellAt (k * 2 + 1) (by omega)).trans (List.getElem?_eq_getElem (by omega))⟩
      have f0 := ho2.frozenAt (k * 2)
      have f1 := ho2.frozenAt (k * 2 + 1)
      have HLZ := hidOf hlz
      clear s0 s1 hlz ho ho2 p0 p1
      go_wp2
      go_roundw
      case rel => exact ⟨k + 1, layAt zs (k * 2) (tiCells x), by omega, by go_num, HS.out.1, hidOf (layAt_take tiCells_len (by have := HLZ.out; omega) EX.out HZ.out), (hb.trans (hb2.mono hb.size)).grown HS.out.2 (Nat.le_trans hb.size hb2.size) (fun q hq => by cases hq; exact Nat.le_refl _)⟩
      case measure => simp [intOf]; omega
    · go_wp2
      go_ret
      refine ⟨rfl, ?_, hb⟩
      have hz : zs = rowVals tiCells xs := by
        have h1 := HZ.out
        have h2 : zs.length = n * 2 := ho.1
        have h3 := HN.out
        rw [List.take_of_length_le (by omega), List.take_of_length_le (by omega)] at h1
        exact h1
      rw [← hz]
      exact ho

set_option maxHeartbeats 1600000 in
theorem szTis_any (a : Option Addr) (n c : Nat) (L : Int) (w : World) (hn : n ≤ 9223372036854775807) (h0 : 0 ≤ L) (h1 : L ≤ 1048576) :
    Calls Try.prog 120 #[.slice a n c, .int .i64 L] w fun e w' => ∃ r : Int, e = .returned (.int .i64 r) ∧ ((r = -1) ∨ (0 ≤ r ∧ r ≤ L ∧ n ≤ 1048576)) ∧ Below w.heap.size w w' := by
  by_cases hb : L < n
  · go_enter Try.func120, Try.ntmps120
    go_wp2
    go_ret
    exact ⟨-1, rfl, .inl rfl, Below.refl _ _⟩
  · go_enter Try.func120, Try.ntmps120
    go_wp2
    go_ret
    exact ⟨_, rfl, .inr ⟨by omega, by omega, by omega⟩, Below.refl _ _⟩
end Go.Proofs.Ytokfemlcamnaaaa
