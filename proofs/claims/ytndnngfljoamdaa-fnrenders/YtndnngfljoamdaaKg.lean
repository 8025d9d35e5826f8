/- What the laws' bare and joined answer, and what lines without their blanks tell. -/
import Derived.Test.YtndnngfljoamdaaProg
import Derived.Test.YtndnngfljoamdaaKa
import Derived.Lib.AppendIntMem
import Derived.WalkKit
import Derived.Laws.OwnMore
import Derived.Maps.AppendAt
import Derived.Test.YtndnngfljoamdaaCutLib
import Derived.BigQuiet
import Derived.Deep.QuietTactic
namespace Go.Proofs.Ytndnngfljoamdaa
open Go.RowKit

theorem infoU8B : (Try.prog.info? 5).map (fun i => (i.zero, i.size, i.bytes)) = some (some (.int .u8 0), 1, 1) := by kernel_rfl
/-- The first bytes that are no blanks. -/
def bnS (s : ByteArray) : Nat → List Int
  | 0 => []
  | k + 1 => bnS s k ++ (if by8 s k = 32 then [] else [by8 s k])
theorem bnS_len (s : ByteArray) : ∀ k, (bnS s k).length ≤ k
  | 0 => Nat.le_refl _
  | k + 1 => by
    have := bnS_len s k
    rw [bnS, List.length_append]
    split
    · simp; omega
    · simp; omega
/-- The bytes that are no blanks. -/
def bl (l : List UInt8) : List Int := (l.filter (fun u => u.toNat != 32)).map (fun u => (u.toNat : Int))
theorem bl_app (a b : List UInt8) : bl (a ++ b) = bl a ++ bl b := by simp [bl]
theorem bl_blanks (n : Nat) : bl (List.replicate n 32) = [] := by
  unfold bl
  rw [List.filter_replicate_of_neg (by decide)]
  rfl
theorem bnS_eq (s : ByteArray) : ∀ k, k ≤ s.size → bnS s k = bl (s.data.toList.take k)
  | 0, _ => rfl
  | k + 1, h => by
    have h' : k < s.data.toList.length := by simpa using (show k < s.size from h)
    obtain ⟨u, hu⟩ : ∃ u, s.data.toList[k] = u := ⟨_, rfl⟩
    have e : by8 s k = (u.toNat : Int) := by unfold by8; rw [List.getD_eq_getElem?_getD, List.getElem?_eq_getElem h', hu]; rfl
    rw [bnS, bnS_eq s k (by omega), List.take_succ_eq_append_getElem h', bl_app, e, hu]
    congr 1
    unfold bl
    by_cases h32 : u.toNat = 32
    · rw [if_pos (by omega), List.filter_cons_of_neg (by simp [h32])]
      rfl
    · rw [if_neg (by omega), List.filter_cons_of_pos (by simp [h32])]
      rfl
theorem bnS_all (s : ByteArray) : bnS s s.size = bl s.data.toList := by
  rw [bnS_eq s s.size (Nat.le_refl _), List.take_of_length_le (by simp)]
/-- A text without its blanks. -/
def bareOf (s : ByteArray) : ByteArray := strOfNums (bl s.data.toList)

set_option maxHeartbeats 1600000 in
set_option maxRecDepth 20000 in
theorem bare_any (s : ByteArray) (w : World) (h : s.size ≤ 1000000) :
    Calls Try.prog 36 #[.string s] w fun e w' => e = .returned (.string (bareOf s)) ∧ Below w.heap.size w w' := by
  obtain ⟨i0, hi, hz0, hz1, hz2⟩ := info_parts infoU8B
  have hby := by8_at s
  have HE := hidOf (show bareOf s = strOfNums (bnS s s.size) by unfold bareOf; rw [bnS_all])
  obtain ⟨T, hT⟩ : ∃ T, T = bareOf s := ⟨_, rfl⟩
  rw [← hT] at HE ⊢
  clear hT
  go_enter Try.func36, Try.ntmps36
  go_wp2
  go_loopw [3, 4] (fun v i wr => ∃ k : Nat, k ≤ s.size ∧ i = .int .i64 k ∧ wr.ownsRow w.heap.size 5 1 v (bnS s k).length ((bnS s k).map (Value.int .u8)) ∧ Below w.heap.size w wr) (fun _ i _ => s.size - (intOf i).toNat)
  case atStart => exact ⟨0, Nat.zero_le _, rfl, World.ownsRow_made w #[] 0 (Nat.le_refl _) (by decide) rfl, (Below.refl _ w).alloc (Nat.le_refl _) _⟩
  case round =>
    obtain ⟨k, hk, rfl, hown, hb⟩ := hrel
    have hl := bnS_len s k
    have hsz := hb.size
    obtain ⟨ao, cv, rfl⟩ := owns_slice hown
    by_cases hlt : k < s.size
    · have hA : (0 : Int) ≤ (k : Int) := by omega
      have hB : (k : Int) < (s.size : Int) := by omega
      by_cases h32 : by8 s k = 32
      · have HN := hidOf (show bnS s (k + 1) = bnS s k by rw [bnS, if_pos h32, List.append_nil])
        have hne : (by8 s k != 32) = false := by simp [h32]
        clear h32
        go_wp2
        go_roundw
        case rel => exact ⟨k + 1, by omega, by go_num, by rw [HN.out]; exact hown, hb⟩
        case measure => simp [intOf]; omega
      · have HN := hidOf (show bnS s (k + 1) = bnS s k ++ [by8 s k] by rw [bnS, if_neg h32])
        have hne : (by8 s k != 32) = true := by simpa using h32
        clear h32
        go_wp2_with (at_builtin; refine wpList_append_own _ rfl _ _ 22 rfl w.heap.size 5 i0 (.int .u8 0) 1 1 Try.underlying22 hi hz0 hz1 hz2 rfl (by decide) _ _ _ rfl (hown.alloc _) ⟨wr.heap.size, 0, none⟩ 1 1 [.int .u8 (by8 s k)] rfl rfl (cell_one_new _ _ _) (fun x hx => by simp at hx; subst hx; rfl) (by unfold maxLen; omega) (by omega) (by simp; omega) ?_; intro v' w3 hown' hgrow3 hnil3)
        go_roundw
        case rel => exact ⟨k + 1, by omega, by go_num, by rw [HN.out]; simpa using hown', (hb.alloc (by omega) _).grown hgrow3 (by simp; omega) (fun q hq => (hown.lt q hq).1)⟩
        case measure => simp [intOf]; omega
    · have hM : ¬ (k : Int) < (s.size : Int) := by omega
      have hks : k = s.size := by omega
      have HK := hidOf hks
      have hcv := fun W (h : W.ownsRow w.heap.size 5 1 (.slice ao (bnS s k).length cv) (bnS s k).length ((bnS s k).map (Value.int .u8))) => conv_owned (P := Try.prog) (w := W) 22 9 5 w.heap.size (.slice ao (bnS s k).length cv) (bnS s k).length (bnS s k) Try.underlying22 Try.underlying5 Try.underlying9 h
      have hcv1 := hcv wr hown
      clear hks hcv
      go_wp2
      go_ret
      exact ⟨ret_str (by rw [HE.out, HK.out]), hb⟩

/-- Texts one behind the other. -/
def cat : List ByteArray → ByteArray
  | [] => ⟨#[]⟩
  | s :: ss => s ++ cat ss
theorem nil_app (s : ByteArray) : (⟨#[]⟩ : ByteArray) ++ s = s := ByteArray.empty_append
theorem app_assoc (a b c : ByteArray) : a ++ b ++ c = a ++ (b ++ c) := ByteArray.append_assoc
theorem cat_at {ss : List ByteArray} {k : Nat} {s : ByteArray} (h : ss[k]? = some s) : cat (ss.drop k) = s ++ cat (ss.drop (k + 1)) := by
  have h1 := List.getElem?_eq_some_iff.1 h
  rw [List.drop_eq_getElem_cons h1.1, cat, h1.2]
theorem cat_none {ss : List ByteArray} {k : Nat} (h : ss.length ≤ k) : cat (ss.drop k) = ⟨#[]⟩ := by rw [List.drop_of_length_le h, cat]

set_option maxHeartbeats 1600000 in
set_option maxRecDepth 20000 in
theorem joined_any (v : Value) (b n : Nat) (ss : List ByteArray) (w : World) (hn : n ≤ 1000) (hsz : (cat ss).size ≤ 1000000) (h1 : w.ownsRow b 9 1 v n (strVals ss)) :
    Calls Try.prog 37 #[v] w fun e w' => e = .returned (.string (cat ss)) ∧ w' = w := by
  have hl : ss.length = n := by have := h1.1; simpa [strVals] using this
  have HL := hidOf hl
  clear hl
  obtain ⟨T, hT⟩ : ∃ T, T = cat ss := ⟨_, rfl⟩
  rw [← hT] at hsz ⊢
  have HT := hidOf hT
  clear hT
  obtain ⟨ao, cv, rfl⟩ := owns_slice h1
  have hc1 : ∀ (j : Nat) (s : ByteArray), ss[j]? = some s → 0 < n ∧ ∃ g, ao = some ⟨g, 0, none⟩ ∧ w.cell? ⟨g, j, none⟩ = some (.string s) := fun j s hj => by
    have hjl := (List.getElem?_eq_some_iff.1 hj).1
    rw [HL.out] at hjl
    obtain ⟨g, rfl⟩ := owns_at h1 (by omega)
    refine ⟨by omega, g, rfl, ?_⟩
    rw [h1.cellAt j (by omega)]
    simp [strVals, hj]
  have HC := hidOf hc1
  clear h1 hc1
  go_enter Try.func37, Try.ntmps37
  go_wp2
  go_loop [3, 4] (fun s i => ∃ (k : Nat) (t : ByteArray), k ≤ n ∧ i = .int .i64 k ∧ s = .string t ∧ Hid (t ++ cat (ss.drop k) = T)) (fun _ i => n - (intOf i).toNat)
  case atStart => exact ⟨0, ⟨#[]⟩, Nat.zero_le _, rfl, rfl, hidOf (by rw [List.drop_zero, nil_app, HT.out])⟩
  case round =>
    obtain ⟨k, t, hk, rfl, rfl, HI⟩ := hrel
    by_cases hlt : k < n
    · obtain ⟨s, es⟩ : ∃ s, ss[k]? = some s := ⟨_, List.getElem?_eq_getElem (by rw [HL.out]; exact hlt)⟩
      obtain ⟨hn0, g, eg, p0⟩ := HC.out k s es
      have HE := hidOf (show (t ++ s) ++ cat (ss.drop (k + 1)) = T by rw [← HI.out, cat_at es, app_assoc])
      have hts : t.size + s.size ≤ 1000000 := by
        have h := HE.out
        rw [← h, app_size, app_size] at hsz
        omega
      rw [eg]
      clear es eg
      have hA : (0 : Int) ≤ (k : Int) := by omega
      have hB : (k : Int) < (n : Int) := by omega
      go_wp2
      go_round
      case rel => exact ⟨k + 1, t ++ s, by omega, by go_num, rfl, HE⟩
      case measure => simp [intOf]; omega
    · have hM : ¬ (k : Int) < (n : Int) := by omega
      have HE := hidOf (show t = T by rw [← HI.out, cat_none (by rw [HL.out]; omega), app_none])
      go_wp2
      go_ret
      exact ⟨ret_str HE.out, rfl⟩

theorem dat_app (a b : ByteArray) : (a ++ b).data.toList = a.data.toList ++ b.data.toList := by rw [ByteArray.data_append, Array.toList_append]
/-- All texts of chunks, one behind the other. -/
def texts (cs : List Ch) : List ByteArray := cs.map (·.text)
theorem bl_sp1 (x : Ch) : bl (sp1 x).data.toList = [] := by
  cases h : x.space
  · rw [sp1_no h]; rfl
  · rw [sp1_yes h]; exact bl_blanks 1
theorem bl_blanksOf (n : Int) : bl (blanks n).data.toList = [] := by
  show bl (List.replicate n.toNat (32 : UInt8)).toArray.toList = []
  exact bl_blanks _
theorem bl_lines (ind : Int) (vs : List Int) : ∀ (cs : List Ch) (s : ByteArray), bl (cat (ren ind vs s cs)).data.toList = bl s.data.toList ++ bl (cat (texts cs)).data.toList
  | [], s => by
    rw [ren, cat, cat, app_none]
    show _ = _ ++ bl []
    rw [show bl [] = [] from rfl, List.append_nil]
  | [x], s => by
    rw [ren, cat, cat, app_none]
    show _ = _ ++ bl (cat [x.text]).data.toList
    rw [cat, cat, app_none, dat_app, bl_app]
  | x :: y :: cs, s => by
    have h1 := bl_lines ind vs (y :: cs) (blanks (ind + x.nest))
    have h2 := bl_lines ind vs (y :: cs) (s ++ x.text ++ sp1 x)
    rw [show texts (x :: y :: cs) = x.text :: texts (y :: cs) from rfl, show cat (x.text :: texts (y :: cs)) = x.text ++ cat (texts (y :: cs)) from rfl, ren]
    split
    · rw [cat, dat_app, dat_app, dat_app, bl_app, bl_app, bl_app, h1, bl_blanksOf, List.nil_append, List.append_assoc]
    · rw [h2, dat_app, dat_app, dat_app, bl_app, bl_app, bl_app, bl_sp1, List.append_nil, List.append_assoc]
/-- Lines without their blanks tell the texts without theirs. -/
theorem bare_lines (p : Pc) (vs : List Int) : bareOf (cat (linesOf p vs)) = bareOf (cat (texts p.chunks)) := by
  unfold bareOf linesOf
  rw [bl_lines, bl_blanksOf, List.nil_append]
/-- How many splits there are. -/
def splits (vs : List Int) : List Ch → Nat
  | [] => 0
  | [_] => 0
  | x :: y :: cs => (if spl vs x then 1 else 0) + splits vs (y :: cs)
theorem splits_yes {vs : List Int} {cs : List Ch} {k : Nat} {x : Ch} (hx : cs[k]? = some x) (hk : k + 1 < cs.length) (h : spl vs x = true) : splits vs (cs.drop k) = 1 + splits vs (cs.drop (k + 1)) := by
  obtain ⟨y, r, e1, e2⟩ := drop_two hx hk
  rw [e1, e2, splits, if_pos h]
theorem splits_no {vs : List Int} {cs : List Ch} {k : Nat} {x : Ch} (hx : cs[k]? = some x) (hk : k + 1 < cs.length) (h : spl vs x = false) : splits vs (cs.drop k) = splits vs (cs.drop (k + 1)) := by
  obtain ⟨y, r, e1, e2⟩ := drop_two hx hk
  rw [e1, e2, splits, if_neg (by rw [h]; exact Bool.false_ne_true)]
  omega
theorem splits_end {vs : List Int} {cs : List Ch} {k : Nat} (hk : cs.length ≤ k + 1) : splits vs (cs.drop k) = 0 := by
  by_cases h : k < cs.length
  · rw [drop_one (List.getElem?_eq_getElem h) (by omega), splits]
  · rw [List.drop_of_length_le (by omega), splits]
theorem ren_count (ind : Int) (vs : List Int) : ∀ (cs : List Ch) (s : ByteArray), (ren ind vs s cs).length = 1 + splits vs cs
  | [], s => rfl
  | [x], s => rfl
  | x :: y :: cs, s => by
    have h1 := ren_count ind vs (y :: cs) (blanks (ind + x.nest))
    have h2 := ren_count ind vs (y :: cs) (s ++ x.text ++ sp1 x)
    rw [ren, splits]
    split
    · rw [List.length_cons, h1]; omega
    · rw [h2]; omega
theorem ovr_at {wd : Int} {ss : List ByteArray} {k : Nat} {s : ByteArray} (h : ss[k]? = some s) : ovr wd (ss.drop k) = max ((s.size : Int) - wd) 0 + ovr wd (ss.drop (k + 1)) := by
  have h1 := List.getElem?_eq_some_iff.1 h
  rw [List.drop_eq_getElem_cons h1.1, ovr, h1.2]
end Go.Proofs.Ytndnngfljoamdaa
/- The law's own comparison tells two lists of texts alike. -/
namespace Go.Proofs.Ytndnngfljoamdaa
open Go.RowKit

set_option maxHeartbeats 800000 in
theorem same_any (v1 v2 : Value) (b1 b2 n : Nat) (ss : List ByteArray) (w : World) (hn : n ≤ 4611686018427387904)
    (h1 : w.ownsRow b1 9 1 v1 n (strVals ss)) (h2 : w.ownsRow b2 9 1 v2 n (strVals ss)) :
    Calls Try.prog 39 #[v1, v2] w fun e w' => e = .returned (.bool true) ∧ ∃ q, w' = w.drewN q := by
  have hl : ss.length = n := by have := h1.1; simpa [strVals] using this
  by_cases hz : n = 0
  · obtain ⟨a1, c1, rfl⟩ := owns_slice h1
    obtain ⟨a2, c2, rfl⟩ := owns_slice h2
    subst hz
    clear h1 h2 hl
    go_enter Try.func39, Try.ntmps39
    go_wp2
    go_loop [5] (fun i => i = .int .i64 0) (fun _ => 0)
    case atStart => rfl
    case round =>
      subst hrel
      go_wp2
      go_ret
      exact ⟨rfl, 0, rfl⟩
  · rcases h1.2 with ⟨_, e⟩ | ⟨g1, cap1, cur1, rfl, _⟩
    · omega
    rcases h2.2 with ⟨_, e⟩ | ⟨g2, cap2, cur2, rfl, _⟩
    · omega
    have hc1 : ∀ (j : Nat), j < n → w.cell? ⟨g1, j, none⟩ = some (.string (ss.getD j ByteArray.empty)) := fun j hj => by
      rw [h1.cellAt j (by omega)]
      simp [strVals, List.getD, List.getElem?_eq_getElem (show j < ss.length by omega)]
    have hc2 : ∀ (j : Nat), j < n → w.cell? ⟨g2, j, none⟩ = some (.string (ss.getD j ByteArray.empty)) := fun j hj => by
      rw [h2.cellAt j (by omega)]
      simp [strVals, List.getD, List.getElem?_eq_getElem (show j < ss.length by omega)]
    clear h1 h2 hl
    go_enter Try.func39, Try.ntmps39
    go_wp2
    go_loopw [5] (fun i wr => ∃ (k q : Nat), k ≤ n ∧ i = .int .i64 k ∧ wr = w.drewN q) (fun i _ => n - (intOf i).toNat)
    case atStart => exact ⟨0, 0, Nat.zero_le _, rfl, rfl⟩
    case round =>
      obtain ⟨k, q, hk, rfl, rfl⟩ := hrel
      by_cases hlt : k < n
      · obtain ⟨t, ht⟩ : ∃ t, t = ss.getD k ByteArray.empty := ⟨_, rfl⟩
        have d1 := hc1 k hlt
        have d2 := hc2 k hlt
        rw [← ht] at d1 d2
        clear ht
        have hA : (0 : Int) ≤ (k : Int) := by omega
        have hB : (k : Int) < (n : Int) := by omega
        clear hc1 hc2
        go_wp2
        go_quiet (fail)
        go_wp2
        go_roundw
        case rel => exact ⟨k + 1, q + nq, by omega, by go_num, rfl⟩
        case measure => simp [intOf]; omega
      · go_wp2
        go_ret
        exact ⟨rfl, q, rfl⟩

end Go.Proofs.Ytndnngfljoamdaa
