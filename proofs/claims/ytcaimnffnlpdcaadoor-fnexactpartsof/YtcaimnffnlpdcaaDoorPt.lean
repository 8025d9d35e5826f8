/- What impl.PartsOf and spec.PartsOf answer. -/
import Derived.Test.YtcaimnffnlpdcaaDoorStrs
import Derived.Test.YtcaimnffnlpdcaaDoorPtLib
import Derived.Test.YtcaimnffnlpdcaaDoorShelf
import Derived.Lib.LaidTab
import Derived.Lib.AppendIntMem
namespace Go.Proofs.YtcaimnffnlpdcaaDoor
open Go.RowKit

theorem infoStr : (Tryd.prog.info? 9).map (fun i => (i.zero, i.size, i.bytes)) = some (some (.string ByteArray.empty), 1, 16) := by kernel_rfl

/-- The answer, in memory of its own. -/
def PAns (s : ByteArray) (w : World) (e : Ending) (w' : World) : Prop :=
  Below w.heap.size w w' ∧
  (POk s → ∃ v, e = .returned (.tuple #[v, .bool true]) ∧ w'.ownsRow w.heap.size 9 1 v (pf s).length (strVals (pf s))) ∧
  (¬ POk s → ∃ v, e = .returned (.tuple #[v, .bool false]) ∧ w'.ownsRow w.heap.size 9 1 v 0 [])
theorem pans_no {s : ByteArray} {w w' : World} {e : Ending} (hb : Below w.heap.size w w') (h : ¬ POk s) (v : Value) (he : e = .returned (.tuple #[v, .bool false])) (ho : w'.ownsRow w.heap.size 9 1 v 0 []) : PAns s w e w' :=
  ⟨hb, fun h' => absurd h' h, fun _ => ⟨v, he, ho⟩⟩
theorem pans_yes {s : ByteArray} {w w' : World} {e : Ending} (hb : Below w.heap.size w w') (h : POk s) (v : Value) (he : e = .returned (.tuple #[v, .bool true])) (ho : w'.ownsRow w.heap.size 9 1 v (pf s).length (strVals (pf s))) : PAns s w e w' :=
  ⟨hb, fun _ => ⟨v, he, ho⟩, fun h' => absurd h h'⟩

def PlAns (s : ByteArray) (w : World) (e : Ending) (w' : World) : Prop := ∃ b : Bool, e = .returned (.bool b) ∧ (b = true ↔ Plain s s.size) ∧ w' = w
theorem plain_any (s : ByteArray) (w : World) (hs : s.size ≤ 600) :
    Calls Tryd.prog 33 #[.string s] w fun e w' => PlAns s w e w' := by
  have hby := by8_at s
  go_enter Tryd.func33, Tryd.ntmps33
  go_wp2
  go_loop [3] (fun i => ∃ k : Nat, k ≤ s.size ∧ i = .int .i64 k ∧ Hid (Plain s k)) (fun i => s.size - (intOf i).toNat)
  case atStart => exact ⟨0, Nat.zero_le _, rfl, fun j hj => by omega⟩
  case round =>
    obtain ⟨k, hk, rfl, HP⟩ := hrel
    have hr := by8_range s k
    by_cases hlt : k < s.size
    · by_cases hd : 32 ≤ by8 s k ∧ by8 s k ≤ 126
      · obtain ⟨h1, h2⟩ := hd
        go_wp2
        go_round
        case rel => exact ⟨k + 1, by omega, by go_num, plain_succ HP.out h1 h2⟩
        case measure => simp [intOf]; omega
      · go_wp2
        all_goals
          first
          | (exfalso; omega)
          | (go_ret
             exact ⟨false, rfl, ⟨(fun h => by cases h), fun h => absurd (h k hlt) hd⟩, rfl⟩)
    · have hke : k = s.size := by omega
      have HK := hidOf hke
      clear hke
      go_wp2
      go_ret
      exact ⟨true, rfl, ⟨fun _ => by rw [← HK.out]; exact HP.out, fun _ => rfl⟩, rfl⟩

theorem plain_yes (s : ByteArray) (w : World) (hs : s.size ≤ 600) (h : Plain s s.size) :
    Calls Tryd.prog 33 #[.string s] w fun e w' => e = .returned (.bool true) ∧ w' = w := by
  refine (plain_any s w hs).mono ?_
  rintro e w' ⟨b, rfl, hb, rfl⟩
  exact ⟨ret_bool (hb.2 h), rfl⟩
theorem plain_no (s : ByteArray) (w : World) (hs : s.size ≤ 600) (h : ¬ Plain s s.size) :
    Calls Tryd.prog 33 #[.string s] w fun e w' => e = .returned (.bool false) ∧ w' = w := by
  refine (plain_any s w hs).mono ?_
  rintro e w' ⟨b, rfl, hb, rfl⟩
  refine ⟨ret_bool ?_, rfl⟩
  cases b
  · rfl
  · exact absurd (hb.1 rfl) h

set_option maxHeartbeats 1600000 in
set_option maxRecDepth 20000 in
theorem sPt_any (s : ByteArray) (w : World) (hs : s.size ≤ 1048576) :
    Calls Tryd.prog 18 #[.string s] w fun e w' => PAns s w e w' := by
  obtain ⟨i0, hi, hz0, hz1, hz2⟩ := info_parts infoStr
  have hby := by8_at s
  by_cases hlong : 600 < s.size
  · go_enter Tryd.func18, Tryd.ntmps18
    go_wp2
    go_ret2
    exact pans_no ((Below.refl _ w).alloc (Nat.le_refl _) _) (fun h => by have := h.1; omega) _ rfl (World.ownsRow_made w #[] 0 (Nat.le_refl _) (by decide) rfl)
  · go_enter Tryd.func18, Tryd.ntmps18
    go_wp2
    go_loopw [2, 3, 4, 5, 6] (fun r2 r3 v b i wr => ∃ (k m : Nat) (os : List ByteArray), k ≤ s.size + 1 ∧ m ≤ k ∧ b = .int .i64 m ∧ i = .int .i64 k ∧ os.length ≤ k ∧ Hid (PInv s os m k) ∧ Hid (∀ j, j < k → j < s.size → 32 ≤ by8 s j ∧ by8 s j ≤ 126) ∧ wr.ownsRow w.heap.size 9 1 v os.length (strVals os) ∧ Below w.heap.size w wr)
      (fun _ _ _ _ i _ => s.size + 1 - (intOf i).toNat)
    case atStart => exact ⟨0, 0, [], by omega, by omega, rfl, rfl, by simp, pinv_zero s, fun j hj => by omega, World.ownsRow_made w #[] 0 (Nat.le_refl _) (by decide) rfl, (Below.refl _ w).alloc (Nat.le_refl _) _⟩
    case round =>
      obtain ⟨k, m, os, hk, hm, rfl, rfl, hol, HI, HP, hown, hb⟩ := hrel
      obtain ⟨ao, cv, rfl⟩ := owns_slice hown
      have hr := by8_range s k
      have hsz := hb.size
      by_cases hle : k ≤ s.size
      · by_cases hlt : k < s.size
        · by_cases hd : 32 ≤ by8 s k ∧ by8 s k ≤ 126
          · obtain ⟨hd1, hd2⟩ := hd
            have HP' : Hid (∀ j, j < k + 1 → j < s.size → 32 ≤ by8 s j ∧ by8 s j ≤ 126) := fun j hj hjs => by
              by_cases e : j = k
              · subst e; exact ⟨hd1, hd2⟩
              · exact HP.out j (by omega) hjs
            by_cases h32 : by8 s k = 32
            · have h32' : (by8 s k != 32) = false := by simp [h32]
              have H32 := hidOf h32
              clear h32
              by_cases hmk : m < k
              · have hsl := str_slice (P := Tryd.prog) 9 s m k (m : Int) (k : Int) Tryd.underlying9 rfl rfl (by omega) (by omega)
                go_wp2_with (at_builtin; refine wpList_append_own _ rfl _ _ 37 rfl w.heap.size 9 i0 (.string ByteArray.empty) 1 16 Tryd.underlying37 hi hz0 hz1 hz2 rfl (by decide) _ _ _ rfl (hown.alloc _) ⟨wr.heap.size, 0, none⟩ 1 1 [.string (s.extract m k)] rfl rfl (cell_one_new _ _ _) (fun x hx => by simp at hx; subst hx; rfl) (by unfold maxLen; omega) (by omega) (by simp; omega) ?_; intro v' w3 hown' hgrow3 hnil3)
                go_roundw
                case rel => exact ⟨k + 1, k + 1, os ++ [s.extract m k], by omega, by omega, by go_num, by go_num, by simp; omega, pinv_part HI.out hlt H32.out hmk, HP', by simpa [strVals] using hown', (hb.alloc (by omega) _).grown hgrow3 (by simp; omega) (fun q hq => (hown.lt q hq).1)⟩
                case measure => simp [intOf]; omega
              · go_wp2
                go_roundw
                case rel => exact ⟨k + 1, k + 1, os, by omega, by omega, by go_num, by go_num, by omega, pinv_blank HI.out hlt H32.out (by omega), HP', hown, hb⟩
                case measure => simp [intOf]; omega
            · have h32' : (by8 s k != 32) = true := by rw [bne_iff_ne]; exact h32
              have H32 := hidOf h32
              clear h32
              go_wp2
              go_roundw
              case rel => exact ⟨k + 1, m, os, by omega, by omega, rfl, by go_num, by omega, pinv_char HI.out hlt hd1 H32.out, HP', hown, hb⟩
              case measure => simp [intOf]; omega
          · go_wp2
            all_goals
              first
              | (exfalso; omega)
              | (go_ret2
                 exact pans_no (hb.alloc (by omega) _) (fun h => hd (h.2.1 k hlt)) _ rfl (World.ownsRow_made wr #[] 0 (by omega) (by decide) rfl))
        · have hke : k = s.size := by omega
          subst hke
          by_cases hmk : m < s.size
          · have hsl := str_slice (P := Tryd.prog) 9 s m s.size (m : Int) (s.size : Int) Tryd.underlying9 rfl rfl (by omega) (by omega)
            go_wp2_with (at_builtin; refine wpList_append_own _ rfl _ _ 37 rfl w.heap.size 9 i0 (.string ByteArray.empty) 1 16 Tryd.underlying37 hi hz0 hz1 hz2 rfl (by decide) _ _ _ rfl (hown.alloc _) ⟨wr.heap.size, 0, none⟩ 1 1 [.string (s.extract m s.size)] rfl rfl (cell_one_new _ _ _) (fun x hx => by simp at hx; subst hx; rfl) (by unfold maxLen; omega) (by omega) (by simp; omega) ?_; intro v' w3 hown' hgrow3 hnil3)
            go_roundw
            case rel => exact ⟨s.size + 1, s.size + 1, os ++ [s.extract m s.size], by omega, by omega, by go_num, by go_num, by simp; omega, pinv_endpart HI.out hmk, fun j _ hjs => HP.out j hjs hjs, by simpa [strVals] using hown', (hb.alloc (by omega) _).grown hgrow3 (by simp; omega) (fun q hq => (hown.lt q hq).1)⟩
            case measure => simp [intOf]
          · go_wp2
            go_roundw
            case rel => exact ⟨s.size + 1, s.size + 1, os, by omega, by omega, by go_num, by go_num, by omega, pinv_end HI.out (by omega), fun j _ hjs => HP.out j hjs hjs, hown, hb⟩
            case measure => simp [intOf]
      · have hos := pinv_done HI.out (by omega)
        have HO := hidOf hos
        clear hos
        by_cases h10 : 10 < os.length
        · go_wp2
          go_ret2
          exact pans_no (hb.alloc (by omega) _) (fun h => by have := h.2.2; rw [← HO.out] at this; omega) _ rfl (World.ownsRow_made wr #[] 0 (by omega) (by decide) rfl)
        · go_wp2
          go_ret2
          exact pans_yes hb ⟨by omega, fun j hj => HP.out j (by omega) hj, by rw [← HO.out]; omega⟩ _ rfl (by rw [← HO.out]; exact hown)

theorem pt_clone (s : ByteArray) (w : World) (h : s.size ≤ 1048576) :
    Calls Tryd.prog 30 #[.string s] w fun e w' => e = .returned (.string s) ∧ Below w.heap.size w w' := by
  go_enter Tryd.func30, Tryd.ntmps30
  go_wp2_with fail
  refine (Tryd.stringslite_Clone s _ (by omega)).mono ?_
  rintro e w1 ⟨rfl, hb⟩
  go_wp2
  go_ret
  exact ⟨rfl, hb⟩

theorem fieldsGo_size : ∀ (l cur : List UInt8), ∀ p ∈ Lib.fieldsGo cur l, p.length ≤ cur.length + l.length
  | [], cur, p, hp => by
    rw [Lib.fieldsGo] at hp
    split at hp
    · simp at hp
    · simp at hp; subst hp; simp
  | b :: l, cur, p, hp => by
    rw [Lib.fieldsGo] at hp
    split at hp
    · split at hp
      · have := fieldsGo_size l [] p hp
        simp at *
        omega
      · rcases List.mem_cons.1 hp with rfl | hp
        · simp
        · have := fieldsGo_size l [] p hp
          simp at *
          omega
    · have := fieldsGo_size l (cur ++ [b]) p hp
      simp at *
      omega
theorem fieldsGo_many : ∀ (l cur : List UInt8), (Lib.fieldsGo cur l).length ≤ l.length + 1
  | [], cur => by
    rw [Lib.fieldsGo]
    split <;> simp
  | b :: l, cur => by
    rw [Lib.fieldsGo]
    split
    · split
      · have := fieldsGo_many l []
        simp
        omega
      · have := fieldsGo_many l []
        simp
        omega
    · have := fieldsGo_many l (cur ++ [b])
      simp
      omega
theorem pf_size {s : ByteArray} {t : ByteArray} (h : t ∈ pf s) : t.size ≤ s.size := by
  obtain ⟨l, hl, rfl⟩ := List.mem_map.1 h
  have := fieldsGo_size s.data.toList [] l hl
  have hs : s.data.toList.length = s.size := by simp
  have ht : (⟨l.toArray⟩ : ByteArray).size = l.length := by simp [ByteArray.size]
  rw [ht]
  simp at this
  omega
theorem pf_many (s : ByteArray) : (pf s).length ≤ s.size + 1 := by
  have := fieldsGo_many s.data.toList []
  have hs : s.data.toList.length = s.size := by simp
  unfold pf Lib.fields
  rw [List.length_map]
  omega

set_option maxHeartbeats 1600000 in
set_option maxRecDepth 20000 in
theorem iPt_any (s : ByteArray) (w : World) (hs : s.size ≤ 1048576) (hT : Lib.TabIs Tryd.prog w "strings.asciiSpace" .u8 Lib.asciiSpaceTab) :
    Calls Tryd.prog 19 #[.string s] w fun e w' => PAns s w e w' := by
  have HT := hidOf hT
  clear hT
  by_cases hlong : 600 < s.size
  · go_enter Tryd.func19, Tryd.ntmps19
    go_wp2
    go_ret2
    exact pans_no ((Below.refl _ w).alloc (Nat.le_refl _) _) (fun h => by have := h.1; omega) _ rfl (World.ownsRow_made w #[] 0 (Nat.le_refl _) (by decide) rfl)
  · by_cases hpl : Plain s s.size
    · have H1 := hidOf (fun w => plain_yes s w (by omega) hpl)
      have HPl := hidOf hpl
      have hasc : ∀ (j : Nat) b, s.data.toList[j]? = some b → b.toNat < 128 := fun j b hj => by
        have hjl : j < s.data.toList.length := (List.getElem?_eq_some_iff.1 hj).1
        have h1 := hpl j (by simpa using hjl)
        unfold by8 at h1
        rw [List.getD_eq_getElem?_getD, hj] at h1
        simp at h1
        omega
      have HA := hidOf hasc
      have hmany := pf_many s
      have hlf : (Lib.fields s.data.toList).length = (pf s).length := by simp [pf]
      have hvals : ((Lib.fields s.data.toList).map fun l => Value.string ⟨l.toArray⟩) = strVals (pf s) := by simp [pf, strVals]
      clear hpl hasc
      go_enter Tryd.func19, Tryd.ntmps19
      go_wp2_with fail
      refine (H1.out _).mono ?_
      rintro e w ⟨rfl, rfl⟩
      go_wp2_with fail
      refine (Tryd.strings_Fields s _ (by omega) HA.out HT.out).mono ?_
      rw [hlf, hvals]
      clear hlf hvals
      rintro e w2 ⟨rfl, rfl⟩
      have hown : (w.alloc (.cells (strVals (pf s)).toArray 9)).ownsRow w.heap.size 9 1 (.slice (some ⟨w.heap.size, 0, none⟩) (pf s).length (pf s).length) (pf s).length (strVals (pf s)) := by
        have := World.ownsRow_lit (base := w.heap.size) (e := 9) (size := 1) w (strVals (pf s)).toArray (pf s).length (Nat.le_refl _) (by unfold maxLen; omega) (by simp [strVals])
        simpa using this
      obtain ⟨W2, hW2⟩ : ∃ W2, W2 = w.alloc (.cells (strVals (pf s)).toArray 9) := ⟨_, rfl⟩
      have hb2 : Below w.heap.size w W2 := by rw [hW2]; exact (Below.refl _ w).alloc (Nat.le_refl _) _
      have hsz2 := hb2.size
      rw [← hW2] at hown ⊢
      clear hW2
      by_cases h10 : 10 < (pf s).length
      · go_wp2
        go_ret2
        exact pans_no (hb2.alloc hsz2 _) (fun h => by have := h.2.2; omega) _ rfl (World.ownsRow_made W2 #[] 0 hsz2 (by decide) rfl)
      · obtain ⟨n, hn⟩ : ∃ n, n = (pf s).length := ⟨_, rfl⟩
        rw [← hn] at hown h10 hmany ⊢
        have HN := hidOf hn
        clear hn
        go_wp2
        go_loopw [5, 6, 24] (fun _ _ i wr => ∃ (j : Nat), j ≤ n ∧ i = .int .i64 j ∧ wr.ownsRow w.heap.size 9 1 (.slice (some ⟨w.heap.size, 0, none⟩) n n) n (strVals (pf s)) ∧ Below w.heap.size w wr) (fun _ _ i _ => n - (intOf i).toNat)
        case atStart => exact ⟨0, Nat.zero_le _, rfl, hown, hb2⟩
        case round =>
          obtain ⟨j, hj, rfl, ho, hb⟩ := hrel
          have hsz := hb.size
          by_cases hlt : j < n
          · have hA : (0 : Int) ≤ (j : Int) := by omega
            have hB : (j : Int) < (n : Int) := by omega
            obtain ⟨t, ht⟩ : ∃ t, (pf s)[j]? = some t := ⟨_, List.getElem?_eq_getElem (by rw [← HN.out]; exact hlt)⟩
            have hts := pf_size (List.mem_of_getElem? ht)
            have hc := ho.cellAt j (by omega)
            rw [show (strVals (pf s))[j]? = some (.string t) by simp [strVals, ht]] at hc
            have HT2 := hidOf ht
            clear ht
            go_wp2_with fail
            refine (pt_clone t _ (by omega)).mono ?_
            rintro e w3 ⟨rfl, hb3⟩
            have ho3 := owns_below ho hb3
            have hc3 := ho3.cellAt j (by omega)
            rw [show (strVals (pf s))[j]? = some (.string t) by simp [strVals, HT2.out]] at hc3
            have hf3 := ho3.frozenAt j
            have hst := ho3.stored j (.string t)
            rw [show (strVals (pf s)).set j (.string t) = strVals (pf s) by
              apply List.ext_getElem?
              intro i
              rw [List.getElem?_set]
              split
              · rename_i e; subst e; simp [strVals, HT2.out]; exact (List.getElem?_eq_some_iff.1 HT2.out).1
              · rfl] at hst
            have HS := hidOf hst
            clear hst
            go_wp2
            go_roundw
            case rel => exact ⟨j + 1, by omega, by go_num, HS.out.1, ((hb.trans (hb3.mono hsz)).grown HS.out.2 (by have := hb3.size; omega) (fun q hq => by cases hq; exact Nat.le_refl _))⟩
            case measure => simp [intOf]; omega
          · go_wp2
            go_ret2
            exact pans_yes hb ⟨by omega, HPl.out, by rw [← HN.out]; omega⟩ _ rfl (by rw [← HN.out]; exact ho)
    · have H1 := hidOf (fun w => plain_no s w (by omega) hpl)
      have HPl := hidOf hpl
      clear hpl
      go_enter Tryd.func19, Tryd.ntmps19
      go_wp2_with fail
      refine (H1.out _).mono ?_
      rintro e w ⟨rfl, rfl⟩
      go_wp2
      go_ret2
      exact pans_no ((Below.refl _ w).alloc (Nat.le_refl _) _) (fun h => HPl.out h.2.1) _ rfl (World.ownsRow_made w #[] 0 (Nat.le_refl _) (by decide) rfl)
end Go.Proofs.YtcaimnffnlpdcaaDoor
