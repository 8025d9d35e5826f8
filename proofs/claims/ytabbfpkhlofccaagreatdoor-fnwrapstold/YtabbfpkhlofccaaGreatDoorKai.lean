/- A note in lines, as a plain function. -/
import Derived.Test.YtabbfpkhlofccaaGreatDoorWrapWd
import Derived.Lib.Repeat
import Derived.Test.YtabbfpkhlofccaaGreatDoorTrI4
import Derived.Test.YtabbfpkhlofccaaGreatDoorTrTx
namespace Go.Proofs.YtabbfpkhlofccaaGreatDoor
open Go.RowKit

def bl17 (n : Nat) : ByteArray := ⟨(List.replicate n (32 : UInt8)).toArray⟩
theorem bl17_size (n : Nat) : (bl17 n).size = n := by
  rw [size_list]
  simp [bl17]
theorem bl17_zero : bl17 0 = ByteArray.empty := rfl
theorem bl17_more (k : Nat) : bl17 (k + 1) = bl17 k ++ (⟨#[32]⟩ : ByteArray) := by
  apply ByteArray.ext
  apply Array.ext'
  rw [ByteArray.data_append, Array.toList_append]
  show List.replicate (k + 1) (32 : UInt8) = List.replicate k (32 : UInt8) ++ [32]
  rw [List.replicate_succ']
theorem rep_bl17 (n : Nat) : (⟨(Lib.repeatL [32] n).toArray⟩ : ByteArray) = bl17 n := by
  have h : ∀ n, Lib.repeatL [(32 : UInt8)] n = List.replicate n 32 := by
    intro n
    induction n with
    | zero => rfl
    | succ n ih => rw [Lib.repeatL, ih]; rfl
  unfold bl17
  rw [h]
/-- What stands ahead in each line. -/
def ahN (n : Nat) : ByteArray := bl17 n ++ (⟨#[47, 47]⟩ : ByteArray)
def ahB (n : Nat) : ByteArray := bl17 n ++ (⟨#[47, 47]⟩ : ByteArray) ++ (⟨#[32]⟩ : ByteArray)
theorem ahB_lit (n : Nat) : bl17 n ++ (⟨#[47, 47, 32]⟩ : ByteArray) = ahB n := by
  unfold ahB
  rw [ByteArray.append_assoc]
  rfl
def putN (n : Nat) (l : List ByteArray) : List ByteArray := l.map fun x => ahB n ++ x
/-- The lines of a note. -/
def wrapN (note : Bool) (t : ByteArray) (n : Int) (width : Int) : List ByteArray :=
  if note = true ∧ 0 ≤ n ∧ n ≤ 60 then (if wds (t.extract 2 t.size) = [] then [ahN n.toNat] else putN n.toNat (greedy (wds (t.extract 2 t.size)) ((if width ≤ 0 then 0 else width) - (n + 3)))) else []
theorem wrapN_no {note : Bool} {t : ByteArray} {n width : Int} (h : ¬ (note = true ∧ 0 ≤ n ∧ n ≤ 60)) : wrapN note t n width = [] := by unfold wrapN; rw [if_neg h]
theorem wrapN_none {t : ByteArray} {n : Nat} {width : Int} (h : n ≤ 60) (hw : wds (t.extract 2 t.size) = []) : wrapN true t n width = [ahN n] := by
  unfold wrapN
  rw [if_pos ⟨rfl, by omega, by omega⟩, if_pos hw, Int.toNat_natCast]
theorem wrapN_lines {t : ByteArray} {n : Nat} {width : Int} (h : n ≤ 60) (hw : wds (t.extract 2 t.size) ≠ []) : wrapN true t n width = putN n (greedy (wds (t.extract 2 t.size)) ((if width ≤ 0 then 0 else width) - ((n : Int) + 3))) := by
  unfold wrapN
  rw [if_pos ⟨rfl, by omega, by omega⟩, if_neg hw, Int.toNat_natCast]
/-- Without room each word stands alone. -/
theorem gE_none {ws : List ByteArray} {r : Int} (hr : r ≤ 0) {i : Nat} (hi : i < ws.length) : gE ws r i = i + 1 := by
  unfold gE
  by_cases h : i + 1 < ws.length
  · obtain ⟨x, hx⟩ : ∃ x, ws[i]? = some x := ⟨_, List.getElem?_eq_getElem hi⟩
    obtain ⟨y, hy⟩ : ∃ y, ws[i + 1]? = some y := ⟨_, List.getElem?_eq_getElem h⟩
    have h1 := bg_next hx
    have h2 := bg_next hy
    rw [en_stop h]
    unfold gS
    rw [decide_eq_true_eq]
    omega
  · exact en_end (by omega)
theorem lnE_same {ws : List ByteArray} {E E' : Nat → Nat} (hE : Adv ws.length E) (hE' : Adv ws.length E') (h : ∀ i, i < ws.length → E i = E' i) : ∀ d i, ws.length - i ≤ d → lnE ws E i = lnE ws E' i
  | 0, i, hd => by rw [ln_end (by omega), ln_end (by omega)]
  | d + 1, i, hd => by
    by_cases hi : i < ws.length
    · have h1 := hE i hi
      rw [ln_step hE hi, ln_step hE' hi, ← h i hi, lnE_same hE hE' h d (E i) (by omega)]
    · rw [ln_end (by omega), ln_end (by omega)]
theorem greedy_none {ws : List ByteArray} {r s : Int} (hr : r ≤ 0) (hs : s ≤ 0) : greedy ws r = greedy ws s := by
  unfold greedy
  rw [lnE_same (gE_adv ws r) (gE_adv ws s) (fun i hi => by rw [gE_none hr hi, gE_none hs hi]) _ 0 (Nat.le_refl _)]
/-- The room that is left. -/
theorem greedy_room (ws : List ByteArray) (n : Nat) (width : Int) : greedy ws ((if width ≤ 0 then 0 else width) - ((n : Int) + 3)) = greedy ws (if (n : Int) + 3 < width then width - n - 3 else 0) := by
  by_cases h : (n : Int) + 3 < width
  · rw [if_pos h, if_neg (by omega), show width - ((n : Int) + 3) = width - n - 3 by omega]
  · rw [if_neg h]
    exact greedy_none (by split <;> omega) (by omega)
/-- The words of what stands behind the note's first two bytes. -/
theorem wdA_bg : ∀ (l cur : List UInt8), ((wdA cur l).map fun x => x.length + 1).sum ≤ cur.length + l.length + 1
  | [], cur => by
    by_cases h : cur = []
    · subst h; simp [wdA]
    · rw [wdA_last h]; simp
  | b :: l, cur => by
    by_cases hb : b = 32
    · subst hb
      have ih := wdA_bg l []
      by_cases h : cur = []
      · subst h
        rw [wdA_gap]
        simp only [List.length_nil, List.length_cons] at ih ⊢
        omega
      · rw [wdA_word h]
        simp only [List.map_cons, List.sum_cons, List.length_nil, List.length_cons] at ih ⊢
        omega
    · have ih := wdA_bg l (cur ++ [b])
      rw [wdA_char hb]
      simp only [List.length_append, List.length_cons, List.length_nil] at ih ⊢
      omega
theorem wds_bg (s : ByteArray) : bg (wds s) (wds s).length ≤ s.size + 1 := by
  have h := wdA_bg s.data.toList []
  rw [bg_all]
  unfold wds bytesOf
  rw [List.map_map]
  have e : (((fun x : ByteArray => x.size + 1) ∘ fun l : List UInt8 => (⟨l.toArray⟩ : ByteArray))) = fun l : List UInt8 => l.length + 1 := by
    funext l
    rfl
  rw [e, size_list]
  simpa using h
theorem put_size {ws : List ByteArray} {E : Nat → Nat} (hE : Adv ws.length E) : ∀ d i, ws.length - i ≤ d → ∀ x ∈ lnE ws E i, x.size ≤ bg ws ws.length
  | 0, i, hd => by rw [ln_end (by omega)]; intro x hx; cases hx
  | d + 1, i, hd => by
    by_cases hi : i < ws.length
    · have h1 := hE i hi
      rw [ln_step hE hi]
      intro x hx
      rcases List.mem_cons.1 hx with rfl | hx
      · have h2 := jn_size (ws := ws) h1.1 h1.2
        have h3 := bg_mono (ws := ws) (i := E i) (e := ws.length) h1.2
        omega
      · exact put_size hE d (E i) (by omega) x hx
    · rw [ln_end (by omega)]; intro x hx; cases hx
theorem greedy_sizes (ws : List ByteArray) (r : Int) : ∀ x ∈ greedy ws r, x.size ≤ bg ws ws.length := by
  unfold greedy
  split
  · exact put_size (gE_adv ws r) _ 0 (Nat.le_refl _)
  · intro x hx; cases hx
theorem greedy_many (ws : List ByteArray) (r : Int) : (greedy ws r).length ≤ ws.length := by
  unfold greedy
  split
  · exact ln_len (gE_adv ws r) ws.length 0 (by omega)
  · simp

end Go.Proofs.YtabbfpkhlofccaaGreatDoor
/- Whether a drawn text is a note: both sides. -/
namespace Go.Proofs.YtabbfpkhlofccaaGreatDoor
open Go.RowKit

def ntV (t : ByteArray) : Bool := decide (hd t = (5, t.size))
def ntW (t : ByteArray) : Bool := decide (ntRaw t 0 = t.size) && decide (trimB t = t)
/-- The texts that are drawn. -/
def notes17 : List ByteArray := [⟨#[47, 47]⟩, ⟨#[47, 47, 32, 115, 97, 105, 100]⟩, ⟨#[47, 47, 32, 111, 110, 101, 32, 116, 119, 111, 32, 116, 104, 114, 101, 101, 32, 102, 111, 117, 114, 32, 102, 105, 118, 101]⟩, ⟨#[47, 47, 97, 32, 32, 98]⟩, ⟨#[110, 111]⟩, ⟨#[47, 47, 32]⟩, ⟨#[47, 47, 32, 97, 32, 98]⟩]
set_option maxRecDepth 100000 in
theorem notes17_ok : notes17.all (fun t => decide ((hd t).1 ≠ 4) && (ntV t == ntW t) && decide (2 ≤ t.size) && decide (t.size ≤ 30)) = true := by kernel_rfl

set_option maxHeartbeats 1600000 in
set_option maxRecDepth 100000 in
theorem iNtV (t : ByteArray) (w : World) (h4 : (hd t).1 ≠ 4) (h0 : 2 ≤ t.size) (hs : t.size ≤ 3000) : Calls Tryz.prog 41 #[.string t, .int .i64 5] w fun e w' => e = .returned (.bool (ntV t)) ∧ Below w.heap.size w w' := by
  have hA := fun W => ahead_nil t W (by omega) (by omega) h4
  have hne : (t.toList == []) = false := by
    rw [beq_eq_false_iff_ne]
    intro e
    rw [ByteArray.toList_eq] at e
    have : t.data.toList.length = 0 := by rw [e]; rfl
    have h9 : t.size = t.data.toList.length := by simp
    omega
  have hgt : ¬ (3000 : Int) < (t.size : Int) := by omega
  obtain ⟨k, hk⟩ : ∃ k, k = (hd t).1 := ⟨_, rfl⟩
  obtain ⟨z, hz⟩ : ∃ z, z = (hd t).2 := ⟨_, rfl⟩
  rw [← hk, ← hz] at hA
  have hV : ntV t = (decide (k = 5) && decide (z = t.size)) := by
    unfold ntV
    rw [hk, hz, Bool.eq_iff_iff, Bool.and_eq_true, decide_eq_true_eq, decide_eq_true_eq, decide_eq_true_eq]
    constructor
    · intro h; rw [h]; exact ⟨rfl, rfl⟩
    · intro h; exact Prod.ext h.1 h.2
  have HV := hidOf hV
  clear h4 hk hz hV
  by_cases h5 : k = 5
  · have h5' : (k == 5) = true := by simp [h5]
    by_cases h6 : z = t.size
    · have h6' : ((z : Int) == (t.size : Int)) = true := by simp [h6]
      have HR := hidOf (show ntV t = true by rw [HV.out, decide_eq_true h5, decide_eq_true h6]; rfl)
      clear h5 h6
      go_enter Tryz.func41, Tryz.ntmps41
      go_wp2_with fail
      refine (hA _).mono ?_
      rintro e w1 ⟨rfl, b1⟩
      go_wp2
      go_ret
      exact ⟨ret_bool HR.out.symm, b1⟩
    · have h6' : ((z : Int) == (t.size : Int)) = false := by rw [beq_eq_false_iff_ne]; omega
      have HR := hidOf (show ntV t = false by rw [HV.out, decide_eq_true h5, decide_eq_false h6]; rfl)
      clear h5 h6
      go_enter Tryz.func41, Tryz.ntmps41
      go_wp2_with fail
      refine (hA _).mono ?_
      rintro e w1 ⟨rfl, b1⟩
      go_wp2
      go_ret
      exact ⟨ret_bool HR.out.symm, b1⟩
  · have h5' : (k == 5) = false := by rw [beq_eq_false_iff_ne]; exact h5
    have HR := hidOf (show ntV t = false by rw [HV.out, decide_eq_false h5]; rfl)
    clear h5
    go_enter Tryz.func41, Tryz.ntmps41
    go_wp2_with fail
    refine (hA _).mono ?_
    rintro e w1 ⟨rfl, b1⟩
    go_wp2
    go_ret
    exact ⟨ret_bool HR.out.symm, b1⟩

set_option maxHeartbeats 1600000 in
set_option maxRecDepth 100000 in
theorem sNtW (t : ByteArray) (w : World) (h0 : 2 ≤ t.size) (hs : t.size ≤ 3000) : Calls Tryz.prog 44 #[.string t] w fun e w' => e = .returned (.bool (ntW t)) ∧ Below w.heap.size w w' := by
  have hQ := fun W => sNote_any t 0 W (by omega) (by omega)
  have hT := fun W => sTrim_any t W (by omega)
  have hgt : (1 : Int) < (t.size : Int) := by omega
  obtain ⟨z, hz⟩ : ∃ z, z = ntRaw t 0 := ⟨_, rfl⟩
  obtain ⟨u, hu⟩ : ∃ u, u = trimB t := ⟨_, rfl⟩
  rw [← hz] at hQ
  rw [← hu] at hT
  have hV : ntW t = (decide (z = t.size) && decide (u = t)) := by unfold ntW; rw [hz, hu]
  have HV := hidOf hV
  clear hz hu hV
  have hut : (u.toList == t.toList) = decide (u = t) := str_beq u t
  by_cases h6 : z = t.size
  · have h6' : ((z : Int) == (t.size : Int)) = true := by simp [h6]
    obtain ⟨bb, hbb⟩ : ∃ bb, bb = decide (u = t) := ⟨_, rfl⟩
    rw [← hbb] at hut
    have HR := hidOf (show ntW t = bb by rw [HV.out, decide_eq_true h6, hbb]; rfl)
    clear h6 hbb
    go_enter Tryz.func44, Tryz.ntmps44
    go_wp2_with fail
    refine (hQ _).mono ?_
    rintro e w ⟨rfl, rfl⟩
    go_wp2_with fail
    refine (hT _).mono ?_
    rintro e w ⟨rfl, rfl⟩
    go_wp2
    go_ret
    exact ⟨ret_bool HR.out.symm, Below.refl _ _⟩
  · have h6' : ((z : Int) == (t.size : Int)) = false := by rw [beq_eq_false_iff_ne]; omega
    have HR := hidOf (show ntW t = false by rw [HV.out, decide_eq_false h6]; rfl)
    clear h6
    go_enter Tryz.func44, Tryz.ntmps44
    go_wp2_with fail
    refine (hQ _).mono ?_
    rintro e w ⟨rfl, rfl⟩
    go_wp2
    go_ret
    exact ⟨ret_bool HR.out.symm, Below.refl _ _⟩
end Go.Proofs.YtabbfpkhlofccaaGreatDoor
