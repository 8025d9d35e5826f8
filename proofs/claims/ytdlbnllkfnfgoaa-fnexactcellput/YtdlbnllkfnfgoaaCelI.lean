/- What the program's CellNum and CellPut answer. -/
import Derived.Test.YtdlbnllkfnfgoaaShelf
import Derived.Test.YtdlbnllkfnfgoaaCelLib
import Derived.Test.YtdlbnllkfnfgoaaAppPl
import Derived.Lib.AppendIntMem
import Derived.WalkKit
import Derived.Deep.RegionHeld3
import Derived.Deep.CutBlock
import Derived.Deep.RegionLaw
import Derived.Test.YtdlbnllkfnfgoaaStepCall
namespace Go.Proofs.Ytdlbnllkfnfgoaa
open Go.RowKit

theorem cl_clone (s : ByteArray) (w : World) (h : s.size ≤ 8388608) :
    Calls Try.prog 24 #[.string s] w fun e w' => e = .returned (.string s) ∧ Below w.heap.size w w' := by
  go_enter Try.func24, Try.ntmps24
  go_wp2_with fail
  refine (Try.stringslite_Clone s _ (by omega)).mono ?_
  rintro e w1 ⟨rfl, hb⟩
  go_wp2
  go_ret
  exact ⟨rfl, hb⟩
/-- Where the first cell of this name is. -/
def CAt (s : ByteArray) (cs : List Cel) (i : Int) : Prop :=
  (i = -1 ∧ ∀ (j : Nat) (d : Cel), cs[j]? = some d → (d.name.toList == s.toList) = false) ∨
  ∃ (k : Nat) (c : Cel), i = (k : Int) ∧ cs[k]? = some c ∧ (∀ (j : Nat) (d : Cel), j < k → cs[j]? = some d → (d.name.toList == s.toList) = false) ∧ (c.name.toList == s.toList) = true
theorem num_skip {s : ByteArray} {cs : List Cel} : ∀ (k : Nat), (∀ (j : Nat) (d : Cel), j < k → cs[j]? = some d → (d.name.toList == s.toList) = false) → cNum s (cs.drop k) = cNum s cs
  | 0, _ => rfl
  | k + 1, h => by
    have ih := num_skip k fun j d hj hd => h j d (by omega) hd
    cases hc : cs[k]? with
    | none =>
      have hk := List.getElem?_eq_none_iff.1 hc
      rw [← ih, List.drop_eq_nil_of_le hk, List.drop_eq_nil_of_le (by omega)]
    | some c => rw [← ih, num_no hc (h k c (by omega) hc)]
theorem cAt_none {s : ByteArray} {cs : List Cel} (h : ∀ (j : Nat) (d : Cel), cs[j]? = some d → (d.name.toList == s.toList) = false) : cNum s cs = none := by
  rw [← num_skip cs.length fun j d _ hd => h j d hd, List.drop_eq_nil_of_le (Nat.le_refl _)]
  rfl
theorem cAt_some {s : ByteArray} {cs : List Cel} {k : Nat} {c : Cel} (hc : cs[k]? = some c) (h : ∀ (j : Nat) (d : Cel), j < k → cs[j]? = some d → (d.name.toList == s.toList) = false) (hy : (c.name.toList == s.toList) = true) : cNum s cs = some c.num := by
  rw [← num_skip k h, num_yes hc hy]

theorem iCell1 (c : Cel) (s : ByteArray) (b : Nat) (w : World) (hb : b < w.heap.size) (h : w.cell? ⟨b, 0, none⟩ = some (.string s)) :
    Calls Try.prog 31 #[.agg #[.string c.name, .int .i64 c.num], .pointer (some ⟨b, 0, none⟩)] w fun e w' => e = .returned (.bool (c.name.toList == s.toList)) ∧ Below w.heap.size w w' := by
  have hne : b ≠ w.heap.size := by omega
  go_enter Try.func31, Try.ntmps31
  go_wp2
  go_ret
  exact ⟨rfl, (Below.refl _ _).alloc (Nat.le_refl _) _⟩

set_option maxHeartbeats 2500000 in
set_option maxRecDepth 100000 in
theorem iCellIdx (a : Option Addr) (cc : Nat) (cs : List Cel) (s : ByteArray) (b : Nat) (w : World) (hn : cs.length ≤ 1048576) (h : RowsAt 2 celCells w a cs) (hb : b < w.heap.size) (hs : w.cell? ⟨b, 0, none⟩ = some (.string s)) :
    Calls Try.prog 30 #[.slice a cs.length cc, .func (.func 31) #[] #[.pointer (some ⟨b, 0, none⟩)]] w fun e w' => ∃ i : Int, e = .returned (.int .i64 i) ∧ CAt s cs i ∧ Below w.heap.size w w' := by
  have HH := hidOf (And.intro h hs)
  have q1 := fun (c : Cel) (W : World) (hB : Below w.heap.size w W) => iCell1 c s b W (Nat.lt_of_lt_of_le hb hB.size) ((hB.cell hb).trans hs)
  have HQ := hidOf q1
  clear h hs q1
  go_enter Try.func30, Try.ntmps30
  go_wp2
  go_loopw [8] (fun i wr => ∃ k : Nat, k ≤ cs.length ∧ i = .int .i64 (k : Int) ∧ Hid (∀ (j : Nat) (d : Cel), j < k → cs[j]? = some d → (d.name.toList == s.toList) = false) ∧ Below w.heap.size w wr) (fun i _ => cs.length - (intOf i).toNat)
  case atStart => exact ⟨0, Nat.zero_le _, rfl, hidOf fun j d h => by omega, Below.refl _ _⟩
  case round =>
    obtain ⟨k, hk, rfl, HK, hB⟩ := hrel
    by_cases hlt : k < cs.length
    · obtain ⟨c, ec⟩ : ∃ c, cs[k]? = some c := ⟨_, List.getElem?_eq_getElem hlt⟩
      obtain ⟨b1, o, rfl, hb1, c0, c1⟩ := cel_at (HH.out.1.below hB (Nat.le_refl _)) ec
      have HC := hidOf ec
      have qc := HQ.out c wr hB
      obtain ⟨⟨nm, num⟩, hcc⟩ : ∃ d, d = c := ⟨_, rfl⟩
      subst hcc
      have hA : (0 : Int) ≤ (k : Int) := by omega
      have hB1 : (k : Int) < (cs.length : Int) := by omega
      clear ec
      simp only at c0 c1 qc
      cases he : (nm.toList == s.toList) <;> rw [he] at qc
      · have HX : Hid (∀ (j : Nat) (d : Cel), j < k + 1 → cs[j]? = some d → (d.name.toList == s.toList) = false) := hidOf fun j d hj hd => by
          by_cases e : j = k
          · subst e
            rw [HC.out] at hd
            injection hd with hd
            rw [← hd]
            exact he
          · exact HK.out j d (by omega) hd
        go_wp2_with (go_at_call 31; refine qc.mono ?_; rintro e w2 ⟨rfl, hb2⟩)
        go_roundw
        case rel => exact ⟨k + 1, by omega, by go_num, HX, hB.trans (hb2.mono hB.size)⟩
        case measure => simp [intOf]; omega
      · have HX := hidOf he
        go_wp2_with (go_at_call 31; refine qc.mono ?_; rintro e w2 ⟨rfl, hb2⟩)
        go_ret
        exact ⟨(k : Int), rfl, .inr ⟨k, _, rfl, HC.out, HK.out, HX.out⟩, hB.trans (hb2.mono hB.size)⟩
    · have hB1 : ¬ (k : Int) < (cs.length : Int) := by omega
      go_wp2
      go_ret
      refine ⟨-1, rfl, .inl ⟨rfl, fun j d hd => HK.out j d ?_ hd⟩, hB⟩
      have := (List.getElem?_eq_some_iff.1 hd).1
      omega

set_option maxHeartbeats 1600000 in
theorem iCellAt (a : Option Addr) (cc : Nat) (cs : List Cel) (s : ByteArray) (w : World) (hn : cs.length ≤ 1048576) (h : RowsAt 2 celCells w a cs) :
    Calls Try.prog 22 #[.slice a cs.length cc, .string s] w fun e w' => ∃ i : Int, e = .returned (.int .i64 i) ∧ CAt s cs i ∧ Below w.heap.size w w' := by
  have hmf : ∀ (fn : Fn) (first cap : Array Value) (w : World), (Instr.makeFunc fn first cap).run Try.prog w = .ok (.func fn first cap) w := fun _ _ _ _ => rfl
  have B1 : Below w.heap.size w (w.alloc (.cells #[.string s] 9)) := (Below.refl _ _).alloc (Nat.le_refl _) _
  have q := iCellIdx a cc cs s w.heap.size (w.alloc (.cells #[.string s] 9)) hn (h.below B1 (Nat.le_refl _)) (by simp) (by simp)
  go_enter Try.func22, Try.ntmps22
  go_wp2_with fail
  refine q.mono ?_
  rintro e w2 ⟨i, rfl, hi, hb⟩
  go_wp2
  go_ret
  exact ⟨i, rfl, hi, B1.trans (hb.mono (by simp))⟩

set_option maxHeartbeats 1600000 in
theorem iCellNum (a : Option Addr) (cc : Nat) (cs : List Cel) (s : ByteArray) (w : World) (hn : cs.length ≤ 1048576) (h : RowsAt 2 celCells w a cs) :
    Calls Try.prog 9 #[.slice a cs.length cc, .string s] w fun e w' => e = .returned (.tuple #[.int .i64 ((cNum s cs).getD 0), .bool (cNum s cs).isSome]) ∧ Below w.heap.size w w' := by
  have HH := hidOf h
  have q := iCellAt a cc cs s w hn h
  clear h
  go_enter Try.func9, Try.ntmps9
  go_wp2_with fail
  refine q.mono ?_
  rintro e w2 ⟨i, rfl, hi, hb⟩
  rcases hi with ⟨rfl, hno⟩ | ⟨k, c, rfl, hc, hno, hy⟩
  · have HX := hidOf (cAt_none hno)
    go_wp2
    go_ret2
    rw [HX.out]
    exact ⟨rfl, hb⟩
  · have HX := hidOf (cAt_some hc hno hy)
    have hlt := (List.getElem?_eq_some_iff.1 hc).1
    obtain ⟨b1, o, rfl, hb1, c0, c1⟩ := cel_at (HH.out.below hb (Nat.le_refl _)) hc
    have hA : (0 : Int) ≤ (k : Int) := by omega
    have hB1 : (k : Int) < (cs.length : Int) := by omega
    have hm : ((k : Int) == -1) = false := by rw [beq_eq_false_iff_ne]; omega
    go_wp2
    go_ret2
    rw [HX.out]
    exact ⟨rfl, hb⟩

theorem infoCelI : (Try.prog.info? tCel).map (fun i => (i.zero, i.size, i.bytes)) = some (some (.agg #[.string ByteArray.empty, .int .i64 0]), 2, 24) := by kernel_rfl
theorem cel_newI (w : World) (a b : Value) (T : TypeId) : ∀ j u, [a, b][j]? = some u → (w.alloc (.cells #[a, b] T)).cell? ((⟨w.heap.size, 0, none⟩ : Addr).add j) = some u := by
  intro j u hu
  have hj : j < 2 := by have := (List.getElem?_eq_some_iff.1 hu).1; simpa using this
  match j, hj with
  | 0, _ => simp at hu; subst hu; simp [Addr.add]
  | 1, _ => simp at hu; subst hu; simp [Addr.add]
/-- Cells, in memory of their own. -/
def CelsI (cs : List Cel) (w : World) (e : Ending) (w' : World) : Prop := Below w.heap.size w w' ∧ ∃ a c, e = .returned (.slice a cs.length c) ∧ w'.ownsRow w.heap.size tCel 2 (.slice a cs.length c) cs.length (rowVals celCells cs)
set_option maxHeartbeats 4000000 in
set_option maxRecDepth 100000 in
theorem iCellPut (a : Option Addr) (cc : Nat) (cs : List Cel) (s : ByteArray) (n : Int) (w : World) (hn : cs.length ≤ 1048576) (hs : s.size ≤ 8388608) (hcs : ∀ c ∈ cs, c.name.size ≤ 8388608) (h : RowsAt 2 celCells w a cs) :
    Calls Try.prog 12 #[.slice a cs.length cc, .string s, .int .i64 n] w (CelsI (cPut s n cs) w) := by
  obtain ⟨i0, hi, hz0, hz1, hz2⟩ := info_parts infoCelI
  have o0 : (w.alloc (.cells #[] tCel)).ownsRow w.heap.size tCel 2 (.slice (some ⟨w.heap.size, 0, none⟩) 0 0) 0 (rowVals celCells (cs.take 0)) := World.ownsRow_made w #[] 0 (Nat.le_refl _) (by decide) rfl
  have B0 : Below w.heap.size w (w.alloc (.cells #[] tCel)) := (Below.refl _ _).alloc (Nat.le_refl _) _
  have HH := hidOf (And.intro h hcs)
  have qs := fun W => cl_clone s W hs
  clear h hcs
  go_enter Try.func12, Try.ntmps12
  go_wp2
  go_loopw [7, 14] (fun v i wr => ∃ k : Nat, k ≤ cs.length ∧ i = .int .i64 (k : Int) ∧ wr.ownsRow w.heap.size tCel 2 v k (rowVals celCells (cs.take k)) ∧ Below w.heap.size w wr) (fun _ i _ => cs.length - (intOf i).toNat)
  case atStart => exact ⟨0, Nat.zero_le _, rfl, o0, B0⟩
  case round =>
    clear o0 B0
    obtain ⟨k, hk, rfl, ho, hB⟩ := hrel
    obtain ⟨a1, c1, rfl⟩ := owns_slice ho
    have hsz := hB.size
    by_cases hlt : k < cs.length
    · obtain ⟨c, ec⟩ : ∃ c, cs[k]? = some c := ⟨_, List.getElem?_eq_getElem hlt⟩
      obtain ⟨b1, o, rfl, hb1, d0, d1⟩ := cel_at (HH.out.1.below hB (Nat.le_refl _)) ec
      have hnm := HH.out.2 c (List.mem_of_getElem? ec)
      have HC := hidOf ec
      obtain ⟨⟨nm, num⟩, hcc⟩ : ∃ d, d = c := ⟨_, rfl⟩
      subst hcc
      simp only at d0 d1 hnm
      have hA : (0 : Int) ≤ (k : Int) := by omega
      have hB1 : (k : Int) < (cs.length : Int) := by omega
      have qc := fun W => cl_clone nm W hnm
      clear ec
      go_upto_region 5 with fail
      obtain ⟨W1, hW1⟩ : ∃ W1, W1 = wr.alloc (.cells #[.string nm, .int .i64 num] tCel) := ⟨_, rfl⟩
      have e0 : W1.cell? ⟨wr.heap.size, 0, none⟩ = some (.string nm) := by rw [hW1]; simp
      have e1 : W1.cell? ⟨wr.heap.size, 1, none⟩ = some (.int .i64 num) := by rw [hW1]; simp
      have s1 : W1.heap.size = wr.heap.size + 1 := by rw [hW1]; simp
      have o1 := ho.alloc (.cells #[.string nm, .int .i64 num] tCel)
      have BW := hB.alloc hsz (.cells #[.string nm, .int .i64 num] tCel)
      rw [← hW1] at o1 BW
      rw [← hW1]
      obtain ⟨xb, hxb⟩ : ∃ xb, xb = wr.heap.size := ⟨_, rfl⟩
      rw [← hxb] at e0 e1 s1
      rw [← hxb]
      have hxl : xb < W1.heap.size := by omega
      clear hW1 ho hB d0 d1 hxb
      go_region_law (first
        | (refine step_append_own2 rfl _ _ 26 rfl w.heap.size tCel i0 _ 2 24 Try.underlying26 hi hz0 hz1 hz2 rfl (by decide) _ _ _ rfl (o2.alloc _) ⟨w2.heap.size, 0, none⟩ 1 1 [.string nm, .int .i64 num] rfl rfl (cel_newI w2 _ _ _) (fun x hx => by simp at hx; rcases hx with rfl | rfl <;> rfl) (by unfold maxLen; omega) (by omega) (by have h1 := hb2.size; have h2 := BW.size; simp at h1 ⊢; omega) ?_; intro v' w3 hown3 hgrow3 hpl3)
        | (refine step_call (by rfl) 24 _ (by go_simp; try rfl) ((qc _).mono ?_); rintro e w2 ⟨rfl, hb2⟩; have o2 : w2.ownsRow w.heap.size tCel 2 (.slice a1 k c1) k (rowVals celCells (cs.take k)) := owns_below (w := W1.drew) o1.drew hb2; have c2 : w2.cell? ⟨xb, 1, none⟩ = some (.int .i64 num) := (hb2.cell (by simpa using hxl)).trans (by simpa using e1); refine ⟨_, rfl, ?_⟩))
      all_goals
        have hs2 : W1.heap.size ≤ w2.heap.size := hb2.size
        have hs1 := BW.size
        have B3 := hidOf (((BW.trans (((Below.refl W1.heap.size W1).drew.trans hb2).mono hs1)).alloc (by omega) (.cells #[.string nm, .int .i64 num] tCel)).grown hgrow3 (by simp; omega) (fun q hq => (o2.lt q hq).1))
        have HO3 := hidOf hown3
        clear hown3 hgrow3 hpl3 o2 hb2 c2 e0 e1 o1
        go_wp2
        go_roundw
        case rel =>
          refine ⟨k + 1, by omega, by go_num, ?_, B3.out⟩
          rw [List.take_add_one, HC.out, rowVals_app]
          exact HO3.out
        case measure => simp [intOf]; omega
    · have hkn : k = cs.length := by omega
      subst hkn
      have hB1 : ¬ (cs.length : Int) < (cs.length : Int) := by omega
      rw [List.take_of_length_le (Nat.le_refl _)] at ho
      have HO := hidOf ho
      have hr : RowsAt 2 celCells wr a1 cs := RowsAt.of_own celCells_len ho rfl
      have q := iCellAt a1 c1 cs s wr hn hr
      clear hr
      go_wp2_with fail
      refine q.mono ?_
      rintro e w2 ⟨i, rfl, hi2, hb2⟩
      have HO2 := hidOf (owns_below HO.out hb2)
      have B2 := hB.trans (hb2.mono hB.size)
      have HB2 := hidOf B2
      have hs2 := B2.size
      rcases hi2 with ⟨rfl, hno⟩ | ⟨k, c, rfl, hc, hno, hy⟩
      · have HX := hidOf (put_end (n := n) hno)
        clear hno hB hb2 B2 ho HO
        go_wp2_with fail
        refine (qs _).mono ?_
        rintro e w3 ⟨rfl, hb3⟩
        have HO3 := hidOf (owns_below HO2.out hb3)
        have B3 := HB2.out.trans (hb3.mono hs2)
        have HB3 := hidOf B3
        have hs3 := B3.size
        clear hb3 B3
        go_wp2_with (at_builtin; refine wpList_append_own2 rfl _ _ 26 rfl w.heap.size tCel i0 _ 2 24 Try.underlying26 hi hz0 hz1 hz2 rfl (by decide) _ _ _ rfl (HO3.out.alloc _) ⟨w3.heap.size, 0, none⟩ 1 1 [.string s, .int .i64 n] rfl rfl (cel_newI w3 _ _ _) (fun x hx => by simp at hx; rcases hx with rfl | rfl <;> rfl) (by unfold maxLen; omega) (by omega) (by simp; omega) ?_; intro v' w4 hown4 hgrow4 hpl4)
        go_ret
        rw [HX.out]
        obtain ⟨na', nc', rfl⟩ := owns_slice hown4
        refine ⟨(HB3.out.alloc hs3 _).grown hgrow4 (by simp; omega) (fun q hq => (HO3.out.lt q hq).1), na', nc', by rw [List.length_append]; rfl, ?_⟩
        rw [rowVals_app, rowVals_one, List.length_append]
        exact hown4
      · have HX := hidOf (put_split (n := n) hc hno hy)
        have hlt := (List.getElem?_eq_some_iff.1 hc).1
        obtain ⟨b, rfl⟩ := owns_at HO2.out (by omega)
        obtain ⟨b', o, hbb, hb, c0, c1⟩ := cel_at (RowsAt.of_own celCells_len HO2.out rfl) hc
        obtain ⟨rfl, rfl⟩ : b = b' ∧ 0 = o := by injection hbb with hbb; injection hbb with e1 e2; exact ⟨e1, e2⟩
        have z1 := HO2.out.frozenAt (k * 2 + 1)
        rw [Nat.zero_add] at c0 c1
        have HC := hidOf hc
        have HS := hidOf (HO2.out.stored (k * 2 + 1) (.int .i64 n))
        have HL := hidOf (HO2.out.lt b rfl).1
        have hA : (0 : Int) ≤ (k : Int) := by omega
        have hB1 : (k : Int) < (cs.length : Int) := by omega
        have hm : ((k : Int) == -1) = false := by rw [beq_eq_false_iff_ne]; omega
        clear hc hno hy hbb c0 hB hb2 B2 ho HO
        go_wp2
        go_ret
        rw [HX.out]
        refine ⟨HB2.out.setCell HL.out _, _, _, by rw [List.length_set]; rfl, ?_⟩
        rw [← cels_set cs k c n HC.out, List.length_set]
        exact HS.out.1
end Go.Proofs.Ytdlbnllkfnfgoaa
