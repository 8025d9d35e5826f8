/- What the laws' helpers on states that came in do: szState and szStateS tell whether they are too great, toState and toStateS copy them. -/
import Derived.Test.YtokfemlcamnaaaaProg
import Derived.Test.YtokfemlcamnaaaaInfoSt
import Derived.Test.YtokfemlcamnaaaaAlloc3
import Derived.Test.YtokfemlcamnaaaaToInt
import Derived.Test.YtokfemlcamnaaaaRes2
import Derived.BigQuiet
import Derived.Deep.QuietTactic
namespace Go.Proofs.Ytokfemlcamnaaaa
open Go.RowKit

/-- How many numbers there are in all Vals. -/
def wt (xs : List St) : Nat := (xs.map fun x => x.vals.length).sum
theorem wt_app (xs ys : List St) : wt (xs ++ ys) = wt xs + wt ys := by simp [wt]
theorem wt_one (x : St) : wt [x] = x.vals.length := by simp [wt]
theorem wt_take {ps : List Sp} {k : Nat} {p : Sp} (h : ps[k]? = some p) : wt ((ps.take (k + 1)).map Sp.st) = wt ((ps.take k).map Sp.st) + p.st.vals.length := by
  rw [List.take_add_one, h, List.map_append, wt_app]
  simp [wt]
theorem wt_mem : ∀ {xs : List St} {x : St}, x ∈ xs → x.vals.length ≤ wt xs
  | y :: xs, x, h => by
    have e : wt (y :: xs) = y.vals.length + wt xs := by simp [wt]
    rcases List.mem_cons.1 h with rfl | h
    · omega
    · have := wt_mem h
      omega
theorem few_wt {ps : List Sp} (h : wt (ps.map Sp.st) ≤ 1048576) : Few ps := fun p hp => by
  have := wt_mem (List.mem_map_of_mem (f := Sp.st) hp)
  omega
/-- No Vals are longer than any list may be. -/
def StsOk (ps : List Sp) : Prop := ∀ p ∈ ps, p.st.vals.length ≤ 9223372036854775807

set_option maxHeartbeats 1600000 in
theorem szInts_eq (a : Option Addr) (n c : Nat) (L : Int) (w : World) (hn : n ≤ 9223372036854775807) (h0 : 0 ≤ L) (h1 : L ≤ 1048576) :
    Calls Try.prog 172 #[.slice a n c, .int .i64 L] w fun e w' => ∃ r : Int, e = .returned (.int .i64 r) ∧ ((r = -1) ∨ (0 ≤ r ∧ r = L - n)) ∧ Below w.heap.size w w' := by
  by_cases hb : L < n
  · go_enter Try.func172, Try.ntmps172
    go_wp2
    go_ret
    exact ⟨-1, rfl, .inl rfl, Below.refl _ _⟩
  · go_enter Try.func172, Try.ntmps172
    go_wp2
    go_ret
    exact ⟨_, rfl, .inr ⟨by omega, by omega⟩, Below.refl _ _⟩

set_option maxHeartbeats 1600000 in
theorem szState_any (p : Sp) (L : Int) (w : World) (hk : p.st.vals.length ≤ 9223372036854775807) (h0 : 0 ≤ L) (h1 : L ≤ 1048576) :
    Calls Try.prog 133 #[.agg #[.slice p.a p.st.vals.length p.c, .int .i64 p.st.sum], .int .i64 L] w fun e w' => ∃ r : Int, e = .returned (.int .i64 r) ∧ ((r = -1) ∨ (0 ≤ r ∧ r = L - p.st.vals.length)) ∧ Below w.heap.size w w' := by
  have HB : ∀ o1 : Obj, Below w.heap.size w (w.alloc o1) := fun o1 => (Below.refl _ _).alloc (Nat.le_refl _) _
  go_enter Try.func133, Try.ntmps133
  go_wp2_with fail
  refine (szInts_eq p.a p.st.vals.length p.c L _ hk h0 h1).mono ?_
  rintro e w1 ⟨r, rfl, hr, hb1⟩
  have B1 := (HB _).trans (hb1.mono (HB _).size)
  rcases hr with rfl | ⟨hr0, hr1⟩
  · go_wp2
    go_ret
    exact ⟨-1, rfl, .inl rfl, B1⟩
  · have hlt : ¬ r < 0 := by omega
    have HR := hidOf hr1
    clear hr1
    go_wp2
    go_ret
    exact ⟨_, rfl, .inr ⟨hr0, HR.out⟩, B1⟩

set_option maxHeartbeats 1600000 in
theorem szStates_any (a : Option Addr) (c : Nat) (ps : List Sp) (L : Int) (w : World) (hn0 : ps.length ≤ 9223372036854775807) (hx : StsOk ps) (hL0 : 0 ≤ L) (hL1 : L ≤ 1048576) (hT : StsAt w a ps) :
    Calls Try.prog 65 #[.slice a ps.length c, .int .i64 L] w fun e w' => ∃ r : Int, e = .returned (.int .i64 r) ∧ ((r = -1) ∨ (0 ≤ r ∧ r + ps.length + wt (ps.map Sp.st) = L)) ∧ Below w.heap.size w w' := by
  obtain ⟨h, -⟩ := hT
  unfold RowsAt at h
  obtain ⟨n, hn⟩ : ∃ n, n = ps.length := ⟨_, rfl⟩
  rw [← hn] at h hn0 ⊢
  have HN := hidOf hn
  clear hn
  by_cases hbig : L < n
  · clear h
    go_enter Try.func65, Try.ntmps65
    go_wp2
    go_ret
    exact ⟨-1, rfl, .inl rfl, Below.refl _ _⟩
  · go_enter Try.func65, Try.ntmps65
    go_wp2
    go_loopw [1, 5] (fun r i wr => ∃ (k : Nat) (z : Int), k ≤ n ∧ r = .int .i64 z ∧ i = .int .i64 k ∧ 0 ≤ z ∧ z ≤ L ∧ Hid (z + n + wt ((ps.take k).map Sp.st) = L) ∧ Below w.heap.size w wr) (fun _ i _ => n - (intOf i).toNat)
    case atStart => exact ⟨0, L - n, Nat.zero_le _, by go_num, rfl, by omega, by omega, hidOf (by simp [wt]), Below.refl _ _⟩
    case round =>
      obtain ⟨k, z, hk, rfl, rfl, hz0, hz1, HK, hb⟩ := hrel
      by_cases hlt : k < n
      · obtain ⟨p, ex⟩ : ∃ p, ps[k]? = some p := ⟨_, List.getElem?_eq_getElem (by rw [← HN.out]; exact hlt)⟩
        obtain ⟨b1, o1, rfl, hb1, hc1⟩ := h (by omega)
        obtain ⟨p0, p1⟩ := sp2 (w := wr) (b := b1) (o := o1 + k * 2) (p := p) (fun j hj => by rw [hb.cell hb1]; exact hc1 k p ex j hj)
        have hxx := hx p (List.mem_of_getElem? ex)
        have EX := hidOf ex
        clear ex hc1 h
        have hA : (0 : Int) ≤ (k : Int) := by omega
        have hB : (k : Int) < (n : Int) := by omega
        go_wp2_with fail
        refine (szState_any p z _ hxx hz0 (by omega)).mono ?_
        rintro e w1 ⟨r, rfl, hr, hbb⟩
        have hB1 := hb.trans (hbb.mono hb.size)
        rcases hr with rfl | ⟨hr0, hr1⟩
        · go_wp2
          go_ret
          exact ⟨-1, rfl, .inl rfl, hB1⟩
        · have hlt0 : ¬ r < 0 := by omega
          have HR := hidOf hr1
          have hrz : r ≤ z := by omega
          clear hr1
          go_wp2
          go_roundw
          case rel => exact ⟨k + 1, r, by omega, rfl, by go_num, hr0, by omega, hidOf (by
            have h1 := HK.out
            have h2 := HR.out
            have h3 := wt_take EX.out
            omega), hB1⟩
          case measure => simp [intOf]; omega
      · go_wp2
        go_ret
        exact ⟨z, rfl, .inr ⟨hz0, by
          have h1 := HK.out
          have h3 := HN.out
          rw [List.take_of_length_le (by omega)] at h1
          exact h1⟩, hb⟩

set_option maxHeartbeats 1600000 in
theorem toState_any (p : Sp) (w : World) (hn : p.st.vals.length ≤ 1048576) (hT : KidsAt w p.a p.st.vals) :
    Calls Try.prog 134 #[.agg #[.slice p.a p.st.vals.length p.c, .int .i64 p.st.sum]] w fun e w' => SvAns p.st w e w' := by
  obtain ⟨⟨ks, sm⟩, a, c⟩ := p
  dsimp only at hn hT ⊢
  have HB : ∀ o1 o2 o3 : Obj, Below w.heap.size w (((w.alloc o1).alloc o2).alloc o3) := fun o1 o2 o3 => (((Below.refl _ _).alloc (Nat.le_refl _) _).alloc (by simp) _).alloc (by simp; omega) _
  go_enter Try.func134, Try.ntmps134
  go_wp2_with fail
  refine (toInts_any a c ks _ hn (hT.below (HB _ _ _) (Nat.le_refl _))).mono ?_
  obtain ⟨A0, A1, A2, AS⟩ := alloc3 w (.cells #[.slice a ks.length c, .int .i64 sm] 151) (.cells #[.slice none 0 0, .int .i64 0] 57) (.cells #[.slice none 0 0, .int .i64 0] 57)
  have HB3 := HB (.cells #[.slice a ks.length c, .int .i64 sm] 151) (.cells #[.slice none 0 0, .int .i64 0] 57) (.cells #[.slice none 0 0, .int .i64 0] 57)
  clear HB
  generalize ((w.alloc (.cells #[.slice a ks.length c, .int .i64 sm] 151)).alloc (.cells #[.slice none 0 0, .int .i64 0] 57)).alloc (.cells #[.slice none 0 0, .int .i64 0] 57) = W at *
  rintro e w4 ⟨rfl, ho, hb⟩
  have B0 := (hb.block w.heap.size (by omega)).trans A0
  have B1 := (hb.block (w.heap.size + 1) (by omega)).trans A1
  have B2 := (hb.block (w.heap.size + 1 + 1) (by omega)).trans A2
  have HBW := HB3.trans (hb.mono HB3.size)
  have p1 : w4.cell? ⟨w.heap.size, 1, none⟩ = some (.int .i64 sm) := cell_of_row w4 _ 1 _ _ _ B0
  have r0 : w4.cell? ⟨w.heap.size + 1 + 1, 0, none⟩ = some (.slice none 0 0) := cell_of_row w4 _ 0 _ _ _ B2
  have r1 : w4.cell? ⟨w.heap.size + 1 + 1, 1, none⟩ = some (.int .i64 0) := cell_of_row w4 _ 1 _ _ _ B2
  have s0 : w4.cell? ⟨w.heap.size + 1, 0, none⟩ = some (.slice none 0 0) := cell_of_row w4 _ 0 _ _ _ B1
  have s1 : w4.cell? ⟨w.heap.size + 1, 1, none⟩ = some (.int .i64 0) := cell_of_row w4 _ 1 _ _ _ B1
  have f20 := frozen_of_row w4 (w.heap.size + 1 + 1) 0 _ _ B2
  have f21 := frozen_of_row w4 (w.heap.size + 1 + 1) 1 _ _ B2
  have f10 := frozen_of_row w4 (w.heap.size + 1) 0 _ _ B1
  have f11 := frozen_of_row w4 (w.heap.size + 1) 1 _ _ B1
  have HK := hidOf ho
  have HW := hidOf HBW
  have HS := hidOf AS
  clear ho hb A0 A1 A2 B0 B1 B2 HBW HB3 AS
  generalize W.heap.size = S at *
  go_wp2
  refine bodyPost_ret (results_one2 rfl _ _ (w.heap.size + 1) (.slice (some ⟨S, 0, none⟩) ks.length ks.length) (.int .i64 sm) _ rfl ?_ ?_ Try.underlying57 rfl infoSt.1) rfl ?_
  · go_simp
  · go_simp
  · have hS := HS.out
    have n1 : (Value.slice (some ⟨S, 0, none⟩) ks.length ks.length).ownBlock = none ∨ (Value.slice (some ⟨S, 0, none⟩) ks.length ks.length).ownBlock ≠ some (w.heap.size + 1) := .inr (fun e => by injection e with e; simp at e; omega)
    have n2 : (Value.slice (some ⟨S, 0, none⟩) ks.length ks.length).ownBlock = none ∨ (Value.slice (some ⟨S, 0, none⟩) ks.length ks.length).ownBlock ≠ some (w.heap.size + 1 + 1) := .inr (fun e => by injection e with e; simp at e; omega)
    refine ⟨_, _, rfl, ?_, ?_⟩
    · exact ownsRow_base (own_put (own_put (own_put (own_put HK.out _ _ n2) _ _ n2) _ _ n1) _ _ n1) (by omega)
    · have q1 : w.heap.size ≤ w.heap.size + 1 := by omega
      have q2 : w.heap.size ≤ w.heap.size + 1 + 1 := by omega
      exact (((HW.out.setCell q2 _).setCell q2 _).setCell q1 _).setCell q1 _

set_option maxHeartbeats 4000000 in
theorem toStates_any (a : Option Addr) (c : Nat) (ps : List Sp) (w : World) (hn0 : ps.length ≤ 1048576) (hF : Few ps) (hT : StsAt w a ps) :
    Calls Try.prog 66 #[.slice a ps.length c] w fun e w' => StsAns (ps.map Sp.st) w e w' := by
  obtain ⟨h, hK⟩ := hT
  unfold RowsAt at h
  obtain ⟨n, hn⟩ : ∃ n, n = ps.length := ⟨_, rfl⟩
  rw [← hn] at h hn0 ⊢
  have HN := hidOf hn
  clear hn
  obtain ⟨i0, hi, hz0, hz1, hz2⟩ := info_parts infoSt.2
  go_enter Try.func66, Try.ntmps66
  go_wp2_with (at_make; refine wpList_make_full _ rfl _ _ 54 rfl w.heap.size 57 i0 _ 2 Try.underlying54 hi hz0 hz1 .i64 .i64 _ _ n rfl rfl rfl rfl (by rw [hz2]; omega) (by unfold maxLen; omega) (Nat.le_refl _) ?_; intro w1 hown hgrow)
  have hb1 : Below w.heap.size w w1 := (Below.refl _ w).grown hgrow (Nat.le_refl _) (fun k e => by cases e)
  have HM : Made w1 w.heap.size w.heap.size n [] := ⟨⟨_, hown, by simp [rowVals]⟩, (fun p hp => by cases hp), fun i j p q _ hp => by simp at hp⟩
  clear hown hgrow
  go_loopw [4] (fun i wr => ∃ (qs : List Sp) (k : Nat), k ≤ n ∧ i = .int .i64 k ∧ Hid (qs.length = k) ∧ Hid (Made wr w.heap.size w.heap.size n qs) ∧ Hid (qs.map Sp.st = (ps.map Sp.st).take k) ∧ Below w.heap.size w wr) (fun i _ => n - (intOf i).toNat)
  case atStart => exact ⟨[], 0, Nat.zero_le _, rfl, hidOf rfl, hidOf HM, hidOf rfl, hb1⟩
  case round =>
    obtain ⟨qs, k, hk, rfl, HL, HM, HZ, hb⟩ := hrel
    by_cases hlt : k < n
    · obtain ⟨p, ex⟩ : ∃ p, ps[k]? = some p := ⟨_, List.getElem?_eq_getElem (by rw [← HN.out]; exact hlt)⟩
      obtain ⟨b1, o1, rfl, hb1, hc1⟩ := h (by omega)
      obtain ⟨p0, p1⟩ := sp2 (w := wr) (b := b1) (o := o1 + k * 2) (p := p) (fun j hj => by rw [hb.cell hb1]; exact hc1 k p ex j hj)
      have hfew := hF p (List.mem_of_getElem? ex)
      have hKp := hK p (List.mem_of_getElem? ex)
      have EX := hidOf ex
      clear ex hc1 h
      have hA : (0 : Int) ≤ (k : Int) := by omega
      have hB : (k : Int) < (n : Int) := by omega
      go_wp2_with fail
      refine (toState_any p _ hfew (hKp.below hb (Nat.le_refl _))).mono ?_
      rintro e w2 ⟨a', c', rfl, ho2, hb2⟩
      have HS := hidOf (Made.step ⟨p.st, a', c'⟩ HM.out hb2 hb.size (by rw [HL.out]; exact hlt) ho2)
      obtain ⟨⟨u0, d0⟩, ⟨u1, d1⟩, f0, f1⟩ := (HM.out.below hb2).cells k hlt
      rw [HL.out] at HS
      have B2 := hidOf (hb.trans (hb2.mono hb.size))
      have HSZ := hidOf (Nat.le_trans hb.size hb2.size)
      clear ho2 hKp p0 p1
      go_wp2
      go_roundw
      case rel => exact ⟨qs ++ [⟨p.st, a', c'⟩], k + 1, by omega, by go_num, hidOf (by rw [List.length_append, HL.out]; rfl), hidOf HS.out.1, hidOf (by
        rw [List.map_append, HZ.out, List.take_add_one, List.getElem?_map, EX.out]
        rfl), B2.out.grown HS.out.2 HSZ.out (fun q hq => by cases hq; exact Nat.le_refl _)⟩
      case measure => simp [intOf]; omega
    · go_wp2
      go_ret
      have h1 := HN.out
      have h2 := HL.out
      have h3 := HZ.out
      rw [List.take_of_length_le (by simp; omega)] at h3
      have hq : qs.length = n := by omega
      refine ⟨some ⟨w.heap.size, 0, none⟩, n, qs, ?_, h3, ?_, hb⟩
      · rw [hq]
        rfl
      · exact HM.out.own hq
end Go.Proofs.Ytokfemlcamnaaaa
