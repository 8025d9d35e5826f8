/- Places of Kids: the program. -/
import Derived.Test.YtdlpepmdjbmmmaaGreatDoorTrS3
namespace Go.Proofs.YtdlpepmdjbmmmaaGreatDoor
open Go.RowKit

def InF (ks : List Int) (n : Nat) (z : Int) : Prop := ∃ i, i < n ∧ ks[i]? = some z
set_option maxHeartbeats 1600000 in
set_option maxRecDepth 100000 in
theorem iIndex {w : World} {b c n : Nat} {ks : List Int} {z : Int} (hn : n ≤ ks.length) (hm : ks.length ≤ 12) (hc : ∀ i u, ks[i]? = some u → w.cell? ⟨b, i, none⟩ = some (.int .i64 u)) :
  Calls Tryz.prog 152 #[.slice (some ⟨b, 0, none⟩) n c, .int .i64 z] w fun e w' => w' = w ∧ ∃ r : Int, e = .returned (.int .i64 r) ∧ (0 ≤ r ↔ InF ks n z) := by
 have HC := hidOf hc
 clear hc
 go_enter Tryz.func152, Tryz.ntmps152
 go_wp2
 go_loop [8] (fun i => ∃ j : Nat, j ≤ n ∧ i = .int .i64 (j : Int) ∧ Hid (∀ i', i' < j → ks[i']? ≠ some z)) (fun i => n - (intOf i).toNat)
 case atStart => exact ⟨0, Nat.zero_le _, rfl, hidOf fun i h => by omega⟩
 case round =>
  obtain ⟨j, hj, rfl, HQ⟩ := hrel
  by_cases hlt : j < n
  ·have hA : (0 : Int) ≤ (j : Int) := by omega
   have hB : (j : Int) < (n : Int) := by omega
   obtain ⟨u, eu⟩ : ∃ u, ks[j]? = some u := ⟨_, List.getElem?_eq_getElem (by omega)⟩
   have cu := HC.out j u eu
   have EU := hidOf eu
   clear eu
   cases hzu : (z == u) with
   | true =>
    have HE := hidOf (show InF ks n z from ⟨j, hlt, by rw [show z = u by simpa using hzu]; exact EU.out⟩)
    go_wp2
    go_ret
    exact ⟨rfl, (j : Int), rfl, by simp [HE.out]⟩
   | false =>
    have HE := hidOf (show z ≠ u from by simpa using hzu)
    go_wp2
    go_round
    case rel => exact ⟨j + 1, by omega, by go_num, hidOf fun i' h9 e9 => by
     by_cases e : i' = j
     ·subst e; rw [EU.out] at e9; injection e9 with e9; exact HE.out e9.symm
     ·exact HQ.out i' (by omega) e9⟩
    case measure => simp [intOf]; omega
  ·have hB : ¬ (j : Int) < (n : Int) := by omega
   go_wp2
   go_ret
   refine ⟨rfl, -1, rfl, ?_⟩
   constructor
   ·intro e; omega
   ·rintro ⟨i, h1, h2⟩; exact absurd h2 (HQ.out i (by omega))
set_option maxHeartbeats 1600000 in
set_option maxRecDepth 100000 in
theorem iHas {w : World} {b c n : Nat} {ks : List Int} {z : Int} (hn : n ≤ ks.length) (hm : ks.length ≤ 12) (hc : ∀ i u, ks[i]? = some u → w.cell? ⟨b, i, none⟩ = some (.int .i64 u)) :
  Calls Tryz.prog 130 #[.slice (some ⟨b, 0, none⟩) n c, .int .i64 z] w (TelQ (InF ks n z) w) := by
 have q := iIndex (c := c) (z := z) hn hm hc
 clear hc
 go_enter Tryz.func130, Tryz.ntmps130
 go_wp2_with fail
 refine q.mono ?_
 rintro e w1 ⟨rfl, r, rfl, hr⟩
 have HR := hidOf hr
 clear hr q
 obtain ⟨bb, hbb⟩ : ∃ bb, bb = decide ((0 : Int) ≤ r) := ⟨_, rfl⟩
 have HB := hidOf (show bb = true ↔ (0 : Int) ≤ r by rw [hbb]; simp)
 go_wp2
 rw [← hbb]
 go_ret
 exact ⟨bb, rfl, HB.out.trans HR.out, rfl⟩
set_option maxHeartbeats 2500000 in
set_option maxRecDepth 100000 in
theorem iPlaces {w : World} {B : Nat} {a : Option Addr} {c k : Nat} {qs : List Np} {q : Np} (h : Nds w B a c qs) (h1 : qs[k]? = some q) :
  Calls Tryz.prog 111 #[.slice q.a q.nd.kids.length q.c, .int .i64 (k : Int)] w (TelQ (q.nd.kids.length ≤ 12 ∧ PlK q.nd.kids k q.nd.kids.length) w) := by
 obtain ⟨⟨kd, tx, ks, bl⟩, ka, kc⟩ := q
 have HH := hidOf (show ∀ i z, ks[i]? = some z → ∃ b, ka = some ⟨b, 0, none⟩ ∧ b < w.heap.size ∧ w.cell? ⟨b, i, none⟩ = some (.int .i64 z) from fun i z hz => h.kid h1 hz)
 have hcap : ks.length ≤ kc := by
  rcases (h.each _ (List.mem_of_getElem? h1)).2 with ⟨e, e2⟩ | ⟨g, cap, cur, e, _, _, hnc, _⟩
  ·simp only at e2; omega
  ·injection e with _ _ e3
   rw [show kc = cap from e3]
   exact hnc
 clear h h1
 show Calls _ _ #[.slice ka ks.length kc, _] _ (TelQ (ks.length ≤ 12 ∧ PlK ks k ks.length) w)
 obtain ⟨P, hP⟩ : ∃ P, P = (ks.length ≤ 12 ∧ PlK ks k ks.length) := ⟨_, rfl⟩
 have HP := hidOf (show P ↔ (ks.length ≤ 12 ∧ PlK ks k ks.length) by rw [hP])
 rw [← hP]
 clear hP
 by_cases h12 : ks.length ≤ 12
 case neg =>
  have hgt : (12 : Int) < (ks.length : Int) := by omega
  have HN := hidOf h12
  clear h12
  go_enter Tryz.func111, Tryz.ntmps111
  go_wp2
  go_ret
  exact telQ_no (fun e => HN.out (HP.out.1 e).1)
 have hgt : ¬ (12 : Int) < (ks.length : Int) := by omega
 go_enter Tryz.func111, Tryz.ntmps111
 go_wp2
 go_loop [12] (fun i => ∃ j : Nat, j ≤ ks.length ∧ i = .int .i64 (j : Int) ∧ Hid (PlK ks k j)) (fun i => ks.length - (intOf i).toNat)
 case atStart => exact ⟨0, Nat.zero_le _, rfl, hidOf (plK_zero ks k)⟩
 case round =>
  obtain ⟨j, hj, rfl, HPL⟩ := hrel
  by_cases hlt : j < ks.length
  ·have hA : (0 : Int) ≤ (j : Int) := by omega
   have hB : (j : Int) < (ks.length : Int) := by omega
   have hB2 : (j : Int) ≤ (kc : Int) := by omega
   obtain ⟨z, ez⟩ : ∃ z, ks[j]? = some z := ⟨_, List.getElem?_eq_getElem hlt⟩
   obtain ⟨b, rfl, hb, ck⟩ := HH.out j z ez
   have qH := iHas (c := kc) (z := z) hj h12 (fun i u hu => by
    obtain ⟨b', e1, -, e3⟩ := HH.out i u hu
    obtain rfl : b = b' := by injection e1 with e1; injection e1
    exact e3)
   have EZ := hidOf ez
   clear ez
   by_cases hz0 : z < 0
   ·have HN := hidOf (show ¬ P from fun e => by replace e := HP.out.1 e; have := (e.2.1 j z hlt EZ.out).1; omega)
    go_wp2
    go_ret
    exact telQ_no HN.out
   by_cases hzk : (k : Int) ≤ z
   ·have HN := hidOf (show ¬ P from fun e => by replace e := HP.out.1 e; have := (e.2.1 j z hlt EZ.out).2; omega)
    go_wp2
    go_ret
    exact telQ_no HN.out
   by_cases hin : InF ks j z
   ·have HI := hidOf hin
    have HN := hidOf (show ¬ P from fun e => by replace e := HP.out.1 e; obtain ⟨i, h1, h2⟩ := hin; exact e.2.2 i j z h1 hlt h2 EZ.out)
    clear hin
    go_wp2_with fail
    refine qH.mono ?_
    rintro e w1 h9
    obtain ⟨rfl, rfl⟩ := h9.yes HI.out
    clear h9 qH
    go_wp2
    go_ret
    exact telQ_no HN.out
   ·have HI := hidOf hin
    clear hin
    go_wp2_with fail
    refine qH.mono ?_
    rintro e w1 h9
    obtain ⟨rfl, rfl⟩ := h9.no HI.out
    clear h9 qH
    go_wp2
    go_round
    case rel => exact ⟨j + 1, by omega, by go_num, hidOf (plK_next HPL.out EZ.out (by omega) (fun i h1 h2 => HI.out ⟨i, h1, h2⟩))⟩
    case measure => simp [intOf]; omega
  ·have hB : ¬ (j : Int) < (ks.length : Int) := by omega
   obtain rfl : j = ks.length := by omega
   go_wp2
   go_ret
   exact telQ_yes (HP.out.2 ⟨h12, HPL.out⟩)
end Go.Proofs.YtdlpepmdjbmmmaaGreatDoor
