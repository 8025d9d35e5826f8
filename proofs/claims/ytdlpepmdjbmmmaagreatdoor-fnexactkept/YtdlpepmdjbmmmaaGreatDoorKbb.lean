/- A source held against what has become of it: impl.Kept. -/
import Derived.Test.YtdlpepmdjbmmmaaGreatDoorKba
import Derived.Test.YtdlpepmdjbmmmaaGreatDoorTrS5
import Derived.Test.YtdlpepmdjbmmmaaGreatDoorTrS3
import Derived.Test.YtdlpepmdjbmmmaaGreatDoorSpI20
import Derived.Test.YtdlpepmdjbmmmaaGreatDoorProg
import Derived.Test.YtdlpepmdjbmmmaaGreatDoorKax
import Derived.BigQuiet
import Derived.Deep.QuietTactic
import Derived.Test.YtdlpepmdjbmmmaaGreatDoorKay
import Derived.Lib.AppendIntMem
import Derived.WalkKit
import Derived.Laws.OwnMore
namespace Go.Proofs.YtdlpepmdjbmmmaaGreatDoor
open Go.RowKit

set_option maxHeartbeats 4000000 in
set_option maxRecDepth 20000 in
theorem iKept_any (t u : ByteArray) (w : World) (hs : t.size ≤ 4194304) (hu : u.size ≤ 4194304) :
  Calls Tryz.prog 5 #[.string t, .string u] w fun e w' => TelB (KeptP t u) w e w' := by
 go_enter Tryz.func5, Tryz.ntmps5
 go_wp2_with fail
 refine (iReading_any t w hs).mono ?_
 rintro e w1 ⟨hb1, na, nl, nc, sa, sl, sc, b1, rfl, hB1, hD1⟩
 have HB1 := hidOf hB1
 have hs1 := hb1.size
 have hba1 := hb1.alloc hs1 (.cells #[.slice na nl nc, .slice sa sl sc] 35)
 go_wp2_with fail
 refine (iReading_any u _ hu).mono ?_
 rintro e w2 ⟨hb2, nb, ml, mc, sb, rl, rc, b2, rfl, hB2, hD2⟩
 have HB2 := hidOf hB2
 have hB2w := hba1.trans (hb2.mono (by simp; omega))
 have hs2 := hB2w.size
 have r1 : w2.heap[w1.heap.size]? = some (.cells #[.slice na nl nc, .slice sa sl sc] 35 (0, 0)) := (hb2.block _ (by simp)).trans (heap_alloc_new w1 _)
 have hl1 : w1.heap.size < w2.heap.size := (Array.getElem?_eq_some_iff.1 r1).1
 cases b1
 ·have HN := hidOf (show ¬ KeptP t u from fun h => by have := HB1.out.2 h.1; cases this)
  clear hD1 hD2 hB1 hB2 r1
  go_wp2
  go_quiet (fail)
  go_wp2
  go_ret
  exact telB_no HN.out (bel_drewN (hB2w.alloc hs2 _) nq)
 cases b2
 ·have HN := hidOf (show ¬ KeptP t u from fun h => by have := HB2.out.2 h.2.1; cases this)
  clear hD1 hD2 hB1 hB2 r1
  go_wp2
  go_quiet (fail)
  go_wp2
  go_ret
  exact telB_no HN.out (bel_drewN (hB2w.alloc hs2 _) nq)
 ·have k1 := HB1.out.1 rfl
  have k2 := HB2.out.1 rfl
  have d1 := ((hD1 rfl).below ((Below.refl w1.heap.size w1).alloc (Nat.le_refl _) (.cells #[.slice na nl nc, .slice sa sl sc] 35))).below hb2
  have d2 := hD2 rfl
  obtain ⟨W, hW⟩ : ∃ W, W = w2.alloc (.cells #[.slice nb ml mc, .slice sb rl rc] 35) := ⟨_, rfl⟩
  have hbW : Below w2.heap.size w2 W := by rw [hW]; exact (Below.refl _ _).alloc (Nat.le_refl _) _
  have r2 : W.heap[w2.heap.size]? = some (.cells #[.slice nb ml mc, .slice sb rl rc] 35 (0, 0)) := by rw [hW]; exact heap_alloc_new w2 _
  have hl2 : w2.heap.size < W.heap.size := (Array.getElem?_eq_some_iff.1 r2).1
  have r1' := (hbW.block _ hl1).trans r1
  have c0 : W.cell? ⟨w1.heap.size, 0, none⟩ = some (.slice na nl nc) := cell_of_row W _ 0 _ _ _ r1'
  have c1 : W.cell? ⟨w1.heap.size, 1, none⟩ = some (.slice sa sl sc) := cell_of_row W _ 1 _ _ _ r1'
  have c2 : W.cell? ⟨w2.heap.size, 0, none⟩ = some (.slice nb ml mc) := cell_of_row W _ 0 _ _ _ r2
  have c3 : W.cell? ⟨w2.heap.size, 1, none⟩ = some (.slice sb rl rc) := cell_of_row W _ 1 _ _ _ r2
  have d1 := d1.below hbW
  have d2 := d2.below hbW
  have hWw := hB2w.trans (hbW.mono hs2)
  have Dr : Below W.heap.size W W.drew := (Below.refl W.heap.size W).drew
  have hlw : w1.heap.size < W.heap.size := by omega
  have HK := hidOf (show KeptP t u ↔ (sameNds (nodesOf t) (nodesOf u) = true ∧ sameW (sgn t).1 (sgn u).1 = true ∧ nts (sgn t).1 = nts (sgn u).1) from ⟨fun h => h.2.2, fun h => ⟨k1, k2, h⟩⟩)
  have HD := hidOf (And.intro k1 (And.intro k2 (And.intro d1 d2)))
  clear r1 r2 r1' hB1 hB2 hD1 hD2 d1 d2 k1 k2
  go_wp2
  rw [← hW]
  clear hW
  go_region_held3 (fun X => X.cell? ⟨w1.heap.size, 0, none⟩ = some (.slice na nl nc) ∧ X.cell? ⟨w1.heap.size, 1, none⟩ = some (.slice sa sl sc) ∧ X.cell? ⟨w2.heap.size, 0, none⟩ = some (.slice nb ml mc) ∧ X.cell? ⟨w2.heap.size, 1, none⟩ = some (.slice sb rl rc)) (first | trivial | go_keep)
   ((first
   | (go_at_call 14; refine (iKTruths _).mono ?_; rintro e w5 ⟨rfl, hw5⟩; have hb5 : Below W.drew.heap.size W.drew w5 := (by rw [hw5]; exact (Below.refl _ _).alloc (Nat.le_refl _) _); have hr5 := (congrArg (fun X : World => X.heap[W.heap.size]?) hw5).trans (heap_alloc_new W.drew _); have hs5 : W.heap.size < w5.heap.size := (Array.getElem?_eq_some_iff.1 hr5).1; have hc5 := bcelld hb5; clear hw5)
   | (go_at_call 13; refine (iKAllSo t u na nl nc sa sl sc nb ml mc sb rl rc W.heap.size _ HD.out.1 HD.out.2.1 ((HD.out.2.2.1.below Dr).below hb5) ((HD.out.2.2.2.below Dr).below hb5) hs5 (cell_of_row _ _ 0 _ _ _ hr5) (cell_of_row _ _ 1 _ _ _ hr5) (cell_of_row _ _ 2 _ _ _ hr5)).mono ?_; rintro e w6 ⟨b6, rfl, hB6, hb6⟩; have Z6 := hb5.trans (hb6.mono hb5.size); have hc6 := bcelld Z6)))
  all_goals
   go_wp2
   go_ret
   exact ⟨b6, rfl, hB6.trans HK.out.symm, hWw.trans ((Dr.trans (Z6.mono (Nat.le_refl _))).mono hWw.size)⟩
end Go.Proofs.YtdlpepmdjbmmmaaGreatDoor
/- spec.ReadSource, whole. -/
namespace Go.Proofs.YtdlpepmdjbmmmaaGreatDoor
open Go.RowKit

theorem sNode_R : NodeR 83 := fun _ _ _ _ _ _ _ h h1 h2 h3 => sNode h h1 h2 h3
theorem sTree_any : TreeR 19 := sTree_R sNode_R
theorem sRead_any (t : ByteArray) (w : World) (hs : t.size ≤ 4194304) : Calls Tryz.prog 6 #[.string t] w (RdsAns t w) := sReadSource t w hs sTree_any
end Go.Proofs.YtdlpepmdjbmmmaaGreatDoor
/- What spec.SameTree answers. -/
namespace Go.Proofs.YtdlpepmdjbmmmaaGreatDoor
open Go.RowKit

theorem drewN_two (w : World) (a b : Nat) : (w.drewN a).drewN b = w.drewN (a + b) := by
 unfold World.drewN
 simp [Nat.add_assoc]

set_option maxHeartbeats 8000000 in
set_option maxRecDepth 20000 in
theorem sTreeSame_any (v1 v2 : Value) (xs ys : List Nd) (w : World) (hx0 : xs.length ≤ 4611686018427387904) (hy : ys.length ≤ 4611686018427387904) (hf1 : KidsFew xs) (hf2 : KidsFew ys) (h1 : NdsAt w v1 xs) (h2 : NdsAt w v2 ys) :
  Calls Tryz.prog 7 #[v1, v2] w fun e w' => e = .returned (.bool (sameNds xs ys)) ∧ Below w.heap.size w w' := by
 obtain ⟨a1, c1, rfl, h1⟩ := h1
 obtain ⟨a2, c2, rfl, h2⟩ := h2
 have hx := hx0
 clear hx0
 by_cases hl : xs.length = ys.length
 ·rw [← hl] at h2
  rw [← hl] at hy
  obtain ⟨n, hn⟩ : ∃ n, n = xs.length := ⟨_, rfl⟩
  rw [← hn] at h1 h2 hx hy
  rw [← hl, ← hn]
  have HN := hidOf hn
  have HL := hidOf hl
  clear hn hl
  go_enter Tryz.func7, Tryz.ntmps7
  go_wp2
  go_loopw [5] (fun i wr => ∃ k q : Nat, k ≤ n ∧ i = .int .i64 k ∧ wr = w.drewN q ∧ Hid (∀ (j : Nat) (x y : Nd), j < k → xs[j]? = some x → ys[j]? = some y → sameNd x y = true)) (fun i _ => n - (intOf i).toNat)
  case atStart => exact ⟨0, 0, Nat.zero_le _, rfl, rfl, hidOf fun j x y h => by omega⟩
  case round =>
   obtain ⟨k, q, hk, rfl, rfl, HA⟩ := hrel
   by_cases hlt : k < n
   ·obtain ⟨x, ex⟩ : ∃ x, xs[k]? = some x := ⟨_, List.getElem?_eq_getElem (by rw [← HN.out]; exact hlt)⟩
    obtain ⟨y, ey⟩ : ∃ y, ys[k]? = some y := ⟨_, List.getElem?_eq_getElem (by rw [← HL.out, ← HN.out]; exact hlt)⟩
    obtain ⟨b1, o1, rfl, hb1, hc1⟩ := h1 (by omega)
    obtain ⟨b2, o2, rfl, hb2, hc2⟩ := h2 (by omega)
    obtain ⟨ka1, kc1, g1, K1⟩ := hc1 k x ex
    obtain ⟨ka2, kc2, g2, K2⟩ := hc2 k y ey
    have G1 := hf1 x (List.mem_of_getElem? ex)
    have G2 := hf2 y (List.mem_of_getElem? ey)
    obtain ⟨p0, p1, p2, p3⟩ := nd4 (w := w) g1
    obtain ⟨q0, q1, q2, q3⟩ := nd4 (w := w) g2
    have EX := hidOf ex
    have EY := hidOf ey
    clear ex ey hc1 hc2 h1 h2 g1 g2
    have hA : (0 : Int) ≤ (k : Int) := by omega
    have hB : (k : Int) < (n : Int) := by omega
    cases hk1 : (x.kind == y.kind)
    ·have hm1 : (x.kind != y.kind) = true := by simp [bne, hk1]
     go_wp2
     go_quiet (fail)
     go_wp2
     go_ret
     exact ⟨ret_bool (sameNds_not k EX.out EY.out (by simp [sameNd, hk1])).symm, bel_drewN (below_drewN _ _) _⟩
    ·have hm1 : (x.kind != y.kind) = false := by simp [bne, hk1]
     cases hk2 : (x.text.toList == y.text.toList)
     ·have hm2 : (x.text.toList != y.text.toList) = true := by simp [bne, hk2]
      go_wp2
      go_quiet (fail)
      go_wp2
      go_ret
      exact ⟨ret_bool (sameNds_not k EX.out EY.out (by simp [sameNd, hk1, hk2])).symm, bel_drewN (below_drewN _ _) _⟩
     ·have hm2 : (x.text.toList != y.text.toList) = false := by simp [bne, hk2]
      cases hk3 : (x.blank == y.blank)
      ·have hm3 : (x.blank != y.blank) = true := by simp [bne, hk3]
       go_wp2
       go_quiet (fail)
       go_wp2
       go_ret
       exact ⟨ret_bool (sameNds_not k EX.out EY.out (by simp [sameNd, hk1, hk2, hk3])).symm, bel_drewN (below_drewN _ _) _⟩
      ·have hm3 : (x.blank != y.blank) = false := by simp [bne, hk3]
       by_cases hkl : x.kids.length = y.kids.length
       ·obtain ⟨m, hm⟩ : ∃ m, m = x.kids.length := ⟨_, rfl⟩
        unfold KidsAt at K1 K2
        rw [← hkl] at q2 K2
        rw [← hm] at p2 q2 K1 K2 G1
        have hm4 : ((m : Int) != (m : Int)) = false := by simp
        have HKL := hidOf hkl
        have HM := hidOf hm
        clear hkl hm G2
        go_wp2
        go_quiet (fail)
        go_wp2
        go_loopw [6] (fun i wr => ∃ u t : Nat, u ≤ m ∧ i = .int .i64 u ∧ wr = w.drewN t ∧ Hid (∀ (j : Nat) (a b : Int), j < u → x.kids[j]? = some a → y.kids[j]? = some b → a = b)) (fun i _ => m - (intOf i).toNat)
        case atStart => exact ⟨0, q + nq, Nat.zero_le _, rfl, drewN_two w q nq, hidOf fun j a b h => by omega⟩
        case round =>
         obtain ⟨u, t, hu, rfl, rfl, HC⟩ := hrel
         by_cases hult : u < m
         ·obtain ⟨a, ea⟩ : ∃ a, x.kids[u]? = some a := ⟨_, List.getElem?_eq_getElem (by rw [← HM.out]; exact hult)⟩
          obtain ⟨b, eb⟩ : ∃ b, y.kids[u]? = some b := ⟨_, List.getElem?_eq_getElem (by rw [← HKL.out, ← HM.out]; exact hult)⟩
          obtain ⟨b3, o3, rfl, hb3, hc3⟩ := K1 (by omega)
          obtain ⟨b4, o4, rfl, hb4, hc4⟩ := K2 (by omega)
          have r0 := hc3 u a ea
          have r1 := hc4 u b eb
          have EA := hidOf ea
          have EB := hidOf eb
          clear ea eb hc3 hc4 K1 K2
          have hA2 : (0 : Int) ≤ (u : Int) := by omega
          have hB2 : (u : Int) < (m : Int) := by omega
          cases hab : (a == b)
          ·have hm5 : (a != b) = true := by simp [bne, hab]
           go_wp2
           go_quiet (fail)
           go_wp2
           go_ret
           exact ⟨ret_bool (sameNds_not k EX.out EY.out (by simp only [sameNd, ints_not EA.out EB.out (by simpa using hab), Bool.and_false])).symm, bel_drewN (below_drewN _ _) _⟩
          ·have hm5 : (a != b) = false := by simp [bne, hab]
           go_wp2
           go_quiet (fail)
           go_wp2
           go_roundw
           case rel => exact ⟨u + 1, t + nq, by omega, by go_num, rfl, hidOf fun j a' b' h1 h2 h3 => by
            by_cases e : j = u
            ·subst e
             have e1 := EA.out
             have e2 := EB.out
             rw [h2] at e1
             rw [h3] at e2
             cases e1
             cases e2
             simpa using hab
            ·exact HC.out j a' b' (by omega) h2 h3⟩
           case measure => simp [intOf]; omega
         ·go_wp2
          go_roundw
          case rel => exact ⟨k + 1, t, by omega, by go_num, rfl, hidOf fun j x' y' h1 h2 h3 => by
           by_cases e : j = k
           ·subst e
            have e1 := EX.out
            have e2 := EY.out
            rw [h2] at e1
            rw [h3] at e2
            cases e1
            cases e2
            have hks : (x.kids == y.kids) = true := ints_yes HKL.out (fun j a b h2 h3 => HC.out j a b (by have := (List.getElem?_eq_some_iff.1 h2).1; rw [← HM.out] at this; omega) h2 h3)
            simp only [sameNd, hk1, hk2, hk3, hks, Bool.and_self]
           ·exact HA.out j x' y' (by omega) h2 h3⟩
          case measure => simp [intOf]; omega
       ·have hm4 : ((x.kids.length : Int) != (y.kids.length : Int)) = true := by simp; omega
        have HKL := hidOf hkl
        clear hkl
        go_wp2
        go_quiet (fail)
        go_wp2
        go_ret
        exact ⟨ret_bool (sameNds_not k EX.out EY.out (by simp only [sameNd, ints_len HKL.out, Bool.and_false])).symm, bel_drewN (below_drewN _ _) _⟩
   ·go_wp2
    go_ret
    exact ⟨ret_bool (sameNds_yes HL.out (fun j x y h2 h3 => HA.out j x y (by have := (List.getElem?_eq_some_iff.1 h2).1; rw [← HN.out] at this; omega) h2 h3)).symm, below_drewN _ _⟩
 ·have hne : ((xs.length : Int) == (ys.length : Int)) = false := by rw [beq_eq_false_iff_ne]; omega
  have HL := hidOf hl
  clear hl h1 h2
  go_enter Tryz.func7, Tryz.ntmps7
  go_wp2
  go_ret
  exact ⟨ret_bool (sameNds_len HL.out).symm, Below.refl _ _⟩
end Go.Proofs.YtdlpepmdjbmmmaaGreatDoor
/- What spec.NotesIn answers. -/
namespace Go.Proofs.YtdlpepmdjbmmmaaGreatDoor
open Go.RowKit

theorem infoStrS : (Tryz.prog.info? 9).map (fun i => (i.zero, i.size, i.bytes)) = some (some (.string ByteArray.empty), 1, 16) := by kernel_rfl

set_option maxHeartbeats 4000000 in
set_option maxRecDepth 20000 in
theorem sNotes_any (v : Value) (xs : List Sg) (w : World) (hn0 : xs.length ≤ 1048576) (hT : SgsAt w v xs) :
  Calls Tryz.prog 11 #[v] w fun e w' => StrsAns (nts xs) 9 w e w' := by
 obtain ⟨i0, hi, hz0, hz1, hz2⟩ := info_parts infoStrS
 obtain ⟨a, c, rfl, h⟩ := hT
 obtain ⟨n, hn⟩ : ∃ n, n = xs.length := ⟨_, rfl⟩
 rw [← hn] at h hn0 ⊢
 have HN := hidOf hn
 clear hn
 go_enter Tryz.func11, Tryz.ntmps11
 go_wp2
 go_loopw [3, 4] (fun v i wr => ∃ (k : Nat) (os : List ByteArray), k ≤ n ∧ i = .int .i64 k ∧ os.length ≤ k ∧ Hid (os ++ nts (xs.drop k) = nts xs) ∧ wr.ownsRow w.heap.size 9 1 v os.length (strVals os) ∧ Below w.heap.size w wr)
  (fun _ i _ => n - (intOf i).toNat)
 case atStart => exact ⟨0, [], by omega, rfl, by simp, rfl, World.ownsRow_made w #[] 0 (Nat.le_refl _) (by decide) rfl, (Below.refl _ w).alloc (Nat.le_refl _) _⟩
 case round =>
  obtain ⟨k, os, hk, rfl, hol, HI, hown, hb⟩ := hrel
  obtain ⟨ao, cv, rfl⟩ := owns_slice hown
  have hsz := hb.size
  by_cases hlt : k < n
  ·obtain ⟨x, ex⟩ : ∃ x, xs[k]? = some x := ⟨_, List.getElem?_eq_getElem (by rw [← HN.out]; exact hlt)⟩
   obtain ⟨b1, o1, rfl, hb1, hc1⟩ := h (by omega)
   obtain ⟨p0, p1, p2, p3⟩ := cells4 (w := wr) (fun j hj => by rw [hb.cell hb1]; exact hc1 k x ex j hj)
   have EX := hidOf ex
   clear ex hc1 h p2 p3
   have hA : (0 : Int) ≤ (k : Int) := by omega
   have hB : (k : Int) < (n : Int) := by omega
   cases h5 : (x.kind == 5)
   ·go_wp2
    go_roundw
    case rel => exact ⟨k + 1, os, by omega, by go_num, by omega, hidOf (nts_no EX.out h5 HI.out), hown, hb⟩
    case measure => simp [intOf]; omega
   ·go_wp2_with (at_builtin; refine wpList_append_own _ rfl _ _ 32 rfl w.heap.size 9 i0 (.string ByteArray.empty) 1 16 Tryz.underlying32 hi hz0 hz1 hz2 rfl (by decide) _ _ _ rfl (hown.alloc _) ⟨wr.heap.size, 0, none⟩ 1 1 [.string x.text] rfl rfl (cell_one_new _ _ _) (fun x hx => by simp at hx; subst hx; rfl) (by unfold maxLen; omega) (by omega) (by simp; omega) ?_; intro v' w3 hown' hgrow3 hnil3)
    go_roundw
    case rel => exact ⟨k + 1, os ++ [x.text], by omega, by go_num, by simp; omega, hidOf (nts_yes EX.out h5 HI.out), by simpa [strVals] using hown', (hb.alloc (by omega) _).grown hgrow3 (by simp; omega) (fun q hq => (hown.lt q hq).1)⟩
    case measure => simp [intOf]; omega
  ·go_wp2
   go_ret
   have := HN.out
   exact ⟨hb, _, rfl, by rw [nts_end (by omega) HI.out]; exact hown⟩
end Go.Proofs.YtdlpepmdjbmmmaaGreatDoor
/- A source held against what has become of it: spec.Kept. -/
namespace Go.Proofs.YtdlpepmdjbmmmaaGreatDoor
open Go.RowKit

set_option maxHeartbeats 4000000 in
set_option maxRecDepth 20000 in
theorem sKept_any (t u : ByteArray) (w : World) (hs : t.size ≤ 4194304) (hu : u.size ≤ 4194304) :
  Calls Tryz.prog 4 #[.string t, .string u] w fun e w' => TelB (KeptP t u) w e w' := by
 go_enter Tryz.func4, Tryz.ntmps4
 go_wp2_with fail
 refine (sRead_any t w hs).mono ?_
 rintro e w1 ⟨na, nc, qs, pl, b1, rfl, hN1, hb1, hB1, hT1, -⟩
 have HB1 := hidOf hB1
 go_wp2_with fail
 refine (sRead_any u w1 hu).mono ?_
 rintro e w2 ⟨nb, mc, ps, pk, b2, rfl, hN2, hb2, hB2, hT2, -⟩
 have HB2 := hidOf hB2
 have hB2w := hb1.trans (hb2.mono hb1.size)
 clear hB1 hB2
 cases b1
 ·have HN := hidOf (show ¬ KeptP t u from fun h => by have := HB1.out.2 h.1; cases this)
  clear hN1 hN2 hT1 hT2
  go_wp2
  go_ret
  exact telB_no HN.out hB2w
 cases b2
 ·have HN := hidOf (show ¬ KeptP t u from fun h => by have := HB2.out.2 h.2.1; cases this)
  clear hN1 hN2 hT1 hT2
  go_wp2
  go_ret
  exact telB_no HN.out hB2w
 ·have k1 := HB1.out.1 rfl
  have k2 := HB2.out.1 rfl
  have a1 := (hN1.below hb2).at
  have a2 := hN2.at
  rw [hT1 rfl] at a1
  rw [hT2 rfl] at a2
  have q3 := sTreeSame_any _ _ (nodesOf t) (nodesOf u) w2 (by have := (read_few k1).1; omega) (by have := (read_few k2).1; omega) (read_few k1).2 (read_few k2).2 a1 a2
  have HK := hidOf (show KeptP t u ↔ (sameNds (nodesOf t) (nodesOf u) = true ∧ sameW (sgn t).1 (sgn u).1 = true ∧ nts (sgn t).1 = nts (sgn u).1) from ⟨fun h => h.2.2, fun h => ⟨k1, k2, h⟩⟩)
  obtain ⟨c1, hc1⟩ : ∃ c, c = sameNds (nodesOf t) (nodesOf u) := ⟨_, rfl⟩
  rw [← hc1] at q3 HK
  clear hN1 hN2 hT1 hT2 a1 a2 k1 k2 hc1
  cases c1
  ·have HN := hidOf (show ¬ KeptP t u from fun h => by have := (HK.out.1 h).1; cases this)
   go_wp2_with fail
   refine q3.mono ?_
   rintro e w3 ⟨rfl, hb3⟩
   go_wp2
   go_ret
   exact telB_no HN.out (hB2w.trans (hb3.mono hB2w.size))
  ·go_wp2_with fail
   refine q3.mono ?_
   rintro e w3 ⟨rfl, hb3⟩
   have hB3 := hB2w.trans (hb3.mono hB2w.size)
   clear q3
   go_wp2_with fail
   refine (sSigns_any t w3 hs).mono ?_
   rintro e w4 ⟨hb4, v4, rfl, ho4⟩
   have hB4 := hB3.trans (hb4.mono hB3.size)
   go_wp2_with fail
   refine (sSigns_any u w4 hu).mono ?_
   rintro e w5 ⟨hb5, v5, rfl, ho5⟩
   have hB5 := hB4.trans (hb5.mono hB4.size)
   have s4 := (SgsAt.of_own ho4).below hb5
   have s5 := SgsAt.of_own ho5
   have q6 := sWords_any v4 v5 (sgn t).1 (sgn u).1 w5 (by have := (sgn_few t).1; omega) (by have := (sgn_few u).1; omega) s4 s5
   have q7 : ∀ X, Below w5.heap.size w5 X → Calls Tryz.prog 11 #[v4] X fun e w' => StrsAns (nts (sgn t).1) 9 X e w' := fun X hb => sNotes_any v4 (sgn t).1 X (by have := (sgn_few t).1; omega) (s4.below hb)
   have q8 : ∀ X, Below w5.heap.size w5 X → Calls Tryz.prog 11 #[v5] X fun e w' => StrsAns (nts (sgn u).1) 9 X e w' := fun X hb => sNotes_any v5 (sgn u).1 X (by have := (sgn_few u).1; omega) (s5.below hb)
   have l1 : (nts (sgn t).1).length ≤ 3000 := Nat.le_trans (nts_len _) (sgn_few t).1
   have l2 : (nts (sgn u).1).length ≤ 3000 := Nat.le_trans (nts_len _) (sgn_few u).1
   obtain ⟨c2, hc2⟩ : ∃ c, c = sameW (sgn t).1 (sgn u).1 := ⟨_, rfl⟩
   rw [← hc2] at q6 HK
   obtain ⟨ns, hns⟩ : ∃ ns, ns = nts (sgn t).1 := ⟨_, rfl⟩
   obtain ⟨ms, hms⟩ : ∃ ms, ms = nts (sgn u).1 := ⟨_, rfl⟩
   rw [← hns] at q7 l1 HK
   rw [← hms] at q8 l2 HK
   have Q7 := hidOf q7
   have Q8 := hidOf q8
   clear hc2 hns hms q7 q8 ho4 ho5 s4 s5
   cases c2
   ·have HN := hidOf (show ¬ KeptP t u from fun h => by have := (HK.out.1 h).2.1; cases this)
    go_wp2_with fail
    refine q6.mono ?_
    rintro e w6 ⟨rfl, hb6⟩
    go_wp2
    go_ret
    exact telB_no HN.out (hB5.trans (hb6.mono hB5.size))
   ·go_wp2_with fail
    refine q6.mono ?_
    rintro e w6 ⟨rfl, hb6⟩
    have hB6 := hB5.trans (hb6.mono hB5.size)
    clear q6
    go_wp2_with fail
    refine (Q7.out w6 hb6).mono ?_
    rintro e w7 ⟨hb7, v7, rfl, ho7⟩
    have hB7 := hB6.trans (hb7.mono hB6.size)
    have S7 := StAt.of_own ho7
    go_wp2_with fail
    refine (Q8.out w7 (hb6.trans (hb7.mono hb6.size))).mono ?_
    rintro e w8 ⟨hb8, v8, rfl, ho8⟩
    have hB8 := hB7.trans (hb8.mono hB7.size)
    have q9 := sNotesEq v7 v8 ns ms w8 (by omega) (by omega) (S7.below hb8) (StAt.of_own ho8)
    obtain ⟨b9, hb9⟩ : ∃ b, b = decide (ns = ms) := ⟨_, rfl⟩
    rw [← hb9] at q9
    have H9 := hidOf hb9
    clear hb9
    go_wp2_with fail
    refine q9.mono ?_
    rintro e w9 ⟨rfl, q, rfl⟩
    go_wp2
    go_ret
    refine ⟨b9, rfl, ?_, bel_drewN hB8 q⟩
    rw [H9.out, decide_eq_true_eq]
    exact ⟨fun h => HK.out.2 ⟨trivial, trivial, h⟩, fun h => (HK.out.1 h).2.2⟩
end Go.Proofs.YtdlpepmdjbmmmaaGreatDoor
/- The law on Kept: both tell the same. -/
namespace Go.Proofs.YtdlpepmdjbmmmaaGreatDoor
open Go.RowKit

set_option maxHeartbeats 2000000 in
theorem lawKept (t u : ByteArray) (w : World) (hs : t.size ≤ 9223372036854775807) (hu : u.size ≤ 9223372036854775807) :
  Calls Tryz.prog 3 #[.string t, .string u] w fun e w' => e = .returned (.bool true) ∧ Below w.heap.size w w' := by
 by_cases h1 : 1048576 < t.size
 ·go_enter Tryz.func3, Tryz.ntmps3
  go_wp2
  go_ret
  exact ⟨rfl, Below.refl _ _⟩
 by_cases h2 : 1048576 < u.size
 ·go_enter Tryz.func3, Tryz.ntmps3
  go_wp2
  go_ret
  exact ⟨rfl, Below.refl _ _⟩
 go_enter Tryz.func3, Tryz.ntmps3
 go_wp2_with fail
 refine (sKept_any t u w (by omega) (by omega)).mono ?_
 rintro e w1 ⟨b1, rfl, hB1, hb1⟩
 go_wp2_with fail
 refine (iKept_any t u w1 (by omega) (by omega)).mono ?_
 rintro e w2 ⟨b2, rfl, hB2, hb2⟩
 obtain rfl : b2 = b1 := tel_same hB2 hB1
 have hq : (b2 != b2) = false := by simp
 clear hB1 hB2
 go_wp2
 go_ret
 exact ⟨rfl, hb1.trans (hb2.mono hb1.size)⟩
end Go.Proofs.YtdlpepmdjbmmmaaGreatDoor
