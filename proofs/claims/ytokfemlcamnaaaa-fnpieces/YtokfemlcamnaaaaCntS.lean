/- What spec.CountOf answers. -/
import Derived.Test.YtokfemlcamnaaaaCntI
import Derived.Deep.RegionWith
namespace Go.Proofs.Ytokfemlcamnaaaa
open Go.RowKit

set_option maxHeartbeats 1600000 in
set_option maxRecDepth 20000 in
theorem sCnt_any (p : Pc) (l : Pl) (w : World) (hn0 : p.rules.length ≤ 1048576) (hp : RowsAt 2 ruCells w l.a1 p.rules) :
    Calls Try.prog 26 #[pcV p l] w fun e w' => e = .returned (.int .i64 (cntOf p)) ∧ Below w.heap.size w w' := by
  show Calls _ _ #[.agg #[.int .i64 p.indent, .slice l.a1 p.rules.length l.c1, .slice l.a2 p.chunks.length l.c2, .slice l.a3 p.spans.length l.c3, .slice l.a4 p.ties.length l.c4]] _ _
  unfold RowsAt at hp
  obtain ⟨u, hu⟩ : ∃ u, u = cntOf p := ⟨_, rfl⟩
  rw [← hu]
  unfold cntOf at hu
  have HU := hidOf hu
  obtain ⟨xs, hxs⟩ : ∃ xs, xs = p.rules := ⟨_, rfl⟩
  rw [← hxs] at hp HU hn0 ⊢
  obtain ⟨n, hn⟩ : ∃ n, n = xs.length := ⟨_, rfl⟩
  rw [← hn] at hp hn0 ⊢
  have HN := hidOf hn
  clear hn hu hxs
  have HB : ∀ o1 : Obj, Below w.heap.size w (w.alloc o1) := fun o1 => (Below.refl _ _).alloc (Nat.le_refl _) _
  go_enter Try.func26, Try.ntmps26
  go_wp2
  go_loop [3, 4] (fun q i => ∃ (k : Nat) (c : Int), k ≤ n ∧ k ≤ 8 ∧ q = .int .i64 c ∧ i = .int .i64 k ∧ 0 ≤ c ∧ Hid (c ≤ pow3 k) ∧ Hid (prod c ((xs.take 8).drop k) = u)) (fun _ i => 8 - (intOf i).toNat)
  case atStart => exact ⟨0, 1, Nat.zero_le _, Nat.zero_le _, rfl, rfl, by omega, hidOf (by simp [pow3]), hidOf HU.out.symm⟩
  case round =>
    obtain ⟨k, c, hkn, hk8, rfl, rfl, hc0, HC, HQ⟩ := hrel
    by_cases hlt : k < n ∧ k < 8
    · obtain ⟨x, ex⟩ : ∃ x, xs[k]? = some x := ⟨_, List.getElem?_eq_getElem (by rw [← HN.out]; exact hlt.1)⟩
      obtain ⟨b1, o1, e1, hb1, hc1⟩ := hp (by omega)
      have p01 := fun ob : Obj => ruC (w := w.alloc ob) (fun j hj => by rw [(HB ob).cell hb1]; exact hc1 k x ex j hj)
      have p0 := fun ob => (p01 ob).1
      have hA : (0 : Int) ≤ (k : Int) := by omega
      have hB : (k : Int) < (n : Int) := by omega
      have hB8 : (k : Int) < 8 := by omega
      have HP := hidOf (prod_at hlt.2 ex c)
      have hc6 := pow3_8 hk8 HC.out
      rw [e1]
      clear ex hc1 hp hlt p01 e1
      by_cases hv : 2 ≤ x.values ∧ x.values ≤ 3
      · have hin := fun W => sIn_any x.values 2 3 W
        rw [inB_yes hv.1 hv.2] at hin
        have hm := mul_bd hc0 HC.out hv
        have hm6 := pow3_8 (by omega) hm.2
        have hm0 := hm.1
        have HM := hidOf hm.2
        have HV := hidOf hv
        clear hm hv
        go_wp2_with fail
        refine (hin _).mono ?_
        rintro e w1 ⟨rfl, rfl⟩
        go_wp2
        go_round
        case rel => exact ⟨k + 1, c * x.values, by omega, by omega, rfl, by go_num, hm0, HM, hidOf (by rw [← HQ.out, HP.out, if_pos HV.out])⟩
        case measure => simp [intOf]; omega
      · have hin := fun W => sIn_any x.values 2 3 W
        rw [inB_no hv] at hin
        have HV := hidOf hv
        clear hv
        go_wp2_with fail
        refine (hin _).mono ?_
        rintro e w1 ⟨rfl, rfl⟩
        go_wp2
        go_ret
        exact ⟨ret_int (by rw [← HQ.out, HP.out, if_neg HV.out]), HB _⟩
    · have HE := hidOf (prod_end (xs := xs) (k := k) (by rw [← HN.out]; omega) c)
      by_cases hl2 : k < n
      · have hB : (k : Int) < (n : Int) := by omega
        have hB8 : ¬ (k : Int) < 8 := by omega
        clear hlt
        go_wp2
        go_ret
        exact ⟨ret_int (by rw [← HQ.out, HE.out]), HB _⟩
      · have hB : ¬ (k : Int) < (n : Int) := by omega
        clear hlt
        go_wp2
        go_ret
        exact ⟨ret_int (by rw [← HQ.out, HE.out]), HB _⟩
end Go.Proofs.Ytokfemlcamnaaaa
