/- What spec.SignsOf answers. -/
import Derived.Test.YtlpbhhgikgbfhaaDoorSgnS5
namespace Go.Proofs.YtlpbhhgikgbfhaaDoor
open Go.RowKit

theorem infoSgS : (Tryd.prog.info? 34).map (fun i => (i.zero, i.size, i.bytes)) = some (some (.agg #[.int .i64 0, .string ByteArray.empty, .int .i64 0, .bool false]), 4, 40) := by kernel_rfl

set_option maxHeartbeats 8000000 in
set_option maxRecDepth 100000 in
theorem sSigns_any (t : ByteArray) (w : World) (hs : t.size ≤ 4194304) :
    Calls Tryd.prog 12 #[.string t] w fun e w' => SgnAns t 34 w e w' := by
  obtain ⟨i0, hi, hz0, hz1, hz2⟩ := info_parts infoSgS
  by_cases hbig : 3000 < t.size
  · go_enter Tryd.func12, Tryd.ntmps12
    go_wp2
    go_ret3
    exact SgnAns.mk (sgn_long hbig) rfl ((Below.refl _ _).alloc (Nat.le_refl _) _) (World.ownsRow_made w #[] 0 (Nat.le_refl _) (by decide) rfl)
  · go_enter Tryd.func12, Tryd.ntmps12
    go_wp2
    obtain ⟨v0, hv0⟩ : ∃ v0, v0 = Value.slice (some ⟨w.heap.size, 0, none⟩) 0 0 := ⟨_, rfl⟩
    have hown0 : (w.alloc (.cells #[] 34)).ownsRow w.heap.size 34 4 v0 0 [] := by rw [hv0]; exact World.ownsRow_made w #[] 0 (by omega) (by decide) rfl
    rw [← hv0]
    clear hv0
    have hb0 : Below w.heap.size w (w.alloc (.cells #[] 34)) := (Below.refl _ _).alloc (Nat.le_refl _) _
    have HS := hidOf (sgn_short hbig)
    have hby := by8_at t
    go_loopw [5, 6, 7] (fun v i en wr => ∃ (k ends : Nat) (pre : List Sg), k ≤ t.size ∧ i = .int .i64 k ∧ en = .int .i64 ends ∧ pre.length ≤ k ∧ ends ≤ k ∧ wr.ownsRow w.heap.size 34 4 v pre.length (sgVals pre) ∧ Below w.heap.size w wr ∧ Hid (lexA t k ends pre = sgn t)) (fun _ i _ _ => t.size - (intOf i).toNat)
    case atStart => exact ⟨0, 0, [], Nat.zero_le _, rfl, rfl, Nat.le_refl _, Nat.le_refl _, hown0, hb0, hidOf HS.out.symm⟩
    case round =>
      obtain ⟨k, ends, pre, hk, rfl, rfl, hpl, hel, ho, hb, HX⟩ := hrel
      obtain ⟨ao, cc, rfl⟩ := owns_slice ho
      by_cases hlt : k < t.size
      · have hA : (0 : Int) ≤ (k : Int) := by omega
        have hB : (k : Int) < (t.size : Int) := by omega
        have hbr := by8_range t k
        by_cases h32 : by8 t k = 32
        · have h32' : (by8 t k == 32) = true := by simp [h32]
          have HN := hidOf (lexA_blank (t := t) (k := k) (ends := ends) (pre := pre) hlt h32)
          clear h32
          go_wp2
          go_roundw
          case rel => exact ⟨k + 1, ends, pre, by omega, by go_num, rfl, by omega, by omega, ho, hb, hidOf (by rw [← HN.out]; exact HX.out)⟩
          case measure => simp [intOf]; omega
        · have h32' : (by8 t k == 32) = false := by simpa using h32
          by_cases h10 : by8 t k = 10
          · have h10' : (by8 t k == 10) = true := by simp [h10]
            have HN := hidOf (lexA_line (t := t) (k := k) (ends := ends) (pre := pre) hlt h10)
            clear h32 h10
            go_wp2
            go_roundw
            case rel => exact ⟨k + 1, ends + 1, pre, by omega, by go_num, by go_num, by omega, by omega, ho, hb, hidOf (by rw [← HN.out]; exact HX.out)⟩
            case measure => simp [intOf]; omega
          · have h10' : (by8 t k == 10) = false := by simpa using h10
            have HNo := hidOf (lexA_none (t := t) (k := k) (ends := ends) (pre := pre) hlt h32 h10)
            have HSi := hidOf (lexA_sign (t := t) (k := k) (ends := ends) (pre := pre) hlt h32 h10)
            clear h32 h10
            go_wp2_with fail
            refine (sSign_any t k _ hs hlt).mono ?_
            rintro e w2 ⟨hb2, kd, x, p, n, rfl, hp, hok⟩
            have B2 := hb.trans (hb2.mono hb.size)
            have ho2 := owns_below ho hb2
            have hsz2 : w.heap.size ≤ w2.heap.size := B2.size
            clear ho
            rcases hok with ⟨h0, hn0⟩ | ⟨hne, hkd, hx, hle, hkn, hbl⟩
            · subst hn0
              have hr : sgn t = ([], k, false) := by rw [← HX.out]; exact HNo.out h0
              have HR := hidOf hr
              clear hr h0 hp HNo HSi HX
              go_wp2
              go_ret3
              have hszA : w.heap.size ≤ (w2.alloc (.cells #[.int .i64 kd, .string x, .int .i64 p, .bool false] 34)).heap.size := by simp; omega
              have hO := World.ownsRow_made (base := w.heap.size) (e := 34) (size := 4) (w2.alloc (.cells #[.int .i64 kd, .string x, .int .i64 p, .bool false] 34)) #[] 0 hszA (by decide) rfl
              rw [World.size_alloc] at hO
              exact SgnAns.mk HR.out rfl ((B2.alloc hsz2 _).alloc hszA _) hO
            · have hn : n ≠ 0 := by omega
              obtain rfl := hp hn
              have hnb : ((n : Int) == 0) = false := by rw [beq_eq_false_iff_ne]; omega
              obtain ⟨bl, hbq⟩ : ∃ bl, bl = decide (1 < (ends : Int)) := ⟨_, rfl⟩
              have hbd : decide (1 < ends) = bl := by rw [hbq]; congr 1; simp; omega
              have hlex : lexA t (k + n) 0 (pre ++ [⟨kd, x, k, bl⟩]) = sgn t := by
                rw [← HX.out, HSi.out hne, hkd, hx, hbd]
                have := lexA_blanks (t := t) (ends := 0) (pre := pre ++ [⟨(hd (t.extract k t.size)).1, t.extract k (k + (hd (t.extract k t.size)).2), k, bl⟩]) (n - (hd (t.extract k t.size)).2) (k + (hd (t.extract k t.size)).2) (by omega) (fun j hj => by rw [Nat.add_assoc]; exact hbl _ (by omega) (by omega))
                rw [this, show k + (hd (t.extract k t.size)).2 + (n - (hd (t.extract k t.size)).2) = k + n by omega]
              have HL := hidOf hlex
              have hsx : x.size ≤ 4194304 := by rw [hx]; simp; omega
              clear hlex hbd hbl hx hkd hne hle hp HNo HSi HX
              go_wp2_with (at_builtin; refine wpList_append_own _ rfl _ _ 29 rfl w.heap.size 34 i0 _ 4 40 Tryd.underlying29 hi hz0 hz1 hz2 rfl (by decide) (.slice ao pre.length cc) pre.length (sgVals pre) rfl ((ho2.alloc _).alloc _) ⟨w2.heap.size + 1, 0, none⟩ 1 1 (sgCells ⟨kd, x, k, decide (1 < (ends : Int))⟩) rfl rfl (cells_new2 _ _ _ _) (sgCells_one _) (by unfold maxLen; omega) (by omega) (by simp; omega) ?_; intro v' w5 hown' hgrow5 hnil5)
              clear hnil5
              rw [← hbq] at hown'
              refine ⟨⟨k + n, 0, pre ++ [⟨kd, x, k, bl⟩], by omega, by go_num, rfl, by simp; omega, by omega, ?_, ?_, HL⟩, ?_⟩
              · rw [List.length_append, sgVals_app]
                exact hown'
              · exact ((B2.alloc hsz2 _).alloc (by simp; omega) _).grown hgrow5 (by simp; omega) (fun j hj => (ho2.lt j hj).1)
              · simp only [intOf]
                omega
      · have hr : sgn t = (pre, 0, true) := by rw [← HX.out]; exact lexA_end hlt
        have HR := hidOf hr
        clear hr HX
        go_wp2
        go_ret3
        exact SgnAns.mk HR.out rfl hb ho
end Go.Proofs.YtlpbhhgikgbfhaaDoor
