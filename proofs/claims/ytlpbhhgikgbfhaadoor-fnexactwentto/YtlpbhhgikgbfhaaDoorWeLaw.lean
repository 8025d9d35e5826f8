/- What spec.WentTo and impl.WentTo answer, and the law on WentTo. -/
import Derived.Test.YtlpbhhgikgbfhaaDoorMpJ
import Derived.Test.YtlpbhhgikgbfhaaDoorPaS
namespace Go.Proofs.YtlpbhhgikgbfhaaDoor
open Go.RowKit Go.Maps

set_option maxHeartbeats 4000000 in
set_option maxRecDepth 20000 in
theorem sWent_any (s t : ByteArray) (at' : Int) (w : World) (hs : s.size ≤ 4194304) (ht : t.size ≤ 4194304) :
    Calls Tryd.prog 10 #[.string s, .string t, .int .i64 at'] w fun e w' => e = .returned (.int .i64 (went (pls s) (pls t) at')) ∧ Below w.heap.size w w' := by
  have h1 := fun W => sPlaces_any s W hs
  have h2 := fun W => sPlaces_any t W ht
  have m1 := pls_many s
  have m2 := pls_many t
  unfold IntsAns at h1 h2
  generalize pls s = xs at h1 m1 ⊢
  generalize pls t = ys at h2 m2 ⊢
  obtain ⟨u, hu⟩ : ∃ u, u = went xs ys at' := ⟨_, rfl⟩
  rw [← hu]
  have HQ := hidOf hu
  clear hu
  go_enter Tryd.func10, Tryd.ntmps10
  go_wp2_with fail
  refine (h1 _).mono ?_
  rintro e w1 ⟨hb1, a1, c1, rfl, o1⟩
  go_wp2_with fail
  refine (h2 _).mono ?_
  rintro e w2 ⟨hb2, a2, c2, rfl, o2⟩
  have B2 := hb1.trans (hb2.mono hb1.size)
  have k1 : KidsAt w2 a1 xs := .of_own (owns_below o1 hb2)
  have k2 : KidsAt w2 a2 ys := .of_own o2
  clear o1 o2 h1 h2
  unfold KidsAt at k1 k2
  obtain ⟨n, hn⟩ : ∃ n, n = xs.length := ⟨_, rfl⟩
  obtain ⟨m, hm⟩ : ∃ m, m = ys.length := ⟨_, rfl⟩
  rw [← hn] at k1 m1 ⊢
  rw [← hm] at k2 m2 ⊢
  have HN := hidOf hn
  have HM := hidOf hm
  clear hn hm
  by_cases hnm : n = m
  · subst hnm
    go_wp2
    go_loopw [9, 10] (fun o i wr => ∃ k : Nat, k ≤ n ∧ i = .int .i64 k ∧ o = .int .i64 (wentF xs ys at' k) ∧ Below w.heap.size w wr ∧ Below w2.heap.size w2 wr) (fun _ i _ => n - (intOf i).toNat)
    case atStart => exact ⟨0, Nat.zero_le _, rfl, rfl, B2, Below.refl _ _⟩
    case round =>
      obtain ⟨k, hk, rfl, rfl, hb, hbb⟩ := hrel
      by_cases hlt : k < n
      · obtain ⟨b1, o1, rfl, l1, g1⟩ := k1 (by omega)
        obtain ⟨b2, o2, rfl, l2, g2⟩ := k2 (by omega)
        obtain ⟨x, hx⟩ : ∃ x, xs[k]? = some x := ⟨_, List.getElem?_eq_getElem (by rw [← HN.out]; exact hlt)⟩
        obtain ⟨y, hy⟩ : ∃ y, ys[k]? = some y := ⟨_, List.getElem?_eq_getElem (by rw [← HM.out]; exact hlt)⟩
        have d1 := (hbb.cell (p := ⟨b1, o1 + k, none⟩) l1).trans (g1 k x hx)
        have d2 := (hbb.cell (p := ⟨b2, o2 + k, none⟩) l2).trans (g2 k y hy)
        have HW := hidOf (show wentF xs ys at' (k + 1) = if x ≤ at' then y else wentF xs ys at' k by rw [wentF, hx, hy]; rfl)
        clear hx hy g1 g2
        by_cases hle : x ≤ at'
        · go_wp2
          go_roundw
          case rel => exact ⟨k + 1, by omega, by go_num, by rw [HW.out, if_pos hle], hb, hbb⟩
          case measure => simp [intOf]; omega
        · go_wp2
          go_roundw
          case rel => exact ⟨k + 1, by omega, by go_num, by rw [HW.out, if_neg hle], hb, hbb⟩
          case measure => simp [intOf]; omega
      · go_wp2
        go_ret
        obtain rfl : k = n := by omega
        exact ⟨by rw [HQ.out, went, ← HN.out, ← HM.out, if_pos rfl]; rfl, hb⟩
  · go_wp2
    go_loopw [9, 10] (fun o i wr => i = .int .i64 0 ∧ o = .int .i64 (-1) ∧ Below w.heap.size w wr) (fun _ i _ => 0)
    case atStart => exact ⟨rfl, rfl, B2⟩
    case round =>
      obtain ⟨rfl, rfl, hb⟩ := hrel
      go_wp2
      all_goals go_ret
      all_goals exact ⟨by rw [HQ.out, went, ← HN.out, ← HM.out, if_neg hnm]; rfl, hb⟩

set_option maxHeartbeats 4000000 in
set_option maxRecDepth 20000 in
theorem iWent_any (s t : ByteArray) (at' : Int) (w : World) (hs : s.size ≤ 4194304) (ht : t.size ≤ 4194304) :
    Calls Tryd.prog 11 #[.string s, .string t, .int .i64 at'] w fun e w' => e = .returned (.int .i64 (went (pls s) (pls t) at')) ∧ Below w.heap.size w w' := by
  have h1 := fun W => iPlaces_any s W hs
  have h2 := fun W => iPlaces_any t W ht
  have m1 := pls_many s
  have m2 := pls_many t
  have hup := pls_up s
  have hwf : ∀ x ∈ pls s, (Lit.int .i64 x).wf = true := fun x hx => by have := pls_in s x hx; exact wf64 (by omega) (by omega)
  unfold IntsAns at h1 h2
  generalize pls s = xs at h1 m1 hup hwf ⊢
  generalize pls t = ys at h2 m2 ⊢
  have HU := hidOf hup
  have HW := hidOf hwf
  clear hup hwf
  obtain ⟨u, hu⟩ : ∃ u, u = went xs ys at' := ⟨_, rfl⟩
  rw [← hu]
  have HQ := hidOf hu
  clear hu
  go_enter Tryd.func11, Tryd.ntmps11
  go_wp2_with fail
  refine (h1 _).mono ?_
  rintro e w1 ⟨hb1, a1, c1, rfl, o1⟩
  go_wp2_with fail
  refine (h2 _).mono ?_
  rintro e w2 ⟨hb2, a2, c2, rfl, o2⟩
  have B2 := hb1.trans (hb2.mono hb1.size)
  have k1 : KidsAt w2 a1 xs := .of_own (owns_below o1 hb2)
  have k2 : KidsAt w2 a2 ys := .of_own o2
  clear o1 o2 h1 h2
  by_cases hnm : xs.length = ys.length
  · have q := iBehind_any a1 c1 xs at' (by omega) HW.out HU.out w2 k1
    have hpl := passed_le xs at'
    have HR := hidOf (show u = if passed xs at' = 0 then -1 else ys[passed xs at' - 1]?.getD 0 by rw [HQ.out, went_is HU.out hnm])
    clear HQ
    generalize passed xs at' = p at q hpl HR
    rw [← hnm] at m2 ⊢
    unfold KidsAt at k2
    rw [← hnm] at k2
    have HN := hidOf hnm
    clear hnm
    obtain ⟨n, hn⟩ : ∃ n, n = xs.length := ⟨_, rfl⟩
    rw [← hn] at k2 m1 m2 q hpl ⊢
    have HL := hidOf hn
    clear hn
    go_wp2_with fail
    refine q.mono ?_
    rintro e w3 ⟨b, m, D, rfl, hown, hsz, hb3⟩
    have B3 := B2.trans (hb3.mono B2.size)
    have hlen := hown.len (t := 35) Tryd.underlying35 3
    rw [hsz] at hlen
    clear hsz
    obtain ⟨d, hd⟩ : ∃ d, d = n - p := ⟨_, rfl⟩
    rw [← hd] at hlen
    have hdp : (n : Int) - (d : Int) = (p : Int) := by omega
    have HD := hidOf hd
    clear hd
    by_cases hp0 : p = 0
    · have hz : ((p : Int) == 0) = true := by simp [hp0]
      go_wp2
      go_ret
      exact ⟨by rw [HR.out, if_pos hp0]; rfl, B3⟩
    · have hz : ((p : Int) == 0) = false := by simp [hp0]
      obtain ⟨b2, o2, rfl, l2, g2⟩ := k2 (by omega)
      obtain ⟨y, hy⟩ : ∃ y, ys[p - 1]? = some y := ⟨_, List.getElem?_eq_getElem (by have := HN.out; have := HL.out; omega)⟩
      have d2 := (hb3.cell (p := ⟨b2, o2 + (p - 1), none⟩) l2).trans (g2 (p - 1) y hy)
      have HY := hidOf hy
      clear hy g2
      have e1 : (p : Int) - 1 = ((p - 1 : Nat) : Int) := by omega
      go_wp2
      go_ret
      exact ⟨by rw [HR.out, if_neg hp0, HY.out]; rfl, B3⟩
  · go_wp2
    go_ret
    exact ⟨by rw [HQ.out, went, if_neg hnm]; rfl, B2⟩

set_option maxHeartbeats 8000000 in
theorem lawWentTo (s t : ByteArray) (at' : Int) (w : World) (hs : s.size ≤ maxLen) (ht : t.size ≤ maxLen) :
    Calls Tryd.prog 4 #[.string s, .string t, .int .i64 at'] w fun e w' => e = .returned (.bool true) ∧ Below w.heap.size w w' := by
  unfold maxLen at hs ht
  by_cases h0 : 1048576 < s.size
  · go_enter Tryd.func4, Tryd.ntmps4
    go_wp2
    go_ret
    exact ⟨rfl, Below.refl _ _⟩
  by_cases h1 : 1048576 < t.size
  · go_enter Tryd.func4, Tryd.ntmps4
    go_wp2
    go_ret
    exact ⟨rfl, Below.refl _ _⟩
  have hS := fun W => sWent_any s t at' W (by omega) (by omega)
  have hI := fun W => iWent_any s t at' W (by omega) (by omega)
  generalize went (pls s) (pls t) at' = u at hS hI
  have e1 : (u != u) = false := by simp
  go_enter Tryd.func4, Tryd.ntmps4
  go_wp2_with fail
  refine (hS _).mono ?_
  rintro e w1 ⟨rfl, hb1⟩
  go_wp2_with fail
  refine (hI _).mono ?_
  rintro e w2 ⟨rfl, hb2⟩
  go_wp2
  go_ret
  exact ⟨rfl, hb1.trans (hb2.mono hb1.size)⟩
end Go.Proofs.YtlpbhhgikgbfhaaDoor
