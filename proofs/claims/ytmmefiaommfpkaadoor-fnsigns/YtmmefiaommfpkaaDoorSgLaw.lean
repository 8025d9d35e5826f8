/- The law on drawn signs: they come back from their texts, and each begins where it stands. -/
import Derived.Test.YtmmefiaommfpkaaDoorSignsI
import Derived.Test.YtmmefiaommfpkaaDoorSgnS6
import Derived.Test.YtmmefiaommfpkaaDoorFlatI
import Derived.Test.YtmmefiaommfpkaaDoorSameI
import Derived.Test.YtmmefiaommfpkaaDoorSameS
import Derived.Test.YtmmefiaommfpkaaDoorSameX
import Derived.Test.YtmmefiaommfpkaaDoorKey
import Derived.Test.YtmmefiaommfpkaaDoorDrawS3
namespace Go.Proofs.YtmmefiaommfpkaaDoor
open Go.RowKit

theorem sgn_short_list (t : ByteArray) : (sgn t).1.length ≤ 3000 := by
  have H : ∀ (d k ends : Nat) (pre : List Sg), t.size - k ≤ d → (lexA t k ends pre).1.length ≤ pre.length + d := by
    intro d
    induction d with
    | zero => intro k ends pre hd0; rw [lexA_end (by omega)]; exact Nat.le_refl _
    | succ d ih =>
      intro k ends pre hd0
      by_cases hk : k < t.size
      · by_cases h32 : by8 t k = 32
        · rw [lexA_blank hk h32]; exact Nat.le_trans (ih _ _ _ (by omega)) (by omega)
        · by_cases h10 : by8 t k = 10
          · rw [lexA_line hk h10]; exact Nat.le_trans (ih _ _ _ (by omega)) (by omega)
          · by_cases hn : (hd (t.extract k t.size)).2 = 0
            · rw [lexA_none hk h32 h10 hn]; exact Nat.zero_le _
            · rw [lexA_sign hk h32 h10 hn]
              refine Nat.le_trans (ih _ _ _ (by omega)) ?_
              simp only [List.length_append, List.length_cons, List.length_nil]
              omega
      · rw [lexA_end hk]; exact Nat.le_add_right _ _
  by_cases h : 3000 < t.size
  · rw [sgn_long h]; exact Nat.zero_le _
  · rw [sgn_short h]
    have := H t.size 0 0 [] (by omega)
    simp only [List.length_nil] at this
    omega

set_option maxHeartbeats 8000000 in
set_option maxRecDepth 100000 in
theorem lawSigns (a : Option Addr) (len cap : Nat) (w : World) (hc : len ≤ 1048576 → CodeAt w.heap.size w a len) (hlm : len ≤ 9223372036854775807) :
    Calls Tryd.prog 3 #[.slice a len cap] w fun e w' => e = .returned (.bool true) ∧ Below w.heap.size w w' := by
  by_cases h0 : 1048576 < len
  · clear hc
    go_enter Tryd.func3, Tryd.ntmps3
    go_wp2
    go_ret
    exact ⟨rfl, Below.refl _ _⟩
  · have HC := hidOf (hc (by omega))
    clear hc
    go_enter Tryd.func3, Tryd.ntmps3
    go_wp2_with (first | (go_at_call 5; go_in))
    refine (drawSigns_any w.heap.size _ a len cap HC.out (Nat.le_refl _)).mono ?_
    rintro e w1 ⟨v, xs, rfl, hl, hok, hat, hb1⟩
    obtain ⟨al, cl, rfl, -⟩ := id hat
    have hs1 := hb1.size
    have hds := dr_size hok
    go_wp2_with fail
    refine (iFlat_any _ xs _ (by omega) (fun x hx => by have := hds x hx; omega) hat).mono ?_
    rintro e w2 ⟨rfl, hb2⟩
    have hb02 := hb1.trans (hb2.mono hs1)
    have hs2 := hb02.size
    have hat := hat.below hb2
    have hfl := flat_len xs 12 hds
    obtain ⟨t, ht⟩ : ∃ t : ByteArray, t = ⟨(flatL xs).toArray⟩ := ⟨_, rfl⟩
    have htl : t.data.toList = flatL xs := by rw [ht]
    have hts : t.size ≤ 200 := by rw [ht]; simp [ByteArray.size]; omega
    rw [← ht]
    obtain ⟨hr1, hr2⟩ := sgn_flat htl (dr_ok hok) (by omega)
    have hpl := sgn_place t
    have hln := sgn_short_list t
    clear ht htl hfl hds hok hb1 hb2
    have hI := fun W => iSigns_any t W (by omega)
    unfold SgnAns at hI
    generalize sgn t = r at hI hr1 hr2 hpl hln
    obtain ⟨ys, pl, bo⟩ := r
    simp only at hI hr1 hr2 hpl hln
    subst hr1
    have HR := hidOf hr2
    have HP := hidOf hpl
    clear hr2 hpl
    go_wp2_with fail
    refine (hI _).mono ?_
    rintro e w3 ⟨hb3, vy, rfl, hoy⟩
    have hb03 := hb02.trans (hb3.mono hs2)
    have hs3 := hb03.size
    have hat := hat.below hb3
    have haty := SgsAt.of_own hoy
    obtain ⟨ay, cy, rfl, hy⟩ := id haty
    obtain ⟨n, hn⟩ : ∃ n, n = ys.length := ⟨_, rfl⟩
    rw [← hn] at hy hln haty
    rw [← hn]
    have HN := hidOf hn
    clear hn hI hb3 hb02 hs2 hoy
    have HATY := hidOf haty
    have HAT := hidOf hat
    clear haty hat
    go_wp2
    go_loopw [8] (fun i wr => ∃ k q : Nat, k ≤ n ∧ i = .int .i64 k ∧ wr = w3.drewN q) (fun i _ => n - (intOf i).toNat)
    case atStart => exact ⟨0, 0, Nat.zero_le _, rfl, rfl⟩
    case round =>
      obtain ⟨k, q, hk, rfl, rfl⟩ := hrel
      by_cases hlt : k < n
      · obtain ⟨y, ey⟩ : ∃ y, ys[k]? = some y := ⟨_, List.getElem?_eq_getElem (by rw [← HN.out]; exact hlt)⟩
        obtain ⟨p, hpp, hpz, hpe⟩ := HP.out y (List.mem_of_getElem? ey)
        obtain ⟨b1, o1, rfl, hb1, hc1⟩ := hy (by omega)
        obtain ⟨p0, p1, p2, p3⟩ := cells4 (w := w3) (fun j hj => hc1 k y ey j hj)
        rw [hpp] at p2
        have hA : (0 : Int) ≤ (k : Int) := by omega
        have hB : (k : Int) < (n : Int) := by omega
        have hsl := str_slice (P := Tryd.prog) 9 t p (p + y.text.size) (p : Int) ((p : Int) + y.text.size) Tryd.underlying9 rfl (by omega) (by omega) hpz
        rw [hpe] at hsl
        have hwr : IntKind.i64.wrap ((p : Int) + y.text.size) = (p : Int) + y.text.size := IntWalk.i64_in _ ⟨by omega, by omega⟩
        have hgd : decide ((t.size : Int) < (p : Int) + y.text.size) = false := by simp; omega
        have hse : (y.text.toList == y.text.toList) = true := by simp
        clear ey hc1 hy hpp hpe
        go_wp2
        go_quiet (fail)
        go_wp2
        refine ⟨⟨k + 1, q + nq, by omega, by go_num, rfl⟩, ?_⟩
        simp only [intOf]
        omega
      · clear hy
        have hbq : Below w.heap.size w (w3.drewN q) := bel_drewN hb03 q
        have hxs := HAT.out.below (below_drewN w3 q)
        have hys := HATY.out.below (below_drewN w3 q)
        have HX := hidOf hxs
        have HY := hidOf hys
        have hsq := hbq.size
        clear hxs hys HAT HATY hb03 hs3
        have hBn : ¬ (k : Int) < (n : Int) := by omega
        go_wp2_with fail
        refine (drawSource_any w.heap.size _ a len cap (HC.out.below hbq) hsq).mono ?_
        rintro e w4 ⟨u, hu, rfl, hb4⟩
        have hb04 := hbq.trans (hb4.mono hsq)
        have hs4 := hb04.size
        have HX := hidOf (HX.out.below hb4)
        have HY := hidOf (HY.out.below hb4)
        clear hb4 hbq hsq
        have hI := fun W => iSigns_any u W (by omega)
        have hS := fun W => sSigns_any u W (by omega)
        have hm := sgn_short_list u
        unfold SgnAns at hI hS
        generalize sgn u = r at hI hS hm
        obtain ⟨zs, pz, bz⟩ := r
        simp only at hI hS hm
        go_wp2_with fail
        refine (hI _).mono ?_
        rintro e w5 ⟨hb5, va, rfl, hoa⟩
        have hb05 := hb04.trans (hb5.mono hs4)
        have hs5 := hb05.size
        have HX := hidOf (HX.out.below hb5)
        have HY := hidOf (HY.out.below hb5)
        obtain ⟨aa, ca, rfl⟩ := owns_slice hoa
        have HA := hidOf (SgsAt.of_own hoa)
        clear hb5 hoa hb04 hs4
        go_wp2_with fail
        refine (hS _).mono ?_
        rintro e w6 ⟨hb6, vb, rfl, hob⟩
        have hb06 := hb05.trans (hb6.mono hs5)
        have hs6 := hb06.size
        have HX := hidOf (HX.out.below hb6)
        have HY := hidOf (HY.out.below hb6)
        have HA := hidOf (HA.out.below hb6)
        obtain ⟨ab, cb, rfl⟩ := owns_slice hob
        have HB := hidOf (SgsAt.of_own hob)
        clear hb6 hob hb05 hs5 hI hS
        go_wp2_with fail
        refine (drawSame_any w.heap.size _ a len cap (HC.out.below hb06) hs6).mono ?_
        rintro e w7 ⟨v1, v2, cs, ds, rfl, hcl, hdl, hac, had, hb7⟩
        have hb07 := hb06.trans (hb7.mono hs6)
        have hs7 := hb07.size
        have HX := hidOf (HX.out.below hb7)
        have HY := hidOf (HY.out.below hb7)
        have HA := hidOf (HA.out.below hb7)
        have HB := hidOf (HB.out.below hb7)
        have HC1 := hidOf hac
        have HD1 := hidOf had
        obtain ⟨a1, c1, rfl, -⟩ := hac
        obtain ⟨a2, c2, rfl, -⟩ := had
        clear hb7 hb06 hs6
        go_wp2_with fail
        refine (drawKey_any w.heap.size _ a len cap (HC.out.below hb07) hs7).mono ?_
        rintro e w8 ⟨kws, hkw, rfl, hb8⟩
        have hb08 := hb07.trans (hb8.mono hs7)
        have hs8 := hb08.size
        have HX := hidOf (HX.out.below hb8)
        have HY := hidOf (HY.out.below hb8)
        have HA := hidOf (HA.out.below hb8)
        have HB := hidOf (HB.out.below hb8)
        have HC1 := hidOf (HC1.out.below hb8)
        have HD1 := hidOf (HD1.out.below hb8)
        clear hb8 hb07 hs7
        go_wp2_with fail
        refine (drawMark_any w.heap.size _ a len cap (HC.out.below hb08) hs8).mono ?_
        rintro e w9 ⟨mws, hmw, rfl, hb9⟩
        have hb09 := hb08.trans (hb9.mono hs8)
        have hs9 := hb09.size
        have HX := hidOf (HX.out.below hb9)
        have HY := hidOf (HY.out.below hb9)
        have HA := hidOf (HA.out.below hb9)
        have HB := hidOf (HB.out.below hb9)
        have HC1 := hidOf (HC1.out.below hb9)
        have HD1 := hidOf (HD1.out.below hb9)
        clear hb9 hb08 hs8
        have hpe : ((pz : Int) == (pz : Int)) = true := by simp
        have hbe : (bz == bz) = true := by simp
        have hF := fun W h1 h2 => iSame_any (.slice ay n cy) (.slice al xs.length cl) ys xs W (by rw [← HN.out]; omega) (by omega) h1 h2
        rw [HR.out] at hF
        obtain ⟨sm, hsm⟩ : ∃ sm, sm = sameAll cs ds := ⟨_, rfl⟩
        have hSI := fun W h1 h2 => iSame_any (.slice a1 cs.length c1) (.slice a2 ds.length c2) cs ds W (by omega) (by omega) h1 h2
        have hSS := fun W h1 h2 => sSame_any (.slice a1 cs.length c1) (.slice a2 ds.length c2) cs ds W (by omega) (by omega) h1 h2
        rw [← hsm] at hSI hSS
        have hse : (sm == sm) = true := by simp
        obtain ⟨kb, hkb⟩ : ∃ kb, kb = kw kws := ⟨_, rfl⟩
        have hKI := fun W => iKey_any kws W
        have hKS := fun W => sKey_any kws W
        rw [← hkb] at hKI hKS
        have hke : (kb == kb) = true := by simp
        obtain ⟨mb, hmb⟩ : ∃ mb, mb = mkIs mws.data.toList := ⟨_, rfl⟩
        have hMI := fun W => iMark_any mws W (by omega)
        have hMS := fun W => sMark_any mws W
        rw [ByteArray.toList_eq, ← hmb] at hMS
        rw [← hmb] at hMI
        have hme : (mb == mb) = true := by simp
        clear hsm hkb hmb
        go_wp2_with fail
        refine (hF _ HY.out HX.out).mono ?_
        rintro e w10 ⟨rfl, hb10⟩
        have hb010 := hb09.trans (hb10.mono hs9)
        have hs10 := hb010.size
        have HA := hidOf (HA.out.below hb10)
        have HB := hidOf (HB.out.below hb10)
        have HC1 := hidOf (HC1.out.below hb10)
        have HD1 := hidOf (HD1.out.below hb10)
        clear hb10 hb09 hs9 HX HY
        go_wp2_with fail
        refine (exact_same _ _ zs _ (by omega) HA.out HB.out).mono ?_
        rintro e w11 ⟨rfl, hb11⟩
        have hb011 := hb010.trans (hb11.mono hs10)
        have hs11 := hb011.size
        have HC1 := hidOf (HC1.out.below hb11)
        have HD1 := hidOf (HD1.out.below hb11)
        clear hb11 hb010 hs10 HA HB
        go_wp2_with fail
        refine (hSI _ HC1.out HD1.out).mono ?_
        rintro e w12 ⟨rfl, hb12⟩
        have hb012 := hb011.trans (hb12.mono hs11)
        have hs12 := hb012.size
        have HC1 := hidOf (HC1.out.below hb12)
        have HD1 := hidOf (HD1.out.below hb12)
        clear hb12 hb011 hs11
        go_wp2_with fail
        refine (hSS _ HC1.out HD1.out).mono ?_
        rintro e w13 ⟨rfl, hb13⟩
        have hb013 := hb012.trans (hb13.mono hs12)
        have hs13 := hb013.size
        clear hb13 hb012 hs12 HC1 HD1
        go_wp2_with fail
        refine (hKI _).mono ?_
        rintro e w13 ⟨rfl, rfl⟩
        go_wp2_with fail
        refine (hKS _).mono ?_
        rintro e w13 ⟨rfl, rfl⟩
        go_wp2_with fail
        refine (hMI _).mono ?_
        rintro e w14 ⟨rfl, hb14⟩
        have hb014 := hb013.trans (hb14.mono hs13)
        have hs14 := hb014.size
        clear hb14 hb013 hs13
        go_wp2_with fail
        refine (hMS _).mono ?_
        rintro e w15 ⟨rfl, hb15⟩
        go_wp2
        go_ret
        exact ⟨rfl, hb014.trans (hb15.mono hs14)⟩
end Go.Proofs.YtmmefiaommfpkaaDoor
