/- The law on drawn lines: what changed, done to what was, is what is, and back; as many lines are kept as both have in common. -/
import Derived.Test.YtdlpepmdjbmmmaaDrDf
import Derived.Test.YtdlpepmdjbmmmaaDfTr
import Derived.Test.YtdlpepmdjbmmmaaApS
import Derived.Test.YtdlpepmdjbmmmaaSameE
import Derived.Test.YtdlpepmdjbmmmaaSameT
namespace Go.Proofs.Ytdlpepmdjbmmmaa
open Go.RowKit

theorem code_atD {base : Nat} {w w' : World} {a : Option Addr} {len : Nat} (h : CodeAt base w a len) (hb : Below base w w') (hB : base ≤ w'.heap.size) : CodeAt w'.heap.size w' a len := by
  have h2 := h.below hb
  refine ⟨h2.1, fun hl => ?_⟩
  obtain ⟨b, off, ha, hbb, hc⟩ := h2.2 hl
  exact ⟨b, off, ha, by omega, hc⟩
theorem LnsAt.lft {w : World} {v : Value} {ls : List ByteArray} (h : LnsAt w v ls) : LftAt w v ls := h
theorem small_le {ls : List ByteArray} (h : ∀ x ∈ ls, x.size ≤ 1) : ∀ t ∈ ls, t.size ≤ 4194304 := fun t ht => Nat.le_trans (h t ht) (by decide)

set_option maxHeartbeats 8000000 in
set_option maxRecDepth 100000 in
theorem lawDiffs (a : Option Addr) (len cap : Nat) (w : World) (hc : len ≤ 1048576 → CodeAt w.heap.size w a len) (hlm : len ≤ 9223372036854775807) :
    Calls Try.prog 3 #[.slice a len cap] w fun e w' => e = .returned (.bool true) ∧ Below w.heap.size w w' := by
  by_cases h0 : 1048576 < len
  · clear hc
    go_enter Try.func3, Try.ntmps3
    go_wp2
    go_ret
    exact ⟨rfl, Below.refl _ _⟩
  · have HC := hidOf (hc (by omega))
    clear hc
    go_enter Try.func3, Try.ntmps3
    go_wp2_with (first | (go_at_call 9; go_in))
    refine (drawLines_any w.heap.size _ a len cap HC.out (Nat.le_refl _)).mono ?_
    rintro e w1 ⟨va, vb, xs, ys, rfl, dx1, dy1, hb1⟩
    obtain ⟨aa, ca, rfl⟩ := owns_slice dx1.2.2
    obtain ⟨ab, cb, rfl⟩ := owns_slice dy1.2.2
    have hxl := dx1.1
    have hyl := dy1.1
    have sx := small_le dx1.2.1
    have sy := small_le dy1.2.1
    have hdf : dfOf xs ys = dif xs ys := by unfold dfOf; rw [if_pos ⟨by omega, by omega⟩]
    have hco : comOf xs ys = com xs ys := by unfold comOf; rw [if_pos ⟨by omega, by omega⟩]
    have hco2 : comOf ys xs = com xs ys := by unfold comOf; rw [if_pos ⟨by omega, by omega⟩, com_swap]
    have hap : apl xs (dif xs ys) = some ys := apl_dif xs ys []
    have hbk : apl ys ((dif xs ys).map turn) = some xs := apl_back xs ys []
    have hkp : kept (dif xs ys) = com xs ys := by rw [kept_is, kept_dif]
    have hln := len_dif xs ys
    have hcl := com_le xs ys
    have q2 := iDiff_any (.slice aa xs.length ca) (.slice ab ys.length cb) xs ys w1 (by omega) (by omega) sx sy dx1.lns dy1.lns
    rw [hdf] at q2
    have H1 := hidOf (And.intro dx1 (And.intro dy1 hb1))
    clear dx1 dy1 hb1
    obtain ⟨es, hes⟩ : ∃ es, es = dif xs ys := ⟨_, rfl⟩
    rw [← hes] at q2 hap hbk hkp hln
    have hem : ∀ e ∈ es, e.line.size ≤ 1 := by
      intro e he
      rw [hes] at he
      rcases dif_mem xs ys e he with h | h
      · exact H1.out.1.2.1 _ h
      · exact H1.out.2.1.2.1 _ h
    have HP := hidOf (And.intro hap (And.intro hbk (And.intro hkp (And.intro hem (And.intro hco hco2)))))
    clear hes hdf hco hco2 hap hbk hkp hem
    have hel : es.length ≤ 16 := by omega
    go_wp2_with fail
    refine q2.mono ?_
    rintro e w2 ⟨hb2, vl, rfl, ho2⟩
    obtain ⟨al, cl, rfl⟩ := owns_slice ho2
    have H2 : Hid (DLn w.heap.size 8 w2 (.slice aa xs.length ca) xs ∧ DLn w.heap.size 8 w2 (.slice ab ys.length cb) ys ∧ w2.ownsRow w.heap.size 55 2 (.slice al es.length cl) es.length (edVals es) ∧ Below w.heap.size w w2) := ⟨H1.out.1.below hb2, H1.out.2.1.below hb2, ownsRow_base ho2 H1.out.2.2.size, H1.out.2.2.trans (hb2.mono H1.out.2.2.size)⟩
    clear q2 ho2 hb2 H1 sx sy
    have hes1 : ∀ (j : Nat) (x : Ed), es[j]? = some x → x.line.size ≤ 4194304 := fun j x hx => Nat.le_trans (HP.out.2.2.2.1 x (List.mem_of_getElem? hx)) (by decide)
    have HES := hidOf hes1
    have q3 := iApply_any (.slice aa xs.length ca) (.slice al es.length cl) xs es w2 (by omega) (by omega) hes1 H2.out.1.lns.lft (EdsAt.of_own H2.out.2.2.1)
    rw [HP.out.1] at q3
    clear hes1
    go_wp2_with fail
    refine q3.mono ?_
    rintro e w3 ⟨hb3, vx, rfl, ho3⟩
    have H3 : Hid (DLn w.heap.size 8 w3 (.slice aa xs.length ca) xs ∧ DLn w.heap.size 8 w3 (.slice ab ys.length cb) ys ∧ w3.ownsRow w.heap.size 55 2 (.slice al es.length cl) es.length (edVals es) ∧ w3.ownsRow w.heap.size 9 1 vx ys.length (strVals ys) ∧ Below w.heap.size w w3) := ⟨H2.out.1.below hb3, H2.out.2.1.below hb3, owns_below H2.out.2.2.1 hb3, ownsRow_base ho3 H2.out.2.2.2.size, H2.out.2.2.2.trans (hb3.mono H2.out.2.2.2.size)⟩
    clear q3 ho3 hb3 H2
    go_wp2_with fail
    refine (iBack_any (.slice al es.length cl) es w3 (by omega) HES.out (EdsAt.of_own H3.out.2.2.1)).mono ?_
    rintro e w4 ⟨hb4, vk, rfl, ho4⟩
    have H4 : Hid (DLn w.heap.size 8 w4 (.slice aa xs.length ca) xs ∧ DLn w.heap.size 8 w4 (.slice ab ys.length cb) ys ∧ w4.ownsRow w.heap.size 55 2 (.slice al es.length cl) es.length (edVals es) ∧ w4.ownsRow w.heap.size 9 1 vx ys.length (strVals ys) ∧ EdsAt w4 vk (es.map turn) ∧ Below w.heap.size w w4) := ⟨H3.out.1.below hb4, H3.out.2.1.below hb4, owns_below H3.out.2.2.1 hb4, owns_below H3.out.2.2.2.1 hb4, EdsAt.of_own ho4, H3.out.2.2.2.2.trans (hb4.mono H3.out.2.2.2.2.size)⟩
    clear ho4 hb4 H3
    have q5 := iApply_any (.slice ab ys.length cb) vk ys (es.map turn) w4 (by omega) (by rw [List.length_map]; omega) (fun j x hx => by
      rw [List.getElem?_map] at hx
      cases h : es[j]? with
      | none => rw [h] at hx; cases hx
      | some y => rw [h] at hx; simp at hx; rw [← hx, turn_line]; exact HES.out j y h) H4.out.2.1.lns.lft H4.out.2.2.2.2.1
    rw [HP.out.2.1] at q5
    go_wp2_with fail
    refine q5.mono ?_
    rintro e w5 ⟨hb5, vy, rfl, ho5⟩
    have H5 : Hid (DLn w.heap.size 8 w5 (.slice aa xs.length ca) xs ∧ DLn w.heap.size 8 w5 (.slice ab ys.length cb) ys ∧ w5.ownsRow w.heap.size 55 2 (.slice al es.length cl) es.length (edVals es) ∧ w5.ownsRow w.heap.size 9 1 vx ys.length (strVals ys) ∧ w5.ownsRow w.heap.size 9 1 vy xs.length (strVals xs) ∧ Below w.heap.size w w5) := ⟨H4.out.1.below hb5, H4.out.2.1.below hb5, owns_below H4.out.2.2.1 hb5, owns_below H4.out.2.2.2.1 hb5, ownsRow_base ho5 H4.out.2.2.2.2.2.size, H4.out.2.2.2.2.2.trans (hb5.mono H4.out.2.2.2.2.2.size)⟩
    clear q5 ho5 hb5 H4
    have q6 := iCom_any (.slice aa xs.length ca) (.slice ab ys.length cb) xs ys w5 (by omega) (by omega) H5.out.1.lns H5.out.2.1.lns
    rw [HP.out.2.2.2.2.1] at q6
    go_wp2_with fail
    refine q6.mono ?_
    rintro e w6 ⟨rfl, hb6⟩
    have H6 : Hid (DLn w.heap.size 8 w6 (.slice aa xs.length ca) xs ∧ DLn w.heap.size 8 w6 (.slice ab ys.length cb) ys ∧ w6.ownsRow w.heap.size 55 2 (.slice al es.length cl) es.length (edVals es) ∧ w6.ownsRow w.heap.size 9 1 vx ys.length (strVals ys) ∧ w6.ownsRow w.heap.size 9 1 vy xs.length (strVals xs) ∧ Below w.heap.size w w6) := ⟨H5.out.1.below hb6, H5.out.2.1.below hb6, owns_below H5.out.2.2.1 hb6, owns_below H5.out.2.2.2.1 hb6, owns_below H5.out.2.2.2.2.1 hb6, H5.out.2.2.2.2.2.trans (hb6.mono H5.out.2.2.2.2.2.size)⟩
    clear q6 hb6 H5
    go_wp2_with fail
    refine (drawDiff_any w.heap.size w6 a len cap (HC.out.below H6.out.2.2.2.2.2) H6.out.2.2.2.2.2.size).mono ?_
    rintro e w7 ⟨vc, vd, cs, ds, rfl, dc, dd, hb7⟩
    have H7 : Hid (DLn w.heap.size 8 w7 (.slice aa xs.length ca) xs ∧ DLn w.heap.size 8 w7 (.slice ab ys.length cb) ys ∧ w7.ownsRow w.heap.size 55 2 (.slice al es.length cl) es.length (edVals es) ∧ w7.ownsRow w.heap.size 9 1 vx ys.length (strVals ys) ∧ w7.ownsRow w.heap.size 9 1 vy xs.length (strVals xs) ∧ DLn w.heap.size 8 w7 vc cs ∧ DLn w.heap.size 201 w7 vd ds ∧ Below w.heap.size w w7) := ⟨H6.out.1.below hb7, H6.out.2.1.below hb7, owns_below H6.out.2.2.1 hb7, owns_below H6.out.2.2.2.1 hb7, owns_below H6.out.2.2.2.2.1 hb7, dc.base H6.out.2.2.2.2.2.size, dd.base H6.out.2.2.2.2.2.size, H6.out.2.2.2.2.2.trans (hb7.mono H6.out.2.2.2.2.2.size)⟩
    clear dc dd hb7 H6
    go_wp2_with fail
    refine (drawApply_any w.heap.size w7 a len cap (HC.out.below H7.out.2.2.2.2.2.2.2) H7.out.2.2.2.2.2.2.2.size).mono ?_
    rintro e w8 ⟨ve, vf, ls, fs, rfl, de, df, hb8⟩
    have H8 : Hid (DLn w.heap.size 8 w8 (.slice aa xs.length ca) xs ∧ DLn w.heap.size 8 w8 (.slice ab ys.length cb) ys ∧ w8.ownsRow w.heap.size 55 2 (.slice al es.length cl) es.length (edVals es) ∧ w8.ownsRow w.heap.size 9 1 vx ys.length (strVals ys) ∧ w8.ownsRow w.heap.size 9 1 vy xs.length (strVals xs) ∧ DLn w.heap.size 8 w8 vc cs ∧ DLn w.heap.size 201 w8 vd ds ∧ Below w.heap.size w w8) := ⟨H7.out.1.below hb8, H7.out.2.1.below hb8, owns_below H7.out.2.2.1 hb8, owns_below H7.out.2.2.2.1 hb8, owns_below H7.out.2.2.2.2.1 hb8, H7.out.2.2.2.2.2.1.below hb8, H7.out.2.2.2.2.2.2.1.below hb8, H7.out.2.2.2.2.2.2.2.trans (hb8.mono H7.out.2.2.2.2.2.2.2.size)⟩
    have HE8 := hidOf (And.intro de df)
    have hfl := df.1
    have hll := de.1
    clear de df hb8 H7
    obtain ⟨o, hoo⟩ : ∃ o, o = apl ls fs := ⟨_, rfl⟩
    have hol : (o.getD []).length ≤ 401 := by
      rw [hoo]
      cases h : apl ls fs with
      | none => simp
      | some q => have := apl_len h; simp; omega
    have q9 := fun W (hb : Below w8.heap.size w8 W) => iApply_any ve vf ls fs W (by omega) (by omega) HE8.out.2.size (HE8.out.1.below hb).lns.lft (HE8.out.2.below hb).at
    have q10 := fun W (hb : Below w8.heap.size w8 W) => sApply_any ve vf ls fs W (by omega) (by omega) (HE8.out.1.below hb).lns.lft (HE8.out.2.below hb).at
    rw [← hoo] at q9 q10
    unfold ApAns at q9 q10
    obtain ⟨gs, hgs⟩ : ∃ gs, gs = o.getD [] := ⟨_, rfl⟩
    obtain ⟨tt, htt⟩ : ∃ tt, tt = o.isSome := ⟨_, rfl⟩
    rw [← hgs] at q9 q10 hol
    rw [← htt] at q9 q10
    clear hgs htt hoo
    go_wp2_with fail
    refine (q9 _ (Below.refl _ _)).mono ?_
    rintro e w9 ⟨hb9, vg, rfl, ho9⟩
    go_wp2_with fail
    refine (q10 _ hb9).mono ?_
    rintro e w10 ⟨hb10, vh, rfl, ho10⟩
    have hb810 := hb9.trans (hb10.mono hb9.size)
    have H10 : Hid (DLn w.heap.size 8 w10 (.slice aa xs.length ca) xs ∧ DLn w.heap.size 8 w10 (.slice ab ys.length cb) ys ∧ w10.ownsRow w.heap.size 55 2 (.slice al es.length cl) es.length (edVals es) ∧ w10.ownsRow w.heap.size 9 1 vx ys.length (strVals ys) ∧ w10.ownsRow w.heap.size 9 1 vy xs.length (strVals xs) ∧ DLn w.heap.size 8 w10 vc cs ∧ DLn w.heap.size 201 w10 vd ds ∧ Below w.heap.size w w10) := ⟨H8.out.1.below hb810, H8.out.2.1.below hb810, owns_below H8.out.2.2.1 hb810, owns_below H8.out.2.2.2.1 hb810, owns_below H8.out.2.2.2.2.1 hb810, H8.out.2.2.2.2.2.1.below hb810, H8.out.2.2.2.2.2.2.1.below hb810, H8.out.2.2.2.2.2.2.2.trans (hb810.mono H8.out.2.2.2.2.2.2.2.size)⟩
    have HG10 := hidOf (And.intro (owns_below ho9 hb10) ho10)
    clear q9 q10 ho9 ho10 hb9 hb10 hb810 H8 HE8
    go_wp2_with fail
    refine (drawBack_any w.heap.size w10 a len cap (HC.out.below H10.out.2.2.2.2.2.2.2) H10.out.2.2.2.2.2.2.2.size).mono ?_
    rintro e w11 ⟨vi, is, rfl, di, hb11⟩
    have H11 : Hid (DLn w.heap.size 8 w11 (.slice aa xs.length ca) xs ∧ DLn w.heap.size 8 w11 (.slice ab ys.length cb) ys ∧ w11.ownsRow w.heap.size 55 2 (.slice al es.length cl) es.length (edVals es) ∧ w11.ownsRow w.heap.size 9 1 vx ys.length (strVals ys) ∧ w11.ownsRow w.heap.size 9 1 vy xs.length (strVals xs) ∧ DLn w.heap.size 8 w11 vc cs ∧ DLn w.heap.size 201 w11 vd ds ∧ Below w.heap.size w w11) := ⟨H10.out.1.below hb11, H10.out.2.1.below hb11, owns_below H10.out.2.2.1 hb11, owns_below H10.out.2.2.2.1 hb11, owns_below H10.out.2.2.2.2.1 hb11, H10.out.2.2.2.2.2.1.below hb11, H10.out.2.2.2.2.2.2.1.below hb11, H10.out.2.2.2.2.2.2.2.trans (hb11.mono H10.out.2.2.2.2.2.2.2.size)⟩
    have HG11 := hidOf (And.intro (owns_below HG10.out.1 hb11) (owns_below HG10.out.2 hb11))
    have HI11 := hidOf di
    have hil := di.1
    clear HG10 H10 di hb11
    obtain ⟨hxa, hxb, hol', hox, hoy, hdc, hdd, hbw⟩ := H11.out
    have HX := hidOf (And.intro hxa (And.intro hxb (And.intro hol' (And.intro hox (And.intro hoy (And.intro hdc (And.intro hdd hbw)))))))
    clear hxa hxb hol' hox hoy hdc hdd hbw H11
    go_wp2_with fail
    refine (same_any vx _ _ _ ys.length ys w11 (by omega) HX.out.2.2.2.1 HX.out.2.1.2.2).mono ?_
    rintro e w12 ⟨rfl, q12, rfl⟩
    have B12 := below_drewN w11 q12
    go_wp2_with fail
    refine (same_any vy _ _ _ xs.length xs _ (by omega) (owns_below HX.out.2.2.2.2.1 B12) (owns_below HX.out.1.2.2 B12)).mono ?_
    rintro e w13 ⟨rfl, q13, rfl⟩
    have B13 : Below w11.heap.size w11 ((w11.drewN q12).drewN q13) := bel_drewN B12 q13
    generalize (w11.drewN q12).drewN q13 = w13 at B13 ⊢
    clear B12
    have qk := iKept_any (.slice al es.length cl) es w13 (by omega) ((EdsAt.of_own HX.out.2.2.1).below B13)
    rw [HP.out.2.2.1] at qk
    go_wp2_with fail
    refine qk.mono ?_
    rintro e w14 ⟨rfl, hb14⟩
    have B14 := B13.trans (hb14.mono B13.size)
    clear qk hb14 B13
    have hcc : ((com xs ys : Int) == (com xs ys : Int)) = true := by simp
    have hll2 : ((es.length : Int) == (xs.length : Int) + (ys.length : Int) - (com xs ys : Int)) = true := by rw [beq_iff_eq]; omega
    have qc := iCom_any (.slice ab ys.length cb) (.slice aa xs.length ca) ys xs w14 (by omega) (by omega) (HX.out.2.1.below B14).lns (HX.out.1.below B14).lns
    rw [HP.out.2.2.2.2.2] at qc
    go_wp2_with fail
    refine qc.mono ?_
    rintro e w15 ⟨rfl, hb15⟩
    have B15 := B14.trans (hb15.mono B14.size)
    clear qc hb15 B14
    have hcs := HX.out.2.2.2.2.2.1.1
    have hds := HX.out.2.2.2.2.2.2.1.1
    have hcm := small_le HX.out.2.2.2.2.2.1.2.1
    have hdm := small_le HX.out.2.2.2.2.2.2.1.2.1
    have qi := fun W (hb : Below w11.heap.size w11 W) => iDiff_any vc vd cs ds W (by omega) (by omega) hcm hdm (HX.out.2.2.2.2.2.1.below hb).lns (HX.out.2.2.2.2.2.2.1.below hb).lns
    have qs := fun W (hb : Below w11.heap.size w11 W) => sDiff_any vc vd cs ds W (by omega) (by omega) (HX.out.2.2.2.2.2.1.below hb).lns (HX.out.2.2.2.2.2.2.1.below hb).lns
    have hdl := dfOf_len cs ds
    clear hcm hdm
    go_wp2_with fail
    refine (qi _ B15).mono ?_
    rintro e w16 ⟨hb16, v16, rfl, ho16⟩
    have B16 := B15.trans (hb16.mono B15.size)
    go_wp2_with fail
    refine (qs _ B16).mono ?_
    rintro e w17 ⟨hb17, v17, rfl, ho17⟩
    have B17 := B16.trans (hb17.mono B16.size)
    have ho16 := owns_below ho16 hb17
    go_wp2_with fail
    refine (sameE_yes v16 v17 (dfOf cs ds) w17 (by omega) (EdsAt.of_own ho16) (EdsAt.of_own ho17)).mono ?_
    rintro e w18 ⟨rfl, q18, rfl⟩
    have B18 : Below w11.heap.size w11 (w17.drewN q18) := bel_drewN B17 q18
    generalize w17.drewN q18 = w18 at B18 ⊢
    clear qi qs hdl ho16 ho17 hb16 hb17 B15 B16 B17
    have htt : (tt == tt) = true := by simp
    go_wp2_with fail
    refine (same_any vg vh _ _ gs.length gs w18 (by omega) (owns_below HG11.out.1 B18) (owns_below HG11.out.2 B18)).mono ?_
    rintro e w19 ⟨rfl, q19, rfl⟩
    have B19 : Below w11.heap.size w11 (w18.drewN q19) := bel_drewN B18 q19
    generalize w18.drewN q19 = w19 at B19 ⊢
    clear B18 htt
    go_wp2_with fail
    refine (iBack_any vi is w19 (by omega) HI11.out.size (HI11.out.below B19).at).mono ?_
    rintro e w20 ⟨hb20, v20, rfl, ho20⟩
    have B20 := B19.trans (hb20.mono B19.size)
    go_wp2_with fail
    refine (sBack_any vi is w20 (by omega) (HI11.out.below B20).at).mono ?_
    rintro e w21 ⟨hb21, v21, rfl, ho21⟩
    have B21 := B20.trans (hb21.mono B20.size)
    have ho20 := owns_below ho20 hb21
    go_wp2_with fail
    refine (sameE_yes v20 v21 (is.map turn) w21 (by rw [List.length_map]; omega) (EdsAt.of_own ho20) (EdsAt.of_own ho21)).mono ?_
    rintro e w22 ⟨rfl, q22, rfl⟩
    have B22 : Below w11.heap.size w11 (w21.drewN q22) := bel_drewN B21 q22
    generalize w21.drewN q22 = w22 at B22 ⊢
    clear ho20 ho21 hb20 hb21 B19 B20 B21
    go_wp2_with fail
    refine (iKept_any vi is w22 (by omega) (HI11.out.below B22).at).mono ?_
    rintro e w23 ⟨rfl, hb23⟩
    have B23 := B22.trans (hb23.mono B22.size)
    go_wp2_with fail
    refine (sKept_any vi is w23 (by omega) (HI11.out.below B23).at).mono ?_
    rintro e w24 ⟨rfl, hb24⟩
    have B24 := B23.trans (hb24.mono B23.size)
    have hkk : ((kept is : Int) == (kept is : Int)) = true := by simp
    clear hb23 hb24 B22 B23
    go_wp2_with fail
    refine (iCom_any vc vd cs ds w24 (by omega) (by omega) (HX.out.2.2.2.2.2.1.below B24).lns (HX.out.2.2.2.2.2.2.1.below B24).lns).mono ?_
    rintro e w25 ⟨rfl, hb25⟩
    have B25 := B24.trans (hb25.mono B24.size)
    go_wp2_with fail
    refine (sCom_any vc vd cs ds w25 (by omega) (by omega) (HX.out.2.2.2.2.2.1.below B25).lns (HX.out.2.2.2.2.2.2.1.below B25).lns).mono ?_
    rintro e w26 ⟨rfl, hb26⟩
    have B26 := B25.trans (hb26.mono B25.size)
    have hkk2 : ((comOf cs ds : Int) == (comOf cs ds : Int)) = true := by simp
    clear hb25 hb26 B24 B25
    have L1 : LnsAt ((w26.alloc (.cells #[.string ⟨#[97]⟩] 9)).alloc (.cells #[] 9)) (.slice (some ⟨w26.heap.size, 0, none⟩) 1 1) [⟨#[97]⟩] := by
      refine ⟨some ⟨w26.heap.size, 0, none⟩, 1, rfl, Nat.le_refl _, fun _ => ⟨w26.heap.size, 0, rfl, by simp; omega, fun k t ht => ?_⟩⟩
      match k, ht with
      | 0, ht =>
        obtain rfl : (⟨#[97]⟩ : ByteArray) = t := by simpa using ht
        rw [World.cell?_alloc_old _ _ _ (by show w26.heap.size ≠ (w26.alloc _).heap.size; simp)]
        exact cell_of_row _ _ 0 _ _ _ (heap_alloc_new w26 _)
      | k + 1, ht => simp at ht
    have L2 : LnsAt ((w26.alloc (.cells #[.string ⟨#[97]⟩] 9)).alloc (.cells #[] 9)) (.slice (some ⟨w26.heap.size + 1, 0, none⟩) 0 0) [] := ⟨some ⟨w26.heap.size + 1, 0, none⟩, 0, rfl, Nat.le_refl _, fun h => by simp at h⟩
    have qf := iDiff_any _ _ [⟨#[97]⟩] [] _ (by decide) (by decide) (fun t ht => by simp at ht; subst ht; decide) (fun t ht => by cases ht) L1 L2
    have hdf : dfOf [⟨#[97]⟩] [] = [⟨2, ⟨#[97]⟩⟩] := by rfl
    rw [hdf] at qf
    have B27 : Below w11.heap.size w11 ((w26.alloc (.cells #[.string ⟨#[97]⟩] 9)).alloc (.cells #[] 9)) := (B26.alloc B26.size _).alloc (by have := B26.size; simp; omega) _
    clear L1 L2 hdf
    go_wp2_with fail
    refine qf.mono ?_
    rintro e w28 ⟨hb28, v28, rfl, ho28⟩
    obtain ⟨a28, c28, rfl⟩ := owns_slice ho28
    have B28 := B27.trans (hb28.mono B27.size)
    go_wp2
    go_ret
    exact ⟨rfl, HX.out.2.2.2.2.2.2.2.trans (B28.mono HX.out.2.2.2.2.2.2.2.size)⟩
end Go.Proofs.Ytdlpepmdjbmmmaa
