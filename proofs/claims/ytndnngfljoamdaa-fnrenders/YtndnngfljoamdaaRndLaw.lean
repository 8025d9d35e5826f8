/- The law on lines: drawn right pieces with right values have a line more than splits, which tell the chunks in order, and cost what they tell; other pieces, values, costs and lists are answered alike on both sides. -/
import Derived.Test.YtndnngfljoamdaaKj
import Derived.Test.YtndnngfljoamdaaKi
namespace Go.Proofs.Ytndnngfljoamdaa
open Go.RowKit

/-- What each operation of the last statement leaves. -/
def rndPost (p : Pc) (l : Pl) (av : Option Addr) (cv : Nat) (vs : List Int) (al : Option Addr) (n cl : Nat) (T : ByteArray) (y ov sm : Int) (cb : Nat) (J bq : ByteArray) (x : Pc) (lx : Pl) (ax : Option Addr) (cx : Nat) (xs : List Int) (rs : List ByteArray) (q : Pc) (lq : Pl) (ay : Option Addr) (cy : Nat) (ys : List Int) (mm oy sy o1 s1 o2 s2 : Int) (bl : Bool) (au : Option Addr) (cu : Nat) (us : List Int) (ad : Option Addr) (cd : Nat) (bs : List Int) (cc : Int) : Nat → Value → World → Prop
  | 0 => fun v _ => v = .slice al n cl
  | 1 => fun v _ => v = .int .i64 n
  | 2 => fun v _ => v = .int .i64 n
  | 3 => fun v _ => v = .bool true
  | 4 => fun v _ => v = .bool true
  | 5 => fun v _ => v = .slice al n cl
  | 6 => fun v _ => v = .string J
  | 7 => fun v _ => v = .string bq
  | 8 => fun v _ => v = .string T
  | 9 => fun v _ => v = .string bq
  | 10 => fun v _ => v = .bool true
  | 11 => fun v _ => v = .bool true
  | 12 => fun v _ => v = .bool true
  | 13 => fun v _ => v = .pointer (some ⟨cb, 0, none⟩)
  | 14 => fun v _ => v = .int .i64 ov
  | 15 => fun v _ => v = .int .i64 ov
  | 16 => fun v _ => v = .bool true
  | 17 => fun v _ => v = .bool true
  | 18 => fun v _ => v = .bool true
  | 19 => fun v _ => v = .agg #[.int .i64 ov, .int .i64 sm]
  | 20 => fun v _ => v = pcV p l
  | 21 => fun v _ => v = .slice av vs.length cv
  | 22 => fun v _ => v = .int .i64 y
  | 23 => fun v _ => v = .agg #[.int .i64 ov, .int .i64 sm]
  | 24 => fun v _ => v = .bool true
  | 25 => fun v _ => v = .bool true
  | 26 => fun v _ => v = .bool true
  | 27 => fun v _ => v = pcV x lx
  | 28 => fun v _ => v = .slice ax xs.length cx
  | 29 => fun v W => ∃ a c, v = .slice a rs.length c ∧ TxAt W (.slice a rs.length c) rs
  | 30 => fun v _ => v = pcV x lx
  | 31 => fun v _ => v = .slice ax xs.length cx
  | 32 => fun v W => ∃ a c, v = .slice a rs.length c ∧ TxAt W (.slice a rs.length c) rs
  | 33 => fun v _ => v = .bool true
  | 34 => fun v _ => v = .bool true
  | 35 => fun v _ => v = .bool true
  | 36 => fun v _ => v = pcV q lq
  | 37 => fun v _ => v = .slice ay ys.length cy
  | 38 => fun v _ => v = .int .i64 mm
  | 39 => fun v _ => v = .agg #[.int .i64 oy, .int .i64 sy]
  | 40 => fun v _ => v = pcV q lq
  | 41 => fun v _ => v = .slice ay ys.length cy
  | 42 => fun v _ => v = .int .i64 mm
  | 43 => fun v _ => v = .agg #[.int .i64 oy, .int .i64 sy]
  | 44 => fun v _ => v = .bool true
  | 45 => fun v _ => v = .bool true
  | 46 => fun v _ => v = .bool true
  | 47 => fun v _ => v = .agg #[.int .i64 o1, .int .i64 s1]
  | 48 => fun v _ => v = .agg #[.int .i64 o2, .int .i64 s2]
  | 49 => fun v _ => v = .bool bl
  | 50 => fun v _ => v = .agg #[.int .i64 o1, .int .i64 s1]
  | 51 => fun v _ => v = .agg #[.int .i64 o2, .int .i64 s2]
  | 52 => fun v _ => v = .bool bl
  | 53 => fun v _ => v = .bool true
  | 54 => fun v _ => v = .bool true
  | 55 => fun v _ => v = .bool true
  | 56 => fun v _ => v = .slice au us.length cu
  | 57 => fun v _ => v = .slice ad bs.length cd
  | 58 => fun v _ => v = .int .i64 cc
  | 59 => fun v _ => v = .slice au us.length cu
  | 60 => fun v _ => v = .slice ad bs.length cd
  | 61 => fun v _ => v = .int .i64 cc
  | 62 => fun v _ => v = .bool true
  | 63 => fun v _ => v = .bool true
  | 64 => fun v _ => v = .bool true
  | 65 => fun v _ => v = .slice au us.length cu
  | 66 => fun v _ => v = .slice ad bs.length cd
  | 67 => fun v _ => v = .int .i64 cc
  | 68 => fun v _ => v = .slice ad bs.length cd
  | 69 => fun v _ => v = .slice au us.length cu
  | 70 => fun v _ => v = .int .i64 (-cc)
  | 71 => fun v _ => v = .int .i64 cc
  | 72 => fun v _ => v = .bool true
  | 73 => fun v _ => v = .bool true
  | 74 => fun v _ => v = .bool true
  | _ => fun _ _ => True
theorem rndPost_stab {p : Pc} {l : Pl} {av : Option Addr} {cv : Nat} {vs : List Int} {al : Option Addr} {n cl : Nat} {T : ByteArray} {y ov sm : Int} {cb : Nat} {J bq : ByteArray} {x : Pc} {lx : Pl} {ax : Option Addr} {cx : Nat} {xs : List Int} {rs : List ByteArray} {q : Pc} {lq : Pl} {ay : Option Addr} {cy : Nat} {ys : List Int} {mm oy sy o1 s1 o2 s2 : Int} {bl : Bool} {au : Option Addr} {cu : Nat} {us : List Int} {ad : Option Addr} {cd : Nat} {bs : List Int} {cc : Int} (k : Nat) (v : Value) (W W' : World)
    (h : rndPost p l av cv vs al n cl T y ov sm cb J bq x lx ax cx xs rs q lq ay cy ys mm oy sy o1 s1 o2 s2 bl au cu us ad cd bs cc k v W) (hs : Below W.heap.size W W') : rndPost p l av cv vs al n cl T y ov sm cb J bq x lx ax cx xs rs q lq ay cy ys mm oy sy o1 s1 o2 s2 bl au cu us ad cd bs cc k v W' := by
  unfold rndPost at h ⊢
  split <;> first | exact h | trivial | (obtain ⟨a, c, e, hk⟩ := h; exact ⟨a, c, e, hk.below hs⟩)

set_option maxHeartbeats 32000000 in
set_option maxRecDepth 100000 in
theorem lawRenders (a : Option Addr) (len cap : Nat) (w : World) (hc : len ≤ 1048576 → CodeAt w.heap.size w a len) (hlm : len ≤ 9223372036854775807) :
    Calls Try.prog 4 #[.slice a len cap] w fun e w' => e = .returned (.bool true) ∧ Below w.heap.size w w' := by
  by_cases h0 : 1048576 < len
  · clear hc
    go_enter Try.func4, Try.ntmps4
    go_wp2
    go_ret
    exact ⟨rfl, Below.refl _ _⟩
  have HC := hidOf (hc (by omega))
  clear hc
  go_enter Try.func4, Try.ntmps4
  go_wp2_with (first | (go_at_call 10; go_in))
  refine (drawValues_any w.heap.size _ a len cap HC.out (Nat.le_refl _)).mono ?_
  rintro e w1 ⟨p, l, vs, av, cv, rfl, hD, hV, ho1, hv1, hb1⟩
  have HD := hidOf hD
  have HV := hidOf hV
  have B1 := hidOf hb1
  have HCap := hidOf (capOf ho1.o2)
  have hvl : vs.length ≤ 1048576 := by rw [hV.len]; have := hD.r5; omega
  clear hD hV hb1
  go_wp2_with fail
  obtain ⟨W1, hW1, X1, b1, S1⟩ := boxed w1 p l 29
  rw [← hW1]
  have I1 : Pb W1 w1.heap.size p l := ⟨X1, ho1.is.below b1 (Nat.le_refl _)⟩
  have K1 : KidsAt W1 av vs := (KidsAt.of_own hv1).below b1 (Nat.le_refl _)
  have B2 : Hid (Below w.heap.size w W1) := B1.out.trans (b1.mono B1.out.size)
  obtain ⟨pb, hpb⟩ : ∃ pb, pb = w1.heap.size := ⟨_, rfl⟩
  rw [← hpb] at I1 ⊢
  clear hW1 X1 b1 S1 ho1 hv1 hpb B1
  obtain ⟨ss, hss⟩ : ∃ ss, ss = linesOf p vs := ⟨_, rfl⟩
  have HSS := hidOf hss
  have hJs : (cat ss).size ≤ 1000000 := by rw [hss]; have := drawn_lines HD.out vs; omega
  have hcount : ss.length = 1 + splits vs p.chunks := by rw [hss]; exact ren_count _ _ _ _
  obtain ⟨n, hn⟩ : ∃ n, n = ss.length := ⟨_, rfl⟩
  have HCount := hidOf hcount
  have HN := hidOf hn
  refine (iRen_yes p l av cv vs _ HD.out.few hvl I1.inn K1 HD.out.right HV.out).mono ?_
  rw [← hss]
  clear hcount hss
  unfold StrsAns
  rw [← hn]
  clear hn
  rintro e w2 ⟨hb2, v1, rfl, ho2⟩
  obtain ⟨al, cl, rfl⟩ := owns_slice ho2
  have I2 := hidOf (I1.below hb2)
  have K2 := hidOf (K1.below hb2 (Nat.le_refl _))
  have L2 : Hid (TxAt w2 (.slice al n cl) ss) := ⟨_, by rw [← HN.out]; exact ho2⟩
  have B3 : Hid (Below w.heap.size w w2) := B2.out.trans (hb2.mono B2.out.size)
  clear I1 K1 B2 hb2 ho2
  have hm1 := HD.out.right.chunks.least
  have hm9 := HD.out.c9
  obtain ⟨m, hm⟩ : ∃ m, m = p.chunks.length := ⟨_, rfl⟩
  rw [← hm] at hm1 hm9
  have HM := hidOf hm
  clear hm
  obtain ⟨T, hT⟩ : ∃ T, T = cat (texts p.chunks) := ⟨_, rfl⟩
  have HT := hidOf hT
  have hT6 : T.size ≤ 1000000 := by rw [hT]; have := drawn_texts HD.out; omega
  clear hT
  go_wp2
  go_loopw [6, 7, 8] (fun c s i wr => ∃ (k u : Nat) (t : ByteArray), k ≤ m ∧ i = .int .i64 k ∧ c = .int .i64 u ∧ s = .string t ∧ u ≤ 1 + k ∧ Hid (t ++ cat ((texts p.chunks).drop k) = T) ∧ Hid (u + splits vs (p.chunks.drop k) = n) ∧ Hid (Below w.heap.size w wr) ∧ Hid (Pb wr pb p l) ∧ Hid (KidsAt wr av vs) ∧ Hid (TxAt wr (.slice al n cl) ss)) (fun _ _ i _ => m - (intOf i).toNat)
  case atStart => exact ⟨0, 1, ⟨#[]⟩, by omega, rfl, rfl, rfl, by omega, hidOf (by rw [List.drop_zero, nil_app, HT.out]), hidOf (by rw [List.drop_zero, HN.out, HCount.out]), B3, I2, K2, L2⟩
  case round =>
    clear B3 I2 K2 L2
    obtain ⟨k, u, t, hk, rfl, rfl, rfl, hu, HTT, HU, B, I, K, L⟩ := hrel
    obtain ⟨hpl, c0, c1, c2, c3, c4⟩ := I.out.box
    rw [← HM.out] at c2
    have hA : (0 : Int) ≤ (k : Int) := by omega
    by_cases hlt : k < m
    · have hB : (k : Int) < (m : Int) := by omega
      obtain ⟨x, ex⟩ : ∃ x, p.chunks[k]? = some x := ⟨_, List.getElem?_eq_getElem (by rw [← HM.out]; exact hlt)⟩
      obtain ⟨b5, o5, ea, hb5, hc5⟩ := I.out.inn.chunks (by rw [← HM.out]; omega)
      obtain ⟨p0, p1, p2, p3, p4⟩ := chC (w := wr) (fun j hj => hc5 k x ex j hj)
      have HT2 := hidOf (show (t ++ x.text) ++ cat ((texts p.chunks).drop (k + 1)) = T by rw [← HTT.out, cat_at (texts_at ex), app_assoc])
      have hts : t.size + x.text.size ≤ 1000000 := by
        have h := HT2.out
        have h2 := hT6
        rw [← h, app_size, app_size] at h2
        omega
      rw [ea] at c2
      have HA := hidOf ea
      have EX := hidOf ex
      clear hc5 ea ex
      by_cases hlt2 : k + 1 < m
      · have hB2 : (k : Int) + 1 < (m : Int) := by omega
        go_wp2_with fail
        rw [HM.out, ← HA.out]
        refine (sAt_any p l av cv vs (k : Int) _ HD.out.few hvl I.out.inn K.out).mono ?_
        rintro e w3 hQ
        clear c0 c1 c2 c3 c4 p0 p1 p2 p3 p4
        have hkk : (k : Int) ≤ (p.chunks.length : Int) - 2 := by rw [← HM.out]; omega
        have hkl : k + 1 < p.chunks.length := by rw [← HM.out]; exact hlt2
        cases hs : spl vs x with
        | true =>
          obtain ⟨rfl, A⟩ := hQ.yes ((spl_at HD.out.right HV.out hkk EX.out).2 hs)
          have HU2 := hidOf (show (u + 1) + splits vs (p.chunks.drop (k + 1)) = n by have h := HU.out; rw [splits_yes EX.out hkl hs] at h; omega)
          clear hQ hs hkk hkl
          go_wp2
          go_roundw
          case rel => exact ⟨k + 1, u + 1, t ++ x.text, by omega, by go_num, by go_num, rfl, by omega, HT2, HU2, hidOf (B.out.trans (A.mono B.out.size)), hidOf (I.out.below A), hidOf (K.out.below A (Nat.le_refl _)), hidOf (L.out.below A)⟩
          case measure => simp [intOf]; omega
        | false =>
          obtain ⟨rfl, A⟩ := hQ.no (fun h => by rw [(spl_at HD.out.right HV.out hkk EX.out).1 h] at hs; cases hs)
          have HU2 := hidOf (show u + splits vs (p.chunks.drop (k + 1)) = n by have h := HU.out; rw [splits_no EX.out hkl hs] at h; exact h)
          clear hQ hs hkk hkl
          go_wp2
          go_roundw
          case rel => exact ⟨k + 1, u, t ++ x.text, by omega, by go_num, rfl, rfl, by omega, HT2, HU2, hidOf (B.out.trans (A.mono B.out.size)), hidOf (I.out.below A), hidOf (K.out.below A (Nat.le_refl _)), hidOf (L.out.below A)⟩
          case measure => simp [intOf]; omega
      · have hB2 : ¬ (k : Int) + 1 < (m : Int) := by omega
        have HU2 := hidOf (show u + splits vs (p.chunks.drop (k + 1)) = n by have h := HU.out; rw [splits_end (by rw [← HM.out]; omega)] at h ⊢; exact h)
        go_wp2
        go_roundw
        case rel => exact ⟨k + 1, u, t ++ x.text, by omega, by go_num, rfl, rfl, by omega, HT2, HU2, B, I, K, L⟩
        case measure => simp [intOf]; omega
    · have hB : ¬ (k : Int) < (m : Int) := by omega
      have hs0 := B.out.size
      have hun : n = u := by have h := HU.out; rw [splits_end (by rw [← HM.out]; omega)] at h; omega
      have hTt : T = t := by have h := HTT.out; rw [cat_none (by rw [texts_len, ← HM.out]; omega), app_none] at h; exact h.symm
      subst hun
      subst hTt
      clear HU HTT
      go_wp2_with fail
      clear c0 c1 c2 c3 c4
      refine (drawWid_any w.heap.size _ a len cap (HC.out.below B.out) hs0).mono ?_
      rintro e w3 ⟨y, hy1, hy2, rfl, b3⟩
      have B4 : Hid (Below w.heap.size w w3) := B.out.trans (b3.mono hs0)
      have IP := hidOf (I.out.below b3)
      have KP := hidOf (K.out.below b3 (Nat.le_refl _))
      have LP := hidOf (L.out.below b3)
      clear B I K L b3 hs0
      have hn81 : ss.length ≤ 81 := by rw [HSS.out]; have h := ren_len p.indent vs p.chunks (blanks p.indent); unfold linesOf; rw [← HM.out] at h; omega
      have hnn : n ≤ 81 := by rw [HN.out]; exact hn81
      have hLc : ∀ (j : Nat) (s : ByteArray), ss[j]? = some s → ∃ g, al = some ⟨g, 0, none⟩ ∧ w3.cell? ⟨g, j, none⟩ = some (.string s) := fun j s hj => by
        obtain ⟨bo, ho⟩ := LP.out
        have hjl := (List.getElem?_eq_some_iff.1 hj).1
        rw [← HN.out] at hjl ho
        obtain ⟨g, rfl⟩ := owns_at ho (by omega)
        refine ⟨g, rfl, ?_⟩
        rw [ho.cellAt j (by omega)]
        simp [strVals, hj]
      have HLc := hidOf hLc
      clear hLc
      go_wp2
      go_loop [10, 11] (fun o i => ∃ (k : Nat) (ov : Int), k ≤ n ∧ i = .int .i64 k ∧ o = .int .i64 ov ∧ 0 ≤ ov ∧ ov ≤ k * 1000000 ∧ Hid (ov + ovr y (ss.drop k) = ovr y ss)) (fun _ i => n - (intOf i).toNat)
      case atStart => exact ⟨0, 0, Nat.zero_le _, rfl, rfl, by omega, by omega, hidOf (by rw [List.drop_zero]; omega)⟩
      case round =>
        obtain ⟨k2, ov, hk2, rfl, rfl, ho0, ho1, HO⟩ := hrel
        by_cases hlt2 : k2 < n
        · obtain ⟨s, es⟩ : ∃ s, ss[k2]? = some s := ⟨_, List.getElem?_eq_getElem (by rw [← HN.out]; exact hlt2)⟩
          obtain ⟨g, eg, p0⟩ := HLc.out k2 s es
          have hsz : s.size ≤ 1000000 := Nat.le_trans (cat_ge es) hJs
          have hA2 : (0 : Int) ≤ (k2 : Int) := by omega
          have hB2 : (k2 : Int) < (n : Int) := by omega
          have h0 := HO.out
          rw [ovr_at es] at h0
          rw [eg]
          clear es eg
          by_cases hgo : (s.size : Int) > y
          · have HE := hidOf (show (ov + (s.size : Int) - y) + ovr y (ss.drop (k2 + 1)) = ovr y ss by rw [← h0]; omega)
            clear h0
            go_wp2
            go_round
            case rel => exact ⟨k2 + 1, ov + (s.size : Int) - y, by omega, by go_num, by go_num, by omega, by omega, HE⟩
            case measure => simp [intOf]; omega
          · have HE := hidOf (show ov + ovr y (ss.drop (k2 + 1)) = ovr y ss by rw [← h0]; omega)
            clear h0
            go_wp2
            go_round
            case rel => exact ⟨k2 + 1, ov, by omega, by go_num, rfl, by omega, by omega, HE⟩
            case measure => simp [intOf]; omega
        · have hB2 : ¬ (k2 : Int) < (n : Int) := by omega
          have e1 : costOver p vs y = ov := by
            have h := HO.out
            rw [List.drop_of_length_le (by rw [← HN.out]; omega), ovr] at h
            unfold costOver
            rw [show wid y = y by unfold wid; omega, ← HSS.out]
            omega
          obtain ⟨sm, hsm⟩ : ∃ sm, sm = costSum p vs := ⟨_, rfl⟩
          have hCI := fun W hP hK => iCost_yes p l av cv vs y W HD.out.few hvl HCap.out hP hK HD.out.right HV.out
          have hCS := fun W hP hK => sCost_yes p l av cv vs y W HD.out.few hvl hP hK HD.out.right HV.out
          unfold CoAns at hCI hCS
          rw [e1, ← hsm] at hCI hCS
          clear e1 hsm HO
          obtain ⟨hpl, c0, c1, c2, c3, c4⟩ := IP.out.box
          have hs3 := B4.out.size
          go_wp2_with fail
          refine (hCI _ IP.out.inn KP.out).mono ?_
          rintro e w4 ⟨rfl, b4⟩
          obtain ⟨W4, hW4, C4, b4', S4⟩ := cb_new w4 ov sm 50
          have A4 := b4.trans (b4'.mono b4.size)
          have B5 : Hid (Below w.heap.size w W4) := B4.out.trans (A4.mono hs3)
          have IP2 := hidOf (IP.out.below A4)
          have KP2 := hidOf (KP.out.below A4 (Nat.le_refl _))
          have LP2 := hidOf (LP.out.below A4)
          obtain ⟨cb, hcb⟩ : ∃ cb, cb = w4.heap.size := ⟨_, rfl⟩
          rw [← hcb] at C4
          have CC := hidOf C4
          have HW4 := hidOf hW4
          have HCB := hidOf hcb
          clear C4 b4' S4 A4 B4 IP KP LP b4 hs3 hW4 hcb c0 c1 c2 c3 c4 hCI HLc
          go_wp2_with fail
          rw [← HW4.out, ← HCB.out]
          clear HW4 HCB
          have hs4 := B5.out.size
          refine (drawRen_any w.heap.size _ a len cap (HC.out.below B5.out) hs4).mono ?_
          rintro e w5 ⟨x, lx, xs, ax, cx, rfl, hFx, hxl, ox, vx, b5⟩
          have HX := hidOf hFx
          clear hFx
          obtain ⟨W5, hW5, X5, b5', S5⟩ := boxed w5 x lx 29
          have A5 := b5.trans (b5'.mono b5.size)
          have B6 : Hid (Below w.heap.size w W5) := B5.out.trans (A5.mono hs4)
          have IP3 := hidOf (IP2.out.below A5)
          have KP3 := hidOf (KP2.out.below A5 (Nat.le_refl _))
          have LP3 := hidOf (LP2.out.below A5)
          have CC3 := hidOf (CC.out.below A5)
          have IX : Hid (Pb W5 w5.heap.size x lx) := ⟨X5, ox.is.below b5' (Nat.le_refl _)⟩
          have KX : Hid (KidsAt W5 ax xs) := hidOf ((KidsAt.of_own vx).below b5' (Nat.le_refl _))
          obtain ⟨xb, hxb⟩ : ∃ xb, xb = w5.heap.size := ⟨_, rfl⟩
          rw [← hxb] at IX
          have HW5 := hidOf hW5
          have HXB := hidOf hxb
          clear X5 b5' S5 A5 B5 IP2 KP2 LP2 CC ox vx b5 hs4 hW5 hxb
          go_wp2_with fail
          rw [← HW5.out, ← HXB.out]
          clear HW5 HXB
          have hs5 := B6.out.size
          refine (drawCo_any w.heap.size _ a len cap (HC.out.below B6.out) hs5).mono ?_
          rintro e w6 ⟨q, lq, ys, ay, cy, mm, rfl, hFy, hyl, oy, vy, b6⟩
          have HY := hidOf hFy
          have HYC := hidOf (capOf oy.o2)
          clear hFy
          obtain ⟨W6, hW6, X6, b6', S6⟩ := boxed w6 q lq 29
          have A6 := b6.trans (b6'.mono b6.size)
          have B7 : Hid (Below w.heap.size w W6) := B6.out.trans (A6.mono hs5)
          have IP4 := hidOf (IP3.out.below A6)
          have KP4 := hidOf (KP3.out.below A6 (Nat.le_refl _))
          have LP4 := hidOf (LP3.out.below A6)
          have CC4 := hidOf (CC3.out.below A6)
          have IX4 := hidOf (IX.out.below A6)
          have KX4 := hidOf (KX.out.below A6 (Nat.le_refl _))
          have IY : Hid (Pb W6 w6.heap.size q lq) := ⟨X6, oy.is.below b6' (Nat.le_refl _)⟩
          have KY : Hid (KidsAt W6 ay ys) := hidOf ((KidsAt.of_own vy).below b6' (Nat.le_refl _))
          obtain ⟨yb, hyb⟩ : ∃ yb, yb = w6.heap.size := ⟨_, rfl⟩
          rw [← hyb] at IY
          have HW6 := hidOf hW6
          have HYB := hidOf hyb
          clear X6 b6' S6 A6 B6 IP3 KP3 LP3 CC3 IX KX oy vy b6 hs5 hW6 hyb
          go_wp2_with fail
          rw [← HW6.out, ← HYB.out]
          clear HW6 HYB
          have hs6 := B7.out.size
          refine (drawLess_any w.heap.size _ a len cap (HC.out.below B7.out) hs6).mono ?_
          rintro e w7 ⟨o1, s1, o2, s2, rfl, b7⟩
          obtain ⟨Wa, hWa, Ca, ba, Sa⟩ := cb_new w7 o1 s1 50
          obtain ⟨W7, hW7, Cc, bc, Sc⟩ := cb_new Wa o2 s2 50
          have A7 := (b7.trans (ba.mono b7.size)).trans (bc.mono (b7.trans (ba.mono b7.size)).size)
          have B8 : Hid (Below w.heap.size w W7) := B7.out.trans (A7.mono hs6)
          have IP5 := hidOf (IP4.out.below A7)
          have KP5 := hidOf (KP4.out.below A7 (Nat.le_refl _))
          have LP5 := hidOf (LP4.out.below A7)
          have CC5 := hidOf (CC4.out.below A7)
          have IX5 := hidOf (IX4.out.below A7)
          have KX5 := hidOf (KX4.out.below A7 (Nat.le_refl _))
          have IY5 := hidOf (IY.out.below A7)
          have KY5 := hidOf (KY.out.below A7 (Nat.le_refl _))
          rw [Sa] at Cc
          obtain ⟨ab, hab⟩ : ∃ ab, ab = w7.heap.size := ⟨_, rfl⟩
          obtain ⟨bb, hbb⟩ : ∃ bb, bb = w7.heap.size + 1 := ⟨_, rfl⟩
          have CA := hidOf (Ca.below bc)
          rw [← hab] at CA
          rw [← hbb] at Cc
          have CB := hidOf Cc
          have HWa := hidOf hWa
          have HW7 := hidOf hW7
          have HAB := hidOf hab
          have HBB := hidOf hbb
          clear Ca Cc ba bc Sa Sc A7 B7 IP4 KP4 LP4 CC4 IX4 KX4 IY KY b7 hs6 hWa hW7 hab hbb
          go_wp2_with fail
          rw [← HWa.out, ← HW7.out, ← HBB.out, ← HAB.out]
          clear HWa HW7 HAB HBB
          have hs7 := B8.out.size
          refine (drawCmp_any w.heap.size _ a len cap (HC.out.below B8.out) hs7).mono ?_
          rintro e w8 ⟨us, bs, au, ad, cu, cd, rfl, hus5, hbs5, KU, KD, b8⟩
          have hus : us.length ≤ 1048576 := by omega
          have hbs : bs.length ≤ 1048576 := by omega
          have S8 : Hid (RS w w8 pb p l av vs (.slice al n cl) ss cb ov sm xb x lx ax xs yb q lq ay ys ab o1 s1 bb o2 s2 au us ad bs) := ⟨B8.out.trans (b8.mono hs7), IP5.out.below b8, KP5.out.below b8 (Nat.le_refl _), LP5.out.below b8, CC5.out.below b8, IX5.out.below b8, KX5.out.below b8 (Nat.le_refl _), IY5.out.below b8, KY5.out.below b8 (Nat.le_refl _), CA.out.below b8, CB.out.below b8, KU, KD⟩
          clear B8 IP5 KP5 LP5 CC5 IX5 KX5 IY5 KY5 CA CB KU KD b8 hs7
          obtain ⟨rs, hrs, qXS, qXI, -⟩ := ren_key x xs HX.out.few (by omega)
          have hXS := fun W hP hK => qXS lx ax cx W hP hK
          have hXI := fun W hP hK => qXI lx ax cx W hP hK
          unfold StrsAns at hXS hXI
          clear qXS qXI
          obtain ⟨oy, sy, qYS, qYI, -⟩ := cost_key q ys mm HY.out.few (by omega)
          have hYS := fun W hP hK => qYS lq ay cy W hP hK
          have hYI := fun W hP hK => qYI lq ay cy W HYC.out hP hK
          unfold CoAns at hYS hYI
          clear qYS qYI
          obtain ⟨J, hJ⟩ : ∃ J, J = cat ss := ⟨_, rfl⟩
          have HJ := hidOf hJ
          have hJ6 : J.size ≤ 1000000 := by rw [hJ]; exact hJs
          obtain ⟨bq, hbq⟩ : ∃ bq, bq = bareOf J := ⟨_, rfl⟩
          have HQ1 := hidOf hbq
          have HQ2 := hidOf (show bq = bareOf T by rw [hbq, hJ, HSS.out, HT.out]; exact bare_lines p vs)
          obtain ⟨bl, hbl⟩ : ∃ bl, bl = lessC o1 s1 o2 s2 := ⟨_, rfl⟩
          have HBL := hidOf hbl
          obtain ⟨cc, hcc⟩ : ∃ cc, cc = cmpL us bs := ⟨_, rfl⟩
          have HCC := hidOf hcc
          have HCD := hidOf (show -cc = cmpL bs us by rw [hcc, cmp_back us bs])
          have hcc2 : -1 ≤ cc ∧ cc ≤ 1 := by have h := cmp_in us bs; rw [← hcc] at h; omega
          have hwn : IntKind.i64.wrap cc = cc := IntWalk.i64_in _ ⟨by omega, by omega⟩
          have hwn2 : IntKind.i64.wrap (- -cc) = cc := by rw [Int.neg_neg]; exact hwn
          clear hJ hbq hbl hcc hcc2
          have hG1 := coGuard ov sm ov sm
          have hG2 := coGuard oy sy oy sy
          have hE1 := coEql ov sm
          have hE2 := coEql oy sy
          have hSb : (bq.toList == bq.toList) = true := str_same rfl
          have hBb : (bl == bl) = true := by simp
          go_wp2
          refine wp_region_guards (by kernel_rfl) (fun W => RS w W pb p l av vs (.slice al n cl) ss cb ov sm xb x lx ax xs yb q lq ay ys ab o1 s1 bb o2 s2 au us ad bs) (fun W W' => Below W.heap.size W W') (rndPost p l av cv vs al n cl T y ov sm cb J bq x lx ax cx xs rs q lq ay cy ys mm oy sy o1 s1 o2 s2 bl au cu us ad cd bs cc) (S8.out.below (Below.refl _ _).drew) (by kernel_rfl) (fun k v W W' h _ hst => rndPost_stab k v W W' h hst) ?_ ?_
          case refine_1 =>
            intro k o hk a W hI hsz hfix hdep
            clear S8
            match k, hk with
            | 0, hk =>
              cases hk
              refine .inl ⟨wanted_none rfl, fun K hK => ?_⟩
              have e5 : a.tmps.getD 5 undef = .slice al n cl := hfix 5 (by kernel_rfl)
              refine wp_value (v := .slice al n cl) (w' := W) ?_ (hK _ _ (by simp) hI (Below.refl _ _) rfl)
              clear hfix hdep hK hk hsz
              go_simp
            | 1, hk =>
              cases hk
              refine .inl ⟨wanted_none rfl, fun K hK => ?_⟩
              have e110 : a.tmps.getD 110 undef = .slice al n cl := hdep 0 _ rfl (by kernel_rfl)
              refine wp_value (v := .int .i64 n) (w' := W) ?_ (hK _ _ (by simp) hI (Below.refl _ _) rfl)
              clear hfix hdep hK hk hsz
              go_simp
            | 2, hk =>
              cases hk
              refine .inl ⟨wanted_none rfl, fun K hK => ?_⟩
              have e6 : a.tmps.getD 6 undef = .int .i64 n := hfix 6 (by kernel_rfl)
              refine wp_value (v := .int .i64 n) (w' := W) ?_ (hK _ _ (by simp) hI (Below.refl _ _) rfl)
              clear hfix hdep hK hk hsz
              go_simp
            | 3, hk =>
              cases hk
              refine .inl ⟨wanted_none rfl, fun K hK => ?_⟩
              have e111 : a.tmps.getD 111 undef = .int .i64 n := hdep 1 _ rfl (by kernel_rfl)
              have e112 : a.tmps.getD 112 undef = .int .i64 n := hdep 2 _ rfl (by kernel_rfl)
              refine wp_value (v := .bool true) (w' := W) ?_ (hK _ _ (by simp) hI (Below.refl _ _) rfl)
              clear hfix hdep hK hk hsz
              go_simp
            | 4, hk =>
              cases hk
              refine .inl ⟨wanted_none rfl, fun K hK => ?_⟩
              have e113 : a.tmps.getD 113 undef = .bool true := hdep 3 _ rfl (by kernel_rfl)
              refine wp_value (v := .bool true) (w' := W) ?_ (hK _ _ (by simp) hI (Below.refl _ _) rfl)
              clear hfix hdep hK hk hsz
              go_simp
            | 5, hk =>
              cases hk
              refine .inl ⟨?hg, fun K hK => ?_⟩
              case hg => exact wanted_is (c := true) (b := true) rfl rfl rfl (hdep 4 _ rfl (by kernel_rfl))
              have e5 : a.tmps.getD 5 undef = .slice al n cl := hfix 5 (by kernel_rfl)
              refine wp_value (v := .slice al n cl) (w' := W) ?_ (hK _ _ (by simp) hI (Below.refl _ _) rfl)
              clear hfix hdep hK hk hsz
              go_simp
            | 6, hk =>
              cases hk
              refine .inl ⟨?hg, fun K hK => ?_⟩
              case hg => exact wanted_is (c := true) (b := true) rfl rfl rfl (hdep 4 _ rfl (by kernel_rfl))
              have e115 : a.tmps.getD 115 undef = .slice al n cl := hdep 5 _ rfl (by kernel_rfl)
              have hcon := joined_tx _ ss W hn81 hJs hI.L
              refine wp_calls 37 #[.slice al n cl] ?_ hcon ?_
              · clear hfix hdep hK hk hsz hcon
                go_simp
                try rfl
              · rintro e W2 ⟨rfl, A⟩
                exact ⟨_, rfl, hK _ _ (by simp) (hI.below A) A (by rw [HJ.out]; rfl)⟩
            | 7, hk =>
              cases hk
              refine .inl ⟨?hg, fun K hK => ?_⟩
              case hg => exact wanted_is (c := true) (b := true) rfl rfl rfl (hdep 4 _ rfl (by kernel_rfl))
              have e116 : a.tmps.getD 116 undef = .string J := hdep 6 _ rfl (by kernel_rfl)
              have hcon := bare_any J W hJ6
              refine wp_calls 36 #[.string J] ?_ hcon ?_
              · clear hfix hdep hK hk hsz hcon
                go_simp
                try rfl
              · rintro e W2 ⟨rfl, A⟩
                exact ⟨_, rfl, hK _ _ (by simp) (hI.below A) A (by rw [HQ1.out]; rfl)⟩
            | 8, hk =>
              cases hk
              refine .inl ⟨?hg, fun K hK => ?_⟩
              case hg => exact wanted_is (c := true) (b := true) rfl rfl rfl (hdep 4 _ rfl (by kernel_rfl))
              have e7 : a.tmps.getD 7 undef = .string T := hfix 7 (by kernel_rfl)
              refine wp_value (v := .string T) (w' := W) ?_ (hK _ _ (by simp) hI (Below.refl _ _) rfl)
              clear hfix hdep hK hk hsz
              go_simp
            | 9, hk =>
              cases hk
              refine .inl ⟨?hg, fun K hK => ?_⟩
              case hg => exact wanted_is (c := true) (b := true) rfl rfl rfl (hdep 4 _ rfl (by kernel_rfl))
              have e118 : a.tmps.getD 118 undef = .string T := hdep 8 _ rfl (by kernel_rfl)
              have hcon := bare_any T W hT6
              refine wp_calls 36 #[.string T] ?_ hcon ?_
              · clear hfix hdep hK hk hsz hcon
                go_simp
                try rfl
              · rintro e W2 ⟨rfl, A⟩
                exact ⟨_, rfl, hK _ _ (by simp) (hI.below A) A (by rw [HQ2.out]; rfl)⟩
            | 10, hk =>
              cases hk
              refine .inl ⟨?hg, fun K hK => ?_⟩
              case hg => exact wanted_is (c := true) (b := true) rfl rfl rfl (hdep 4 _ rfl (by kernel_rfl))
              have e117 : a.tmps.getD 117 undef = .string bq := hdep 7 _ rfl (by kernel_rfl)
              have e119 : a.tmps.getD 119 undef = .string bq := hdep 9 _ rfl (by kernel_rfl)
              refine wp_value (v := .bool true) (w' := W) ?_ (hK _ _ (by simp) hI (Below.refl _ _) rfl)
              clear hfix hdep hK hk hsz
              go_simp
            | 11, hk =>
              cases hk
              refine .inl ⟨wanted_none rfl, fun K hK => ?_⟩
              have e114 : a.tmps.getD 114 undef = .bool true := hdep 4 _ rfl (by kernel_rfl)
              have e120 : a.tmps.getD 120 undef = .bool true := hdep 10 _ rfl (by kernel_rfl)
              refine wp_value (v := .bool true) (w' := W) ?_ (hK _ _ (by simp) hI (Below.refl _ _) rfl)
              clear hfix hdep hK hk hsz
              go_simp
            | 12, hk =>
              cases hk
              refine .inl ⟨wanted_none rfl, fun K hK => ?_⟩
              have e121 : a.tmps.getD 121 undef = .bool true := hdep 11 _ rfl (by kernel_rfl)
              refine wp_value (v := .bool true) (w' := W) ?_ (hK _ _ (by simp) hI (Below.refl _ _) rfl)
              clear hfix hdep hK hk hsz
              go_simp
            | 13, hk =>
              cases hk
              refine .inl ⟨?hg, fun K hK => ?_⟩
              case hg => exact wanted_is (c := true) (b := true) rfl rfl rfl (hdep 12 _ rfl (by kernel_rfl))
              have e12 : a.tmps.getD 12 undef = .pointer (some ⟨cb, 0, none⟩) := hfix 12 (by kernel_rfl)
              refine wp_value (v := .pointer (some ⟨cb, 0, none⟩)) (w' := W) ?_ (hK _ _ (by simp) hI (Below.refl _ _) rfl)
              clear hfix hdep hK hk hsz
              go_simp
            | 14, hk =>
              cases hk
              refine .inl ⟨?hg, fun K hK => ?_⟩
              case hg => exact wanted_is (c := true) (b := true) rfl rfl rfl (hdep 12 _ rfl (by kernel_rfl))
              have e123 : a.tmps.getD 123 undef = .pointer (some ⟨cb, 0, none⟩) := hdep 13 _ rfl (by kernel_rfl)
              obtain ⟨hpl, c0, c1⟩ := hI.C
              refine wp_value (v := .int .i64 ov) (w' := W) ?_ (hK _ _ (by simp) hI (Below.refl _ _) rfl)
              clear hfix hdep hK hk hsz
              go_simp
            | 15, hk =>
              cases hk
              refine .inl ⟨?hg, fun K hK => ?_⟩
              case hg => exact wanted_is (c := true) (b := true) rfl rfl rfl (hdep 12 _ rfl (by kernel_rfl))
              have e10 : a.tmps.getD 10 undef = .int .i64 ov := hfix 10 (by kernel_rfl)
              refine wp_value (v := .int .i64 ov) (w' := W) ?_ (hK _ _ (by simp) hI (Below.refl _ _) rfl)
              clear hfix hdep hK hk hsz
              go_simp
            | 16, hk =>
              cases hk
              refine .inl ⟨?hg, fun K hK => ?_⟩
              case hg => exact wanted_is (c := true) (b := true) rfl rfl rfl (hdep 12 _ rfl (by kernel_rfl))
              have e124 : a.tmps.getD 124 undef = .int .i64 ov := hdep 14 _ rfl (by kernel_rfl)
              have e125 : a.tmps.getD 125 undef = .int .i64 ov := hdep 15 _ rfl (by kernel_rfl)
              refine wp_value (v := .bool true) (w' := W) ?_ (hK _ _ (by simp) hI (Below.refl _ _) rfl)
              clear hfix hdep hK hk hsz
              go_simp
            | 17, hk =>
              cases hk
              refine .inl ⟨wanted_none rfl, fun K hK => ?_⟩
              have e122 : a.tmps.getD 122 undef = .bool true := hdep 12 _ rfl (by kernel_rfl)
              have e126 : a.tmps.getD 126 undef = .bool true := hdep 16 _ rfl (by kernel_rfl)
              refine wp_value (v := .bool true) (w' := W) ?_ (hK _ _ (by simp) hI (Below.refl _ _) rfl)
              clear hfix hdep hK hk hsz
              go_simp
            | 18, hk =>
              cases hk
              refine .inl ⟨wanted_none rfl, fun K hK => ?_⟩
              have e127 : a.tmps.getD 127 undef = .bool true := hdep 17 _ rfl (by kernel_rfl)
              refine wp_value (v := .bool true) (w' := W) ?_ (hK _ _ (by simp) hI (Below.refl _ _) rfl)
              clear hfix hdep hK hk hsz
              go_simp
            | 19, hk =>
              cases hk
              refine .inl ⟨?hg, fun K hK => ?_⟩
              case hg => exact wanted_is (c := true) (b := true) rfl rfl rfl (hdep 18 _ rfl (by kernel_rfl))
              have e12 : a.tmps.getD 12 undef = .pointer (some ⟨cb, 0, none⟩) := hfix 12 (by kernel_rfl)
              obtain ⟨hpl, c0, c1⟩ := hI.C
              refine wp_value (v := .agg #[.int .i64 ov, .int .i64 sm]) (w' := W) ?_ (hK _ _ (by simp) hI (Below.refl _ _) rfl)
              clear hfix hdep hK hk hsz
              go_simp
            | 20, hk =>
              cases hk
              refine .inl ⟨?hg, fun K hK => ?_⟩
              case hg => exact wanted_is (c := true) (b := true) rfl rfl rfl (hdep 18 _ rfl (by kernel_rfl))
              have e3 : a.tmps.getD 3 undef = .pointer (some ⟨pb, 0, none⟩) := hfix 3 (by kernel_rfl)
              obtain ⟨hpl, c0, c1, c2, c3, c4⟩ := hI.P.box
              refine wp_value (v := pcV p l) (w' := W) ?_ (hK _ _ (by simp) hI (Below.refl _ _) rfl)
              clear hfix hdep hK hk hsz
              go_simp
            | 21, hk =>
              cases hk
              refine .inl ⟨?hg, fun K hK => ?_⟩
              case hg => exact wanted_is (c := true) (b := true) rfl rfl rfl (hdep 18 _ rfl (by kernel_rfl))
              have e4 : a.tmps.getD 4 undef = .slice av vs.length cv := hfix 4 (by kernel_rfl)
              refine wp_value (v := .slice av vs.length cv) (w' := W) ?_ (hK _ _ (by simp) hI (Below.refl _ _) rfl)
              clear hfix hdep hK hk hsz
              go_simp
            | 22, hk =>
              cases hk
              refine .inl ⟨?hg, fun K hK => ?_⟩
              case hg => exact wanted_is (c := true) (b := true) rfl rfl rfl (hdep 18 _ rfl (by kernel_rfl))
              have e9 : a.tmps.getD 9 undef = .int .i64 y := hfix 9 (by kernel_rfl)
              refine wp_value (v := .int .i64 y) (w' := W) ?_ (hK _ _ (by simp) hI (Below.refl _ _) rfl)
              clear hfix hdep hK hk hsz
              go_simp
            | 23, hk =>
              cases hk
              refine .inl ⟨?hg, fun K hK => ?_⟩
              case hg => exact wanted_is (c := true) (b := true) rfl rfl rfl (hdep 18 _ rfl (by kernel_rfl))
              have e130 : a.tmps.getD 130 undef = pcV p l := hdep 20 _ rfl (by kernel_rfl)
              have e131 : a.tmps.getD 131 undef = .slice av vs.length cv := hdep 21 _ rfl (by kernel_rfl)
              have e132 : a.tmps.getD 132 undef = .int .i64 y := hdep 22 _ rfl (by kernel_rfl)
              have hcon := hCS W hI.P.inn hI.V
              refine wp_calls 38 #[pcV p l, .slice av vs.length cv, .int .i64 y] ?_ hcon ?_
              · clear hfix hdep hK hk hsz hcon
                go_simp
                try rfl
              · rintro e W2 ⟨rfl, A⟩
                exact ⟨_, rfl, hK _ _ (by simp) (hI.below A) A rfl⟩
            | 24, hk =>
              cases hk
              refine .inl ⟨?hg, fun K hK => ?_⟩
              case hg => exact wanted_is (c := true) (b := true) rfl rfl rfl (hdep 18 _ rfl (by kernel_rfl))
              have e129 : a.tmps.getD 129 undef = .agg #[.int .i64 ov, .int .i64 sm] := hdep 19 _ rfl (by kernel_rfl)
              have e133 : a.tmps.getD 133 undef = .agg #[.int .i64 ov, .int .i64 sm] := hdep 23 _ rfl (by kernel_rfl)
              refine wp_value (v := .bool true) (w' := W) ?_ (hK _ _ (by simp) hI (Below.refl _ _) rfl)
              clear hfix hdep hK hk hsz
              go_simp
            | 25, hk =>
              cases hk
              refine .inl ⟨wanted_none rfl, fun K hK => ?_⟩
              have e128 : a.tmps.getD 128 undef = .bool true := hdep 18 _ rfl (by kernel_rfl)
              have e134 : a.tmps.getD 134 undef = .bool true := hdep 24 _ rfl (by kernel_rfl)
              refine wp_value (v := .bool true) (w' := W) ?_ (hK _ _ (by simp) hI (Below.refl _ _) rfl)
              clear hfix hdep hK hk hsz
              go_simp
            | 26, hk =>
              cases hk
              refine .inl ⟨wanted_none rfl, fun K hK => ?_⟩
              have e135 : a.tmps.getD 135 undef = .bool true := hdep 25 _ rfl (by kernel_rfl)
              refine wp_value (v := .bool true) (w' := W) ?_ (hK _ _ (by simp) hI (Below.refl _ _) rfl)
              clear hfix hdep hK hk hsz
              go_simp
            | 27, hk =>
              cases hk
              refine .inl ⟨?hg, fun K hK => ?_⟩
              case hg => exact wanted_is (c := true) (b := true) rfl rfl rfl (hdep 26 _ rfl (by kernel_rfl))
              have e13 : a.tmps.getD 13 undef = .pointer (some ⟨xb, 0, none⟩) := hfix 13 (by kernel_rfl)
              obtain ⟨hpl, c0, c1, c2, c3, c4⟩ := hI.X.box
              refine wp_value (v := pcV x lx) (w' := W) ?_ (hK _ _ (by simp) hI (Below.refl _ _) rfl)
              clear hfix hdep hK hk hsz
              go_simp
            | 28, hk =>
              cases hk
              refine .inl ⟨?hg, fun K hK => ?_⟩
              case hg => exact wanted_is (c := true) (b := true) rfl rfl rfl (hdep 26 _ rfl (by kernel_rfl))
              have e14 : a.tmps.getD 14 undef = .slice ax xs.length cx := hfix 14 (by kernel_rfl)
              refine wp_value (v := .slice ax xs.length cx) (w' := W) ?_ (hK _ _ (by simp) hI (Below.refl _ _) rfl)
              clear hfix hdep hK hk hsz
              go_simp
            | 29, hk =>
              cases hk
              refine .inl ⟨?hg, fun K hK => ?_⟩
              case hg => exact wanted_is (c := true) (b := true) rfl rfl rfl (hdep 26 _ rfl (by kernel_rfl))
              have e137 : a.tmps.getD 137 undef = pcV x lx := hdep 27 _ rfl (by kernel_rfl)
              have e138 : a.tmps.getD 138 undef = .slice ax xs.length cx := hdep 28 _ rfl (by kernel_rfl)
              have hcon := hXI W hI.X.inn hI.XV
              refine wp_calls 29 #[pcV x lx, .slice ax xs.length cx] ?_ hcon ?_
              · clear hfix hdep hK hk hsz hcon
                go_simp
                try rfl
              · rintro e W2 ⟨A, v7, rfl, o7⟩
                obtain ⟨a7, c7, rfl⟩ := owns_slice o7
                exact ⟨_, rfl, hK _ _ (by simp) (hI.below A) A ⟨a7, c7, rfl, _, o7⟩⟩
            | 30, hk =>
              cases hk
              refine .inl ⟨?hg, fun K hK => ?_⟩
              case hg => exact wanted_is (c := true) (b := true) rfl rfl rfl (hdep 26 _ rfl (by kernel_rfl))
              have e13 : a.tmps.getD 13 undef = .pointer (some ⟨xb, 0, none⟩) := hfix 13 (by kernel_rfl)
              obtain ⟨hpl, c0, c1, c2, c3, c4⟩ := hI.X.box
              refine wp_value (v := pcV x lx) (w' := W) ?_ (hK _ _ (by simp) hI (Below.refl _ _) rfl)
              clear hfix hdep hK hk hsz
              go_simp
            | 31, hk =>
              cases hk
              refine .inl ⟨?hg, fun K hK => ?_⟩
              case hg => exact wanted_is (c := true) (b := true) rfl rfl rfl (hdep 26 _ rfl (by kernel_rfl))
              have e14 : a.tmps.getD 14 undef = .slice ax xs.length cx := hfix 14 (by kernel_rfl)
              refine wp_value (v := .slice ax xs.length cx) (w' := W) ?_ (hK _ _ (by simp) hI (Below.refl _ _) rfl)
              clear hfix hdep hK hk hsz
              go_simp
            | 32, hk =>
              cases hk
              refine .inl ⟨?hg, fun K hK => ?_⟩
              case hg => exact wanted_is (c := true) (b := true) rfl rfl rfl (hdep 26 _ rfl (by kernel_rfl))
              have e140 : a.tmps.getD 140 undef = pcV x lx := hdep 30 _ rfl (by kernel_rfl)
              have e141 : a.tmps.getD 141 undef = .slice ax xs.length cx := hdep 31 _ rfl (by kernel_rfl)
              have hcon := hXS W hI.X.inn hI.XV
              refine wp_calls 40 #[pcV x lx, .slice ax xs.length cx] ?_ hcon ?_
              · clear hfix hdep hK hk hsz hcon
                go_simp
                try rfl
              · rintro e W2 ⟨A, v7, rfl, o7⟩
                obtain ⟨a7, c7, rfl⟩ := owns_slice o7
                exact ⟨_, rfl, hK _ _ (by simp) (hI.below A) A ⟨a7, c7, rfl, _, o7⟩⟩
            | 33, hk =>
              cases hk
              refine .inl ⟨?hg, fun K hK => ?_⟩
              case hg => exact wanted_is (c := true) (b := true) rfl rfl rfl (hdep 26 _ rfl (by kernel_rfl))
              obtain ⟨u139, n139, e139, k139⟩ := hdep 29 _ rfl (by kernel_rfl)
              change a.tmps.getD 139 undef = _ at e139
              obtain ⟨u142, n142, e142, k142⟩ := hdep 32 _ rfl (by kernel_rfl)
              change a.tmps.getD 142 undef = _ at e142
              have hcon := same_tx _ _ rs W hrs k139 k142
              refine wp_calls 39 #[.slice u139 rs.length n139, .slice u142 rs.length n142] ?_ hcon ?_
              · clear hfix hdep hK hk hsz hcon
                go_simp
                try rfl
              · rintro e W2 ⟨rfl, A⟩
                exact ⟨_, rfl, hK _ _ (by simp) (hI.below A) A rfl⟩
            | 34, hk =>
              cases hk
              refine .inl ⟨wanted_none rfl, fun K hK => ?_⟩
              have e136 : a.tmps.getD 136 undef = .bool true := hdep 26 _ rfl (by kernel_rfl)
              have e143 : a.tmps.getD 143 undef = .bool true := hdep 33 _ rfl (by kernel_rfl)
              refine wp_value (v := .bool true) (w' := W) ?_ (hK _ _ (by simp) hI (Below.refl _ _) rfl)
              clear hfix hdep hK hk hsz
              go_simp
            | 35, hk =>
              cases hk
              refine .inl ⟨wanted_none rfl, fun K hK => ?_⟩
              have e144 : a.tmps.getD 144 undef = .bool true := hdep 34 _ rfl (by kernel_rfl)
              refine wp_value (v := .bool true) (w' := W) ?_ (hK _ _ (by simp) hI (Below.refl _ _) rfl)
              clear hfix hdep hK hk hsz
              go_simp
            | 36, hk =>
              cases hk
              refine .inl ⟨?hg, fun K hK => ?_⟩
              case hg => exact wanted_is (c := true) (b := true) rfl rfl rfl (hdep 35 _ rfl (by kernel_rfl))
              have e15 : a.tmps.getD 15 undef = .pointer (some ⟨yb, 0, none⟩) := hfix 15 (by kernel_rfl)
              obtain ⟨hpl, c0, c1, c2, c3, c4⟩ := hI.Y.box
              refine wp_value (v := pcV q lq) (w' := W) ?_ (hK _ _ (by simp) hI (Below.refl _ _) rfl)
              clear hfix hdep hK hk hsz
              go_simp
            | 37, hk =>
              cases hk
              refine .inl ⟨?hg, fun K hK => ?_⟩
              case hg => exact wanted_is (c := true) (b := true) rfl rfl rfl (hdep 35 _ rfl (by kernel_rfl))
              have e16 : a.tmps.getD 16 undef = .slice ay ys.length cy := hfix 16 (by kernel_rfl)
              refine wp_value (v := .slice ay ys.length cy) (w' := W) ?_ (hK _ _ (by simp) hI (Below.refl _ _) rfl)
              clear hfix hdep hK hk hsz
              go_simp
            | 38, hk =>
              cases hk
              refine .inl ⟨?hg, fun K hK => ?_⟩
              case hg => exact wanted_is (c := true) (b := true) rfl rfl rfl (hdep 35 _ rfl (by kernel_rfl))
              have e17 : a.tmps.getD 17 undef = .int .i64 mm := hfix 17 (by kernel_rfl)
              refine wp_value (v := .int .i64 mm) (w' := W) ?_ (hK _ _ (by simp) hI (Below.refl _ _) rfl)
              clear hfix hdep hK hk hsz
              go_simp
            | 39, hk =>
              cases hk
              refine .inl ⟨?hg, fun K hK => ?_⟩
              case hg => exact wanted_is (c := true) (b := true) rfl rfl rfl (hdep 35 _ rfl (by kernel_rfl))
              have e146 : a.tmps.getD 146 undef = pcV q lq := hdep 36 _ rfl (by kernel_rfl)
              have e147 : a.tmps.getD 147 undef = .slice ay ys.length cy := hdep 37 _ rfl (by kernel_rfl)
              have e148 : a.tmps.getD 148 undef = .int .i64 mm := hdep 38 _ rfl (by kernel_rfl)
              have hcon := hYI W hI.Y.inn hI.YV
              refine wp_calls 31 #[pcV q lq, .slice ay ys.length cy, .int .i64 mm] ?_ hcon ?_
              · clear hfix hdep hK hk hsz hcon
                go_simp
                try rfl
              · rintro e W2 ⟨rfl, A⟩
                exact ⟨_, rfl, hK _ _ (by simp) (hI.below A) A rfl⟩
            | 40, hk =>
              cases hk
              refine .inl ⟨?hg, fun K hK => ?_⟩
              case hg => exact wanted_is (c := true) (b := true) rfl rfl rfl (hdep 35 _ rfl (by kernel_rfl))
              have e15 : a.tmps.getD 15 undef = .pointer (some ⟨yb, 0, none⟩) := hfix 15 (by kernel_rfl)
              obtain ⟨hpl, c0, c1, c2, c3, c4⟩ := hI.Y.box
              refine wp_value (v := pcV q lq) (w' := W) ?_ (hK _ _ (by simp) hI (Below.refl _ _) rfl)
              clear hfix hdep hK hk hsz
              go_simp
            | 41, hk =>
              cases hk
              refine .inl ⟨?hg, fun K hK => ?_⟩
              case hg => exact wanted_is (c := true) (b := true) rfl rfl rfl (hdep 35 _ rfl (by kernel_rfl))
              have e16 : a.tmps.getD 16 undef = .slice ay ys.length cy := hfix 16 (by kernel_rfl)
              refine wp_value (v := .slice ay ys.length cy) (w' := W) ?_ (hK _ _ (by simp) hI (Below.refl _ _) rfl)
              clear hfix hdep hK hk hsz
              go_simp
            | 42, hk =>
              cases hk
              refine .inl ⟨?hg, fun K hK => ?_⟩
              case hg => exact wanted_is (c := true) (b := true) rfl rfl rfl (hdep 35 _ rfl (by kernel_rfl))
              have e17 : a.tmps.getD 17 undef = .int .i64 mm := hfix 17 (by kernel_rfl)
              refine wp_value (v := .int .i64 mm) (w' := W) ?_ (hK _ _ (by simp) hI (Below.refl _ _) rfl)
              clear hfix hdep hK hk hsz
              go_simp
            | 43, hk =>
              cases hk
              refine .inl ⟨?hg, fun K hK => ?_⟩
              case hg => exact wanted_is (c := true) (b := true) rfl rfl rfl (hdep 35 _ rfl (by kernel_rfl))
              have e150 : a.tmps.getD 150 undef = pcV q lq := hdep 40 _ rfl (by kernel_rfl)
              have e151 : a.tmps.getD 151 undef = .slice ay ys.length cy := hdep 41 _ rfl (by kernel_rfl)
              have e152 : a.tmps.getD 152 undef = .int .i64 mm := hdep 42 _ rfl (by kernel_rfl)
              have hcon := hYS W hI.Y.inn hI.YV
              refine wp_calls 38 #[pcV q lq, .slice ay ys.length cy, .int .i64 mm] ?_ hcon ?_
              · clear hfix hdep hK hk hsz hcon
                go_simp
                try rfl
              · rintro e W2 ⟨rfl, A⟩
                exact ⟨_, rfl, hK _ _ (by simp) (hI.below A) A rfl⟩
            | 44, hk =>
              cases hk
              refine .inl ⟨?hg, fun K hK => ?_⟩
              case hg => exact wanted_is (c := true) (b := true) rfl rfl rfl (hdep 35 _ rfl (by kernel_rfl))
              have e149 : a.tmps.getD 149 undef = .agg #[.int .i64 oy, .int .i64 sy] := hdep 39 _ rfl (by kernel_rfl)
              have e153 : a.tmps.getD 153 undef = .agg #[.int .i64 oy, .int .i64 sy] := hdep 43 _ rfl (by kernel_rfl)
              refine wp_value (v := .bool true) (w' := W) ?_ (hK _ _ (by simp) hI (Below.refl _ _) rfl)
              clear hfix hdep hK hk hsz
              go_simp
            | 45, hk =>
              cases hk
              refine .inl ⟨wanted_none rfl, fun K hK => ?_⟩
              have e145 : a.tmps.getD 145 undef = .bool true := hdep 35 _ rfl (by kernel_rfl)
              have e154 : a.tmps.getD 154 undef = .bool true := hdep 44 _ rfl (by kernel_rfl)
              refine wp_value (v := .bool true) (w' := W) ?_ (hK _ _ (by simp) hI (Below.refl _ _) rfl)
              clear hfix hdep hK hk hsz
              go_simp
            | 46, hk =>
              cases hk
              refine .inl ⟨wanted_none rfl, fun K hK => ?_⟩
              have e155 : a.tmps.getD 155 undef = .bool true := hdep 45 _ rfl (by kernel_rfl)
              refine wp_value (v := .bool true) (w' := W) ?_ (hK _ _ (by simp) hI (Below.refl _ _) rfl)
              clear hfix hdep hK hk hsz
              go_simp
            | 47, hk =>
              cases hk
              refine .inl ⟨?hg, fun K hK => ?_⟩
              case hg => exact wanted_is (c := true) (b := true) rfl rfl rfl (hdep 46 _ rfl (by kernel_rfl))
              have e18 : a.tmps.getD 18 undef = .pointer (some ⟨ab, 0, none⟩) := hfix 18 (by kernel_rfl)
              obtain ⟨hpl, c0, c1⟩ := hI.A
              refine wp_value (v := .agg #[.int .i64 o1, .int .i64 s1]) (w' := W) ?_ (hK _ _ (by simp) hI (Below.refl _ _) rfl)
              clear hfix hdep hK hk hsz
              go_simp
            | 48, hk =>
              cases hk
              refine .inl ⟨?hg, fun K hK => ?_⟩
              case hg => exact wanted_is (c := true) (b := true) rfl rfl rfl (hdep 46 _ rfl (by kernel_rfl))
              have e19 : a.tmps.getD 19 undef = .pointer (some ⟨bb, 0, none⟩) := hfix 19 (by kernel_rfl)
              obtain ⟨hpl, c0, c1⟩ := hI.B
              refine wp_value (v := .agg #[.int .i64 o2, .int .i64 s2]) (w' := W) ?_ (hK _ _ (by simp) hI (Below.refl _ _) rfl)
              clear hfix hdep hK hk hsz
              go_simp
            | 49, hk =>
              cases hk
              refine .inl ⟨?hg, fun K hK => ?_⟩
              case hg => exact wanted_is (c := true) (b := true) rfl rfl rfl (hdep 46 _ rfl (by kernel_rfl))
              have e157 : a.tmps.getD 157 undef = .agg #[.int .i64 o1, .int .i64 s1] := hdep 47 _ rfl (by kernel_rfl)
              have e158 : a.tmps.getD 158 undef = .agg #[.int .i64 o2, .int .i64 s2] := hdep 48 _ rfl (by kernel_rfl)
              have hcon := iLess_any o1 s1 o2 s2 W
              refine wp_calls 41 #[.agg #[.int .i64 o1, .int .i64 s1], .agg #[.int .i64 o2, .int .i64 s2]] ?_ hcon ?_
              · clear hfix hdep hK hk hsz hcon
                go_simp
                try rfl
              · rintro e W2 ⟨rfl, A⟩
                exact ⟨_, rfl, hK _ _ (by simp) (hI.below A) A (by rw [HBL.out]; rfl)⟩
            | 50, hk =>
              cases hk
              refine .inl ⟨?hg, fun K hK => ?_⟩
              case hg => exact wanted_is (c := true) (b := true) rfl rfl rfl (hdep 46 _ rfl (by kernel_rfl))
              have e18 : a.tmps.getD 18 undef = .pointer (some ⟨ab, 0, none⟩) := hfix 18 (by kernel_rfl)
              obtain ⟨hpl, c0, c1⟩ := hI.A
              refine wp_value (v := .agg #[.int .i64 o1, .int .i64 s1]) (w' := W) ?_ (hK _ _ (by simp) hI (Below.refl _ _) rfl)
              clear hfix hdep hK hk hsz
              go_simp
            | 51, hk =>
              cases hk
              refine .inl ⟨?hg, fun K hK => ?_⟩
              case hg => exact wanted_is (c := true) (b := true) rfl rfl rfl (hdep 46 _ rfl (by kernel_rfl))
              have e19 : a.tmps.getD 19 undef = .pointer (some ⟨bb, 0, none⟩) := hfix 19 (by kernel_rfl)
              obtain ⟨hpl, c0, c1⟩ := hI.B
              refine wp_value (v := .agg #[.int .i64 o2, .int .i64 s2]) (w' := W) ?_ (hK _ _ (by simp) hI (Below.refl _ _) rfl)
              clear hfix hdep hK hk hsz
              go_simp
            | 52, hk =>
              cases hk
              refine .inl ⟨?hg, fun K hK => ?_⟩
              case hg => exact wanted_is (c := true) (b := true) rfl rfl rfl (hdep 46 _ rfl (by kernel_rfl))
              have e160 : a.tmps.getD 160 undef = .agg #[.int .i64 o1, .int .i64 s1] := hdep 50 _ rfl (by kernel_rfl)
              have e161 : a.tmps.getD 161 undef = .agg #[.int .i64 o2, .int .i64 s2] := hdep 51 _ rfl (by kernel_rfl)
              have hcon := sLess_any o1 s1 o2 s2 W
              refine wp_calls 42 #[.agg #[.int .i64 o1, .int .i64 s1], .agg #[.int .i64 o2, .int .i64 s2]] ?_ hcon ?_
              · clear hfix hdep hK hk hsz hcon
                go_simp
                try rfl
              · rintro e W2 ⟨rfl, A⟩
                exact ⟨_, rfl, hK _ _ (by simp) (hI.below A) A (by rw [HBL.out]; rfl)⟩
            | 53, hk =>
              cases hk
              refine .inl ⟨?hg, fun K hK => ?_⟩
              case hg => exact wanted_is (c := true) (b := true) rfl rfl rfl (hdep 46 _ rfl (by kernel_rfl))
              have e159 : a.tmps.getD 159 undef = .bool bl := hdep 49 _ rfl (by kernel_rfl)
              have e162 : a.tmps.getD 162 undef = .bool bl := hdep 52 _ rfl (by kernel_rfl)
              refine wp_value (v := .bool true) (w' := W) ?_ (hK _ _ (by simp) hI (Below.refl _ _) rfl)
              clear hfix hdep hK hk hsz
              go_simp
            | 54, hk =>
              cases hk
              refine .inl ⟨wanted_none rfl, fun K hK => ?_⟩
              have e156 : a.tmps.getD 156 undef = .bool true := hdep 46 _ rfl (by kernel_rfl)
              have e163 : a.tmps.getD 163 undef = .bool true := hdep 53 _ rfl (by kernel_rfl)
              refine wp_value (v := .bool true) (w' := W) ?_ (hK _ _ (by simp) hI (Below.refl _ _) rfl)
              clear hfix hdep hK hk hsz
              go_simp
            | 55, hk =>
              cases hk
              refine .inl ⟨wanted_none rfl, fun K hK => ?_⟩
              have e164 : a.tmps.getD 164 undef = .bool true := hdep 54 _ rfl (by kernel_rfl)
              refine wp_value (v := .bool true) (w' := W) ?_ (hK _ _ (by simp) hI (Below.refl _ _) rfl)
              clear hfix hdep hK hk hsz
              go_simp
            | 56, hk =>
              cases hk
              refine .inl ⟨?hg, fun K hK => ?_⟩
              case hg => exact wanted_is (c := true) (b := true) rfl rfl rfl (hdep 55 _ rfl (by kernel_rfl))
              have e20 : a.tmps.getD 20 undef = .slice au us.length cu := hfix 20 (by kernel_rfl)
              refine wp_value (v := .slice au us.length cu) (w' := W) ?_ (hK _ _ (by simp) hI (Below.refl _ _) rfl)
              clear hfix hdep hK hk hsz
              go_simp
            | 57, hk =>
              cases hk
              refine .inl ⟨?hg, fun K hK => ?_⟩
              case hg => exact wanted_is (c := true) (b := true) rfl rfl rfl (hdep 55 _ rfl (by kernel_rfl))
              have e21 : a.tmps.getD 21 undef = .slice ad bs.length cd := hfix 21 (by kernel_rfl)
              refine wp_value (v := .slice ad bs.length cd) (w' := W) ?_ (hK _ _ (by simp) hI (Below.refl _ _) rfl)
              clear hfix hdep hK hk hsz
              go_simp
            | 58, hk =>
              cases hk
              refine .inl ⟨?hg, fun K hK => ?_⟩
              case hg => exact wanted_is (c := true) (b := true) rfl rfl rfl (hdep 55 _ rfl (by kernel_rfl))
              have e166 : a.tmps.getD 166 undef = .slice au us.length cu := hdep 56 _ rfl (by kernel_rfl)
              have e167 : a.tmps.getD 167 undef = .slice ad bs.length cd := hdep 57 _ rfl (by kernel_rfl)
              have hcon := iCmp_any au ad cu cd us bs W hus hbs hI.U hI.D
              refine wp_calls 43 #[.slice au us.length cu, .slice ad bs.length cd] ?_ hcon ?_
              · clear hfix hdep hK hk hsz hcon
                go_simp
                try rfl
              · rintro e W2 ⟨rfl, rfl⟩
                have A := Below.refl W2.heap.size W2
                exact ⟨_, rfl, hK _ _ (by simp) (hI.below A) A (by rw [HCC.out]; rfl)⟩
            | 59, hk =>
              cases hk
              refine .inl ⟨?hg, fun K hK => ?_⟩
              case hg => exact wanted_is (c := true) (b := true) rfl rfl rfl (hdep 55 _ rfl (by kernel_rfl))
              have e20 : a.tmps.getD 20 undef = .slice au us.length cu := hfix 20 (by kernel_rfl)
              refine wp_value (v := .slice au us.length cu) (w' := W) ?_ (hK _ _ (by simp) hI (Below.refl _ _) rfl)
              clear hfix hdep hK hk hsz
              go_simp
            | 60, hk =>
              cases hk
              refine .inl ⟨?hg, fun K hK => ?_⟩
              case hg => exact wanted_is (c := true) (b := true) rfl rfl rfl (hdep 55 _ rfl (by kernel_rfl))
              have e21 : a.tmps.getD 21 undef = .slice ad bs.length cd := hfix 21 (by kernel_rfl)
              refine wp_value (v := .slice ad bs.length cd) (w' := W) ?_ (hK _ _ (by simp) hI (Below.refl _ _) rfl)
              clear hfix hdep hK hk hsz
              go_simp
            | 61, hk =>
              cases hk
              refine .inl ⟨?hg, fun K hK => ?_⟩
              case hg => exact wanted_is (c := true) (b := true) rfl rfl rfl (hdep 55 _ rfl (by kernel_rfl))
              have e169 : a.tmps.getD 169 undef = .slice au us.length cu := hdep 59 _ rfl (by kernel_rfl)
              have e170 : a.tmps.getD 170 undef = .slice ad bs.length cd := hdep 60 _ rfl (by kernel_rfl)
              have hcon := sCmp_any au ad cu cd us bs W hus hbs hI.U hI.D
              refine wp_calls 44 #[.slice au us.length cu, .slice ad bs.length cd] ?_ hcon ?_
              · clear hfix hdep hK hk hsz hcon
                go_simp
                try rfl
              · rintro e W2 ⟨rfl, A⟩
                exact ⟨_, rfl, hK _ _ (by simp) (hI.below A) A (by rw [HCC.out]; rfl)⟩
            | 62, hk =>
              cases hk
              refine .inl ⟨?hg, fun K hK => ?_⟩
              case hg => exact wanted_is (c := true) (b := true) rfl rfl rfl (hdep 55 _ rfl (by kernel_rfl))
              have e168 : a.tmps.getD 168 undef = .int .i64 cc := hdep 58 _ rfl (by kernel_rfl)
              have e171 : a.tmps.getD 171 undef = .int .i64 cc := hdep 61 _ rfl (by kernel_rfl)
              refine wp_value (v := .bool true) (w' := W) ?_ (hK _ _ (by simp) hI (Below.refl _ _) rfl)
              clear hfix hdep hK hk hsz
              go_simp
            | 63, hk =>
              cases hk
              refine .inl ⟨wanted_none rfl, fun K hK => ?_⟩
              have e165 : a.tmps.getD 165 undef = .bool true := hdep 55 _ rfl (by kernel_rfl)
              have e172 : a.tmps.getD 172 undef = .bool true := hdep 62 _ rfl (by kernel_rfl)
              refine wp_value (v := .bool true) (w' := W) ?_ (hK _ _ (by simp) hI (Below.refl _ _) rfl)
              clear hfix hdep hK hk hsz
              go_simp
            | 64, hk =>
              cases hk
              refine .inl ⟨wanted_none rfl, fun K hK => ?_⟩
              have e173 : a.tmps.getD 173 undef = .bool true := hdep 63 _ rfl (by kernel_rfl)
              refine wp_value (v := .bool true) (w' := W) ?_ (hK _ _ (by simp) hI (Below.refl _ _) rfl)
              clear hfix hdep hK hk hsz
              go_simp
            | 65, hk =>
              cases hk
              refine .inl ⟨?hg, fun K hK => ?_⟩
              case hg => exact wanted_is (c := true) (b := true) rfl rfl rfl (hdep 64 _ rfl (by kernel_rfl))
              have e20 : a.tmps.getD 20 undef = .slice au us.length cu := hfix 20 (by kernel_rfl)
              refine wp_value (v := .slice au us.length cu) (w' := W) ?_ (hK _ _ (by simp) hI (Below.refl _ _) rfl)
              clear hfix hdep hK hk hsz
              go_simp
            | 66, hk =>
              cases hk
              refine .inl ⟨?hg, fun K hK => ?_⟩
              case hg => exact wanted_is (c := true) (b := true) rfl rfl rfl (hdep 64 _ rfl (by kernel_rfl))
              have e21 : a.tmps.getD 21 undef = .slice ad bs.length cd := hfix 21 (by kernel_rfl)
              refine wp_value (v := .slice ad bs.length cd) (w' := W) ?_ (hK _ _ (by simp) hI (Below.refl _ _) rfl)
              clear hfix hdep hK hk hsz
              go_simp
            | 67, hk =>
              cases hk
              refine .inl ⟨?hg, fun K hK => ?_⟩
              case hg => exact wanted_is (c := true) (b := true) rfl rfl rfl (hdep 64 _ rfl (by kernel_rfl))
              have e175 : a.tmps.getD 175 undef = .slice au us.length cu := hdep 65 _ rfl (by kernel_rfl)
              have e176 : a.tmps.getD 176 undef = .slice ad bs.length cd := hdep 66 _ rfl (by kernel_rfl)
              have hcon := iCmp_any au ad cu cd us bs W hus hbs hI.U hI.D
              refine wp_calls 43 #[.slice au us.length cu, .slice ad bs.length cd] ?_ hcon ?_
              · clear hfix hdep hK hk hsz hcon
                go_simp
                try rfl
              · rintro e W2 ⟨rfl, rfl⟩
                have A := Below.refl W2.heap.size W2
                exact ⟨_, rfl, hK _ _ (by simp) (hI.below A) A (by rw [HCC.out]; rfl)⟩
            | 68, hk =>
              cases hk
              refine .inl ⟨?hg, fun K hK => ?_⟩
              case hg => exact wanted_is (c := true) (b := true) rfl rfl rfl (hdep 64 _ rfl (by kernel_rfl))
              have e21 : a.tmps.getD 21 undef = .slice ad bs.length cd := hfix 21 (by kernel_rfl)
              refine wp_value (v := .slice ad bs.length cd) (w' := W) ?_ (hK _ _ (by simp) hI (Below.refl _ _) rfl)
              clear hfix hdep hK hk hsz
              go_simp
            | 69, hk =>
              cases hk
              refine .inl ⟨?hg, fun K hK => ?_⟩
              case hg => exact wanted_is (c := true) (b := true) rfl rfl rfl (hdep 64 _ rfl (by kernel_rfl))
              have e20 : a.tmps.getD 20 undef = .slice au us.length cu := hfix 20 (by kernel_rfl)
              refine wp_value (v := .slice au us.length cu) (w' := W) ?_ (hK _ _ (by simp) hI (Below.refl _ _) rfl)
              clear hfix hdep hK hk hsz
              go_simp
            | 70, hk =>
              cases hk
              refine .inl ⟨?hg, fun K hK => ?_⟩
              case hg => exact wanted_is (c := true) (b := true) rfl rfl rfl (hdep 64 _ rfl (by kernel_rfl))
              have e178 : a.tmps.getD 178 undef = .slice ad bs.length cd := hdep 68 _ rfl (by kernel_rfl)
              have e179 : a.tmps.getD 179 undef = .slice au us.length cu := hdep 69 _ rfl (by kernel_rfl)
              have hcon := iCmp_any ad au cd cu bs us W hbs hus hI.D hI.U
              refine wp_calls 43 #[.slice ad bs.length cd, .slice au us.length cu] ?_ hcon ?_
              · clear hfix hdep hK hk hsz hcon
                go_simp
                try rfl
              · rintro e W2 ⟨rfl, rfl⟩
                have A := Below.refl W2.heap.size W2
                exact ⟨_, rfl, hK _ _ (by simp) (hI.below A) A (congrArg (Value.int .i64) HCD.out.symm)⟩
            | 71, hk =>
              cases hk
              refine .inl ⟨?hg, fun K hK => ?_⟩
              case hg => exact wanted_is (c := true) (b := true) rfl rfl rfl (hdep 64 _ rfl (by kernel_rfl))
              have e180 : a.tmps.getD 180 undef = .int .i64 (-cc) := hdep 70 _ rfl (by kernel_rfl)
              refine wp_value (v := .int .i64 cc) (w' := W) ?_ (hK _ _ (by simp) hI (Below.refl _ _) rfl)
              clear hfix hdep hK hk hsz
              go_simp
            | 72, hk =>
              cases hk
              refine .inl ⟨?hg, fun K hK => ?_⟩
              case hg => exact wanted_is (c := true) (b := true) rfl rfl rfl (hdep 64 _ rfl (by kernel_rfl))
              have e177 : a.tmps.getD 177 undef = .int .i64 cc := hdep 67 _ rfl (by kernel_rfl)
              have e181 : a.tmps.getD 181 undef = .int .i64 cc := hdep 71 _ rfl (by kernel_rfl)
              refine wp_value (v := .bool true) (w' := W) ?_ (hK _ _ (by simp) hI (Below.refl _ _) rfl)
              clear hfix hdep hK hk hsz
              go_simp
            | 73, hk =>
              cases hk
              refine .inl ⟨wanted_none rfl, fun K hK => ?_⟩
              have e174 : a.tmps.getD 174 undef = .bool true := hdep 64 _ rfl (by kernel_rfl)
              have e182 : a.tmps.getD 182 undef = .bool true := hdep 72 _ rfl (by kernel_rfl)
              refine wp_value (v := .bool true) (w' := W) ?_ (hK _ _ (by simp) hI (Below.refl _ _) rfl)
              clear hfix hdep hK hk hsz
              go_simp
            | 74, hk =>
              cases hk
              refine .inl ⟨wanted_none rfl, fun K hK => ?_⟩
              have e183 : a.tmps.getD 183 undef = .bool true := hdep 73 _ rfl (by kernel_rfl)
              refine wp_value (v := .bool true) (w' := W) ?_ (hK _ _ (by simp) hI (Below.refl _ _) rfl)
              clear hfix hdep hK hk hsz
              go_simp
            | k + 75, hk => cases hk
          case refine_2 =>
            intro a W hI hd hsz hfix hpost
            have e2 : a.tmps.getD 2 undef = .bool true := hpost 74 _ rfl
            have hd' : a.defers = [] := hd
            have hR : (results Try.f4 a.tmps).run Try.prog W = .ok (.bool true) W := by
              simp [results, Try.results4, go_sem]
              simpa using e2
            clear hpost hfix hsz hd
            have hB : bodyPost Try.prog Try.f4 (fun e w' => e = Ending.returned (Value.bool true) ∧ Below w.heap.size w w') .ret a W := bodyPost_ret hR hd' ⟨rfl, hI.bel⟩
            first
              | (dsimp only [Exit.then]; apply_assumption; exact wp_ret hB)
              | (go_wp2; exact hB)
              | (unfold Exit.then; dsimp only; apply_assumption; exact wp_ret hB)
end Go.Proofs.Ytndnngfljoamdaa
