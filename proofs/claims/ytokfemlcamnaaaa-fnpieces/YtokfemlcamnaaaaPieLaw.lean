/- The law on pieces: a drawn right piece, all split, has each split and each tie; other pieces and values are answered alike on both sides. -/
import Derived.Test.YtokfemlcamnaaaaDrTwo
import Derived.Test.YtokfemlcamnaaaaKaa
import Derived.Test.YtokfemlcamnaaaaOkS2
import Derived.Test.YtokfemlcamnaaaaKab
namespace Go.Proofs.Ytokfemlcamnaaaa
open Go.RowKit

structure It (w : World) (b : Nat) (p : Pc) (l : Pl) : Prop where
  box : BoxAt w b p l
  inn : PcIn w p l
theorem It.below {w w' : World} {b : Nat} {p : Pc} {l : Pl} (h : It w b p l) (hb : Below w.heap.size w w') : It w' b p l := ⟨h.box.below hb h.box.lt, h.inn.below hb (Nat.le_refl _)⟩
/-- The four pieces in their variables, the values beside them. -/
structure LS (w0 w : World) (pb : Nat) (p : Pc) (l : Pl) (av : Option Addr) (vs : List Int) (xb : Nat) (x : Pc) (lx : Pl) (ax : Option Addr) (xs : List Int) (yb : Nat) (y : Pc) (ly : Pl) (ay : Option Addr) (ys : List Int) (zb : Nat) (z : Pc) (lz : Pl) (an : Option Addr) (ns : List Int) : Prop where
  bel : Below w0.heap.size w0 w
  P : It w pb p l
  V : KidsAt w av vs
  X : It w xb x lx
  XV : KidsAt w ax xs
  Y : It w yb y ly
  YV : KidsAt w ay ys
  Z : It w zb z lz
  N : KidsAt w an ns
theorem LS.below {w0 w w' : World} {pb : Nat} {p : Pc} {l : Pl} {av : Option Addr} {vs : List Int} {xb : Nat} {x : Pc} {lx : Pl} {ax : Option Addr} {xs : List Int} {yb : Nat} {y : Pc} {ly : Pl} {ay : Option Addr} {ys : List Int} {zb : Nat} {z : Pc} {lz : Pl} {an : Option Addr} {ns : List Int}
    (h : LS w0 w pb p l av vs xb x lx ax xs yb y ly ay ys zb z lz an ns) (hb : Below w.heap.size w w') : LS w0 w' pb p l av vs xb x lx ax xs yb y ly ay ys zb z lz an ns :=
  ⟨h.bel.trans (hb.mono h.bel.size), h.P.below hb, h.V.below hb (Nat.le_refl _), h.X.below hb, h.XV.below hb (Nat.le_refl _), h.Y.below hb, h.YV.below hb (Nat.le_refl _), h.Z.below hb, h.N.below hb (Nat.le_refl _)⟩
theorem cap_of {w : World} {b e s n c : Nat} {a : Option Addr} {xs : List Value} (h : w.ownsRow b e s (.slice a n c) n xs) : n ≤ c := by
  rcases h.2 with ⟨e, h0⟩ | ⟨g, cap, cur, e, -, -, hc, -⟩
  · omega
  · cases e
    exact hc
theorem made0 (n : Nat) : (madeCells (Value.int IntKind.i64 0).cells (n * 1)).toList = intVals (List.replicate n 0) := by
  rw [Nat.mul_one]
  show (madeCells #[Value.int IntKind.i64 0] n).toList = _
  rw [toList_madeCells_one]
  simp [intVals]

/-- What each operation of the last statement leaves. -/
def piePost (p : Pc) (l : Pl) (av : Option Addr) (cv : Nat) (ks : List Int) (x : Pc) (lx : Pl) (ax : Option Addr) (cx : Nat) (xs : List Int) (y : Pc) (ly : Pl) (ay : Option Addr) (cy : Nat) (ys : List Int) (ii : Int) (z : Pc) (lz : Pl) (nb : Nat) (bv bt bs bo : Bool) (cz cp : Int) (qs : List Int) : Nat → Value → World → Prop
  | 0 => fun v _ => v = pcV p l
  | 1 => fun v _ => v = .bool true
  | 2 => fun v _ => v = .bool true
  | 3 => fun v _ => v = pcV p l
  | 4 => fun v _ => v = .slice av ks.length cv
  | 5 => fun v _ => v = .bool true
  | 6 => fun v _ => v = .bool true
  | 7 => fun v _ => v = .bool true
  | 8 => fun v _ => v = pcV p l
  | 9 => fun v _ => v = .slice av ks.length cv
  | 10 => fun v _ => v = .bool true
  | 11 => fun v _ => v = .bool true
  | 12 => fun v _ => v = .bool true
  | 13 => fun v _ => v = pcV p l
  | 14 => fun v _ => v = .slice (some ⟨nb, 0, none⟩) p.rules.length p.rules.length
  | 15 => fun v _ => v = .bool true
  | 16 => fun v _ => v = .bool true
  | 17 => fun v _ => v = .bool true
  | 18 => fun v _ => v = pcV x lx
  | 19 => fun v _ => v = .slice ax xs.length cx
  | 20 => fun v _ => v = .bool bv
  | 21 => fun v _ => v = pcV x lx
  | 22 => fun v _ => v = .slice ax xs.length cx
  | 23 => fun v _ => v = .bool bv
  | 24 => fun v _ => v = .bool true
  | 25 => fun v _ => v = .bool true
  | 26 => fun v _ => v = .bool true
  | 27 => fun v _ => v = pcV x lx
  | 28 => fun v _ => v = .slice ax xs.length cx
  | 29 => fun v _ => v = .bool bt
  | 30 => fun v _ => v = pcV x lx
  | 31 => fun v _ => v = .slice ax xs.length cx
  | 32 => fun v _ => v = .bool bt
  | 33 => fun v _ => v = .bool true
  | 34 => fun v _ => v = .bool true
  | 35 => fun v _ => v = .bool true
  | 36 => fun v _ => v = pcV y ly
  | 37 => fun v _ => v = .slice ay ys.length cy
  | 38 => fun v _ => v = .int .i64 ii
  | 39 => fun v _ => v = .bool bs
  | 40 => fun v _ => v = pcV y ly
  | 41 => fun v _ => v = .slice ay ys.length cy
  | 42 => fun v _ => v = .int .i64 ii
  | 43 => fun v _ => v = .bool bs
  | 44 => fun v _ => v = .bool true
  | 45 => fun v _ => v = .bool true
  | 46 => fun v _ => v = .bool true
  | 47 => fun v _ => v = pcV z lz
  | 48 => fun v _ => v = .bool bo
  | 49 => fun v _ => v = pcV z lz
  | 50 => fun v _ => v = .bool bo
  | 51 => fun v _ => v = .bool true
  | 52 => fun v _ => v = .bool true
  | 53 => fun v _ => v = .bool true
  | 54 => fun v _ => v = pcV z lz
  | 55 => fun v _ => v = .int .i64 cz
  | 56 => fun v _ => v = pcV z lz
  | 57 => fun v _ => v = .int .i64 cz
  | 58 => fun v _ => v = .bool true
  | 59 => fun v _ => v = .bool true
  | 60 => fun v _ => v = .bool true
  | 61 => fun v _ => v = pcV p l
  | 62 => fun v _ => v = .int .i64 cp
  | 63 => fun v _ => v = .bool true
  | 64 => fun v _ => v = .bool true
  | 65 => fun v _ => v = .bool true
  | 66 => fun v _ => v = pcV z lz
  | 67 => fun v W => ∃ a c, v = .slice a qs.length c ∧ KidsAt W a qs
  | 68 => fun v _ => v = pcV z lz
  | 69 => fun v W => ∃ a c, v = .slice a qs.length c ∧ KidsAt W a qs
  | 70 => fun v _ => v = .bool true
  | 71 => fun v _ => v = .bool true
  | 72 => fun v _ => v = .bool true
  | _ => fun _ _ => True
theorem piePost_stab {p : Pc} {l : Pl} {av : Option Addr} {cv : Nat} {ks : List Int} {x : Pc} {lx : Pl} {ax : Option Addr} {cx : Nat} {xs : List Int} {y : Pc} {ly : Pl} {ay : Option Addr} {cy : Nat} {ys : List Int} {ii : Int} {z : Pc} {lz : Pl} {nb : Nat} {bv bt bs bo : Bool} {cz cp : Int} {qs : List Int} (k : Nat) (v : Value) (W W' : World)
    (h : piePost p l av cv ks x lx ax cx xs y ly ay cy ys ii z lz nb bv bt bs bo cz cp qs k v W) (hs : Below W.heap.size W W') : piePost p l av cv ks x lx ax cx xs y ly ay cy ys ii z lz nb bv bt bs bo cz cp qs k v W' := by
  unfold piePost at h ⊢
  split <;> first | exact h | trivial | (obtain ⟨a, c, e, hk⟩ := h; exact ⟨a, c, e, hk.below hs (Nat.le_refl _)⟩)
theorem told_by (Q : Prop) : ∃ b : Bool, b = true ↔ Q := by
  by_cases h : Q
  · exact ⟨true, by simp [h]⟩
  · exact ⟨false, by simp [h]⟩

set_option maxHeartbeats 32000000 in
set_option maxRecDepth 100000 in
theorem lawPieces (a : Option Addr) (len cap : Nat) (w : World) (hc : len ≤ 1048576 → CodeAt w.heap.size w a len) (hlm : len ≤ 9223372036854775807) :
    Calls Try.prog 3 #[.slice a len cap] w fun e w' => e = .returned (.bool true) ∧ Below w.heap.size w w' := by
  obtain ⟨i0, hi, hz0, hz1, hz2⟩ := info_parts infoIntT
  by_cases h0 : 1048576 < len
  · clear hc
    go_enter Try.func3, Try.ntmps3
    go_wp2
    go_ret
    exact ⟨rfl, Below.refl _ _⟩
  have HC := hidOf (hc (by omega))
  clear hc
  go_enter Try.func3, Try.ntmps3
  go_wp2_with (first | (go_at_call 11; go_in))
  refine (drawPiece_any w.heap.size _ a len cap HC.out (Nat.le_refl _)).mono ?_
  rintro e w1 ⟨p, l, rfl, hD, ho1, hb1⟩
  have HD := hidOf hD
  have B1 := hidOf hb1
  have hcap := cap_of ho1.o1
  have hsome := at_some ho1.o1 hD.r1
  have HPC := hidOf (And.intro hcap hsome)
  clear hD hb1 hcap hsome
  go_wp2_with fail
  obtain ⟨W1, hW1, X1, b1, S1⟩ := boxed w1 p l 29
  rw [← hW1]
  have I1 : It W1 w1.heap.size p l := ⟨X1, ho1.is.below b1 (Nat.le_refl _)⟩
  have B2 : Hid (Below w.heap.size w W1) := B1.out.trans (b1.mono B1.out.size)
  obtain ⟨pb, hpb⟩ : ∃ pb, pb = w1.heap.size := ⟨_, rfl⟩
  rw [← hpb] at I1 ⊢
  clear hW1 X1 b1 S1 ho1 hpb B1
  obtain ⟨ks, hks⟩ : ∃ ks, ks = allV p := ⟨_, rfl⟩
  have HK := hidOf hks
  have hkl : ks.length ≤ 1048576 := by rw [hks, allV_len]; have := HD.out.r5; omega
  clear hks
  refine (iSpl_any p l _ (by have := HD.out.r5; omega) I1.inn.rules).mono ?_
  rw [← HK.out]
  rintro e w2 ⟨hb2, av, cv, rfl, ho2⟩
  have I2 := I1.below hb2
  have B3 : Hid (Below w.heap.size w w2) := B2.out.trans (hb2.mono B2.out.size)
  have K2 : KidsAt w2 av ks := .of_own ho2
  clear I1 B2 hb2 ho2
  have hm1 := HD.out.right.chunks.least
  have hm9 := HD.out.c9
  obtain ⟨m, hm⟩ : ∃ m, m = p.chunks.length := ⟨_, rfl⟩
  rw [← hm] at hm1 hm9
  have HM := hidOf hm
  clear hm
  go_wp2
  go_loopw [5] (fun i wr => ∃ k : Nat, k + 1 ≤ m ∧ i = .int .i64 k ∧ Hid (Below w.heap.size w wr) ∧ Hid (It wr pb p l) ∧ Hid (KidsAt wr av ks)) (fun i _ => m - (intOf i).toNat)
  case atStart => exact ⟨0, by omega, rfl, B3, hidOf I2, hidOf K2⟩
  case round =>
    clear B3 I2 K2
    obtain ⟨k, hk, rfl, B, I, K⟩ := hrel
    obtain ⟨hpl, c0, c1, c2, c3, c4⟩ := I.out.box
    rw [← HM.out] at c2
    have hA : (0 : Int) ≤ (k : Int) := by omega
    by_cases hlt : k + 1 < m
    · have hB : (k : Int) + 1 < (m : Int) := by omega
      go_wp2_with fail
      rw [HM.out]
      refine (iAt_any p l av cv ks (k : Int) _ HD.out.few hkl I.out.inn K.out).mono ?_
      rintro e w3 hT
      obtain ⟨rfl, A⟩ := hT.yes (by rw [HK.out]; exact allV_splits HD.out (by rw [← HM.out]; exact hlt))
      clear hT c0 c1 c2 c3 c4
      go_wp2
      go_roundw
      case rel => exact ⟨k + 1, by omega, by go_num, hidOf (B.out.trans (A.mono B.out.size)), hidOf (I.out.below A), hidOf (K.out.below A (Nat.le_refl _))⟩
      case measure => simp [intOf]; omega
    · have hB : ¬ (k : Int) + 1 < (m : Int) := by omega
      have hs0 := B.out.size
      go_wp2_with fail
      clear c0 c1 c2 c3 c4
      refine (drawVal_any w.heap.size _ a len cap (HC.out.below B.out) hs0).mono ?_
      rintro e w3 ⟨x, lx, xs, ax, cx, rfl, hFx, hxl, ox, vx, b3⟩
      have HX := hidOf hFx
      clear hFx
      obtain ⟨W3, hW3, X3, b3', S3⟩ := boxed w3 x lx 29
      have A3 := b3.trans (b3'.mono b3.size)
      have B4 : Hid (Below w.heap.size w W3) := B.out.trans (A3.mono hs0)
      have IP := hidOf (I.out.below A3)
      have KP := hidOf (K.out.below A3 (Nat.le_refl _))
      have IX : Hid (It W3 w3.heap.size x lx) := ⟨X3, ox.is.below b3' (Nat.le_refl _)⟩
      have KX : Hid (KidsAt W3 ax xs) := hidOf ((KidsAt.of_own vx).below b3' (Nat.le_refl _))
      obtain ⟨xb, hxb⟩ : ∃ xb, xb = w3.heap.size := ⟨_, rfl⟩
      rw [← hxb] at IX
      have HW3 := hidOf hW3
      have HXB := hidOf hxb
      clear X3 b3' S3 A3 B I K ox vx b3 hs0 hW3 hxb
      go_wp2_with fail
      rw [← HW3.out, ← HXB.out]
      clear HW3 HXB
      have hs1 := B4.out.size
      refine (drawAt_any w.heap.size _ a len cap (HC.out.below B4.out) hs1).mono ?_
      rintro e w4 ⟨y, ly, ys, ay, cy, ii, rfl, hFy, hyl, oy, vy, b4⟩
      have HY := hidOf hFy
      clear hFy
      obtain ⟨W4, hW4, X4, b4', S4⟩ := boxed w4 y ly 29
      have A4 := b4.trans (b4'.mono b4.size)
      have B5 : Hid (Below w.heap.size w W4) := B4.out.trans (A4.mono hs1)
      have IP2 := hidOf (IP.out.below A4)
      have KP2 := hidOf (KP.out.below A4 (Nat.le_refl _))
      have IX2 := hidOf (IX.out.below A4)
      have KX2 := hidOf (KX.out.below A4 (Nat.le_refl _))
      have IY : Hid (It W4 w4.heap.size y ly) := ⟨X4, oy.is.below b4' (Nat.le_refl _)⟩
      have KY : Hid (KidsAt W4 ay ys) := hidOf ((KidsAt.of_own vy).below b4' (Nat.le_refl _))
      obtain ⟨yb, hyb⟩ : ∃ yb, yb = w4.heap.size := ⟨_, rfl⟩
      rw [← hyb] at IY
      have HW4 := hidOf hW4
      have HYB := hidOf hyb
      clear X4 b4' S4 A4 B4 IP KP IX KX oy vy b4 hs1 hW4 hyb
      go_wp2_with fail
      rw [← HW4.out, ← HYB.out]
      clear HW4 HYB
      have hs2 := B5.out.size
      refine (drawOk_any w.heap.size _ a len cap (HC.out.below B5.out) hs2).mono ?_
      rintro e w5 ⟨z, lz, rfl, hFz, oz, b5⟩
      have HZ := hidOf hFz
      have hcapz := cap_of oz.o1
      have hsomez := at_some oz.o1 hFz.r1
      have HZC := hidOf (And.intro hcapz hsomez)
      clear hFz hcapz hsomez
      obtain ⟨W5, hW5, X5, b5', S5⟩ := boxed w5 z lz 29
      have A5 := b5.trans (b5'.mono b5.size)
      have B6 : Hid (Below w.heap.size w W5) := B5.out.trans (A5.mono hs2)
      have IP3 := hidOf (IP2.out.below A5)
      have KP3 := hidOf (KP2.out.below A5 (Nat.le_refl _))
      have IX3 := hidOf (IX2.out.below A5)
      have KX3 := hidOf (KX2.out.below A5 (Nat.le_refl _))
      have IY3 := hidOf (IY.out.below A5)
      have KY3 := hidOf (KY.out.below A5 (Nat.le_refl _))
      have IZ : Hid (It W5 w5.heap.size z lz) := ⟨X5, oz.is.below b5' (Nat.le_refl _)⟩
      obtain ⟨zb, hzb⟩ : ∃ zb, zb = w5.heap.size := ⟨_, rfl⟩
      rw [← hzb] at IZ
      have HW5 := hidOf hW5
      have HZB := hidOf hzb
      clear X5 b5' S5 A5 B5 IP2 KP2 IX2 KX2 IY KY oz b5 hs2 hW5 hzb
      go_upto_region 13 with fail
      rw [← HW5.out, ← HZB.out]
      clear HW5 HZB
      have hs3 := B6.out.size
      have hrn : p.rules.length ≤ 5 := HD.out.r5
      obtain ⟨hpl, c0, c1, c2, c3, c4⟩ := IP3.out.box
      go_wp2_with (at_make; refine wpList_make_full _ rfl _ _ 31 rfl W5.heap.size 3 i0 (.int .i64 0) 1 Try.underlying31 hi hz0 hz1 .i64 .i64 _ _ p.rules.length rfl rfl rfl rfl (by rw [hz2]; omega) (by unfold maxLen; omega) (Nat.le_refl _) ?_; intro w6 hown6 hgrow6)
      rw [made0] at hown6
      have A6 : Below W5.heap.size W5 w6 := (Below.refl _ _).grown hgrow6 (Nat.le_refl _) (fun k e => by cases e)
      have S6 : Hid (LS w w6 pb p l av ks xb x lx ax xs yb y ly ay ys zb z lz (some ⟨W5.heap.size, 0, none⟩) (List.replicate p.rules.length 0)) := ⟨B6.out.trans (A6.mono hs3), IP3.out.below A6, KP3.out.below A6 (Nat.le_refl _), IX3.out.below A6, KX3.out.below A6 (Nat.le_refl _), IY3.out.below A6, KY3.out.below A6 (Nat.le_refl _), IZ.out.below A6, KidsAt.of_own hown6⟩
      clear A6 B6 IP3 KP3 IX3 KX3 IY3 KY3 IZ hown6 hgrow6 hpl c0 c1 c2 c3 c4 hs3
      obtain ⟨nb, hnb⟩ : ∃ nb, nb = W5.heap.size := ⟨_, rfl⟩
      rw [← hnb] at S6 ⊢
      clear hnb
      obtain ⟨cz, hcz⟩ : ∃ cz, cz = cntOf z := ⟨_, rfl⟩
      obtain ⟨cp, hcp⟩ : ∃ cp, cp = cntOf p := ⟨_, rfl⟩
      have hcp2 : 2 ≤ cp := by rw [hcp]; exact cnt_two HD.out
      have HCZ := hidOf hcz
      have HCP := hidOf hcp
      clear hcz hcp
      obtain ⟨qs, hqs⟩ : ∃ qs, qs = allV z := ⟨_, rfl⟩
      have HQ := hidOf hqs
      have hql : qs.length ≤ 1048576 := by rw [hqs, allV_len]; exact HZ.out.few.rules
      clear hqs
      obtain ⟨gz, hgz⟩ := HZC.out.2
      obtain ⟨gp, hgp⟩ := HPC.out.2
      have Hgz := hidOf hgz
      have Hgp := hidOf hgp
      obtain ⟨bv, hbv⟩ := told_by (ValOk x xs)
      obtain ⟨bt, hbt⟩ := told_by (TiesHold x xs)
      obtain ⟨bs, hbs⟩ := told_by (SplitAt y ys ii)
      obtain ⟨bo, hbo⟩ := told_by (Right z)
      have Hbv := hidOf hbv
      have Hbt := hidOf hbt
      have Hbs := hidOf hbs
      have Hbo := hidOf hbo
      clear hgz hgp hbv hbt hbs hbo
      have hTn := fun (u : World) (hp : PcIn u p l) (hv : KidsAt u (some ⟨nb, 0, none⟩) (List.replicate p.rules.length 0)) => iTie_any p l (some ⟨nb, 0, none⟩) p.rules.length (List.replicate p.rules.length 0) u HD.out.few (by simp; omega) HD.out.fit.nol hp hv
      simp only [List.length_replicate] at hTn
      refine wp_region_guards (by kernel_rfl) (fun W => LS w W pb p l av ks xb x lx ax xs yb y ly ay ys zb z lz (some ⟨nb, 0, none⟩) (List.replicate p.rules.length 0)) (fun W W' => Below W.heap.size W W') (piePost p l av cv ks x lx ax cx xs y ly ay cy ys ii z lz nb bv bt bs bo cz cp qs) (S6.out.below (Below.refl _ _).drew) (by kernel_rfl) (fun k v W W' h _ hst => piePost_stab k v W W' h hst) ?_ ?_
      case refine_1 =>
        intro k o hk a W hI hsz hfix hdep
        clear S6
        match k, hk with
        | 0, hk =>
          cases hk
          refine .inl ⟨wanted_none rfl, fun K hK => ?_⟩
          have e3 : a.tmps.getD 3 undef = .pointer (some ⟨pb, 0, none⟩) := hfix 3 (by kernel_rfl)
          obtain ⟨hpl, c0, c1, c2, c3, c4⟩ := hI.P.box
          refine wp_value (v := pcV p l) (w' := W) ?_ (hK _ _ (by simp) hI (Below.refl _ _) rfl)
          clear hfix hdep hK hk hsz
          go_simp
        | 1, hk =>
          cases hk
          refine .inl ⟨wanted_none rfl, fun K hK => ?_⟩
          have e49 : a.tmps.getD 49 undef = pcV p l := hdep 0 _ rfl (by kernel_rfl)
          have hcon := iOk_any p l W HD.out.few hI.P.inn
          refine wp_calls 18 #[pcV p l] ?_ hcon ?_
          · clear hfix hdep hK hk hsz hcon
            go_simp
            try rfl
          · rintro e W2 hT
            obtain ⟨rfl, A⟩ := hT.yes (HD.out.right)
            exact ⟨_, rfl, hK _ _ (by simp) (hI.below A) A rfl⟩
        | 2, hk =>
          cases hk
          refine .inl ⟨wanted_none rfl, fun K hK => ?_⟩
          have e50 : a.tmps.getD 50 undef = .bool true := hdep 1 _ rfl (by kernel_rfl)
          refine wp_value (v := .bool true) (w' := W) ?_ (hK _ _ (by simp) hI (Below.refl _ _) rfl)
          clear hfix hdep hK hk hsz
          go_simp
        | 3, hk =>
          cases hk
          refine .inl ⟨?hg, fun K hK => ?_⟩
          case hg => exact wanted_is (c := true) (b := true) rfl rfl rfl (hdep 2 _ rfl (by kernel_rfl))
          have e3 : a.tmps.getD 3 undef = .pointer (some ⟨pb, 0, none⟩) := hfix 3 (by kernel_rfl)
          obtain ⟨hpl, c0, c1, c2, c3, c4⟩ := hI.P.box
          refine wp_value (v := pcV p l) (w' := W) ?_ (hK _ _ (by simp) hI (Below.refl _ _) rfl)
          clear hfix hdep hK hk hsz
          go_simp
        | 4, hk =>
          cases hk
          refine .inl ⟨?hg, fun K hK => ?_⟩
          case hg => exact wanted_is (c := true) (b := true) rfl rfl rfl (hdep 2 _ rfl (by kernel_rfl))
          have e4 : a.tmps.getD 4 undef = .slice av ks.length cv := hfix 4 (by kernel_rfl)
          refine wp_value (v := .slice av ks.length cv) (w' := W) ?_ (hK _ _ (by simp) hI (Below.refl _ _) rfl)
          clear hfix hdep hK hk hsz
          go_simp
        | 5, hk =>
          cases hk
          refine .inl ⟨?hg, fun K hK => ?_⟩
          case hg => exact wanted_is (c := true) (b := true) rfl rfl rfl (hdep 2 _ rfl (by kernel_rfl))
          have e52 : a.tmps.getD 52 undef = pcV p l := hdep 3 _ rfl (by kernel_rfl)
          have e53 : a.tmps.getD 53 undef = .slice av ks.length cv := hdep 4 _ rfl (by kernel_rfl)
          have hcon := iVal_any p l av cv ks W HD.out.few.rules hkl HD.out.fit.nol hI.P.inn.rules hI.V
          refine wp_calls 19 #[pcV p l, .slice av ks.length cv] ?_ hcon ?_
          · clear hfix hdep hK hk hsz hcon
            go_simp
            try rfl
          · rintro e W2 hT
            obtain ⟨rfl, A⟩ := hT.yes (by rw [HK.out]; exact allV_ok HD.out)
            exact ⟨_, rfl, hK _ _ (by simp) (hI.below A) A rfl⟩
        | 6, hk =>
          cases hk
          refine .inl ⟨wanted_none rfl, fun K hK => ?_⟩
          have e51 : a.tmps.getD 51 undef = .bool true := hdep 2 _ rfl (by kernel_rfl)
          have e54 : a.tmps.getD 54 undef = .bool true := hdep 5 _ rfl (by kernel_rfl)
          refine wp_value (v := .bool true) (w' := W) ?_ (hK _ _ (by simp) hI (Below.refl _ _) rfl)
          clear hfix hdep hK hk hsz
          go_simp
        | 7, hk =>
          cases hk
          refine .inl ⟨wanted_none rfl, fun K hK => ?_⟩
          have e55 : a.tmps.getD 55 undef = .bool true := hdep 6 _ rfl (by kernel_rfl)
          refine wp_value (v := .bool true) (w' := W) ?_ (hK _ _ (by simp) hI (Below.refl _ _) rfl)
          clear hfix hdep hK hk hsz
          go_simp
        | 8, hk =>
          cases hk
          refine .inl ⟨?hg, fun K hK => ?_⟩
          case hg => exact wanted_is (c := true) (b := true) rfl rfl rfl (hdep 7 _ rfl (by kernel_rfl))
          have e3 : a.tmps.getD 3 undef = .pointer (some ⟨pb, 0, none⟩) := hfix 3 (by kernel_rfl)
          obtain ⟨hpl, c0, c1, c2, c3, c4⟩ := hI.P.box
          refine wp_value (v := pcV p l) (w' := W) ?_ (hK _ _ (by simp) hI (Below.refl _ _) rfl)
          clear hfix hdep hK hk hsz
          go_simp
        | 9, hk =>
          cases hk
          refine .inl ⟨?hg, fun K hK => ?_⟩
          case hg => exact wanted_is (c := true) (b := true) rfl rfl rfl (hdep 7 _ rfl (by kernel_rfl))
          have e4 : a.tmps.getD 4 undef = .slice av ks.length cv := hfix 4 (by kernel_rfl)
          refine wp_value (v := .slice av ks.length cv) (w' := W) ?_ (hK _ _ (by simp) hI (Below.refl _ _) rfl)
          clear hfix hdep hK hk hsz
          go_simp
        | 10, hk =>
          cases hk
          refine .inl ⟨?hg, fun K hK => ?_⟩
          case hg => exact wanted_is (c := true) (b := true) rfl rfl rfl (hdep 7 _ rfl (by kernel_rfl))
          have e57 : a.tmps.getD 57 undef = pcV p l := hdep 8 _ rfl (by kernel_rfl)
          have e58 : a.tmps.getD 58 undef = .slice av ks.length cv := hdep 9 _ rfl (by kernel_rfl)
          have hcon := iTie_any p l av cv ks W HD.out.few hkl HD.out.fit.nol hI.P.inn hI.V
          refine wp_calls 20 #[pcV p l, .slice av ks.length cv] ?_ hcon ?_
          · clear hfix hdep hK hk hsz hcon
            go_simp
            try rfl
          · rintro e W2 hT
            obtain ⟨rfl, A⟩ := hT.yes (by rw [HK.out]; exact allV_ties HD.out)
            exact ⟨_, rfl, hK _ _ (by simp) (hI.below A) A rfl⟩
        | 11, hk =>
          cases hk
          refine .inl ⟨wanted_none rfl, fun K hK => ?_⟩
          have e56 : a.tmps.getD 56 undef = .bool true := hdep 7 _ rfl (by kernel_rfl)
          have e59 : a.tmps.getD 59 undef = .bool true := hdep 10 _ rfl (by kernel_rfl)
          refine wp_value (v := .bool true) (w' := W) ?_ (hK _ _ (by simp) hI (Below.refl _ _) rfl)
          clear hfix hdep hK hk hsz
          go_simp
        | 12, hk =>
          cases hk
          refine .inl ⟨wanted_none rfl, fun K hK => ?_⟩
          have e60 : a.tmps.getD 60 undef = .bool true := hdep 11 _ rfl (by kernel_rfl)
          refine wp_value (v := .bool true) (w' := W) ?_ (hK _ _ (by simp) hI (Below.refl _ _) rfl)
          clear hfix hdep hK hk hsz
          go_simp
        | 13, hk =>
          cases hk
          refine .inl ⟨?hg, fun K hK => ?_⟩
          case hg => exact wanted_is (c := true) (b := true) rfl rfl rfl (hdep 12 _ rfl (by kernel_rfl))
          have e3 : a.tmps.getD 3 undef = .pointer (some ⟨pb, 0, none⟩) := hfix 3 (by kernel_rfl)
          obtain ⟨hpl, c0, c1, c2, c3, c4⟩ := hI.P.box
          refine wp_value (v := pcV p l) (w' := W) ?_ (hK _ _ (by simp) hI (Below.refl _ _) rfl)
          clear hfix hdep hK hk hsz
          go_simp
        | 14, hk =>
          cases hk
          refine .inl ⟨?hg, fun K hK => ?_⟩
          case hg => exact wanted_is (c := true) (b := true) rfl rfl rfl (hdep 12 _ rfl (by kernel_rfl))
          have e12 : a.tmps.getD 12 undef = .slice (some ⟨nb, 0, none⟩) p.rules.length p.rules.length := hfix 12 (by kernel_rfl)
          refine wp_value (v := .slice (some ⟨nb, 0, none⟩) p.rules.length p.rules.length) (w' := W) ?_ (hK _ _ (by simp) hI (Below.refl _ _) rfl)
          clear hfix hdep hK hk hsz
          go_simp
        | 15, hk =>
          cases hk
          refine .inl ⟨?hg, fun K hK => ?_⟩
          case hg => exact wanted_is (c := true) (b := true) rfl rfl rfl (hdep 12 _ rfl (by kernel_rfl))
          have e62 : a.tmps.getD 62 undef = pcV p l := hdep 13 _ rfl (by kernel_rfl)
          have e63 : a.tmps.getD 63 undef = .slice (some ⟨nb, 0, none⟩) p.rules.length p.rules.length := hdep 14 _ rfl (by kernel_rfl)
          have hcon := hTn W hI.P.inn hI.N
          refine wp_calls 20 #[pcV p l, .slice (some ⟨nb, 0, none⟩) p.rules.length p.rules.length] ?_ hcon ?_
          · clear hfix hdep hK hk hsz hcon
            go_simp
            try rfl
          · rintro e W2 hT
            obtain ⟨rfl, A⟩ := hT.yes (none_ties HD.out)
            exact ⟨_, rfl, hK _ _ (by simp) (hI.below A) A rfl⟩
        | 16, hk =>
          cases hk
          refine .inl ⟨wanted_none rfl, fun K hK => ?_⟩
          have e61 : a.tmps.getD 61 undef = .bool true := hdep 12 _ rfl (by kernel_rfl)
          have e64 : a.tmps.getD 64 undef = .bool true := hdep 15 _ rfl (by kernel_rfl)
          refine wp_value (v := .bool true) (w' := W) ?_ (hK _ _ (by simp) hI (Below.refl _ _) rfl)
          clear hfix hdep hK hk hsz
          go_simp
        | 17, hk =>
          cases hk
          refine .inl ⟨wanted_none rfl, fun K hK => ?_⟩
          have e65 : a.tmps.getD 65 undef = .bool true := hdep 16 _ rfl (by kernel_rfl)
          refine wp_value (v := .bool true) (w' := W) ?_ (hK _ _ (by simp) hI (Below.refl _ _) rfl)
          clear hfix hdep hK hk hsz
          go_simp
        | 18, hk =>
          cases hk
          refine .inl ⟨?hg, fun K hK => ?_⟩
          case hg => exact wanted_is (c := true) (b := true) rfl rfl rfl (hdep 17 _ rfl (by kernel_rfl))
          have e6 : a.tmps.getD 6 undef = .pointer (some ⟨xb, 0, none⟩) := hfix 6 (by kernel_rfl)
          obtain ⟨hpl, c0, c1, c2, c3, c4⟩ := hI.X.box
          refine wp_value (v := pcV x lx) (w' := W) ?_ (hK _ _ (by simp) hI (Below.refl _ _) rfl)
          clear hfix hdep hK hk hsz
          go_simp
        | 19, hk =>
          cases hk
          refine .inl ⟨?hg, fun K hK => ?_⟩
          case hg => exact wanted_is (c := true) (b := true) rfl rfl rfl (hdep 17 _ rfl (by kernel_rfl))
          have e7 : a.tmps.getD 7 undef = .slice ax xs.length cx := hfix 7 (by kernel_rfl)
          refine wp_value (v := .slice ax xs.length cx) (w' := W) ?_ (hK _ _ (by simp) hI (Below.refl _ _) rfl)
          clear hfix hdep hK hk hsz
          go_simp
        | 20, hk =>
          cases hk
          refine .inl ⟨?hg, fun K hK => ?_⟩
          case hg => exact wanted_is (c := true) (b := true) rfl rfl rfl (hdep 17 _ rfl (by kernel_rfl))
          have e67 : a.tmps.getD 67 undef = pcV x lx := hdep 18 _ rfl (by kernel_rfl)
          have e68 : a.tmps.getD 68 undef = .slice ax xs.length cx := hdep 19 _ rfl (by kernel_rfl)
          have hcon := iVal_any x lx ax cx xs W HX.out.few.rules (by omega) HX.out.nol hI.X.inn.rules hI.XV
          refine wp_calls 19 #[pcV x lx, .slice ax xs.length cx] ?_ hcon ?_
          · clear hfix hdep hK hk hsz hcon
            go_simp
            try rfl
          · rintro e W2 ⟨d, rfl, hd, A⟩
            obtain rfl := same_bool Hbv.out hd
            exact ⟨_, rfl, hK _ _ (by simp) (hI.below A) A rfl⟩
        | 21, hk =>
          cases hk
          refine .inl ⟨?hg, fun K hK => ?_⟩
          case hg => exact wanted_is (c := true) (b := true) rfl rfl rfl (hdep 17 _ rfl (by kernel_rfl))
          have e6 : a.tmps.getD 6 undef = .pointer (some ⟨xb, 0, none⟩) := hfix 6 (by kernel_rfl)
          obtain ⟨hpl, c0, c1, c2, c3, c4⟩ := hI.X.box
          refine wp_value (v := pcV x lx) (w' := W) ?_ (hK _ _ (by simp) hI (Below.refl _ _) rfl)
          clear hfix hdep hK hk hsz
          go_simp
        | 22, hk =>
          cases hk
          refine .inl ⟨?hg, fun K hK => ?_⟩
          case hg => exact wanted_is (c := true) (b := true) rfl rfl rfl (hdep 17 _ rfl (by kernel_rfl))
          have e7 : a.tmps.getD 7 undef = .slice ax xs.length cx := hfix 7 (by kernel_rfl)
          refine wp_value (v := .slice ax xs.length cx) (w' := W) ?_ (hK _ _ (by simp) hI (Below.refl _ _) rfl)
          clear hfix hdep hK hk hsz
          go_simp
        | 23, hk =>
          cases hk
          refine .inl ⟨?hg, fun K hK => ?_⟩
          case hg => exact wanted_is (c := true) (b := true) rfl rfl rfl (hdep 17 _ rfl (by kernel_rfl))
          have e70 : a.tmps.getD 70 undef = pcV x lx := hdep 21 _ rfl (by kernel_rfl)
          have e71 : a.tmps.getD 71 undef = .slice ax xs.length cx := hdep 22 _ rfl (by kernel_rfl)
          have hcon := sVal_any x lx ax cx xs W HX.out.few.rules (by omega) HX.out.nol hI.X.inn.rules hI.XV
          refine wp_calls 21 #[pcV x lx, .slice ax xs.length cx] ?_ hcon ?_
          · clear hfix hdep hK hk hsz hcon
            go_simp
            try rfl
          · rintro e W2 ⟨d, rfl, hd, A⟩
            obtain rfl := same_bool Hbv.out hd
            exact ⟨_, rfl, hK _ _ (by simp) (hI.below A) A rfl⟩
        | 24, hk =>
          cases hk
          refine .inl ⟨?hg, fun K hK => ?_⟩
          case hg => exact wanted_is (c := true) (b := true) rfl rfl rfl (hdep 17 _ rfl (by kernel_rfl))
          have e69 : a.tmps.getD 69 undef = .bool bv := hdep 20 _ rfl (by kernel_rfl)
          have e72 : a.tmps.getD 72 undef = .bool bv := hdep 23 _ rfl (by kernel_rfl)
          refine wp_value (v := .bool true) (w' := W) ?_ (hK _ _ (by simp) hI (Below.refl _ _) rfl)
          clear hfix hdep hK hk hsz
          go_simp
        | 25, hk =>
          cases hk
          refine .inl ⟨wanted_none rfl, fun K hK => ?_⟩
          have e66 : a.tmps.getD 66 undef = .bool true := hdep 17 _ rfl (by kernel_rfl)
          have e73 : a.tmps.getD 73 undef = .bool true := hdep 24 _ rfl (by kernel_rfl)
          refine wp_value (v := .bool true) (w' := W) ?_ (hK _ _ (by simp) hI (Below.refl _ _) rfl)
          clear hfix hdep hK hk hsz
          go_simp
        | 26, hk =>
          cases hk
          refine .inl ⟨wanted_none rfl, fun K hK => ?_⟩
          have e74 : a.tmps.getD 74 undef = .bool true := hdep 25 _ rfl (by kernel_rfl)
          refine wp_value (v := .bool true) (w' := W) ?_ (hK _ _ (by simp) hI (Below.refl _ _) rfl)
          clear hfix hdep hK hk hsz
          go_simp
        | 27, hk =>
          cases hk
          refine .inl ⟨?hg, fun K hK => ?_⟩
          case hg => exact wanted_is (c := true) (b := true) rfl rfl rfl (hdep 26 _ rfl (by kernel_rfl))
          have e6 : a.tmps.getD 6 undef = .pointer (some ⟨xb, 0, none⟩) := hfix 6 (by kernel_rfl)
          obtain ⟨hpl, c0, c1, c2, c3, c4⟩ := hI.X.box
          refine wp_value (v := pcV x lx) (w' := W) ?_ (hK _ _ (by simp) hI (Below.refl _ _) rfl)
          clear hfix hdep hK hk hsz
          go_simp
        | 28, hk =>
          cases hk
          refine .inl ⟨?hg, fun K hK => ?_⟩
          case hg => exact wanted_is (c := true) (b := true) rfl rfl rfl (hdep 26 _ rfl (by kernel_rfl))
          have e7 : a.tmps.getD 7 undef = .slice ax xs.length cx := hfix 7 (by kernel_rfl)
          refine wp_value (v := .slice ax xs.length cx) (w' := W) ?_ (hK _ _ (by simp) hI (Below.refl _ _) rfl)
          clear hfix hdep hK hk hsz
          go_simp
        | 29, hk =>
          cases hk
          refine .inl ⟨?hg, fun K hK => ?_⟩
          case hg => exact wanted_is (c := true) (b := true) rfl rfl rfl (hdep 26 _ rfl (by kernel_rfl))
          have e76 : a.tmps.getD 76 undef = pcV x lx := hdep 27 _ rfl (by kernel_rfl)
          have e77 : a.tmps.getD 77 undef = .slice ax xs.length cx := hdep 28 _ rfl (by kernel_rfl)
          have hcon := iTie_any x lx ax cx xs W HX.out.few (by omega) HX.out.nol hI.X.inn hI.XV
          refine wp_calls 20 #[pcV x lx, .slice ax xs.length cx] ?_ hcon ?_
          · clear hfix hdep hK hk hsz hcon
            go_simp
            try rfl
          · rintro e W2 ⟨d, rfl, hd, A⟩
            obtain rfl := same_bool Hbt.out hd
            exact ⟨_, rfl, hK _ _ (by simp) (hI.below A) A rfl⟩
        | 30, hk =>
          cases hk
          refine .inl ⟨?hg, fun K hK => ?_⟩
          case hg => exact wanted_is (c := true) (b := true) rfl rfl rfl (hdep 26 _ rfl (by kernel_rfl))
          have e6 : a.tmps.getD 6 undef = .pointer (some ⟨xb, 0, none⟩) := hfix 6 (by kernel_rfl)
          obtain ⟨hpl, c0, c1, c2, c3, c4⟩ := hI.X.box
          refine wp_value (v := pcV x lx) (w' := W) ?_ (hK _ _ (by simp) hI (Below.refl _ _) rfl)
          clear hfix hdep hK hk hsz
          go_simp
        | 31, hk =>
          cases hk
          refine .inl ⟨?hg, fun K hK => ?_⟩
          case hg => exact wanted_is (c := true) (b := true) rfl rfl rfl (hdep 26 _ rfl (by kernel_rfl))
          have e7 : a.tmps.getD 7 undef = .slice ax xs.length cx := hfix 7 (by kernel_rfl)
          refine wp_value (v := .slice ax xs.length cx) (w' := W) ?_ (hK _ _ (by simp) hI (Below.refl _ _) rfl)
          clear hfix hdep hK hk hsz
          go_simp
        | 32, hk =>
          cases hk
          refine .inl ⟨?hg, fun K hK => ?_⟩
          case hg => exact wanted_is (c := true) (b := true) rfl rfl rfl (hdep 26 _ rfl (by kernel_rfl))
          have e79 : a.tmps.getD 79 undef = pcV x lx := hdep 30 _ rfl (by kernel_rfl)
          have e80 : a.tmps.getD 80 undef = .slice ax xs.length cx := hdep 31 _ rfl (by kernel_rfl)
          have hcon := sTie_any x lx ax cx xs W HX.out.few (by omega) HX.out.nol hI.X.inn hI.XV
          refine wp_calls 22 #[pcV x lx, .slice ax xs.length cx] ?_ hcon ?_
          · clear hfix hdep hK hk hsz hcon
            go_simp
            try rfl
          · rintro e W2 ⟨d, rfl, hd, A⟩
            obtain rfl := same_bool Hbt.out hd
            exact ⟨_, rfl, hK _ _ (by simp) (hI.below A) A rfl⟩
        | 33, hk =>
          cases hk
          refine .inl ⟨?hg, fun K hK => ?_⟩
          case hg => exact wanted_is (c := true) (b := true) rfl rfl rfl (hdep 26 _ rfl (by kernel_rfl))
          have e78 : a.tmps.getD 78 undef = .bool bt := hdep 29 _ rfl (by kernel_rfl)
          have e81 : a.tmps.getD 81 undef = .bool bt := hdep 32 _ rfl (by kernel_rfl)
          refine wp_value (v := .bool true) (w' := W) ?_ (hK _ _ (by simp) hI (Below.refl _ _) rfl)
          clear hfix hdep hK hk hsz
          go_simp
        | 34, hk =>
          cases hk
          refine .inl ⟨wanted_none rfl, fun K hK => ?_⟩
          have e75 : a.tmps.getD 75 undef = .bool true := hdep 26 _ rfl (by kernel_rfl)
          have e82 : a.tmps.getD 82 undef = .bool true := hdep 33 _ rfl (by kernel_rfl)
          refine wp_value (v := .bool true) (w' := W) ?_ (hK _ _ (by simp) hI (Below.refl _ _) rfl)
          clear hfix hdep hK hk hsz
          go_simp
        | 35, hk =>
          cases hk
          refine .inl ⟨wanted_none rfl, fun K hK => ?_⟩
          have e83 : a.tmps.getD 83 undef = .bool true := hdep 34 _ rfl (by kernel_rfl)
          refine wp_value (v := .bool true) (w' := W) ?_ (hK _ _ (by simp) hI (Below.refl _ _) rfl)
          clear hfix hdep hK hk hsz
          go_simp
        | 36, hk =>
          cases hk
          refine .inl ⟨?hg, fun K hK => ?_⟩
          case hg => exact wanted_is (c := true) (b := true) rfl rfl rfl (hdep 35 _ rfl (by kernel_rfl))
          have e8 : a.tmps.getD 8 undef = .pointer (some ⟨yb, 0, none⟩) := hfix 8 (by kernel_rfl)
          obtain ⟨hpl, c0, c1, c2, c3, c4⟩ := hI.Y.box
          refine wp_value (v := pcV y ly) (w' := W) ?_ (hK _ _ (by simp) hI (Below.refl _ _) rfl)
          clear hfix hdep hK hk hsz
          go_simp
        | 37, hk =>
          cases hk
          refine .inl ⟨?hg, fun K hK => ?_⟩
          case hg => exact wanted_is (c := true) (b := true) rfl rfl rfl (hdep 35 _ rfl (by kernel_rfl))
          have e9 : a.tmps.getD 9 undef = .slice ay ys.length cy := hfix 9 (by kernel_rfl)
          refine wp_value (v := .slice ay ys.length cy) (w' := W) ?_ (hK _ _ (by simp) hI (Below.refl _ _) rfl)
          clear hfix hdep hK hk hsz
          go_simp
        | 38, hk =>
          cases hk
          refine .inl ⟨?hg, fun K hK => ?_⟩
          case hg => exact wanted_is (c := true) (b := true) rfl rfl rfl (hdep 35 _ rfl (by kernel_rfl))
          have e10 : a.tmps.getD 10 undef = .int .i64 ii := hfix 10 (by kernel_rfl)
          refine wp_value (v := .int .i64 ii) (w' := W) ?_ (hK _ _ (by simp) hI (Below.refl _ _) rfl)
          clear hfix hdep hK hk hsz
          go_simp
        | 39, hk =>
          cases hk
          refine .inl ⟨?hg, fun K hK => ?_⟩
          case hg => exact wanted_is (c := true) (b := true) rfl rfl rfl (hdep 35 _ rfl (by kernel_rfl))
          have e85 : a.tmps.getD 85 undef = pcV y ly := hdep 36 _ rfl (by kernel_rfl)
          have e86 : a.tmps.getD 86 undef = .slice ay ys.length cy := hdep 37 _ rfl (by kernel_rfl)
          have e87 : a.tmps.getD 87 undef = .int .i64 ii := hdep 38 _ rfl (by kernel_rfl)
          have hcon := iAt_any y ly ay cy ys ii W HY.out.few (by omega) hI.Y.inn hI.YV
          refine wp_calls 14 #[pcV y ly, .slice ay ys.length cy, .int .i64 ii] ?_ hcon ?_
          · clear hfix hdep hK hk hsz hcon
            go_simp
            try rfl
          · rintro e W2 ⟨d, rfl, hd, A⟩
            obtain rfl := same_bool Hbs.out hd
            exact ⟨_, rfl, hK _ _ (by simp) (hI.below A) A rfl⟩
        | 40, hk =>
          cases hk
          refine .inl ⟨?hg, fun K hK => ?_⟩
          case hg => exact wanted_is (c := true) (b := true) rfl rfl rfl (hdep 35 _ rfl (by kernel_rfl))
          have e8 : a.tmps.getD 8 undef = .pointer (some ⟨yb, 0, none⟩) := hfix 8 (by kernel_rfl)
          obtain ⟨hpl, c0, c1, c2, c3, c4⟩ := hI.Y.box
          refine wp_value (v := pcV y ly) (w' := W) ?_ (hK _ _ (by simp) hI (Below.refl _ _) rfl)
          clear hfix hdep hK hk hsz
          go_simp
        | 41, hk =>
          cases hk
          refine .inl ⟨?hg, fun K hK => ?_⟩
          case hg => exact wanted_is (c := true) (b := true) rfl rfl rfl (hdep 35 _ rfl (by kernel_rfl))
          have e9 : a.tmps.getD 9 undef = .slice ay ys.length cy := hfix 9 (by kernel_rfl)
          refine wp_value (v := .slice ay ys.length cy) (w' := W) ?_ (hK _ _ (by simp) hI (Below.refl _ _) rfl)
          clear hfix hdep hK hk hsz
          go_simp
        | 42, hk =>
          cases hk
          refine .inl ⟨?hg, fun K hK => ?_⟩
          case hg => exact wanted_is (c := true) (b := true) rfl rfl rfl (hdep 35 _ rfl (by kernel_rfl))
          have e10 : a.tmps.getD 10 undef = .int .i64 ii := hfix 10 (by kernel_rfl)
          refine wp_value (v := .int .i64 ii) (w' := W) ?_ (hK _ _ (by simp) hI (Below.refl _ _) rfl)
          clear hfix hdep hK hk hsz
          go_simp
        | 43, hk =>
          cases hk
          refine .inl ⟨?hg, fun K hK => ?_⟩
          case hg => exact wanted_is (c := true) (b := true) rfl rfl rfl (hdep 35 _ rfl (by kernel_rfl))
          have e89 : a.tmps.getD 89 undef = pcV y ly := hdep 40 _ rfl (by kernel_rfl)
          have e90 : a.tmps.getD 90 undef = .slice ay ys.length cy := hdep 41 _ rfl (by kernel_rfl)
          have e91 : a.tmps.getD 91 undef = .int .i64 ii := hdep 42 _ rfl (by kernel_rfl)
          have hcon := sAt_any y ly ay cy ys ii W HY.out.few (by omega) hI.Y.inn hI.YV
          refine wp_calls 23 #[pcV y ly, .slice ay ys.length cy, .int .i64 ii] ?_ hcon ?_
          · clear hfix hdep hK hk hsz hcon
            go_simp
            try rfl
          · rintro e W2 ⟨d, rfl, hd, A⟩
            obtain rfl := same_bool Hbs.out hd
            exact ⟨_, rfl, hK _ _ (by simp) (hI.below A) A rfl⟩
        | 44, hk =>
          cases hk
          refine .inl ⟨?hg, fun K hK => ?_⟩
          case hg => exact wanted_is (c := true) (b := true) rfl rfl rfl (hdep 35 _ rfl (by kernel_rfl))
          have e88 : a.tmps.getD 88 undef = .bool bs := hdep 39 _ rfl (by kernel_rfl)
          have e92 : a.tmps.getD 92 undef = .bool bs := hdep 43 _ rfl (by kernel_rfl)
          refine wp_value (v := .bool true) (w' := W) ?_ (hK _ _ (by simp) hI (Below.refl _ _) rfl)
          clear hfix hdep hK hk hsz
          go_simp
        | 45, hk =>
          cases hk
          refine .inl ⟨wanted_none rfl, fun K hK => ?_⟩
          have e84 : a.tmps.getD 84 undef = .bool true := hdep 35 _ rfl (by kernel_rfl)
          have e93 : a.tmps.getD 93 undef = .bool true := hdep 44 _ rfl (by kernel_rfl)
          refine wp_value (v := .bool true) (w' := W) ?_ (hK _ _ (by simp) hI (Below.refl _ _) rfl)
          clear hfix hdep hK hk hsz
          go_simp
        | 46, hk =>
          cases hk
          refine .inl ⟨wanted_none rfl, fun K hK => ?_⟩
          have e94 : a.tmps.getD 94 undef = .bool true := hdep 45 _ rfl (by kernel_rfl)
          refine wp_value (v := .bool true) (w' := W) ?_ (hK _ _ (by simp) hI (Below.refl _ _) rfl)
          clear hfix hdep hK hk hsz
          go_simp
        | 47, hk =>
          cases hk
          refine .inl ⟨?hg, fun K hK => ?_⟩
          case hg => exact wanted_is (c := true) (b := true) rfl rfl rfl (hdep 46 _ rfl (by kernel_rfl))
          have e11 : a.tmps.getD 11 undef = .pointer (some ⟨zb, 0, none⟩) := hfix 11 (by kernel_rfl)
          obtain ⟨hpl, c0, c1, c2, c3, c4⟩ := hI.Z.box
          refine wp_value (v := pcV z lz) (w' := W) ?_ (hK _ _ (by simp) hI (Below.refl _ _) rfl)
          clear hfix hdep hK hk hsz
          go_simp
        | 48, hk =>
          cases hk
          refine .inl ⟨?hg, fun K hK => ?_⟩
          case hg => exact wanted_is (c := true) (b := true) rfl rfl rfl (hdep 46 _ rfl (by kernel_rfl))
          have e96 : a.tmps.getD 96 undef = pcV z lz := hdep 47 _ rfl (by kernel_rfl)
          have hcon := iOk_any z lz W HZ.out.few hI.Z.inn
          refine wp_calls 18 #[pcV z lz] ?_ hcon ?_
          · clear hfix hdep hK hk hsz hcon
            go_simp
            try rfl
          · rintro e W2 ⟨d, rfl, hd, A⟩
            obtain rfl := same_bool Hbo.out hd
            exact ⟨_, rfl, hK _ _ (by simp) (hI.below A) A rfl⟩
        | 49, hk =>
          cases hk
          refine .inl ⟨?hg, fun K hK => ?_⟩
          case hg => exact wanted_is (c := true) (b := true) rfl rfl rfl (hdep 46 _ rfl (by kernel_rfl))
          have e11 : a.tmps.getD 11 undef = .pointer (some ⟨zb, 0, none⟩) := hfix 11 (by kernel_rfl)
          obtain ⟨hpl, c0, c1, c2, c3, c4⟩ := hI.Z.box
          refine wp_value (v := pcV z lz) (w' := W) ?_ (hK _ _ (by simp) hI (Below.refl _ _) rfl)
          clear hfix hdep hK hk hsz
          go_simp
        | 50, hk =>
          cases hk
          refine .inl ⟨?hg, fun K hK => ?_⟩
          case hg => exact wanted_is (c := true) (b := true) rfl rfl rfl (hdep 46 _ rfl (by kernel_rfl))
          have e98 : a.tmps.getD 98 undef = pcV z lz := hdep 49 _ rfl (by kernel_rfl)
          have hcon := sOk_any z lz W HZ.out.few hI.Z.inn
          refine wp_calls 24 #[pcV z lz] ?_ hcon ?_
          · clear hfix hdep hK hk hsz hcon
            go_simp
            try rfl
          · rintro e W2 ⟨d, rfl, hd, A⟩
            obtain rfl := same_bool Hbo.out hd
            exact ⟨_, rfl, hK _ _ (by simp) (hI.below A) A rfl⟩
        | 51, hk =>
          cases hk
          refine .inl ⟨?hg, fun K hK => ?_⟩
          case hg => exact wanted_is (c := true) (b := true) rfl rfl rfl (hdep 46 _ rfl (by kernel_rfl))
          have e97 : a.tmps.getD 97 undef = .bool bo := hdep 48 _ rfl (by kernel_rfl)
          have e99 : a.tmps.getD 99 undef = .bool bo := hdep 50 _ rfl (by kernel_rfl)
          refine wp_value (v := .bool true) (w' := W) ?_ (hK _ _ (by simp) hI (Below.refl _ _) rfl)
          clear hfix hdep hK hk hsz
          go_simp
        | 52, hk =>
          cases hk
          refine .inl ⟨wanted_none rfl, fun K hK => ?_⟩
          have e95 : a.tmps.getD 95 undef = .bool true := hdep 46 _ rfl (by kernel_rfl)
          have e100 : a.tmps.getD 100 undef = .bool true := hdep 51 _ rfl (by kernel_rfl)
          refine wp_value (v := .bool true) (w' := W) ?_ (hK _ _ (by simp) hI (Below.refl _ _) rfl)
          clear hfix hdep hK hk hsz
          go_simp
        | 53, hk =>
          cases hk
          refine .inl ⟨wanted_none rfl, fun K hK => ?_⟩
          have e101 : a.tmps.getD 101 undef = .bool true := hdep 52 _ rfl (by kernel_rfl)
          refine wp_value (v := .bool true) (w' := W) ?_ (hK _ _ (by simp) hI (Below.refl _ _) rfl)
          clear hfix hdep hK hk hsz
          go_simp
        | 54, hk =>
          cases hk
          refine .inl ⟨?hg, fun K hK => ?_⟩
          case hg => exact wanted_is (c := true) (b := true) rfl rfl rfl (hdep 53 _ rfl (by kernel_rfl))
          have e11 : a.tmps.getD 11 undef = .pointer (some ⟨zb, 0, none⟩) := hfix 11 (by kernel_rfl)
          obtain ⟨hpl, c0, c1, c2, c3, c4⟩ := hI.Z.box
          refine wp_value (v := pcV z lz) (w' := W) ?_ (hK _ _ (by simp) hI (Below.refl _ _) rfl)
          clear hfix hdep hK hk hsz
          go_simp
        | 55, hk =>
          cases hk
          refine .inl ⟨?hg, fun K hK => ?_⟩
          case hg => exact wanted_is (c := true) (b := true) rfl rfl rfl (hdep 53 _ rfl (by kernel_rfl))
          have e103 : a.tmps.getD 103 undef = pcV z lz := hdep 54 _ rfl (by kernel_rfl)
          have hcon := iCnt_any z lz W HZ.out.few.rules gz 0 Hgz.out HZC.out.1 hI.Z.inn.rules
          refine wp_calls 25 #[pcV z lz] ?_ hcon ?_
          · clear hfix hdep hK hk hsz hcon
            go_simp
            try rfl
          · rintro e W2 ⟨rfl, A⟩
            exact ⟨_, rfl, hK _ _ (by simp) (hI.below A) A (by rw [HCZ.out]; rfl)⟩
        | 56, hk =>
          cases hk
          refine .inl ⟨?hg, fun K hK => ?_⟩
          case hg => exact wanted_is (c := true) (b := true) rfl rfl rfl (hdep 53 _ rfl (by kernel_rfl))
          have e11 : a.tmps.getD 11 undef = .pointer (some ⟨zb, 0, none⟩) := hfix 11 (by kernel_rfl)
          obtain ⟨hpl, c0, c1, c2, c3, c4⟩ := hI.Z.box
          refine wp_value (v := pcV z lz) (w' := W) ?_ (hK _ _ (by simp) hI (Below.refl _ _) rfl)
          clear hfix hdep hK hk hsz
          go_simp
        | 57, hk =>
          cases hk
          refine .inl ⟨?hg, fun K hK => ?_⟩
          case hg => exact wanted_is (c := true) (b := true) rfl rfl rfl (hdep 53 _ rfl (by kernel_rfl))
          have e105 : a.tmps.getD 105 undef = pcV z lz := hdep 56 _ rfl (by kernel_rfl)
          have hcon := sCnt_any z lz W HZ.out.few.rules hI.Z.inn.rules
          refine wp_calls 26 #[pcV z lz] ?_ hcon ?_
          · clear hfix hdep hK hk hsz hcon
            go_simp
            try rfl
          · rintro e W2 ⟨rfl, A⟩
            exact ⟨_, rfl, hK _ _ (by simp) (hI.below A) A (by rw [HCZ.out]; rfl)⟩
        | 58, hk =>
          cases hk
          refine .inl ⟨?hg, fun K hK => ?_⟩
          case hg => exact wanted_is (c := true) (b := true) rfl rfl rfl (hdep 53 _ rfl (by kernel_rfl))
          have e104 : a.tmps.getD 104 undef = .int .i64 cz := hdep 55 _ rfl (by kernel_rfl)
          have e106 : a.tmps.getD 106 undef = .int .i64 cz := hdep 57 _ rfl (by kernel_rfl)
          refine wp_value (v := .bool true) (w' := W) ?_ (hK _ _ (by simp) hI (Below.refl _ _) rfl)
          clear hfix hdep hK hk hsz
          go_simp
        | 59, hk =>
          cases hk
          refine .inl ⟨wanted_none rfl, fun K hK => ?_⟩
          have e102 : a.tmps.getD 102 undef = .bool true := hdep 53 _ rfl (by kernel_rfl)
          have e107 : a.tmps.getD 107 undef = .bool true := hdep 58 _ rfl (by kernel_rfl)
          refine wp_value (v := .bool true) (w' := W) ?_ (hK _ _ (by simp) hI (Below.refl _ _) rfl)
          clear hfix hdep hK hk hsz
          go_simp
        | 60, hk =>
          cases hk
          refine .inl ⟨wanted_none rfl, fun K hK => ?_⟩
          have e108 : a.tmps.getD 108 undef = .bool true := hdep 59 _ rfl (by kernel_rfl)
          refine wp_value (v := .bool true) (w' := W) ?_ (hK _ _ (by simp) hI (Below.refl _ _) rfl)
          clear hfix hdep hK hk hsz
          go_simp
        | 61, hk =>
          cases hk
          refine .inl ⟨?hg, fun K hK => ?_⟩
          case hg => exact wanted_is (c := true) (b := true) rfl rfl rfl (hdep 60 _ rfl (by kernel_rfl))
          have e3 : a.tmps.getD 3 undef = .pointer (some ⟨pb, 0, none⟩) := hfix 3 (by kernel_rfl)
          obtain ⟨hpl, c0, c1, c2, c3, c4⟩ := hI.P.box
          refine wp_value (v := pcV p l) (w' := W) ?_ (hK _ _ (by simp) hI (Below.refl _ _) rfl)
          clear hfix hdep hK hk hsz
          go_simp
        | 62, hk =>
          cases hk
          refine .inl ⟨?hg, fun K hK => ?_⟩
          case hg => exact wanted_is (c := true) (b := true) rfl rfl rfl (hdep 60 _ rfl (by kernel_rfl))
          have e110 : a.tmps.getD 110 undef = pcV p l := hdep 61 _ rfl (by kernel_rfl)
          have hcon := iCnt_any p l W HD.out.few.rules gp 0 Hgp.out HPC.out.1 hI.P.inn.rules
          refine wp_calls 25 #[pcV p l] ?_ hcon ?_
          · clear hfix hdep hK hk hsz hcon
            go_simp
            try rfl
          · rintro e W2 ⟨rfl, A⟩
            exact ⟨_, rfl, hK _ _ (by simp) (hI.below A) A (by rw [HCP.out]; rfl)⟩
        | 63, hk =>
          cases hk
          refine .inl ⟨?hg, fun K hK => ?_⟩
          case hg => exact wanted_is (c := true) (b := true) rfl rfl rfl (hdep 60 _ rfl (by kernel_rfl))
          have e111 : a.tmps.getD 111 undef = .int .i64 cp := hdep 62 _ rfl (by kernel_rfl)
          refine wp_value (v := .bool true) (w' := W) ?_ (hK _ _ (by simp) hI (Below.refl _ _) rfl)
          clear hfix hdep hK hk hsz
          go_simp
        | 64, hk =>
          cases hk
          refine .inl ⟨wanted_none rfl, fun K hK => ?_⟩
          have e109 : a.tmps.getD 109 undef = .bool true := hdep 60 _ rfl (by kernel_rfl)
          have e112 : a.tmps.getD 112 undef = .bool true := hdep 63 _ rfl (by kernel_rfl)
          refine wp_value (v := .bool true) (w' := W) ?_ (hK _ _ (by simp) hI (Below.refl _ _) rfl)
          clear hfix hdep hK hk hsz
          go_simp
        | 65, hk =>
          cases hk
          refine .inl ⟨wanted_none rfl, fun K hK => ?_⟩
          have e113 : a.tmps.getD 113 undef = .bool true := hdep 64 _ rfl (by kernel_rfl)
          refine wp_value (v := .bool true) (w' := W) ?_ (hK _ _ (by simp) hI (Below.refl _ _) rfl)
          clear hfix hdep hK hk hsz
          go_simp
        | 66, hk =>
          cases hk
          refine .inl ⟨?hg, fun K hK => ?_⟩
          case hg => exact wanted_is (c := true) (b := true) rfl rfl rfl (hdep 65 _ rfl (by kernel_rfl))
          have e11 : a.tmps.getD 11 undef = .pointer (some ⟨zb, 0, none⟩) := hfix 11 (by kernel_rfl)
          obtain ⟨hpl, c0, c1, c2, c3, c4⟩ := hI.Z.box
          refine wp_value (v := pcV z lz) (w' := W) ?_ (hK _ _ (by simp) hI (Below.refl _ _) rfl)
          clear hfix hdep hK hk hsz
          go_simp
        | 67, hk =>
          cases hk
          refine .inl ⟨?hg, fun K hK => ?_⟩
          case hg => exact wanted_is (c := true) (b := true) rfl rfl rfl (hdep 65 _ rfl (by kernel_rfl))
          have e115 : a.tmps.getD 115 undef = pcV z lz := hdep 66 _ rfl (by kernel_rfl)
          have hcon := iSpl_any z lz W HZ.out.few.rules hI.Z.inn.rules
          refine wp_calls 13 #[pcV z lz] ?_ hcon ?_
          · clear hfix hdep hK hk hsz hcon
            go_simp
            try rfl
          · rintro e W2 ⟨A, a7, c7, rfl, o7⟩
            exact ⟨_, rfl, hK _ _ (by simp) (hI.below A) A ⟨a7, c7, by rw [HQ.out], by rw [HQ.out]; exact .of_own o7⟩⟩
        | 68, hk =>
          cases hk
          refine .inl ⟨?hg, fun K hK => ?_⟩
          case hg => exact wanted_is (c := true) (b := true) rfl rfl rfl (hdep 65 _ rfl (by kernel_rfl))
          have e11 : a.tmps.getD 11 undef = .pointer (some ⟨zb, 0, none⟩) := hfix 11 (by kernel_rfl)
          obtain ⟨hpl, c0, c1, c2, c3, c4⟩ := hI.Z.box
          refine wp_value (v := pcV z lz) (w' := W) ?_ (hK _ _ (by simp) hI (Below.refl _ _) rfl)
          clear hfix hdep hK hk hsz
          go_simp
        | 69, hk =>
          cases hk
          refine .inl ⟨?hg, fun K hK => ?_⟩
          case hg => exact wanted_is (c := true) (b := true) rfl rfl rfl (hdep 65 _ rfl (by kernel_rfl))
          have e117 : a.tmps.getD 117 undef = pcV z lz := hdep 68 _ rfl (by kernel_rfl)
          have hcon := sSpl_any z lz W HZ.out.few.rules hI.Z.inn.rules
          refine wp_calls 28 #[pcV z lz] ?_ hcon ?_
          · clear hfix hdep hK hk hsz hcon
            go_simp
            try rfl
          · rintro e W2 ⟨A, a7, c7, rfl, o7⟩
            exact ⟨_, rfl, hK _ _ (by simp) (hI.below A) A ⟨a7, c7, by rw [HQ.out], by rw [HQ.out]; exact .of_own o7⟩⟩
        | 70, hk =>
          cases hk
          refine .inl ⟨?hg, fun K hK => ?_⟩
          case hg => exact wanted_is (c := true) (b := true) rfl rfl rfl (hdep 65 _ rfl (by kernel_rfl))
          obtain ⟨u116, n116, e116, k116⟩ := hdep 67 _ rfl (by kernel_rfl)
          change a.tmps.getD 116 undef = _ at e116
          obtain ⟨u118, n118, e118, k118⟩ := hdep 69 _ rfl (by kernel_rfl)
          change a.tmps.getD 118 undef = _ at e118
          have hcon := sameInts_any u116 u118 n116 n118 qs W (by omega) k116 k118
          refine wp_calls 27 #[.slice u116 qs.length n116, .slice u118 qs.length n118] ?_ hcon ?_
          · clear hfix hdep hK hk hsz hcon
            go_simp
            try rfl
          · rintro e W2 ⟨rfl, A⟩
            exact ⟨_, rfl, hK _ _ (by simp) (hI.below A) A rfl⟩
        | 71, hk =>
          cases hk
          refine .inl ⟨wanted_none rfl, fun K hK => ?_⟩
          have e114 : a.tmps.getD 114 undef = .bool true := hdep 65 _ rfl (by kernel_rfl)
          have e119 : a.tmps.getD 119 undef = .bool true := hdep 70 _ rfl (by kernel_rfl)
          refine wp_value (v := .bool true) (w' := W) ?_ (hK _ _ (by simp) hI (Below.refl _ _) rfl)
          clear hfix hdep hK hk hsz
          go_simp
        | 72, hk =>
          cases hk
          refine .inl ⟨wanted_none rfl, fun K hK => ?_⟩
          have e120 : a.tmps.getD 120 undef = .bool true := hdep 71 _ rfl (by kernel_rfl)
          refine wp_value (v := .bool true) (w' := W) ?_ (hK _ _ (by simp) hI (Below.refl _ _) rfl)
          clear hfix hdep hK hk hsz
          go_simp
        | k + 73, hk => cases hk
      case refine_2 =>
        intro a W hI hd hsz hfix hpost
        have e2 : a.tmps.getD 2 undef = .bool true := hpost 72 _ rfl
        have hd' : a.defers = [] := hd
        have hR : (results Try.f3 a.tmps).run Try.prog W = .ok (.bool true) W := by
          simp [results, Try.results3, go_sem]
          simpa using e2
        clear hpost hfix hsz hd
        have hB : bodyPost Try.prog Try.f3 (fun e w' => e = Ending.returned (Value.bool true) ∧ Below w.heap.size w w') .ret a W := bodyPost_ret hR hd' ⟨rfl, hI.bel⟩
        first
          | (dsimp only [Exit.then]; apply_assumption; exact wp_ret hB)
          | (go_wp2; exact hB)
          | (unfold Exit.then; dsimp only; apply_assumption; exact wp_ret hB)
end Go.Proofs.Ytokfemlcamnaaaa
