/- Whether words are right: spec.l17Ok. Its test by tools/genokw.py. -/
import Derived.Test.YtabbfpkhlofccaaGreatDoorOkW
import Derived.Test.YtabbfpkhlofccaaGreatDoorWdS
import Derived.Test.YtabbfpkhlofccaaGreatDoorFuI
import Derived.Test.YtabbfpkhlofccaaGreatDoorRegG
import Derived.BigQuiet
import Derived.Deep.QuietTactic
namespace Go.Proofs.YtabbfpkhlofccaaGreatDoor
open Go.RowKit

theorem arr43 (t : Array Value) (h : t.size = 43) : ∃ x0 x1 x2 x3 x4 x5 x6 x7 x8 x9 x10 x11 x12 x13 x14 x15 x16 x17 x18 x19 x20 x21 x22 x23 x24 x25 x26 x27 x28 x29 x30 x31 x32 x33 x34 x35 x36 x37 x38 x39 x40 x41 x42, t = #[x0, x1, x2, x3, x4, x5, x6, x7, x8, x9, x10, x11, x12, x13, x14, x15, x16, x17, x18, x19, x20, x21, x22, x23, x24, x25, x26, x27, x28, x29, x30, x31, x32, x33, x34, x35, x36, x37, x38, x39, x40, x41, x42] := by
  obtain ⟨l⟩ := t
  match l, h with
  | x0 :: x1 :: x2 :: x3 :: x4 :: x5 :: x6 :: x7 :: x8 :: x9 :: x10 :: x11 :: x12 :: x13 :: x14 :: x15 :: x16 :: x17 :: x18 :: x19 :: x20 :: x21 :: x22 :: x23 :: x24 :: x25 :: x26 :: x27 :: x28 :: x29 :: x30 :: x31 :: x32 :: x33 :: x34 :: x35 :: x36 :: x37 :: x38 :: x39 :: x40 :: x41 :: x42 :: [], _ => exact ⟨_, _, _, _, _, _, _, _, _, _, _, _, _, _, _, _, _, _, _, _, _, _, _, _, _, _, _, _, _, _, _, _, _, _, _, _, _, _, _, _, _, _, _, rfl⟩
/-- What each operation of the test leaves where there is not one word. -/
def okOff (g n cv k m : Nat) (x : ByteArray) : Nat → Value → World → Prop
  | 0 => fun v _ => v = .slice (some ⟨g, 0, none⟩) n cv
  | 1 => fun v _ => v = .int .i64 k
  | 2 => fun v _ => v = .pointer (some ⟨g, k, none⟩)
  | 3 => fun v _ => v = .string x
  | 4 => fun v _ => v = .bool false
  | 5 => fun v _ => v = .bool false
  | 6 => fun v _ => v = .slice (some ⟨g, 0, none⟩) n cv
  | 7 => fun v _ => v = .int .i64 k
  | 8 => fun v _ => v = .pointer (some ⟨g, k, none⟩)
  | 9 => fun v _ => v = .string x
  | 10 => fun v _ => ∃ a2 c2, v = .slice a2 m c2
  | 11 => fun v _ => v = .int .i64 m
  | 12 => fun v _ => v = .bool true
  | 13 => fun v _ => v = .bool true
  | 14 => fun v _ => v = .bool true
  | 29 => fun v _ => v = .bool true
  | _ => fun _ _ => True
theorem okOff_stab (g n cv k m : Nat) (x : ByteArray) (i : Nat) (v : Value) (W W' : World) (h : okOff g n cv k m x i v W) : okOff g n cv k m x i v W' := by
  unfold okOff at h ⊢
  split at h <;> first | exact h | trivial
/-- What each leaves where there is one word. -/
def okOn (g n cv k : Nat) (x y : ByteArray) (bb : Bool) : Nat → Value → World → Prop
  | 0 => fun v _ => v = .slice (some ⟨g, 0, none⟩) n cv
  | 1 => fun v _ => v = .int .i64 k
  | 2 => fun v _ => v = .pointer (some ⟨g, k, none⟩)
  | 3 => fun v _ => v = .string x
  | 4 => fun v _ => v = .bool false
  | 5 => fun v _ => v = .bool false
  | 6 => fun v _ => v = .slice (some ⟨g, 0, none⟩) n cv
  | 7 => fun v _ => v = .int .i64 k
  | 8 => fun v _ => v = .pointer (some ⟨g, k, none⟩)
  | 9 => fun v _ => v = .string x
  | 10 => fun v W => ∃ g2 c2, v = .slice (some ⟨g2, 0, none⟩) 1 c2 ∧ g2 < W.heap.size ∧ W.cell? ⟨g2, 0, none⟩ = some (.string y)
  | 11 => fun v _ => v = .int .i64 1
  | 12 => fun v _ => v = .bool false
  | 13 => fun v _ => v = .bool false
  | 14 => fun v _ => v = .bool false
  | 15 => fun v _ => v = .slice (some ⟨g, 0, none⟩) n cv
  | 16 => fun v _ => v = .int .i64 k
  | 17 => fun v _ => v = .pointer (some ⟨g, k, none⟩)
  | 18 => fun v _ => v = .string x
  | 19 => fun v W => ∃ g2 c2, v = .slice (some ⟨g2, 0, none⟩) 1 c2 ∧ g2 < W.heap.size ∧ W.cell? ⟨g2, 0, none⟩ = some (.string y)
  | 20 => fun v W => ∃ g2, v = .pointer (some ⟨g2, 0, none⟩) ∧ g2 < W.heap.size ∧ W.cell? ⟨g2, 0, none⟩ = some (.string y)
  | 21 => fun v _ => v = .string y
  | 22 => fun v _ => v = .int .i64 y.size
  | 23 => fun v _ => v = .slice (some ⟨g, 0, none⟩) n cv
  | 24 => fun v _ => v = .int .i64 k
  | 25 => fun v _ => v = .pointer (some ⟨g, k, none⟩)
  | 26 => fun v _ => v = .string x
  | 27 => fun v _ => v = .int .i64 x.size
  | 28 => fun v _ => v = .bool bb
  | 29 => fun v _ => v = .bool bb
  | _ => fun _ _ => True
theorem okOn_stab (g n cv k : Nat) (x y : ByteArray) (bb : Bool) (i : Nat) (v : Value) (W W' : World) (h : okOn g n cv k x y bb i v W) (hB : Below W.heap.size W W') : okOn g n cv k x y bb i v W' := by
  unfold okOn at h ⊢
  split at h
  all_goals first | exact h | trivial | (obtain ⟨g2, c2, e, h1, h2⟩ := h; exact ⟨g2, c2, e, Nat.lt_of_lt_of_le h1 hB.size, (hB.cell h1).trans h2⟩) | (obtain ⟨g2, e, h1, h2⟩ := h; exact ⟨g2, e, Nat.lt_of_lt_of_le h1 hB.size, (hB.cell h1).trans h2⟩)

set_option maxHeartbeats 4000000 in
set_option maxRecDepth 100000 in
theorem sOk_any (v : Value) (b n : Nat) (ws : List ByteArray) (w : World) (hn : n ≤ 4611686018427387904) (hsz : ∀ x ∈ ws, x.size ≤ 4194304) (hown : w.ownsRow b 9 1 v n (strVals ws)) :
    Calls Tryz.prog 33 #[v] w fun e w' => e = .returned (.bool (wsOk ws)) ∧ Below w.heap.size w w' := by
  have hl : ws.length = n := by have := hown.1; simpa [strVals] using this
  obtain ⟨ao, cv, rfl⟩ := owns_slice hown
  have HL := hidOf hl
  have HS := hidOf hsz
  clear hl hsz
  go_enter Tryz.func33, Tryz.ntmps33
  go_wp2
  go_loopw [3] (fun i wr => ∃ k : Nat, k ≤ n ∧ i = .int .i64 k ∧ Hid (∀ j x, j < k → ws[j]? = some x → wOk x = true) ∧ Below w.heap.size w wr) (fun i _ => n - (intOf i).toNat)
  case atStart => exact ⟨0, Nat.zero_le _, rfl, hidOf (fun j x h => by omega), Below.refl _ _⟩
  case round =>
    obtain ⟨k, hk, rfl, HA, hb⟩ := hrel
    by_cases hlt : k < n
    · obtain ⟨x, hx⟩ : ∃ x, ws[k]? = some x := ⟨_, List.getElem?_eq_getElem (by rw [HL.out]; exact hlt)⟩
      obtain ⟨g, rfl⟩ := owns_at hown (by omega)
      have hown2 := owns_below hown hb
      have hc := str_at hown2 hlt hx
      have hgl := (hown2.lt g rfl).2
      have hxs := HS.out x (List.mem_of_getElem? hx)
      have HX := hidOf hx
      have hsw := hb.size
      clear hx hown2
      have hA : (0 : Int) ≤ (k : Int) := by omega
      have hB : (k : Int) < (n : Int) := by omega
      by_cases h0 : x.size = 0
      · have hE : x.toList.isEmpty = true := by rw [str_nothing, decide_eq_true_eq]; exact h0
        go_wp2
        go_quiet (fail)
        go_wp2
        go_ret
        exact ⟨ret_bool (ok_not HX.out (by unfold wOk; rw [decide_eq_false (by simp [h0])]; rfl)).symm, bel_drewN hb _⟩
      · have hE : x.toList.isEmpty = false := by rw [str_nothing, decide_eq_false_iff_not]; exact h0
        have q := fun W => sWords_any x W (by omega)
        by_cases h1 : (wds x).length = 1
        · obtain ⟨y, hY⟩ := List.length_eq_one_iff.1 h1
          have HW : Hid (∀ W e w', StrsAns (wds x) 9 W e w' → Below W.heap.size W w' ∧ ∃ g c, e = .returned (.slice (some ⟨g, 0, none⟩) 1 c) ∧ g < w'.heap.size ∧ w'.cell? ⟨g, 0, none⟩ = some (.string y)) := hidOf (by
            rintro W e w' ⟨hB, v, rfl, ho⟩
            rw [hY] at ho
            obtain ⟨a, c, rfl⟩ := owns_slice ho
            obtain ⟨g, rfl⟩ := owns_at ho (by simp)
            exact ⟨hB, g, c, rfl, (ho.lt g rfl).2, str_at (n := 1) ho (by simp) rfl⟩)
          have HY := hidOf hY
          clear h1 hY
          by_cases h2 : y.size = x.size
          · obtain ⟨bb, hbb⟩ : ∃ bb, bb = false := ⟨_, rfl⟩
            have h2' : ((y.size : Int) != (x.size : Int)) = bb := by rw [hbb]; simp [h2]
            have HZ := hidOf h2
            have HBB := hidOf hbb
            clear h2 hbb
            go_wp2
            refine wp_region_guards (by kernel_rfl) (fun W => Below wr.heap.size wr W) (fun W W' => Below W.heap.size W W') (okOn g n cv k x y bb) ((Below.refl _ wr).drew) (by kernel_rfl) (fun i v W W' h _ hB => okOn_stab g n cv k x y bb i v W W' h hB) ?_ ?_
            case refine_1 =>
              intro kk oo hk aa W hI hsz hfix hdep
              match kk, hk with
              | 0, hk =>
                cases hk
                refine .inl ⟨wanted_none rfl, fun K hK => ?_⟩
                have e0 : aa.tmps.getD 0 undef = .slice (some ⟨g, 0, none⟩) n cv := hfix 0 (by kernel_rfl)
                refine wp_value (v := .slice (some ⟨g, 0, none⟩) n cv) (w' := W) ?_ (hK _ _ (by simp) hI (Below.refl _ _) rfl)
                clear hfix hdep hK hk hsz hI HW q
                go_simp
              | 1, hk =>
                cases hk
                refine .inl ⟨wanted_none rfl, fun K hK => ?_⟩
                have e3 : aa.tmps.getD 3 undef = .int .i64 k := hfix 3 (by kernel_rfl)
                refine wp_value (v := .int .i64 k) (w' := W) ?_ (hK _ _ (by simp) hI (Below.refl _ _) rfl)
                clear hfix hdep hK hk hsz hI HW q
                go_simp
              | 2, hk =>
                cases hk
                refine .inl ⟨wanted_none rfl, fun K hK => ?_⟩
                have e10 : aa.tmps.getD 10 undef = .slice (some ⟨g, 0, none⟩) n cv := hdep 0 _ rfl (by kernel_rfl)
                have e11 : aa.tmps.getD 11 undef = .int .i64 k := hdep 1 _ rfl (by kernel_rfl)
                refine wp_value (v := .pointer (some ⟨g, k, none⟩)) (w' := W) ?_ (hK _ _ (by simp) hI (Below.refl _ _) rfl)
                clear hfix hdep hK hk hsz hI HW q
                go_simp
              | 3, hk =>
                cases hk
                refine .inl ⟨wanted_none rfl, fun K hK => ?_⟩
                have e12 : aa.tmps.getD 12 undef = .pointer (some ⟨g, k, none⟩) := hdep 2 _ rfl (by kernel_rfl)
                have hc1 : W.cell? ⟨g, k, none⟩ = some (.string x) := (hI.cell hgl).trans hc
                refine wp_value (v := .string x) (w' := W) ?_ (hK _ _ (by simp) hI (Below.refl _ _) rfl)
                clear hfix hdep hK hk hsz hI HW q
                go_simp
              | 4, hk =>
                cases hk
                refine .inl ⟨wanted_none rfl, fun K hK => ?_⟩
                have e13 : aa.tmps.getD 13 undef = .string x := hdep 3 _ rfl (by kernel_rfl)
                refine wp_value (v := .bool false) (w' := W) ?_ (hK _ _ (by simp) hI (Below.refl _ _) rfl)
                clear hfix hdep hK hk hsz hI HW q
                go_simp
              | 5, hk =>
                cases hk
                refine .inl ⟨wanted_none rfl, fun K hK => ?_⟩
                have e14 : aa.tmps.getD 14 undef = .bool false := hdep 4 _ rfl (by kernel_rfl)
                refine wp_value (v := .bool false) (w' := W) ?_ (hK _ _ (by simp) hI (Below.refl _ _) rfl)
                clear hfix hdep hK hk hsz hI HW q
                go_simp
              | 6, hk =>
                cases hk
                refine .inl ⟨(wanted_is (c := false) (b := false) rfl rfl rfl (hdep 5 _ rfl (by kernel_rfl))).trans rfl, fun K hK => ?_⟩
                have e0 : aa.tmps.getD 0 undef = .slice (some ⟨g, 0, none⟩) n cv := hfix 0 (by kernel_rfl)
                refine wp_value (v := .slice (some ⟨g, 0, none⟩) n cv) (w' := W) ?_ (hK _ _ (by simp) hI (Below.refl _ _) rfl)
                clear hfix hdep hK hk hsz hI HW q
                go_simp
              | 7, hk =>
                cases hk
                refine .inl ⟨(wanted_is (c := false) (b := false) rfl rfl rfl (hdep 5 _ rfl (by kernel_rfl))).trans rfl, fun K hK => ?_⟩
                have e3 : aa.tmps.getD 3 undef = .int .i64 k := hfix 3 (by kernel_rfl)
                refine wp_value (v := .int .i64 k) (w' := W) ?_ (hK _ _ (by simp) hI (Below.refl _ _) rfl)
                clear hfix hdep hK hk hsz hI HW q
                go_simp
              | 8, hk =>
                cases hk
                refine .inl ⟨(wanted_is (c := false) (b := false) rfl rfl rfl (hdep 5 _ rfl (by kernel_rfl))).trans rfl, fun K hK => ?_⟩
                have e16 : aa.tmps.getD 16 undef = .slice (some ⟨g, 0, none⟩) n cv := hdep 6 _ rfl (by kernel_rfl)
                have e17 : aa.tmps.getD 17 undef = .int .i64 k := hdep 7 _ rfl (by kernel_rfl)
                refine wp_value (v := .pointer (some ⟨g, k, none⟩)) (w' := W) ?_ (hK _ _ (by simp) hI (Below.refl _ _) rfl)
                clear hfix hdep hK hk hsz hI HW q
                go_simp
              | 9, hk =>
                cases hk
                refine .inl ⟨(wanted_is (c := false) (b := false) rfl rfl rfl (hdep 5 _ rfl (by kernel_rfl))).trans rfl, fun K hK => ?_⟩
                have e18 : aa.tmps.getD 18 undef = .pointer (some ⟨g, k, none⟩) := hdep 8 _ rfl (by kernel_rfl)
                have hc1 : W.cell? ⟨g, k, none⟩ = some (.string x) := (hI.cell hgl).trans hc
                refine wp_value (v := .string x) (w' := W) ?_ (hK _ _ (by simp) hI (Below.refl _ _) rfl)
                clear hfix hdep hK hk hsz hI HW q
                go_simp
              | 10, hk =>
                cases hk
                refine .inl ⟨(wanted_is (c := false) (b := false) rfl rfl rfl (hdep 5 _ rfl (by kernel_rfl))).trans rfl, fun K hK => ?_⟩
                have e19 : aa.tmps.getD 19 undef = .string x := hdep 9 _ rfl (by kernel_rfl)
                have hcon := q W
                refine wp_calls 20 #[.string x] ?_ hcon ?_
                · clear hfix hdep hK hk hsz hcon hI
                  go_simp
                  try rfl
                · intro e W2 hans
                  obtain ⟨A, g2, c2, rfl, hg2, hy2⟩ := HW.out _ _ _ hans
                  exact ⟨_, rfl, hK _ _ (by simp) (hI.trans (A.mono hI.size)) A ⟨g2, c2, rfl, hg2, hy2⟩⟩
              | 11, hk =>
                cases hk
                refine .inl ⟨(wanted_is (c := false) (b := false) rfl rfl rfl (hdep 5 _ rfl (by kernel_rfl))).trans rfl, fun K hK => ?_⟩
                obtain ⟨g2, c2, e20, hg2, hy2⟩ : ∃ g2 c2, aa.tmps.getD 20 undef = .slice (some ⟨g2, 0, none⟩) 1 c2 ∧ g2 < W.heap.size ∧ W.cell? ⟨g2, 0, none⟩ = some (.string y) := hdep 10 _ rfl (by kernel_rfl)
                refine wp_value (v := .int .i64 1) (w' := W) ?_ (hK _ _ (by simp) hI (Below.refl _ _) rfl)
                clear hfix hdep hK hk hsz hI HW q
                go_simp
              | 12, hk =>
                cases hk
                refine .inl ⟨(wanted_is (c := false) (b := false) rfl rfl rfl (hdep 5 _ rfl (by kernel_rfl))).trans rfl, fun K hK => ?_⟩
                have e21 : aa.tmps.getD 21 undef = .int .i64 1 := hdep 11 _ rfl (by kernel_rfl)
                refine wp_value (v := .bool false) (w' := W) ?_ (hK _ _ (by simp) hI (Below.refl _ _) rfl)
                clear hfix hdep hK hk hsz hI HW q
                go_simp
              | 13, hk =>
                cases hk
                refine .inl ⟨wanted_none rfl, fun K hK => ?_⟩
                have e15 : aa.tmps.getD 15 undef = .bool false := hdep 5 _ rfl (by kernel_rfl)
                have e22 : aa.tmps.getD 22 undef = .bool false := hdep 12 _ rfl (by kernel_rfl)
                refine wp_value (v := .bool false) (w' := W) ?_ (hK _ _ (by simp) hI (Below.refl _ _) rfl)
                clear hfix hdep hK hk hsz hI HW q
                go_simp
              | 14, hk =>
                cases hk
                refine .inl ⟨wanted_none rfl, fun K hK => ?_⟩
                have e23 : aa.tmps.getD 23 undef = .bool false := hdep 13 _ rfl (by kernel_rfl)
                refine wp_value (v := .bool false) (w' := W) ?_ (hK _ _ (by simp) hI (Below.refl _ _) rfl)
                clear hfix hdep hK hk hsz hI HW q
                go_simp
              | 15, hk =>
                cases hk
                refine .inl ⟨(wanted_is (c := false) (b := false) rfl rfl rfl (hdep 14 _ rfl (by kernel_rfl))).trans rfl, fun K hK => ?_⟩
                have e0 : aa.tmps.getD 0 undef = .slice (some ⟨g, 0, none⟩) n cv := hfix 0 (by kernel_rfl)
                refine wp_value (v := .slice (some ⟨g, 0, none⟩) n cv) (w' := W) ?_ (hK _ _ (by simp) hI (Below.refl _ _) rfl)
                clear hfix hdep hK hk hsz hI HW q
                go_simp
              | 16, hk =>
                cases hk
                refine .inl ⟨(wanted_is (c := false) (b := false) rfl rfl rfl (hdep 14 _ rfl (by kernel_rfl))).trans rfl, fun K hK => ?_⟩
                have e3 : aa.tmps.getD 3 undef = .int .i64 k := hfix 3 (by kernel_rfl)
                refine wp_value (v := .int .i64 k) (w' := W) ?_ (hK _ _ (by simp) hI (Below.refl _ _) rfl)
                clear hfix hdep hK hk hsz hI HW q
                go_simp
              | 17, hk =>
                cases hk
                refine .inl ⟨(wanted_is (c := false) (b := false) rfl rfl rfl (hdep 14 _ rfl (by kernel_rfl))).trans rfl, fun K hK => ?_⟩
                have e25 : aa.tmps.getD 25 undef = .slice (some ⟨g, 0, none⟩) n cv := hdep 15 _ rfl (by kernel_rfl)
                have e26 : aa.tmps.getD 26 undef = .int .i64 k := hdep 16 _ rfl (by kernel_rfl)
                refine wp_value (v := .pointer (some ⟨g, k, none⟩)) (w' := W) ?_ (hK _ _ (by simp) hI (Below.refl _ _) rfl)
                clear hfix hdep hK hk hsz hI HW q
                go_simp
              | 18, hk =>
                cases hk
                refine .inl ⟨(wanted_is (c := false) (b := false) rfl rfl rfl (hdep 14 _ rfl (by kernel_rfl))).trans rfl, fun K hK => ?_⟩
                have e27 : aa.tmps.getD 27 undef = .pointer (some ⟨g, k, none⟩) := hdep 17 _ rfl (by kernel_rfl)
                have hc1 : W.cell? ⟨g, k, none⟩ = some (.string x) := (hI.cell hgl).trans hc
                refine wp_value (v := .string x) (w' := W) ?_ (hK _ _ (by simp) hI (Below.refl _ _) rfl)
                clear hfix hdep hK hk hsz hI HW q
                go_simp
              | 19, hk =>
                cases hk
                refine .inl ⟨(wanted_is (c := false) (b := false) rfl rfl rfl (hdep 14 _ rfl (by kernel_rfl))).trans rfl, fun K hK => ?_⟩
                have e28 : aa.tmps.getD 28 undef = .string x := hdep 18 _ rfl (by kernel_rfl)
                have hcon := q W
                refine wp_calls 20 #[.string x] ?_ hcon ?_
                · clear hfix hdep hK hk hsz hcon hI
                  go_simp
                  try rfl
                · intro e W2 hans
                  obtain ⟨A, g2, c2, rfl, hg2, hy2⟩ := HW.out _ _ _ hans
                  exact ⟨_, rfl, hK _ _ (by simp) (hI.trans (A.mono hI.size)) A ⟨g2, c2, rfl, hg2, hy2⟩⟩
              | 20, hk =>
                cases hk
                refine .inl ⟨(wanted_is (c := false) (b := false) rfl rfl rfl (hdep 14 _ rfl (by kernel_rfl))).trans rfl, fun K hK => ?_⟩
                obtain ⟨g2, c2, e29, hg2, hy2⟩ : ∃ g2 c2, aa.tmps.getD 29 undef = .slice (some ⟨g2, 0, none⟩) 1 c2 ∧ g2 < W.heap.size ∧ W.cell? ⟨g2, 0, none⟩ = some (.string y) := hdep 19 _ rfl (by kernel_rfl)
                refine wp_value (v := .pointer (some ⟨g2, 0, none⟩)) (w' := W) ?_ (hK _ _ (by simp) hI (Below.refl _ _) ⟨g2, rfl, hg2, hy2⟩)
                clear hfix hdep hK hk hsz hI HW q
                go_simp
              | 21, hk =>
                cases hk
                refine .inl ⟨(wanted_is (c := false) (b := false) rfl rfl rfl (hdep 14 _ rfl (by kernel_rfl))).trans rfl, fun K hK => ?_⟩
                obtain ⟨g2, e30, hg2, hy2⟩ : ∃ g2, aa.tmps.getD 30 undef = .pointer (some ⟨g2, 0, none⟩) ∧ g2 < W.heap.size ∧ W.cell? ⟨g2, 0, none⟩ = some (.string y) := hdep 20 _ rfl (by kernel_rfl)
                refine wp_value (v := .string y) (w' := W) ?_ (hK _ _ (by simp) hI (Below.refl _ _) rfl)
                clear hfix hdep hK hk hsz hI HW q
                go_simp
              | 22, hk =>
                cases hk
                refine .inl ⟨(wanted_is (c := false) (b := false) rfl rfl rfl (hdep 14 _ rfl (by kernel_rfl))).trans rfl, fun K hK => ?_⟩
                have e31 : aa.tmps.getD 31 undef = .string y := hdep 21 _ rfl (by kernel_rfl)
                refine wp_value (v := .int .i64 y.size) (w' := W) ?_ (hK _ _ (by simp) hI (Below.refl _ _) rfl)
                clear hfix hdep hK hk hsz hI HW q
                go_simp
              | 23, hk =>
                cases hk
                refine .inl ⟨(wanted_is (c := false) (b := false) rfl rfl rfl (hdep 14 _ rfl (by kernel_rfl))).trans rfl, fun K hK => ?_⟩
                have e0 : aa.tmps.getD 0 undef = .slice (some ⟨g, 0, none⟩) n cv := hfix 0 (by kernel_rfl)
                refine wp_value (v := .slice (some ⟨g, 0, none⟩) n cv) (w' := W) ?_ (hK _ _ (by simp) hI (Below.refl _ _) rfl)
                clear hfix hdep hK hk hsz hI HW q
                go_simp
              | 24, hk =>
                cases hk
                refine .inl ⟨(wanted_is (c := false) (b := false) rfl rfl rfl (hdep 14 _ rfl (by kernel_rfl))).trans rfl, fun K hK => ?_⟩
                have e3 : aa.tmps.getD 3 undef = .int .i64 k := hfix 3 (by kernel_rfl)
                refine wp_value (v := .int .i64 k) (w' := W) ?_ (hK _ _ (by simp) hI (Below.refl _ _) rfl)
                clear hfix hdep hK hk hsz hI HW q
                go_simp
              | 25, hk =>
                cases hk
                refine .inl ⟨(wanted_is (c := false) (b := false) rfl rfl rfl (hdep 14 _ rfl (by kernel_rfl))).trans rfl, fun K hK => ?_⟩
                have e33 : aa.tmps.getD 33 undef = .slice (some ⟨g, 0, none⟩) n cv := hdep 23 _ rfl (by kernel_rfl)
                have e34 : aa.tmps.getD 34 undef = .int .i64 k := hdep 24 _ rfl (by kernel_rfl)
                refine wp_value (v := .pointer (some ⟨g, k, none⟩)) (w' := W) ?_ (hK _ _ (by simp) hI (Below.refl _ _) rfl)
                clear hfix hdep hK hk hsz hI HW q
                go_simp
              | 26, hk =>
                cases hk
                refine .inl ⟨(wanted_is (c := false) (b := false) rfl rfl rfl (hdep 14 _ rfl (by kernel_rfl))).trans rfl, fun K hK => ?_⟩
                have e35 : aa.tmps.getD 35 undef = .pointer (some ⟨g, k, none⟩) := hdep 25 _ rfl (by kernel_rfl)
                have hc1 : W.cell? ⟨g, k, none⟩ = some (.string x) := (hI.cell hgl).trans hc
                refine wp_value (v := .string x) (w' := W) ?_ (hK _ _ (by simp) hI (Below.refl _ _) rfl)
                clear hfix hdep hK hk hsz hI HW q
                go_simp
              | 27, hk =>
                cases hk
                refine .inl ⟨(wanted_is (c := false) (b := false) rfl rfl rfl (hdep 14 _ rfl (by kernel_rfl))).trans rfl, fun K hK => ?_⟩
                have e36 : aa.tmps.getD 36 undef = .string x := hdep 26 _ rfl (by kernel_rfl)
                refine wp_value (v := .int .i64 x.size) (w' := W) ?_ (hK _ _ (by simp) hI (Below.refl _ _) rfl)
                clear hfix hdep hK hk hsz hI HW q
                go_simp
              | 28, hk =>
                cases hk
                refine .inl ⟨(wanted_is (c := false) (b := false) rfl rfl rfl (hdep 14 _ rfl (by kernel_rfl))).trans rfl, fun K hK => ?_⟩
                have e32 : aa.tmps.getD 32 undef = .int .i64 y.size := hdep 22 _ rfl (by kernel_rfl)
                have e37 : aa.tmps.getD 37 undef = .int .i64 x.size := hdep 27 _ rfl (by kernel_rfl)
                refine wp_value (v := .bool bb) (w' := W) ?_ (hK _ _ (by simp) hI (Below.refl _ _) rfl)
                clear hfix hdep hK hk hsz hI HW q
                go_simp
              | 29, hk =>
                cases hk
                refine .inl ⟨wanted_none rfl, fun K hK => ?_⟩
                have e24 : aa.tmps.getD 24 undef = .bool false := hdep 14 _ rfl (by kernel_rfl)
                have e38 : aa.tmps.getD 38 undef = .bool bb := hdep 28 _ rfl (by kernel_rfl)
                refine wp_value (v := .bool bb) (w' := W) ?_ (hK _ _ (by simp) hI (Below.refl _ _) rfl)
                clear hfix hdep hK hk hsz hI HW q
                go_simp
            case refine_2 =>
              intro aa W hI hd hsz hfix hpost
              have e0 : aa.tmps.getD 0 undef = .slice (some ⟨g, 0, none⟩) n cv := hfix 0 (by kernel_rfl)
              have e3 : aa.tmps.getD 3 undef = .int .i64 k := hfix 3 (by kernel_rfl)
              have e39 : aa.tmps.getD 39 undef = .bool bb := hpost 29 _ rfl
              have e1 : aa.tmps.getD 1 undef = undef := hfix 1 (by kernel_rfl)
              have e40 : aa.tmps.getD 40 undef = undef := hfix 40 (by kernel_rfl)
              have e41 : aa.tmps.getD 41 undef = undef := hfix 41 (by kernel_rfl)
              have e42 : aa.tmps.getD 42 undef = undef := hfix 42 (by kernel_rfl)
              clear hfix hpost q HW
              obtain ⟨tm, df⟩ := aa
              obtain ⟨x0, x1, x2, x3, x4, x5, x6, x7, x8, x9, x10, x11, x12, x13, x14, x15, x16, x17, x18, x19, x20, x21, x22, x23, x24, x25, x26, x27, x28, x29, x30, x31, x32, x33, x34, x35, x36, x37, x38, x39, x40, x41, x42, rfl⟩ := arr43 tm hsz
              have hdf : df = [] := hd
              subst hdf
              have f0 : x0 = .slice (some ⟨g, 0, none⟩) n cv := e0
              have f3 : x3 = .int .i64 k := e3
              have f39 : x39 = .bool bb := e39
              have f1 : x1 = undef := e1
              have f40 : x40 = undef := e40
              have f41 : x41 = undef := e41
              have f42 : x42 = undef := e42
              subst f0 f3 f39 f1 f40 f41 f42
              clear e0 e3 e39 e1 e40 e41 e42 hsz hd
              have HB := hidOf (hb.trans (hI.mono hb.size))
              clear hI
              have hbf : bb = false := HBB.out
              subst hbf
              go_wp2
              go_roundw
              case rel =>
                refine ⟨k + 1, by omega, by go_num, hidOf (fun j y2 hj hy => ?_), HB.out⟩
                by_cases hjk : j = k
                · subst hjk
                  have : y2 = x := by rw [HX.out] at hy; cases hy; rfl
                  subst this
                  cases hw : wOk y2 with
                  | true => rfl
                  | false => exact absurd HZ.out (Nat.ne_of_lt (wds_not hw h0 HY.out))
                · exact HA.out j y2 (by omega) hy
              case measure => simp [intOf]; omega
          · obtain ⟨bb, hbb⟩ : ∃ bb, bb = true := ⟨_, rfl⟩
            have h2' : ((y.size : Int) != (x.size : Int)) = bb := by rw [hbb, bne_iff_ne]; omega
            have HZ := hidOf h2
            have HBB := hidOf hbb
            clear h2 hbb
            go_wp2
            refine wp_region_guards (by kernel_rfl) (fun W => Below wr.heap.size wr W) (fun W W' => Below W.heap.size W W') (okOn g n cv k x y bb) ((Below.refl _ wr).drew) (by kernel_rfl) (fun i v W W' h _ hB => okOn_stab g n cv k x y bb i v W W' h hB) ?_ ?_
            case refine_1 =>
              intro kk oo hk aa W hI hsz hfix hdep
              match kk, hk with
              | 0, hk =>
                cases hk
                refine .inl ⟨wanted_none rfl, fun K hK => ?_⟩
                have e0 : aa.tmps.getD 0 undef = .slice (some ⟨g, 0, none⟩) n cv := hfix 0 (by kernel_rfl)
                refine wp_value (v := .slice (some ⟨g, 0, none⟩) n cv) (w' := W) ?_ (hK _ _ (by simp) hI (Below.refl _ _) rfl)
                clear hfix hdep hK hk hsz hI HW q
                go_simp
              | 1, hk =>
                cases hk
                refine .inl ⟨wanted_none rfl, fun K hK => ?_⟩
                have e3 : aa.tmps.getD 3 undef = .int .i64 k := hfix 3 (by kernel_rfl)
                refine wp_value (v := .int .i64 k) (w' := W) ?_ (hK _ _ (by simp) hI (Below.refl _ _) rfl)
                clear hfix hdep hK hk hsz hI HW q
                go_simp
              | 2, hk =>
                cases hk
                refine .inl ⟨wanted_none rfl, fun K hK => ?_⟩
                have e10 : aa.tmps.getD 10 undef = .slice (some ⟨g, 0, none⟩) n cv := hdep 0 _ rfl (by kernel_rfl)
                have e11 : aa.tmps.getD 11 undef = .int .i64 k := hdep 1 _ rfl (by kernel_rfl)
                refine wp_value (v := .pointer (some ⟨g, k, none⟩)) (w' := W) ?_ (hK _ _ (by simp) hI (Below.refl _ _) rfl)
                clear hfix hdep hK hk hsz hI HW q
                go_simp
              | 3, hk =>
                cases hk
                refine .inl ⟨wanted_none rfl, fun K hK => ?_⟩
                have e12 : aa.tmps.getD 12 undef = .pointer (some ⟨g, k, none⟩) := hdep 2 _ rfl (by kernel_rfl)
                have hc1 : W.cell? ⟨g, k, none⟩ = some (.string x) := (hI.cell hgl).trans hc
                refine wp_value (v := .string x) (w' := W) ?_ (hK _ _ (by simp) hI (Below.refl _ _) rfl)
                clear hfix hdep hK hk hsz hI HW q
                go_simp
              | 4, hk =>
                cases hk
                refine .inl ⟨wanted_none rfl, fun K hK => ?_⟩
                have e13 : aa.tmps.getD 13 undef = .string x := hdep 3 _ rfl (by kernel_rfl)
                refine wp_value (v := .bool false) (w' := W) ?_ (hK _ _ (by simp) hI (Below.refl _ _) rfl)
                clear hfix hdep hK hk hsz hI HW q
                go_simp
              | 5, hk =>
                cases hk
                refine .inl ⟨wanted_none rfl, fun K hK => ?_⟩
                have e14 : aa.tmps.getD 14 undef = .bool false := hdep 4 _ rfl (by kernel_rfl)
                refine wp_value (v := .bool false) (w' := W) ?_ (hK _ _ (by simp) hI (Below.refl _ _) rfl)
                clear hfix hdep hK hk hsz hI HW q
                go_simp
              | 6, hk =>
                cases hk
                refine .inl ⟨(wanted_is (c := false) (b := false) rfl rfl rfl (hdep 5 _ rfl (by kernel_rfl))).trans rfl, fun K hK => ?_⟩
                have e0 : aa.tmps.getD 0 undef = .slice (some ⟨g, 0, none⟩) n cv := hfix 0 (by kernel_rfl)
                refine wp_value (v := .slice (some ⟨g, 0, none⟩) n cv) (w' := W) ?_ (hK _ _ (by simp) hI (Below.refl _ _) rfl)
                clear hfix hdep hK hk hsz hI HW q
                go_simp
              | 7, hk =>
                cases hk
                refine .inl ⟨(wanted_is (c := false) (b := false) rfl rfl rfl (hdep 5 _ rfl (by kernel_rfl))).trans rfl, fun K hK => ?_⟩
                have e3 : aa.tmps.getD 3 undef = .int .i64 k := hfix 3 (by kernel_rfl)
                refine wp_value (v := .int .i64 k) (w' := W) ?_ (hK _ _ (by simp) hI (Below.refl _ _) rfl)
                clear hfix hdep hK hk hsz hI HW q
                go_simp
              | 8, hk =>
                cases hk
                refine .inl ⟨(wanted_is (c := false) (b := false) rfl rfl rfl (hdep 5 _ rfl (by kernel_rfl))).trans rfl, fun K hK => ?_⟩
                have e16 : aa.tmps.getD 16 undef = .slice (some ⟨g, 0, none⟩) n cv := hdep 6 _ rfl (by kernel_rfl)
                have e17 : aa.tmps.getD 17 undef = .int .i64 k := hdep 7 _ rfl (by kernel_rfl)
                refine wp_value (v := .pointer (some ⟨g, k, none⟩)) (w' := W) ?_ (hK _ _ (by simp) hI (Below.refl _ _) rfl)
                clear hfix hdep hK hk hsz hI HW q
                go_simp
              | 9, hk =>
                cases hk
                refine .inl ⟨(wanted_is (c := false) (b := false) rfl rfl rfl (hdep 5 _ rfl (by kernel_rfl))).trans rfl, fun K hK => ?_⟩
                have e18 : aa.tmps.getD 18 undef = .pointer (some ⟨g, k, none⟩) := hdep 8 _ rfl (by kernel_rfl)
                have hc1 : W.cell? ⟨g, k, none⟩ = some (.string x) := (hI.cell hgl).trans hc
                refine wp_value (v := .string x) (w' := W) ?_ (hK _ _ (by simp) hI (Below.refl _ _) rfl)
                clear hfix hdep hK hk hsz hI HW q
                go_simp
              | 10, hk =>
                cases hk
                refine .inl ⟨(wanted_is (c := false) (b := false) rfl rfl rfl (hdep 5 _ rfl (by kernel_rfl))).trans rfl, fun K hK => ?_⟩
                have e19 : aa.tmps.getD 19 undef = .string x := hdep 9 _ rfl (by kernel_rfl)
                have hcon := q W
                refine wp_calls 20 #[.string x] ?_ hcon ?_
                · clear hfix hdep hK hk hsz hcon hI
                  go_simp
                  try rfl
                · intro e W2 hans
                  obtain ⟨A, g2, c2, rfl, hg2, hy2⟩ := HW.out _ _ _ hans
                  exact ⟨_, rfl, hK _ _ (by simp) (hI.trans (A.mono hI.size)) A ⟨g2, c2, rfl, hg2, hy2⟩⟩
              | 11, hk =>
                cases hk
                refine .inl ⟨(wanted_is (c := false) (b := false) rfl rfl rfl (hdep 5 _ rfl (by kernel_rfl))).trans rfl, fun K hK => ?_⟩
                obtain ⟨g2, c2, e20, hg2, hy2⟩ : ∃ g2 c2, aa.tmps.getD 20 undef = .slice (some ⟨g2, 0, none⟩) 1 c2 ∧ g2 < W.heap.size ∧ W.cell? ⟨g2, 0, none⟩ = some (.string y) := hdep 10 _ rfl (by kernel_rfl)
                refine wp_value (v := .int .i64 1) (w' := W) ?_ (hK _ _ (by simp) hI (Below.refl _ _) rfl)
                clear hfix hdep hK hk hsz hI HW q
                go_simp
              | 12, hk =>
                cases hk
                refine .inl ⟨(wanted_is (c := false) (b := false) rfl rfl rfl (hdep 5 _ rfl (by kernel_rfl))).trans rfl, fun K hK => ?_⟩
                have e21 : aa.tmps.getD 21 undef = .int .i64 1 := hdep 11 _ rfl (by kernel_rfl)
                refine wp_value (v := .bool false) (w' := W) ?_ (hK _ _ (by simp) hI (Below.refl _ _) rfl)
                clear hfix hdep hK hk hsz hI HW q
                go_simp
              | 13, hk =>
                cases hk
                refine .inl ⟨wanted_none rfl, fun K hK => ?_⟩
                have e15 : aa.tmps.getD 15 undef = .bool false := hdep 5 _ rfl (by kernel_rfl)
                have e22 : aa.tmps.getD 22 undef = .bool false := hdep 12 _ rfl (by kernel_rfl)
                refine wp_value (v := .bool false) (w' := W) ?_ (hK _ _ (by simp) hI (Below.refl _ _) rfl)
                clear hfix hdep hK hk hsz hI HW q
                go_simp
              | 14, hk =>
                cases hk
                refine .inl ⟨wanted_none rfl, fun K hK => ?_⟩
                have e23 : aa.tmps.getD 23 undef = .bool false := hdep 13 _ rfl (by kernel_rfl)
                refine wp_value (v := .bool false) (w' := W) ?_ (hK _ _ (by simp) hI (Below.refl _ _) rfl)
                clear hfix hdep hK hk hsz hI HW q
                go_simp
              | 15, hk =>
                cases hk
                refine .inl ⟨(wanted_is (c := false) (b := false) rfl rfl rfl (hdep 14 _ rfl (by kernel_rfl))).trans rfl, fun K hK => ?_⟩
                have e0 : aa.tmps.getD 0 undef = .slice (some ⟨g, 0, none⟩) n cv := hfix 0 (by kernel_rfl)
                refine wp_value (v := .slice (some ⟨g, 0, none⟩) n cv) (w' := W) ?_ (hK _ _ (by simp) hI (Below.refl _ _) rfl)
                clear hfix hdep hK hk hsz hI HW q
                go_simp
              | 16, hk =>
                cases hk
                refine .inl ⟨(wanted_is (c := false) (b := false) rfl rfl rfl (hdep 14 _ rfl (by kernel_rfl))).trans rfl, fun K hK => ?_⟩
                have e3 : aa.tmps.getD 3 undef = .int .i64 k := hfix 3 (by kernel_rfl)
                refine wp_value (v := .int .i64 k) (w' := W) ?_ (hK _ _ (by simp) hI (Below.refl _ _) rfl)
                clear hfix hdep hK hk hsz hI HW q
                go_simp
              | 17, hk =>
                cases hk
                refine .inl ⟨(wanted_is (c := false) (b := false) rfl rfl rfl (hdep 14 _ rfl (by kernel_rfl))).trans rfl, fun K hK => ?_⟩
                have e25 : aa.tmps.getD 25 undef = .slice (some ⟨g, 0, none⟩) n cv := hdep 15 _ rfl (by kernel_rfl)
                have e26 : aa.tmps.getD 26 undef = .int .i64 k := hdep 16 _ rfl (by kernel_rfl)
                refine wp_value (v := .pointer (some ⟨g, k, none⟩)) (w' := W) ?_ (hK _ _ (by simp) hI (Below.refl _ _) rfl)
                clear hfix hdep hK hk hsz hI HW q
                go_simp
              | 18, hk =>
                cases hk
                refine .inl ⟨(wanted_is (c := false) (b := false) rfl rfl rfl (hdep 14 _ rfl (by kernel_rfl))).trans rfl, fun K hK => ?_⟩
                have e27 : aa.tmps.getD 27 undef = .pointer (some ⟨g, k, none⟩) := hdep 17 _ rfl (by kernel_rfl)
                have hc1 : W.cell? ⟨g, k, none⟩ = some (.string x) := (hI.cell hgl).trans hc
                refine wp_value (v := .string x) (w' := W) ?_ (hK _ _ (by simp) hI (Below.refl _ _) rfl)
                clear hfix hdep hK hk hsz hI HW q
                go_simp
              | 19, hk =>
                cases hk
                refine .inl ⟨(wanted_is (c := false) (b := false) rfl rfl rfl (hdep 14 _ rfl (by kernel_rfl))).trans rfl, fun K hK => ?_⟩
                have e28 : aa.tmps.getD 28 undef = .string x := hdep 18 _ rfl (by kernel_rfl)
                have hcon := q W
                refine wp_calls 20 #[.string x] ?_ hcon ?_
                · clear hfix hdep hK hk hsz hcon hI
                  go_simp
                  try rfl
                · intro e W2 hans
                  obtain ⟨A, g2, c2, rfl, hg2, hy2⟩ := HW.out _ _ _ hans
                  exact ⟨_, rfl, hK _ _ (by simp) (hI.trans (A.mono hI.size)) A ⟨g2, c2, rfl, hg2, hy2⟩⟩
              | 20, hk =>
                cases hk
                refine .inl ⟨(wanted_is (c := false) (b := false) rfl rfl rfl (hdep 14 _ rfl (by kernel_rfl))).trans rfl, fun K hK => ?_⟩
                obtain ⟨g2, c2, e29, hg2, hy2⟩ : ∃ g2 c2, aa.tmps.getD 29 undef = .slice (some ⟨g2, 0, none⟩) 1 c2 ∧ g2 < W.heap.size ∧ W.cell? ⟨g2, 0, none⟩ = some (.string y) := hdep 19 _ rfl (by kernel_rfl)
                refine wp_value (v := .pointer (some ⟨g2, 0, none⟩)) (w' := W) ?_ (hK _ _ (by simp) hI (Below.refl _ _) ⟨g2, rfl, hg2, hy2⟩)
                clear hfix hdep hK hk hsz hI HW q
                go_simp
              | 21, hk =>
                cases hk
                refine .inl ⟨(wanted_is (c := false) (b := false) rfl rfl rfl (hdep 14 _ rfl (by kernel_rfl))).trans rfl, fun K hK => ?_⟩
                obtain ⟨g2, e30, hg2, hy2⟩ : ∃ g2, aa.tmps.getD 30 undef = .pointer (some ⟨g2, 0, none⟩) ∧ g2 < W.heap.size ∧ W.cell? ⟨g2, 0, none⟩ = some (.string y) := hdep 20 _ rfl (by kernel_rfl)
                refine wp_value (v := .string y) (w' := W) ?_ (hK _ _ (by simp) hI (Below.refl _ _) rfl)
                clear hfix hdep hK hk hsz hI HW q
                go_simp
              | 22, hk =>
                cases hk
                refine .inl ⟨(wanted_is (c := false) (b := false) rfl rfl rfl (hdep 14 _ rfl (by kernel_rfl))).trans rfl, fun K hK => ?_⟩
                have e31 : aa.tmps.getD 31 undef = .string y := hdep 21 _ rfl (by kernel_rfl)
                refine wp_value (v := .int .i64 y.size) (w' := W) ?_ (hK _ _ (by simp) hI (Below.refl _ _) rfl)
                clear hfix hdep hK hk hsz hI HW q
                go_simp
              | 23, hk =>
                cases hk
                refine .inl ⟨(wanted_is (c := false) (b := false) rfl rfl rfl (hdep 14 _ rfl (by kernel_rfl))).trans rfl, fun K hK => ?_⟩
                have e0 : aa.tmps.getD 0 undef = .slice (some ⟨g, 0, none⟩) n cv := hfix 0 (by kernel_rfl)
                refine wp_value (v := .slice (some ⟨g, 0, none⟩) n cv) (w' := W) ?_ (hK _ _ (by simp) hI (Below.refl _ _) rfl)
                clear hfix hdep hK hk hsz hI HW q
                go_simp
              | 24, hk =>
                cases hk
                refine .inl ⟨(wanted_is (c := false) (b := false) rfl rfl rfl (hdep 14 _ rfl (by kernel_rfl))).trans rfl, fun K hK => ?_⟩
                have e3 : aa.tmps.getD 3 undef = .int .i64 k := hfix 3 (by kernel_rfl)
                refine wp_value (v := .int .i64 k) (w' := W) ?_ (hK _ _ (by simp) hI (Below.refl _ _) rfl)
                clear hfix hdep hK hk hsz hI HW q
                go_simp
              | 25, hk =>
                cases hk
                refine .inl ⟨(wanted_is (c := false) (b := false) rfl rfl rfl (hdep 14 _ rfl (by kernel_rfl))).trans rfl, fun K hK => ?_⟩
                have e33 : aa.tmps.getD 33 undef = .slice (some ⟨g, 0, none⟩) n cv := hdep 23 _ rfl (by kernel_rfl)
                have e34 : aa.tmps.getD 34 undef = .int .i64 k := hdep 24 _ rfl (by kernel_rfl)
                refine wp_value (v := .pointer (some ⟨g, k, none⟩)) (w' := W) ?_ (hK _ _ (by simp) hI (Below.refl _ _) rfl)
                clear hfix hdep hK hk hsz hI HW q
                go_simp
              | 26, hk =>
                cases hk
                refine .inl ⟨(wanted_is (c := false) (b := false) rfl rfl rfl (hdep 14 _ rfl (by kernel_rfl))).trans rfl, fun K hK => ?_⟩
                have e35 : aa.tmps.getD 35 undef = .pointer (some ⟨g, k, none⟩) := hdep 25 _ rfl (by kernel_rfl)
                have hc1 : W.cell? ⟨g, k, none⟩ = some (.string x) := (hI.cell hgl).trans hc
                refine wp_value (v := .string x) (w' := W) ?_ (hK _ _ (by simp) hI (Below.refl _ _) rfl)
                clear hfix hdep hK hk hsz hI HW q
                go_simp
              | 27, hk =>
                cases hk
                refine .inl ⟨(wanted_is (c := false) (b := false) rfl rfl rfl (hdep 14 _ rfl (by kernel_rfl))).trans rfl, fun K hK => ?_⟩
                have e36 : aa.tmps.getD 36 undef = .string x := hdep 26 _ rfl (by kernel_rfl)
                refine wp_value (v := .int .i64 x.size) (w' := W) ?_ (hK _ _ (by simp) hI (Below.refl _ _) rfl)
                clear hfix hdep hK hk hsz hI HW q
                go_simp
              | 28, hk =>
                cases hk
                refine .inl ⟨(wanted_is (c := false) (b := false) rfl rfl rfl (hdep 14 _ rfl (by kernel_rfl))).trans rfl, fun K hK => ?_⟩
                have e32 : aa.tmps.getD 32 undef = .int .i64 y.size := hdep 22 _ rfl (by kernel_rfl)
                have e37 : aa.tmps.getD 37 undef = .int .i64 x.size := hdep 27 _ rfl (by kernel_rfl)
                refine wp_value (v := .bool bb) (w' := W) ?_ (hK _ _ (by simp) hI (Below.refl _ _) rfl)
                clear hfix hdep hK hk hsz hI HW q
                go_simp
              | 29, hk =>
                cases hk
                refine .inl ⟨wanted_none rfl, fun K hK => ?_⟩
                have e24 : aa.tmps.getD 24 undef = .bool false := hdep 14 _ rfl (by kernel_rfl)
                have e38 : aa.tmps.getD 38 undef = .bool bb := hdep 28 _ rfl (by kernel_rfl)
                refine wp_value (v := .bool bb) (w' := W) ?_ (hK _ _ (by simp) hI (Below.refl _ _) rfl)
                clear hfix hdep hK hk hsz hI HW q
                go_simp
            case refine_2 =>
              intro aa W hI hd hsz hfix hpost
              have e0 : aa.tmps.getD 0 undef = .slice (some ⟨g, 0, none⟩) n cv := hfix 0 (by kernel_rfl)
              have e3 : aa.tmps.getD 3 undef = .int .i64 k := hfix 3 (by kernel_rfl)
              have e39 : aa.tmps.getD 39 undef = .bool bb := hpost 29 _ rfl
              have e1 : aa.tmps.getD 1 undef = undef := hfix 1 (by kernel_rfl)
              have e40 : aa.tmps.getD 40 undef = undef := hfix 40 (by kernel_rfl)
              have e41 : aa.tmps.getD 41 undef = undef := hfix 41 (by kernel_rfl)
              have e42 : aa.tmps.getD 42 undef = undef := hfix 42 (by kernel_rfl)
              clear hfix hpost q HW
              obtain ⟨tm, df⟩ := aa
              obtain ⟨x0, x1, x2, x3, x4, x5, x6, x7, x8, x9, x10, x11, x12, x13, x14, x15, x16, x17, x18, x19, x20, x21, x22, x23, x24, x25, x26, x27, x28, x29, x30, x31, x32, x33, x34, x35, x36, x37, x38, x39, x40, x41, x42, rfl⟩ := arr43 tm hsz
              have hdf : df = [] := hd
              subst hdf
              have f0 : x0 = .slice (some ⟨g, 0, none⟩) n cv := e0
              have f3 : x3 = .int .i64 k := e3
              have f39 : x39 = .bool bb := e39
              have f1 : x1 = undef := e1
              have f40 : x40 = undef := e40
              have f41 : x41 = undef := e41
              have f42 : x42 = undef := e42
              subst f0 f3 f39 f1 f40 f41 f42
              clear e0 e3 e39 e1 e40 e41 e42 hsz hd
              have HB := hidOf (hb.trans (hI.mono hb.size))
              clear hI
              have hbt : bb = true := HBB.out
              subst hbt
              go_wp2
              go_ret
              refine ⟨ret_bool (ok_not HX.out ?_).symm, HB.out⟩
              cases hw : wOk x with
              | false => rfl
              | true =>
                have := HY.out
                rw [wds_ok hw] at this
                cases this
                exact absurd rfl HZ.out
        · obtain ⟨m, hm⟩ : ∃ m : Nat, m = (wds x).length := ⟨_, rfl⟩
          have h1' : ((m : Int) != 1) = true := by simp; omega
          have HW : Hid (∀ W e w', StrsAns (wds x) 9 W e w' → Below W.heap.size W w' ∧ ∃ a c, e = .returned (.slice a m c)) := hidOf (by
            rintro W e w' ⟨hB, v, rfl, ho⟩
            rw [← hm] at ho
            obtain ⟨a, c, rfl⟩ := owns_slice ho
            exact ⟨hB, a, c, rfl⟩)
          have HN := hidOf (show wOk x = false by
            cases hx : wOk x with
            | false => rfl
            | true => rw [wds_ok hx] at h1; exact absurd rfl h1)
          clear h1 hm
          go_wp2
          refine wp_region_guards (by kernel_rfl) (fun W => Below wr.heap.size wr W) (fun W W' => Below W.heap.size W W') (okOff g n cv k m x) ((Below.refl _ wr).drew) (by kernel_rfl) (fun i v W W' h _ _ => okOff_stab g n cv k m x i v W W' h) ?_ ?_
          case refine_1 =>
            intro kk oo hk aa W hI hsz hfix hdep
            match kk, hk with
            | 0, hk =>
              cases hk
              refine .inl ⟨wanted_none rfl, fun K hK => ?_⟩
              have e0 : aa.tmps.getD 0 undef = .slice (some ⟨g, 0, none⟩) n cv := hfix 0 (by kernel_rfl)
              refine wp_value (v := .slice (some ⟨g, 0, none⟩) n cv) (w' := W) ?_ (hK _ _ (by simp) hI (Below.refl _ _) rfl)
              clear hfix hdep hK hk hsz hI HW q
              go_simp
            | 1, hk =>
              cases hk
              refine .inl ⟨wanted_none rfl, fun K hK => ?_⟩
              have e3 : aa.tmps.getD 3 undef = .int .i64 k := hfix 3 (by kernel_rfl)
              refine wp_value (v := .int .i64 k) (w' := W) ?_ (hK _ _ (by simp) hI (Below.refl _ _) rfl)
              clear hfix hdep hK hk hsz hI HW q
              go_simp
            | 2, hk =>
              cases hk
              refine .inl ⟨wanted_none rfl, fun K hK => ?_⟩
              have e10 : aa.tmps.getD 10 undef = .slice (some ⟨g, 0, none⟩) n cv := hdep 0 _ rfl (by kernel_rfl)
              have e11 : aa.tmps.getD 11 undef = .int .i64 k := hdep 1 _ rfl (by kernel_rfl)
              refine wp_value (v := .pointer (some ⟨g, k, none⟩)) (w' := W) ?_ (hK _ _ (by simp) hI (Below.refl _ _) rfl)
              clear hfix hdep hK hk hsz hI HW q
              go_simp
            | 3, hk =>
              cases hk
              refine .inl ⟨wanted_none rfl, fun K hK => ?_⟩
              have e12 : aa.tmps.getD 12 undef = .pointer (some ⟨g, k, none⟩) := hdep 2 _ rfl (by kernel_rfl)
              have hc1 : W.cell? ⟨g, k, none⟩ = some (.string x) := (hI.cell hgl).trans hc
              refine wp_value (v := .string x) (w' := W) ?_ (hK _ _ (by simp) hI (Below.refl _ _) rfl)
              clear hfix hdep hK hk hsz hI HW q
              go_simp
            | 4, hk =>
              cases hk
              refine .inl ⟨wanted_none rfl, fun K hK => ?_⟩
              have e13 : aa.tmps.getD 13 undef = .string x := hdep 3 _ rfl (by kernel_rfl)
              refine wp_value (v := .bool false) (w' := W) ?_ (hK _ _ (by simp) hI (Below.refl _ _) rfl)
              clear hfix hdep hK hk hsz hI HW q
              go_simp
            | 5, hk =>
              cases hk
              refine .inl ⟨wanted_none rfl, fun K hK => ?_⟩
              have e14 : aa.tmps.getD 14 undef = .bool false := hdep 4 _ rfl (by kernel_rfl)
              refine wp_value (v := .bool false) (w' := W) ?_ (hK _ _ (by simp) hI (Below.refl _ _) rfl)
              clear hfix hdep hK hk hsz hI HW q
              go_simp
            | 6, hk =>
              cases hk
              refine .inl ⟨(wanted_is (c := false) (b := false) rfl rfl rfl (hdep 5 _ rfl (by kernel_rfl))).trans rfl, fun K hK => ?_⟩
              have e0 : aa.tmps.getD 0 undef = .slice (some ⟨g, 0, none⟩) n cv := hfix 0 (by kernel_rfl)
              refine wp_value (v := .slice (some ⟨g, 0, none⟩) n cv) (w' := W) ?_ (hK _ _ (by simp) hI (Below.refl _ _) rfl)
              clear hfix hdep hK hk hsz hI HW q
              go_simp
            | 7, hk =>
              cases hk
              refine .inl ⟨(wanted_is (c := false) (b := false) rfl rfl rfl (hdep 5 _ rfl (by kernel_rfl))).trans rfl, fun K hK => ?_⟩
              have e3 : aa.tmps.getD 3 undef = .int .i64 k := hfix 3 (by kernel_rfl)
              refine wp_value (v := .int .i64 k) (w' := W) ?_ (hK _ _ (by simp) hI (Below.refl _ _) rfl)
              clear hfix hdep hK hk hsz hI HW q
              go_simp
            | 8, hk =>
              cases hk
              refine .inl ⟨(wanted_is (c := false) (b := false) rfl rfl rfl (hdep 5 _ rfl (by kernel_rfl))).trans rfl, fun K hK => ?_⟩
              have e16 : aa.tmps.getD 16 undef = .slice (some ⟨g, 0, none⟩) n cv := hdep 6 _ rfl (by kernel_rfl)
              have e17 : aa.tmps.getD 17 undef = .int .i64 k := hdep 7 _ rfl (by kernel_rfl)
              refine wp_value (v := .pointer (some ⟨g, k, none⟩)) (w' := W) ?_ (hK _ _ (by simp) hI (Below.refl _ _) rfl)
              clear hfix hdep hK hk hsz hI HW q
              go_simp
            | 9, hk =>
              cases hk
              refine .inl ⟨(wanted_is (c := false) (b := false) rfl rfl rfl (hdep 5 _ rfl (by kernel_rfl))).trans rfl, fun K hK => ?_⟩
              have e18 : aa.tmps.getD 18 undef = .pointer (some ⟨g, k, none⟩) := hdep 8 _ rfl (by kernel_rfl)
              have hc1 : W.cell? ⟨g, k, none⟩ = some (.string x) := (hI.cell hgl).trans hc
              refine wp_value (v := .string x) (w' := W) ?_ (hK _ _ (by simp) hI (Below.refl _ _) rfl)
              clear hfix hdep hK hk hsz hI HW q
              go_simp
            | 10, hk =>
              cases hk
              refine .inl ⟨(wanted_is (c := false) (b := false) rfl rfl rfl (hdep 5 _ rfl (by kernel_rfl))).trans rfl, fun K hK => ?_⟩
              have e19 : aa.tmps.getD 19 undef = .string x := hdep 9 _ rfl (by kernel_rfl)
              have hcon := q W
              refine wp_calls 20 #[.string x] ?_ hcon ?_
              · clear hfix hdep hK hk hsz hcon hI
                go_simp
                try rfl
              · intro e W2 hans
                obtain ⟨A, a2, c2, rfl⟩ := HW.out _ _ _ hans
                exact ⟨_, rfl, hK _ _ (by simp) (hI.trans (A.mono hI.size)) A ⟨a2, c2, rfl⟩⟩
            | 11, hk =>
              cases hk
              refine .inl ⟨(wanted_is (c := false) (b := false) rfl rfl rfl (hdep 5 _ rfl (by kernel_rfl))).trans rfl, fun K hK => ?_⟩
              obtain ⟨a2, c2, e20⟩ : ∃ a2 c2, aa.tmps.getD 20 undef = .slice a2 m c2 := hdep 10 _ rfl (by kernel_rfl)
              refine wp_value (v := .int .i64 m) (w' := W) ?_ (hK _ _ (by simp) hI (Below.refl _ _) rfl)
              clear hfix hdep hK hk hsz hI HW q
              go_simp
            | 12, hk =>
              cases hk
              refine .inl ⟨(wanted_is (c := false) (b := false) rfl rfl rfl (hdep 5 _ rfl (by kernel_rfl))).trans rfl, fun K hK => ?_⟩
              have e21 : aa.tmps.getD 21 undef = .int .i64 m := hdep 11 _ rfl (by kernel_rfl)
              refine wp_value (v := .bool true) (w' := W) ?_ (hK _ _ (by simp) hI (Below.refl _ _) rfl)
              clear hfix hdep hK hk hsz hI HW q
              go_simp
            | 13, hk =>
              cases hk
              refine .inl ⟨wanted_none rfl, fun K hK => ?_⟩
              have e15 : aa.tmps.getD 15 undef = .bool false := hdep 5 _ rfl (by kernel_rfl)
              have e22 : aa.tmps.getD 22 undef = .bool true := hdep 12 _ rfl (by kernel_rfl)
              refine wp_value (v := .bool true) (w' := W) ?_ (hK _ _ (by simp) hI (Below.refl _ _) rfl)
              clear hfix hdep hK hk hsz hI HW q
              go_simp
            | 14, hk =>
              cases hk
              refine .inl ⟨wanted_none rfl, fun K hK => ?_⟩
              have e23 : aa.tmps.getD 23 undef = .bool true := hdep 13 _ rfl (by kernel_rfl)
              refine wp_value (v := .bool true) (w' := W) ?_ (hK _ _ (by simp) hI (Below.refl _ _) rfl)
              clear hfix hdep hK hk hsz hI HW q
              go_simp
            | 15, hk =>
              cases hk
              exact .inr ⟨(wanted_is (c := true) (b := false) rfl rfl rfl (hdep 14 _ rfl (by kernel_rfl))).trans rfl, trivial⟩
            | 16, hk =>
              cases hk
              exact .inr ⟨(wanted_is (c := true) (b := false) rfl rfl rfl (hdep 14 _ rfl (by kernel_rfl))).trans rfl, trivial⟩
            | 17, hk =>
              cases hk
              exact .inr ⟨(wanted_is (c := true) (b := false) rfl rfl rfl (hdep 14 _ rfl (by kernel_rfl))).trans rfl, trivial⟩
            | 18, hk =>
              cases hk
              exact .inr ⟨(wanted_is (c := true) (b := false) rfl rfl rfl (hdep 14 _ rfl (by kernel_rfl))).trans rfl, trivial⟩
            | 19, hk =>
              cases hk
              exact .inr ⟨(wanted_is (c := true) (b := false) rfl rfl rfl (hdep 14 _ rfl (by kernel_rfl))).trans rfl, trivial⟩
            | 20, hk =>
              cases hk
              exact .inr ⟨(wanted_is (c := true) (b := false) rfl rfl rfl (hdep 14 _ rfl (by kernel_rfl))).trans rfl, trivial⟩
            | 21, hk =>
              cases hk
              exact .inr ⟨(wanted_is (c := true) (b := false) rfl rfl rfl (hdep 14 _ rfl (by kernel_rfl))).trans rfl, trivial⟩
            | 22, hk =>
              cases hk
              exact .inr ⟨(wanted_is (c := true) (b := false) rfl rfl rfl (hdep 14 _ rfl (by kernel_rfl))).trans rfl, trivial⟩
            | 23, hk =>
              cases hk
              exact .inr ⟨(wanted_is (c := true) (b := false) rfl rfl rfl (hdep 14 _ rfl (by kernel_rfl))).trans rfl, trivial⟩
            | 24, hk =>
              cases hk
              exact .inr ⟨(wanted_is (c := true) (b := false) rfl rfl rfl (hdep 14 _ rfl (by kernel_rfl))).trans rfl, trivial⟩
            | 25, hk =>
              cases hk
              exact .inr ⟨(wanted_is (c := true) (b := false) rfl rfl rfl (hdep 14 _ rfl (by kernel_rfl))).trans rfl, trivial⟩
            | 26, hk =>
              cases hk
              exact .inr ⟨(wanted_is (c := true) (b := false) rfl rfl rfl (hdep 14 _ rfl (by kernel_rfl))).trans rfl, trivial⟩
            | 27, hk =>
              cases hk
              exact .inr ⟨(wanted_is (c := true) (b := false) rfl rfl rfl (hdep 14 _ rfl (by kernel_rfl))).trans rfl, trivial⟩
            | 28, hk =>
              cases hk
              exact .inr ⟨(wanted_is (c := true) (b := false) rfl rfl rfl (hdep 14 _ rfl (by kernel_rfl))).trans rfl, trivial⟩
            | 29, hk =>
              cases hk
              refine .inl ⟨wanted_none rfl, fun K hK => ?_⟩
              have e24 : aa.tmps.getD 24 undef = .bool true := hdep 14 _ rfl (by kernel_rfl)
              refine wp_value (v := .bool true) (w' := W) ?_ (hK _ _ (by simp) hI (Below.refl _ _) rfl)
              clear hfix hdep hK hk hsz hI HW q
              go_simp
          case refine_2 =>
            intro aa W hI hd hsz hfix hpost
            have e0 : aa.tmps.getD 0 undef = .slice (some ⟨g, 0, none⟩) n cv := hfix 0 (by kernel_rfl)
            have e3 : aa.tmps.getD 3 undef = .int .i64 k := hfix 3 (by kernel_rfl)
            have e39 : aa.tmps.getD 39 undef = .bool true := hpost 29 _ rfl
            have e1 : aa.tmps.getD 1 undef = undef := hfix 1 (by kernel_rfl)
            have e40 : aa.tmps.getD 40 undef = undef := hfix 40 (by kernel_rfl)
            have e41 : aa.tmps.getD 41 undef = undef := hfix 41 (by kernel_rfl)
            have e42 : aa.tmps.getD 42 undef = undef := hfix 42 (by kernel_rfl)
            clear hfix hpost q HW
            obtain ⟨tm, df⟩ := aa
            obtain ⟨x0, x1, x2, x3, x4, x5, x6, x7, x8, x9, x10, x11, x12, x13, x14, x15, x16, x17, x18, x19, x20, x21, x22, x23, x24, x25, x26, x27, x28, x29, x30, x31, x32, x33, x34, x35, x36, x37, x38, x39, x40, x41, x42, rfl⟩ := arr43 tm hsz
            have hdf : df = [] := hd
            subst hdf
            have f0 : x0 = .slice (some ⟨g, 0, none⟩) n cv := e0
            have f3 : x3 = .int .i64 k := e3
            have f39 : x39 = .bool true := e39
            have f1 : x1 = undef := e1
            have f40 : x40 = undef := e40
            have f41 : x41 = undef := e41
            have f42 : x42 = undef := e42
            subst f0 f3 f39 f1 f40 f41 f42
            clear e0 e3 e39 e1 e40 e41 e42 hsz hd
            have HB := hidOf (hb.trans (hI.mono hb.size))
            clear hI
            go_wp2
            go_ret
            exact ⟨ret_bool (ok_not HX.out HN.out).symm, HB.out⟩
    · have hke : k = n := by omega
      have HK := hidOf hke
      clear hke
      by_cases h60 : 60 < n
      · go_wp2
        go_ret
        exact ⟨ret_bool (by rw [ok_many (by rw [HL.out]; exact h60)]; simp; omega), hb⟩
      · go_wp2
        go_ret
        exact ⟨ret_bool (by rw [ok_all (by rw [HL.out]; omega) (fun j x hj hx => HA.out j x (by rw [HK.out, ← HL.out]; exact hj) hx)]; simp; omega), hb⟩
end Go.Proofs.YtabbfpkhlofccaaGreatDoor
