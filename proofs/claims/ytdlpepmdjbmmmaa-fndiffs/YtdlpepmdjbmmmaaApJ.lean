/- Edits done: do, and impl.ApplyEdits. -/
import Derived.Test.YtdlpepmdjbmmmaaApI
namespace Go.Proofs.Ytdlpepmdjbmmmaa
open Go.RowKit

abbrev boxL (t : ByteArray) (T : TypeId) : Obj := .cells #[.string t] T
theorem alloc_below (w : World) (ob : Obj) : Below w.heap.size w (w.alloc ob) := (Below.refl w.heap.size w).alloc (Nat.le_refl _) ob

set_option maxHeartbeats 3000000 in
theorem do_keep (w0 w : World) (g : Nat) (x : Ed) (ls ds : List ByteArray) (hL : ls.length ≤ 4194304) (hD : ds.length ≤ 4194304) (hx : x.line.size ≤ 4194304) (hW : Wk w0 w g (x.line :: ls) ds) :
    Calls Try.prog 41 #[.pointer (some ⟨g, 0, none⟩), ifK x.line] w fun e w' => e = .returned (.bool true) ∧ Wk w0 w' g ls (ds ++ [x.line]) := by
  have a1 := fun w => taKK (.agg #[.string x.line]) w
  have W1 := hW.more (alloc_below w (boxL x.line 68))
  have hlt := hW.far.2
  have hne : w.heap.size ≠ g := by omega
  clear hW
  go_enter Try.func41, Try.ntmps41
  go_wp2_with fail
  refine (iTake_yes w0 _ g x.line ls ds hL W1).mono ?_
  rintro e w2 ⟨rfl, W2, hg2⟩
  have xc : w2.cell? ⟨w.heap.size, 0, none⟩ = some (.string x.line) := cell_of_row w2 _ 0 _ _ _ ((hg2.block w.heap.size (by simp) (fun e => hne (by injection e))).trans (heap_alloc_new w _))
  go_wp2_with fail
  refine (iPut w0 _ g x.line ls ds hD hx W2).mono ?_
  rintro e w3 ⟨rfl, W3⟩
  go_wp2
  go_ret
  exact ⟨rfl, W3⟩
set_option maxHeartbeats 3000000 in
theorem do_keep_nil (w0 w : World) (g : Nat) (x : Ed) (ds : List ByteArray) (hW : Wk w0 w g [] ds) :
    Calls Try.prog 41 #[.pointer (some ⟨g, 0, none⟩), ifK x.line] w fun e w' => e = .returned (.bool false) ∧ Wk w0 w' g [] ds := by
  have a1 := fun w => taKK (.agg #[.string x.line]) w
  have W1 := hW.more (alloc_below w (boxL x.line 68))
  clear hW
  go_enter Try.func41, Try.ntmps41
  go_wp2_with fail
  refine (iTake_nil w0 _ g x.line ds W1).mono ?_
  rintro e w2 ⟨rfl, W2⟩
  go_wp2
  go_ret
  exact ⟨rfl, W2⟩
set_option maxHeartbeats 3000000 in
theorem do_keep_no (w0 w : World) (g : Nat) (x : Ed) (y : ByteArray) (ls ds : List ByteArray) (hL : ls.length ≤ 4194304) (hy : y ≠ x.line) (hW : Wk w0 w g (y :: ls) ds) :
    Calls Try.prog 41 #[.pointer (some ⟨g, 0, none⟩), ifK x.line] w fun e w' => e = .returned (.bool false) ∧ Wk w0 w' g (y :: ls) ds := by
  have a1 := fun w => taKK (.agg #[.string x.line]) w
  have W1 := hW.more (alloc_below w (boxL x.line 68))
  clear hW
  go_enter Try.func41, Try.ntmps41
  go_wp2_with fail
  refine (iTake_no w0 _ g x.line y ls ds hL hy W1).mono ?_
  rintro e w2 ⟨rfl, W2⟩
  go_wp2
  go_ret
  exact ⟨rfl, W2⟩
set_option maxHeartbeats 3000000 in
theorem do_drop (w0 w : World) (g : Nat) (x : Ed) (ls ds : List ByteArray) (hL : ls.length ≤ 4194304) (hW : Wk w0 w g (x.line :: ls) ds) :
    Calls Try.prog 41 #[.pointer (some ⟨g, 0, none⟩), ifD x.line] w fun e w' => e = .returned (.bool true) ∧ Wk w0 w' g ls ds := by
  have a1 := fun w => taDK (.agg #[.string x.line]) w
  have a2 := fun w => taDD (.agg #[.string x.line]) w
  have W1 := hW.more (alloc_below w (boxL x.line 78))
  clear hW
  go_enter Try.func41, Try.ntmps41
  go_wp2_with fail
  refine (iTake_yes w0 _ g x.line ls ds hL W1).mono ?_
  rintro e w2 ⟨rfl, W2, hg2⟩
  go_wp2
  go_ret
  exact ⟨rfl, W2⟩
set_option maxHeartbeats 3000000 in
theorem do_drop_nil (w0 w : World) (g : Nat) (x : Ed) (ds : List ByteArray) (hW : Wk w0 w g [] ds) :
    Calls Try.prog 41 #[.pointer (some ⟨g, 0, none⟩), ifD x.line] w fun e w' => e = .returned (.bool false) ∧ Wk w0 w' g [] ds := by
  have a1 := fun w => taDK (.agg #[.string x.line]) w
  have a2 := fun w => taDD (.agg #[.string x.line]) w
  have W1 := hW.more (alloc_below w (boxL x.line 78))
  clear hW
  go_enter Try.func41, Try.ntmps41
  go_wp2_with fail
  refine (iTake_nil w0 _ g x.line ds W1).mono ?_
  rintro e w2 ⟨rfl, W2⟩
  go_wp2
  go_ret
  exact ⟨rfl, W2⟩
set_option maxHeartbeats 3000000 in
theorem do_drop_no (w0 w : World) (g : Nat) (x : Ed) (y : ByteArray) (ls ds : List ByteArray) (hL : ls.length ≤ 4194304) (hy : y ≠ x.line) (hW : Wk w0 w g (y :: ls) ds) :
    Calls Try.prog 41 #[.pointer (some ⟨g, 0, none⟩), ifD x.line] w fun e w' => e = .returned (.bool false) ∧ Wk w0 w' g (y :: ls) ds := by
  have a1 := fun w => taDK (.agg #[.string x.line]) w
  have a2 := fun w => taDD (.agg #[.string x.line]) w
  have W1 := hW.more (alloc_below w (boxL x.line 78))
  clear hW
  go_enter Try.func41, Try.ntmps41
  go_wp2_with fail
  refine (iTake_no w0 _ g x.line y ls ds hL hy W1).mono ?_
  rintro e w2 ⟨rfl, W2⟩
  go_wp2
  go_ret
  exact ⟨rfl, W2⟩
set_option maxHeartbeats 3000000 in
theorem do_add (w0 w : World) (g : Nat) (x : Ed) (ls ds : List ByteArray) (hD : ds.length ≤ 4194304) (hx : x.line.size ≤ 4194304) (hW : Wk w0 w g ls ds) :
    Calls Try.prog 41 #[.pointer (some ⟨g, 0, none⟩), ifA x.line] w fun e w' => e = .returned (.bool true) ∧ Wk w0 w' g ls (ds ++ [x.line]) := by
  have a1 := fun w => taAK (.agg #[.string x.line]) w
  have a2 := fun w => taAD (.agg #[.string x.line]) w
  have a3 := fun w => taAA (.agg #[.string x.line]) w
  have W1 := hW.more (alloc_below w (boxL x.line 79))
  clear hW
  go_enter Try.func41, Try.ntmps41
  go_wp2_with fail
  refine (iPut w0 _ g x.line ls ds hD hx W1).mono ?_
  rintro e w2 ⟨rfl, W2⟩
  go_wp2
  go_ret
  exact ⟨rfl, W2⟩
set_option maxHeartbeats 3000000 in
theorem do_strange (w0 w : World) (g : Nat) (x : Ed) (ls ds : List ByteArray) (hW : Wk w0 w g ls ds) :
    Calls Try.prog 41 #[.pointer (some ⟨g, 0, none⟩), ifS x.kind x.line] w fun e w' => e = .returned (.bool false) ∧ Wk w0 w' g ls ds := by
  have a1 := fun w => taSK (.agg #[.int .i64 x.kind, .string x.line]) w
  have a2 := fun w => taSD (.agg #[.int .i64 x.kind, .string x.line]) w
  have a3 := fun w => taSA (.agg #[.int .i64 x.kind, .string x.line]) w
  go_enter Try.func41, Try.ntmps41
  go_wp2
  go_ret
  exact ⟨rfl, hW⟩
theorem do_any (w0 w : World) (g : Nat) (x : Ed) (ls ds : List ByteArray) (hL : ls.length ≤ 4194304) (hD : ds.length ≤ 4194304) (hx : x.line.size ≤ 4194304) (hW : Wk w0 w g ls ds) :
    Calls Try.prog 41 #[.pointer (some ⟨g, 0, none⟩), ifE x] w fun e w' => (stp x ls ds = none ∧ e = .returned (.bool false) ∧ Wk w0 w' g ls ds) ∨ (∃ l d, stp x ls ds = some (l, d) ∧ e = .returned (.bool true) ∧ Wk w0 w' g l d) := by
  by_cases h1 : x.kind = 1
  · rw [ifE_1 h1]
    cases ls with
    | nil => exact (do_keep_nil w0 w g x ds hW).mono fun e w' h => .inl ⟨stp_one_nil h1, h⟩
    | cons y ls =>
      by_cases hy : y = x.line
      · subst hy
        exact (do_keep w0 w g x ls ds (by simp at hL; omega) hD hx hW).mono fun e w' h => .inr ⟨_, _, stp_one h1 rfl, h⟩
      · exact (do_keep_no w0 w g x y ls ds (by simp at hL; omega) hy hW).mono fun e w' h => .inl ⟨stp_one_no h1 hy, h⟩
  by_cases h2 : x.kind = 2
  · rw [ifE_2 h2]
    cases ls with
    | nil => exact (do_drop_nil w0 w g x ds hW).mono fun e w' h => .inl ⟨stp_two_nil h2, h⟩
    | cons y ls =>
      by_cases hy : y = x.line
      · subst hy
        exact (do_drop w0 w g x ls ds (by simp at hL; omega) hW).mono fun e w' h => .inr ⟨_, _, stp_two h2 rfl, h⟩
      · exact (do_drop_no w0 w g x y ls ds (by simp at hL; omega) hy hW).mono fun e w' h => .inl ⟨stp_two_no h2 hy, h⟩
  by_cases h3 : x.kind = 3
  · rw [ifE_3 h3]
    exact (do_add w0 w g x ls ds hD hx hW).mono fun e w' h => .inr ⟨_, _, stp_three h3, h⟩
  · rw [ifE_4 h1 h2 h3]
    exact (do_strange w0 w g x ls ds hW).mono fun e w' h => .inl ⟨stp_other h1 h2 h3, h⟩

/-- What ApplyEdits answers. -/
def ApAns (o : Option (List ByteArray)) (w : World) (e : Ending) (w' : World) : Prop :=
  Below w.heap.size w w' ∧ ∃ v, e = .returned (.tuple #[v, .bool o.isSome]) ∧ w'.ownsRow w.heap.size 9 1 v (o.getD []).length (strVals (o.getD []))

set_option maxHeartbeats 4000000 in
theorem iApply_any (lv v : Value) (ls : List ByteArray) (xs : List Ed) (w : World) (hL0 : ls.length ≤ 1048576) (hn0 : xs.length ≤ 1048576) (hx : ∀ (j : Nat) (x : Ed), xs[j]? = some x → x.line.size ≤ 4194304) (hl : LftAt w lv ls) (hT : EdsAt w v xs) :
    Calls Try.prog 12 #[lv, v] w fun e w' => ApAns (apl ls xs) w e w' := by
  obtain ⟨a, c, rfl, h⟩ := hT
  obtain ⟨n, hn⟩ : ∃ n, n = xs.length := ⟨_, rfl⟩
  rw [← hn] at h hn0 ⊢
  have HN := hidOf hn
  have HX := hidOf hx
  have HL := hidOf hl
  clear hn hx
  obtain ⟨la, lc, rfl, hlc, -⟩ := hl
  have hme := World.ownsRow_made (base := w.heap.size) (e := 9) (size := 1) w #[] 0 (Nat.le_refl _) (by decide) rfl
  have hW1 : Wk w ((w.alloc (.cells #[] 9)).alloc (.cells #[.slice la ls.length lc, .slice (some ⟨w.heap.size, 0, none⟩) 0 0] 58)) (w.heap.size + 1) ls [] := by
    refine ⟨((Below.refl _ w).alloc (Nat.le_refl _) _).alloc (by simp) _, ⟨by omega, by simp⟩, _, _, ?_, HL.out, hme.alloc _, fun e => by simp [Value.ownBlock] at e⟩
    have := heap_alloc_new (w.alloc (.cells #[] 9)) (.cells #[.slice la ls.length lc, .slice (some ⟨w.heap.size, 0, none⟩) 0 0] 58)
    simpa using this
  clear hme
  go_enter Try.func12, Try.ntmps12
  go_wp2
  go_loopw [14] (fun i wr => ∃ (k : Nat) (l d : List ByteArray), k ≤ n ∧ i = .int .i64 k ∧ l.length ≤ 1048576 ∧ d.length ≤ k ∧ Hid (aplF l d (xs.drop k) = apl ls xs) ∧ Wk w wr (w.heap.size + 1) l d) (fun i _ => n - (intOf i).toNat)
  case atStart => exact ⟨0, ls, [], Nat.zero_le _, rfl, hL0, Nat.le_refl _, rfl, hW1⟩
  case round =>
    obtain ⟨k, l, d, hk, rfl, hl1, hd1, HA, hW⟩ := hrel
    clear hW1
    have hb := hW.below
    have hsz := hb.size
    by_cases hlt : k < n
    · obtain ⟨x, ex⟩ : ∃ x, xs[k]? = some x := ⟨_, List.getElem?_eq_getElem (by rw [← HN.out]; exact hlt)⟩
      obtain ⟨b1, o1, rfl, hb1, hc1⟩ := h (by omega)
      obtain ⟨p0, p1⟩ := cells2 (w := wr) (fun j hj => by rw [hb.cell hb1]; exact hc1 k x ex j hj)
      have hxs := HX.out k x ex
      have HD := hidOf (drop_cons ex)
      clear ex hc1 h
      have hA : (0 : Int) ≤ (k : Int) := by omega
      have hB : (k : Int) < (n : Int) := by omega
      have W1 := hW.more (alloc_below wr (.cells #[.int .i64 x.kind, .string x.line] 55))
      clear hW
      go_wp2_with fail
      refine (iIn_any x _).mono ?_
      rintro e w2 ⟨rfl, hb2⟩
      have W2 := W1.more hb2
      clear W1 p0 p1
      go_wp2_with fail
      refine (do_any w w2 (w.heap.size + 1) x l d (by omega) (by omega) hxs W2).mono ?_
      rintro e w3 (⟨hs, rfl, W3⟩ | ⟨l', d', hs, rfl, W3⟩)
      · have HS := hidOf hs
        have hb3 := W3.below
        clear hs W2 hb2
        have hme := World.ownsRow_made (base := w.heap.size) (e := 9) (size := 1) w3 #[] 0 hb3.size (by decide) rfl
        go_wp2
        go_ret2
        have hq : apl ls xs = none := by rw [← HA.out, HD.out]; exact aplF_no HS.out
        rw [hq]
        exact ⟨hb3.alloc hb3.size _, _, rfl, hme⟩
      · have HS := hidOf hs
        have h1 := stp_len hs
        have h2 : l'.length ≤ 1048576 := by rcases stp_left hs with rfl | ⟨y, rfl⟩ <;> (try simp at hl1) <;> omega
        clear hs W2 hb2
        go_wp2
        go_roundw
        case rel => exact ⟨k + 1, l', d', by omega, by go_num, h2, by omega, hidOf (by rw [← HA.out, HD.out]; exact (aplF_yes HS.out).symm), W3⟩
        case measure => simp [intOf]; omega
    · have hkn : k = n := by omega
      subst hkn
      have hq := HA.out
      rw [List.drop_of_length_le (by rw [← HN.out]; exact Nat.le_refl _)] at hq
      obtain ⟨-, hf, lv', dv', hr, hll, ho, hne⟩ := hW
      obtain ⟨la', lc', rfl, hlc', -⟩ := hll
      have c0 : wr.cell? ⟨w.heap.size + 1, 0, none⟩ = some (.slice la' l.length lc') := cell_of_row wr _ 0 _ _ _ hr
      have c1 : wr.cell? ⟨w.heap.size + 1, 1, none⟩ = some dv' := cell_of_row wr _ 1 _ _ _ hr
      obtain ⟨da, dc, rfl⟩ := owns_slice ho
      by_cases hz : l.length = 0
      · rw [aplF_end hz] at hq
        rw [hz] at c0
        have HQ := hidOf hq
        clear hq hz h hr
        go_wp2
        go_ret2
        rw [← HQ.out]
        exact ⟨hb, _, rfl, ho⟩
      · rw [aplF_left hz] at hq
        have HQ := hidOf hq
        have hme := World.ownsRow_made (base := w.heap.size) (e := 9) (size := 1) wr #[] 0 hsz (by decide) rfl
        clear hq h hr
        go_wp2
        go_ret2
        rw [← HQ.out]
        exact ⟨hb.alloc hsz _, _, rfl, hme⟩
end Go.Proofs.Ytdlpepmdjbmmmaa
