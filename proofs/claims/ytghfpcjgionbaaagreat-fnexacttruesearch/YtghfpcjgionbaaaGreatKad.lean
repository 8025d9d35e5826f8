/- How the program's own heap changes two of its items, and how one goes up. -/
import Derived.Test.YtghfpcjgionbaaaGreatKac
import Derived.BigRegion
import Derived.Deep.CutBlock
import Derived.Test.YtghfpcjgionbaaaGreatLib
namespace Go.Proofs.YtghfpcjgionbaaaGreat
open Go.RowKit

theorem Hv.grown {kd : HK} {w w' : World} {b : Nat} {a : Option Addr} {n c g : Nat} (h : Hv kd w b a n c) (hg : w.grownBy w' (some g)) (hne : b ≠ g) : Hv kd w' b a n c :=
  ⟨(hg.block b h.lt (fun e => hne (by injection e))).trans h.row⟩
theorem Hv.grownO {kd : HK} {w w' : World} {b : Nat} {a : Option Addr} {n c : Nat} {row : Option Nat} (h : Hv kd w b a n c) (hg : w.grownBy w' row) (hne : row = none ∨ row ≠ some b) : Hv kd w' b a n c :=
  ⟨(hg.block b h.lt (fun e => by rcases hne with h1 | h1 <;> simp_all)).trans h.row⟩
/-- What lies in a list's place k, to be read and written. -/
theorem Own.at {w : World} {B g c : Nat} {ps : List Sp} (h : Own w B (some ⟨g, 0, none⟩) c ps) {k : Nat} {p : Sp} (hp : ps[k]? = some p) :
    w.cell? ⟨g, k * 2, none⟩ = some (.slice p.a p.st.vals.length p.c) ∧ w.cell? ⟨g, k * 2 + 1, none⟩ = some (.int .i64 p.st.sum) ∧ w.frozen? ⟨g, k * 2, none⟩ = false ∧ w.frozen? ⟨g, k * 2 + 1, none⟩ = false := by
  have hk := (List.getElem?_eq_some_iff.1 hp).1
  refine ⟨?_, ?_, h.row.frozenAt _, h.row.frozenAt _⟩
  · rw [h.row.cellAt (k * 2) (by omega)]
    exact rowVals_at spCells_len ps k p hp 0 (by omega)
  · rw [h.row.cellAt (k * 2 + 1) (by omega)]
    exact rowVals_at spCells_len ps k p hp 1 (by omega)

set_option maxHeartbeats 4000000 in
theorem change_any (kd : HK) (hb B g c : Nat) (ps : List Sp) (i j : Nat) (w : World) (hi : i < ps.length) (hj : j < ps.length) (hij : i ≠ j) (hO : Own w B (some ⟨g, 0, none⟩) c ps) (H : Hv kd w hb (some ⟨g, 0, none⟩) ps.length c) :
    Calls Tryz.prog 147 #[.pointer (some ⟨hb, kd.o, none⟩), .int .i64 i, .int .i64 j] w fun e w' => e = .returned (.tuple #[]) ∧ Own w' B (some ⟨g, 0, none⟩) c (swp ps i j) ∧ w.grownBy w' (some g) := by
  obtain ⟨p, ep⟩ : ∃ p, ps[i]? = some p := ⟨_, List.getElem?_eq_getElem hi⟩
  obtain ⟨q, eq⟩ : ∃ q, ps[j]? = some q := ⟨_, List.getElem?_eq_getElem hj⟩
  obtain ⟨p0, p1, p2, p3⟩ := hO.at ep
  obtain ⟨q0, q1, q2, q3⟩ := hO.at eq
  have O1 : Own w.drew B (some ⟨g, 0, none⟩) c ps := hO.below (below_drewN w 1)
  have HS := hidOf (O1.swap ep eq hij)
  have HG := hidOf (show w.grownBy w.drew (some g) from grownBy_of_below (below_drewN w 1) _)
  have hne := H.ne hO
  obtain ⟨hl, c0, c1, -⟩ := H.all
  clear H
  obtain ⟨n, hn⟩ : ∃ n, n = ps.length := ⟨_, rfl⟩
  rw [← hn] at c0 hi hj
  have hA : (0 : Int) ≤ (i : Int) := by omega
  have hB : (i : Int) < (n : Int) := by omega
  have hC : (0 : Int) ≤ (j : Int) := by omega
  have hD : (j : Int) < (n : Int) := by omega
  clear hn ep eq hO O1
  go_enter Tryz.func147, Tryz.ntmps147
  go_wp2
  go_region
  all_goals go_wp2
  all_goals go_end0
  all_goals exact ⟨rfl, HS.out.1, grownBy_trans HG.out HS.out.2⟩

set_option maxHeartbeats 4000000 in
theorem goUp_any (kd : HK) (hb B g c : Nat) (ps : List Sp) (i : Nat) (w : World) (hn0 : ps.length ≤ 1048577) (hi : i < ps.length) (hF : Few ps) (hO : Own w B (some ⟨g, 0, none⟩) c ps) (H : Hv kd w hb (some ⟨g, 0, none⟩) ps.length c) :
    Calls Tryz.prog 130 #[.pointer (some ⟨hb, kd.o, none⟩), .int .i64 i] w fun e w' => e = .returned (.tuple #[]) ∧ Own w' B (some ⟨g, 0, none⟩) c (up spLess ps i) ∧ w.grownBy w' (some g) := by
  have hne := H.ne hO
  go_enter Tryz.func130, Tryz.ntmps130
  go_wp2
  go_loopw [1] (fun v wr => ∃ (k : Nat) (qs : List Sp), v = .int .i64 k ∧ k < ps.length ∧ Hid (qs.length = ps.length) ∧ Hid (Few qs) ∧ Hid (up spLess qs k = up spLess ps i) ∧ Hid (Own wr B (some ⟨g, 0, none⟩) c qs) ∧ Hid (w.grownBy wr (some g))) (fun v _ => (intOf v).toNat)
  case atStart => exact ⟨i, ps, rfl, hi, hidOf rfl, hidOf hF, hidOf rfl, hidOf hO, hidOf (World.grownBy.refl _ _)⟩
  case round =>
    obtain ⟨k, qs, rfl, hk, HL, HF, HU, HO, HG⟩ := hrel
    have H1 := hidOf (H.grown HG.out hne)
    have hL := HL.out
    by_cases h0 : 0 < k
    · have hg : (k : Int) > 0 := by omega
      have hpk := par_lt h0
      have hkb : k ≤ 4611686018427387904 := by omega
      have HI := hidOf (isLess_any kd hb (some ⟨g, 0, none⟩) c qs k (par k) wr (by omega) hkb (by omega) (by omega) HF.out HO.out.sts (by rw [hL]; exact H1.out))
      obtain ⟨b, hb2⟩ : ∃ b, b = ltAt spLess qs k (par k) := ⟨_, rfl⟩
      rw [← hb2] at HI
      have HB := hidOf hb2
      obtain ⟨n, hn⟩ : ∃ n, n = ps.length := ⟨_, rfl⟩
      rw [← hn] at hk hL hn0
      have HN := hidOf hn
      clear hb2 hn hL
      go_wp2_with fail
      refine (above_any k _ hkb h0).mono ?_
      rintro e wr ⟨rfl, rfl⟩
      go_wp2_with fail
      refine HI.out.mono ?_
      rintro e w2 ⟨rfl, hb2⟩
      cases b
      · go_wp2
        go_end0
        rw [← HU.out, up_no (by rw [← HB.out]; simp)]
        exact ⟨rfl, HO.out.below hb2, grownBy_trans HG.out (grownBy_of_below hb2 _)⟩
      · have HC := hidOf (change_any kd hb B g c qs k (par k) w2 (by have := HL.out; have := HN.out; omega) (by have := HL.out; have := HN.out; omega) (by omega) (HO.out.below hb2) (by have := H1.out.kept hb2; rw [HL.out]; exact this))
        have HG2 := hidOf (grownBy_trans HG.out (grownBy_of_below hb2 (some g)))
        clear hb2
        go_wp2_with fail
        refine (above_any k _ hkb h0).mono ?_
        rintro e w2 ⟨rfl, rfl⟩
        go_wp2_with fail
        refine HC.out.mono ?_
        rintro e w3 ⟨rfl, o3, g3⟩
        go_wp2_with fail
        refine (above_any k _ hkb h0).mono ?_
        rintro e w3 ⟨rfl, rfl⟩
        go_wp2
        go_roundw
        case rel => exact ⟨par k, swp qs k (par k), rfl, by have := HN.out; omega, hidOf (by rw [swp_len]; exact HL.out), hidOf (HF.out.swp _ _), hidOf (by rw [← HU.out, up_yes h0 HB.out.symm]), hidOf o3, hidOf (grownBy_trans HG2.out g3)⟩
        case measure => simp [intOf]; omega
    · have hg : ¬ (k : Int) > 0 := by omega
      go_wp2
      go_end0
      rw [← HU.out, up_no (by simp [h0])]
      exact ⟨rfl, HO.out, HG.out⟩
end Go.Proofs.YtghfpcjgionbaaaGreat
/- Where 'append' on an owned row lays what it tells: in the row's own block, or where nothing lay. -/
namespace Go.Proofs.YtghfpcjgionbaaaGreat
open Go.RowKit

/-- What has turned besides one row is new. -/
theorem grown_at {w w1 w2 : World} {row : Option Nat} {g : Nat} (h1 : w.grownBy w1 row) (h2 : w1.grownBy w2 (some g)) (hg : row = some g ∨ w.heap.size ≤ g) : w.grownBy w2 row :=
  ⟨h2.os.trans h1.os, h2.tape.trans h1.tape, h2.output.trans h1.output, Nat.le_trans h1.size h2.size, fun k hk hr => (h2.block k (Nat.lt_of_lt_of_le hk h1.size) (fun e => by
    rcases hg with hg | hg
    · exact hr (e.trans hg.symm)
    · have := Option.some.inj e
      omega)).trans (h1.block k hk hr)⟩
theorem gr_below {w w' : World} {row : Option Nat} {B : Nat} (h : w.grownBy w' row) (hB : B ≤ w.heap.size) (hr : ∀ k, row = some k → B ≤ k) : Below B w w' :=
  ⟨h.os, h.tape, h.output, h.size, fun k hk => h.block k (by omega) (fun e => by have := hr k e.symm; omega)⟩
section
variable {P : Program}
theorem append_place (w : World) (base : Nat) (t ty e : TypeId) (i : TypeInfo) (z : Value) (size bytes : Nat) (ht : P.underlying t = some (.slice e)) (hi : P.info? e = some i) (hz : i.zero = some z)
    (hsize : i.size = size) (hby : i.bytes = bytes) (hzs : z.cells.size = size) (hsz : 0 < size)
    (v : Value) (n : Nat) (xs : List Value) (hown : w.ownsRow base e size v n xs)
    (a : Addr) (m c : Nat) (news : List Value) (hl : news.length = m * size) (hnews : ∀ j u, news[j]? = some u → w.cell? (a.add j) = some u) (h1 : ∀ u ∈ news, u.oneCell' = true)
    (h63 : n + m ≤ maxLen) (hbytes : (n + m) * bytes ≤ 140737488355328) (v' : Value) (w' : World) (hr0 : (Builtin.append_ #[t, t] ty #[v, .slice (some a) m c]).run P w = .ok v' w') :
    ∀ g, v'.ownBlock = some g → v.ownBlock = some g ∨ w.heap.size ≤ g := by
  intro g' hg'
  rcases hown.2 with ⟨rfl, rfl⟩ | ⟨g, cap, cur, rfl, hbg, hg, hnc, hcm, hcs, htake⟩
  · have hx : xs = [] := List.eq_nil_of_length_eq_zero (by simpa using hown.1)
    subst hx
    obtain ⟨v2, w2, hr2, ho2, -, -⟩ := run_append_own (P := P) w w.heap.size t ty e i z size bytes ht hi hz hsize hby hzs hsz (.slice none 0 0) 0 [] (World.ownsRow_nil _ _ _ _) a m c news hl hnews h1 h63 hbytes (Nat.le_refl _)
    rw [hr0] at hr2
    cases hr2
    exact .inr (ho2.lt g' hg').1
  · subst hsize
    subst hby
    by_cases hroom : n + m ≤ cap
    · have hfit : n * i.size + news.length ≤ cur.size := by rw [hl, hcs, ← Nat.add_mul]; exact Nat.mul_le_mul_right _ hroom
      have hr := run_append_room (P := P) w t ty e i ht hi g n cap cur hg a m c news hl hnews h1 hroom hfit
      rw [hr0] at hr
      cases hr
      exact .inl hg'
    · have holds : ∀ j u, xs[j]? = some u → w.cell? ((⟨g, 0, none⟩ : Addr).add j) = some u := hown.cells (g := g) rfl
      have hsmall : n + m ≤ 9223372036854775807 := by simp only [maxLen] at h63; omega
      have hr := run_append_grow (P := P) w t ty e i z ht hi hz ⟨g, 0, none⟩ n cap xs hown.1 holds a m c news hl hnews (by omega) (by omega) (growslice_fits (by omega) hbytes)
      rw [hr0] at hr
      cases hr
      right
      have : g' = w.heap.size := by injection hg' with h; exact h.symm
      omega
theorem wp_append_own2 {w : World} {o : Oper} {a : Act} {K : Act → World → Prop} {Q : Exit → Act → World → Prop} (s x : Operand) (t : TypeId)
    (ho : o.op = .call { callee := .builtin .append, args := #[s, x], argTypes := #[t, t] })
    (base : Nat) (e : TypeId) (i : TypeInfo) (z : Value) (size bytes : Nat) (ht : P.underlying t = some (.slice e)) (hi : P.info? e = some i) (hz : i.zero = some z)
    (hsize : i.size = size) (hby : i.bytes = bytes) (hzs : z.cells.size = size) (hsz : 0 < size)
    (v : Value) (n : Nat) (xs : List Value) (hs : a.eval s = v) (hown : w.ownsRow base e size v n xs)
    (ad : Addr) (m c : Nat) (news : List Value) (hx : a.eval x = .slice (some ad) m c) (hl : news.length = m * size) (hnews : ∀ j u, news[j]? = some u → w.cell? (ad.add j) = some u) (h1 : ∀ u ∈ news, u.oneCell' = true)
    (h63 : n + m ≤ maxLen) (hbytes : (n + m) * bytes ≤ 140737488355328) (hbase : base ≤ w.heap.size)
    (h : ∀ v' w', w'.ownsRow base e size v' (n + m) (xs ++ news) → w.grownBy w' v.ownBlock → (∀ g, v'.ownBlock = some g → v.ownBlock = some g ∨ w.heap.size ≤ g) → K (a.put o.dst v') w') : o.wp P a w K Q := by
  obtain ⟨v', w', hr, h2, h3, h4⟩ := run_append_own (P := P) w base t o.type e i z size bytes ht hi hz hsize hby hzs hsz v n xs hown ad m c news hl hnews h1 h63 hbytes hbase
  have h5 := append_place w base t o.type e i z size bytes ht hi hz hsize hby hzs hsz v n xs hown ad m c news hl hnews h1 h63 hbytes v' w' hr
  unfold Oper.wp execOp
  simp only [ho, resolve, invoke, builtin, Sem.run_bind, Sem.run_pure, Result.andThen_ok, List.map_toArray, List.map_cons, List.map_nil, hs, hx, hr]
  exact h v' w' h2 h3 h5
theorem wpList_append_own2 {w : World} {ops : Array Oper} {rest : List Oper} {o : Oper} {a : Act} {Q : Exit → Act → World → Prop} (hgd : o.guard = none) (s x : Operand) (t : TypeId)
    (ho : o.op = .call { callee := .builtin .append, args := #[s, x], argTypes := #[t, t] })
    (base : Nat) (e : TypeId) (i : TypeInfo) (z : Value) (size bytes : Nat) (ht : P.underlying t = some (.slice e)) (hi : P.info? e = some i) (hz : i.zero = some z)
    (hsize : i.size = size) (hby : i.bytes = bytes) (hzs : z.cells.size = size) (hsz : 0 < size)
    (v : Value) (n : Nat) (xs : List Value) (hs : a.eval s = v) (hown : w.ownsRow base e size v n xs)
    (ad : Addr) (m c : Nat) (news : List Value) (hx : a.eval x = .slice (some ad) m c) (hl : news.length = m * size) (hnews : ∀ j u, news[j]? = some u → w.cell? (ad.add j) = some u) (h1 : ∀ u ∈ news, u.oneCell' = true)
    (h63 : n + m ≤ maxLen) (hbytes : (n + m) * bytes ≤ 140737488355328) (hbase : base ≤ w.heap.size)
    (h : ∀ v' w', w'.ownsRow base e size v' (n + m) (xs ++ news) → w.grownBy w' v.ownBlock → (∀ g, v'.ownBlock = some g → v.ownBlock = some g ∨ w.heap.size ≤ g) → wpList P ops Q rest (a.put o.dst v') w') : wpList P ops Q (o :: rest) a w :=
  wpList_plain hgd fun _ hK => wp_append_own2 s x t ho base e i z size bytes ht hi hz hsize hby hzs hsz v n xs hs hown ad m c news hx hl hnews h1 h63 hbytes hbase fun v' w' h2 h3 h4 => hK _ _ (h v' w' h2 h3 h4)
/-- The same as one step of a region that draws its order. -/
theorem step_append_own2 {w : World} {ops : Array Oper} {o : Oper} {a : Act} {K : Act → World → Prop} {Q : Exit → Act → World → Prop} {E : Prop} (hgd : o.guard = none) (s x : Operand) (t : TypeId)
    (ho : o.op = .call { callee := .builtin .append, args := #[s, x], argTypes := #[t, t] })
    (base : Nat) (e : TypeId) (i : TypeInfo) (z : Value) (size bytes : Nat) (ht : P.underlying t = some (.slice e)) (hi : P.info? e = some i) (hz : i.zero = some z)
    (hsize : i.size = size) (hby : i.bytes = bytes) (hzs : z.cells.size = size) (hsz : 0 < size)
    (v : Value) (n : Nat) (xs : List Value) (hs : a.eval s = v) (hown : w.ownsRow base e size v n xs)
    (ad : Addr) (m c : Nat) (news : List Value) (hx : a.eval x = .slice (some ad) m c) (hl : news.length = m * size) (hnews : ∀ j u, news[j]? = some u → w.cell? (ad.add j) = some u) (h1 : ∀ u ∈ news, u.oneCell' = true)
    (h63 : n + m ≤ maxLen) (hbytes : (n + m) * bytes ≤ 140737488355328) (hbase : base ≤ w.heap.size)
    (h : ∀ v' w', w'.ownsRow base e size v' (n + m) (xs ++ news) → w.grownBy w' v.ownBlock → (∀ g, v'.ownBlock = some g → v.ownBlock = some g ∨ w.heap.size ≤ g) → K (a.put o.dst v') w') :
    if Region.wanted o (yielded ops a.tmps) = true then Oper.wp P o a w K Q else E := by
  have hw : Region.wanted o (yielded ops a.tmps) = true := by simp [Region.wanted, hgd]
  rw [if_pos hw]
  exact wp_append_own2 s x t ho base e i z size bytes ht hi hz hsize hby hzs hsz v n xs hs hown ad m c news hx hl hnews h1 h63 hbytes hbase h
end
end Go.Proofs.YtghfpcjgionbaaaGreat
