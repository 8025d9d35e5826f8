/- What the laws' helpers on a list of nodes that came in do: szNodeS tells whether it is too great, toNodeS copies it. -/
import Derived.Test.YtjfimlhgjjjnmabProg
import Derived.Test.YtjfimlhgjjjnmabNdLib
import Derived.Test.YtjfimlhgjjjnmabAlloc3
import Derived.BigQuiet
import Derived.Deep.QuietTactic
import Derived.Deep.MidRow
import Derived.Laws.ResultCell
namespace Go.Proofs.Ytjfimlhgjjjnmab
open Go.RowKit

set_option maxHeartbeats 1600000 in
theorem szInts_any (a : Option Addr) (n c : Nat) (L : Int) (w : World) (hn : n ≤ 9223372036854775807) (h0 : 0 ≤ L) (h1 : L ≤ 1048576) :
    Calls Try.prog 14 #[.slice a n c, .int .i64 L] w fun e w' => ∃ r : Int, e = .returned (.int .i64 r) ∧ ((r = -1) ∨ (0 ≤ r ∧ r ≤ L ∧ n ≤ 1048576)) ∧ Below w.heap.size w w' := by
  by_cases hb : L < n
  · go_enter Try.func14, Try.ntmps14
    go_wp2
    go_ret
    exact ⟨-1, rfl, .inl rfl, Below.refl _ _⟩
  · go_enter Try.func14, Try.ntmps14
    go_wp2
    go_ret
    exact ⟨_, rfl, .inr ⟨by omega, by omega, by omega⟩, Below.refl _ _⟩

set_option maxHeartbeats 1600000 in
theorem szNode_any (x : Nd) (a : Option Addr) (c : Nat) (L : Int) (w : World) (hx : x.text.size ≤ 9223372036854775807) (hk : x.kids.length ≤ 9223372036854775807) (h0 : 0 ≤ L) (h1 : L ≤ 1048576) :
    Calls Try.prog 9 #[.agg #[.int .i64 x.kind, .string x.text, .slice a x.kids.length c, .bool x.blank], .int .i64 L] w fun e w' => ∃ r : Int, e = .returned (.int .i64 r) ∧ ((r = -1) ∨ (0 ≤ r ∧ r ≤ L ∧ x.kids.length ≤ 1048576)) ∧ Below w.heap.size w w' := by
  have HB : ∀ o1 : Obj, Below w.heap.size w (w.alloc o1) := fun o1 => (Below.refl _ _).alloc (Nat.le_refl _) _
  by_cases hn : L < x.text.size
  · go_enter Try.func9, Try.ntmps9
    go_wp2
    go_ret
    exact ⟨-1, rfl, .inl rfl, HB _⟩
  · go_enter Try.func9, Try.ntmps9
    go_wp2_with fail
    refine (szInts_any a x.kids.length c (L - x.text.size) _ hk (by omega) (by omega)).mono ?_
    rintro e w1 ⟨r, rfl, hr, hb1⟩
    have B1 := (HB _).trans (hb1.mono (HB _).size)
    rcases hr with rfl | ⟨hr0, hr1, hr2⟩
    · go_wp2
      go_ret
      exact ⟨-1, rfl, .inl rfl, B1⟩
    · go_wp2
      go_ret
      exact ⟨_, rfl, .inr ⟨by omega, by omega, hr2⟩, B1⟩

set_option maxHeartbeats 1600000 in
theorem szNodes_any (v : Value) (xs : List Nd) (L : Int) (w : World) (hn0 : xs.length ≤ 9223372036854775807) (hx : NdsOk xs) (hL0 : 0 ≤ L) (hL1 : L ≤ 1048576) (hT : NdsAt w v xs) :
    Calls Try.prog 4 #[v, .int .i64 L] w fun e w' => ∃ r : Int, e = .returned (.int .i64 r) ∧ ((r = -1) ∨ (0 ≤ r ∧ r ≤ 1048576 ∧ xs.length ≤ 1048576 ∧ KidsFew xs)) ∧ Below w.heap.size w w' := by
  obtain ⟨a, c, rfl, h⟩ := hT
  obtain ⟨n, hn⟩ : ∃ n, n = xs.length := ⟨_, rfl⟩
  rw [← hn] at h hn0 ⊢
  have HN := hidOf hn
  clear hn
  by_cases hbig : L < n
  · clear h
    go_enter Try.func4, Try.ntmps4
    go_wp2
    go_ret
    exact ⟨-1, rfl, .inl rfl, Below.refl _ _⟩
  · go_enter Try.func4, Try.ntmps4
    go_wp2
    go_loopw [1, 5] (fun r i wr => ∃ (k : Nat) (z : Int), k ≤ n ∧ r = .int .i64 z ∧ i = .int .i64 k ∧ 0 ≤ z ∧ z ≤ L ∧ Hid (∀ (j : Nat) (x : Nd), j < k → xs[j]? = some x → x.kids.length ≤ 1048576) ∧ Below w.heap.size w wr) (fun _ i _ => n - (intOf i).toNat)
    case atStart => exact ⟨0, L - n, Nat.zero_le _, by go_num, rfl, by omega, by omega, hidOf fun j x h => by omega, Below.refl _ _⟩
    case round =>
      obtain ⟨k, z, hk, rfl, rfl, hz0, hz1, HK, hb⟩ := hrel
      by_cases hlt : k < n
      · obtain ⟨x, ex⟩ : ∃ x, xs[k]? = some x := ⟨_, List.getElem?_eq_getElem (by rw [← HN.out]; exact hlt)⟩
        obtain ⟨b1, o1, rfl, hb1, hc1⟩ := h (by omega)
        obtain ⟨ka, kc, f1, -⟩ := hc1 k x ex
        obtain ⟨p0, p1, p2, p3⟩ := nd4 (w := wr) (fun j hj => by rw [hb.cell hb1]; exact f1 j hj)
        have hxx := hx x (List.mem_of_getElem? ex)
        have EX := hidOf ex
        clear ex hc1 h f1
        have hA : (0 : Int) ≤ (k : Int) := by omega
        have hB : (k : Int) < (n : Int) := by omega
        go_wp2_with fail
        refine (szNode_any x ka kc z _ hxx.1 hxx.2 hz0 (by omega)).mono ?_
        rintro e w1 ⟨r, rfl, hr, hbb⟩
        have hB1 := hb.trans (hbb.mono hb.size)
        rcases hr with rfl | ⟨hr0, hr1, hr2⟩
        · go_wp2
          go_ret
          exact ⟨-1, rfl, .inl rfl, hB1⟩
        · go_wp2
          go_roundw
          case rel => exact ⟨k + 1, r, by omega, rfl, by go_num, hr0, by omega, hidOf fun j x' h1 h2 => by
            by_cases e : j = k
            · subst e
              have e1 := EX.out
              rw [h2] at e1
              cases e1
              exact hr2
            · exact HK.out j x' (by omega) h2, hB1⟩
          case measure => simp [intOf]; omega
      · go_wp2
        go_ret
        exact ⟨z, rfl, .inr ⟨hz0, by omega, by omega, fun x hm => by
          obtain ⟨j, hj⟩ := List.mem_iff_getElem?.1 hm
          have hl := (List.getElem?_eq_some_iff.1 hj).1
          have h3 := HN.out
          exact HK.out j x (by omega) hj⟩, hb⟩

theorem infoIntT : (Try.prog.info? 3).map (fun i => (i.zero, i.size, i.bytes)) = some (some (.int .i64 0), 1, 8) := by kernel_rfl
def intVals (ks : List Int) : List Value := ks.map (Value.int .i64)

set_option maxHeartbeats 1600000 in
theorem toInts_any (a : Option Addr) (c : Nat) (ks : List Int) (w : World) (hn0 : ks.length ≤ 1048576) (hT : KidsAt w a ks) :
    Calls Try.prog 15 #[.slice a ks.length c] w fun e w' => e = .returned (.slice (some ⟨w.heap.size, 0, none⟩) ks.length ks.length) ∧ w'.ownsRow w.heap.size 3 1 (.slice (some ⟨w.heap.size, 0, none⟩) ks.length ks.length) ks.length (intVals ks) ∧ Below w.heap.size w w' := by
  unfold KidsAt at hT
  obtain ⟨n, hn⟩ : ∃ n, n = ks.length := ⟨_, rfl⟩
  rw [← hn] at hT hn0 ⊢
  have HN := hidOf hn
  clear hn
  obtain ⟨i0, hi, hz0, hz1, hz2⟩ := info_parts infoIntT
  go_enter Try.func15, Try.ntmps15
  go_wp2_with (at_make; refine wpList_make_full _ rfl _ _ 30 rfl w.heap.size 3 i0 (.int .i64 0) 1 Try.underlying30 hi hz0 hz1 .i64 .i64 _ _ n rfl rfl rfl rfl (by rw [hz2]; omega) (by unfold maxLen; omega) (Nat.le_refl _) ?_; intro w1 hown hgrow)
  have hb1 : Below w.heap.size w w1 := (Below.refl _ w).grown hgrow (Nat.le_refl _) (fun k e => by cases e)
  obtain ⟨zs, hzs⟩ : ∃ zs, zs = (madeCells (Value.int IntKind.i64 0).cells (n * 1)).toList := ⟨_, rfl⟩
  rw [← hzs] at hown
  clear hzs hgrow
  go_loopw [4] (fun i wr => ∃ (k : Nat) (zs : List Value), k ≤ n ∧ i = .int .i64 k ∧ wr.ownsRow w.heap.size 3 1 (.slice (some ⟨w.heap.size, 0, none⟩) n n) n zs ∧ Hid (zs.take k = intVals (ks.take k)) ∧ Below w.heap.size w wr) (fun i _ => n - (intOf i).toNat)
  case atStart => exact ⟨0, zs, Nat.zero_le _, rfl, hown, rfl, hb1⟩
  case round =>
    obtain ⟨k, zs, hk, rfl, ho, HZ, hb⟩ := hrel
    by_cases hlt : k < n
    · obtain ⟨t, ht⟩ : ∃ t, ks[k]? = some t := ⟨_, List.getElem?_eq_getElem (by rw [← HN.out]; exact hlt)⟩
      obtain ⟨b, off, rfl, hlb, hcs⟩ := hT (by omega)
      have hc : wr.cell? ⟨b, off + k, none⟩ = some (.int .i64 t) := by rw [hb.cell hlb]; exact hcs k t ht
      have hlz : zs.length = n * 1 := ho.1
      have HS := hidOf (ho.stored k (.int .i64 t))
      have hf := ho.frozenAt k
      obtain ⟨u, hu⟩ : ∃ u, wr.cell? ⟨w.heap.size, k, none⟩ = some u := ⟨_, (ho.cellAt k (by omega)).trans (List.getElem?_eq_getElem (by omega))⟩
      have HT := hidOf ht
      have HLZ := hidOf hlz
      clear ht hcs hlz ho
      have hA : (0 : Int) ≤ (k : Int) := by omega
      have hB : (k : Int) < (n : Int) := by omega
      go_wp2
      go_roundw
      case rel => exact ⟨k + 1, _, by omega, by go_num, HS.out.1, hidOf (by
        have h1 := HZ.out
        have h2 := HLZ.out
        rw [List.take_add_one, List.take_set_of_le (Nat.le_refl _), h1, List.getElem?_set_self (by omega), List.take_add_one, HT.out]
        simp [intVals]), hb.grown HS.out.2 hb.size (fun q hq => by cases hq; exact Nat.le_refl _)⟩
      case measure => simp [intOf]; omega
    · go_wp2
      go_ret
      refine ⟨rfl, ?_, hb⟩
      have hz : zs = intVals ks := by
        have h1 := HZ.out
        have h2 : zs.length = n * 1 := ho.1
        have h3 := HN.out
        rw [List.take_of_length_le (by omega), List.take_of_length_le (by omega)] at h1
        exact h1
      rw [← hz]
      exact ho
theorem KidsAt.of_own {w : World} {base e g n c : Nat} {ks : List Int} (h : w.ownsRow base e 1 (.slice (some ⟨g, 0, none⟩) n c) n (intVals ks)) : KidsAt w (some ⟨g, 0, none⟩) ks := by
  have hl : ks.length = n := by have := h.1; simp [intVals] at this; omega
  intro hn
  refine ⟨g, 0, rfl, (h.lt g rfl).2, fun j z hz => ?_⟩
  have hj : j < ks.length := (List.getElem?_eq_some_iff.1 hz).1
  rw [Nat.zero_add, h.cellAt j (by omega)]
  simp [intVals, hz]

theorem KidsAt.set {w : World} {a : Option Addr} {ks : List Int} (h : KidsAt w a ks) (p : Addr) (v : Value) (hne : ∀ b off, a = some ⟨b, off, none⟩ → b ≠ p.block) : KidsAt (w.setCell p v) a ks := by
  intro hn
  obtain ⟨b, off, ha, hlt, hc⟩ := h hn
  refine ⟨b, off, ha, by simpa [World.setCell] using hlt, fun j z hz => ?_⟩
  have hbl := Below.heap_setCell w p v b (hne b off ha)
  rw [← hc j z hz]
  unfold World.cell?
  rw [hbl]
theorem results_one4 {P : Program} {fn : Func} {p : Tmp} {ty : TypeId} (h : fn.results = #[.cell p ty]) (tmps : Array Value) (w : World) (g : Nat) (c0 c1 c2 c3 : Value) (d : TypeDesc)
    (hp : tmps.getD p undef = .pointer (some ⟨g, 0, none⟩)) (h0 : w.cell? ⟨g, 0, none⟩ = some c0) (h1 : w.cell? ⟨g, 1, none⟩ = some c1) (h2 : w.cell? ⟨g, 2, none⟩ = some c2) (h3 : w.cell? ⟨g, 3, none⟩ = some c3)
    (hu : P.underlying ty = some d) (hd : d.isRow = true) (hi : (P.info? ty).map (·.size) = some 4) :
    (results fn tmps).run P w = .ok (.agg #[c0, c1, c2, c3]) w := by
  have hr : w.rangeAt g 0 [c0, c1, c2, c3] := by
    intro j v hv
    match j with
    | 0 => simpa using h0.trans hv
    | 1 => simpa using h1.trans hv
    | 2 => simpa using h2.trans hv
    | 3 => simpa using h3.trans hv
    | j + 4 => simp at hv
  have hp' : tmps[p]?.getD undef = .pointer (some ⟨g, 0, none⟩) := by simpa using hp
  simp [results, h, hp', asAddr, run_loadVar_mid w g 0 ty [c0, c1, c2, c3] d hr hu hd (by simpa using hi)]
theorem infoNd : (Try.prog.info? 33).map (·.size) = some 4 ∧ (Try.prog.info? 33).map (fun i => (i.zero, i.size, i.bytes)) = some (some (.agg #[.int .i64 0, .string ByteArray.empty, .slice none 0 0, .bool false]), 4, 56) := ⟨by kernel_rfl, by kernel_rfl⟩

set_option maxHeartbeats 1600000 in
theorem toNode_any (x : Nd) (a : Option Addr) (c : Nat) (w : World) (hn : x.kids.length ≤ 1048576) (hT : KidsAt w a x.kids) :
    Calls Try.prog 10 #[.agg #[.int .i64 x.kind, .string x.text, .slice a x.kids.length c, .bool x.blank]] w fun e w' => ∃ g c', e = .returned (.agg #[.int .i64 x.kind, .string x.text, .slice (some ⟨g, 0, none⟩) x.kids.length c', .bool x.blank]) ∧ w.heap.size ≤ g ∧ KidsAt w' (some ⟨g, 0, none⟩) x.kids ∧ Below w.heap.size w w' := by
  have HB : ∀ o1 o2 o3 : Obj, Below w.heap.size w (((w.alloc o1).alloc o2).alloc o3) := fun o1 o2 o3 => (((Below.refl _ _).alloc (Nat.le_refl _) _).alloc (by simp) _).alloc (by simp; omega) _
  obtain ⟨ks, hks⟩ : ∃ ks, ks = x.kids := ⟨_, rfl⟩
  rw [← hks] at hn hT ⊢
  clear hks
  go_enter Try.func10, Try.ntmps10
  go_wp2_with fail
  refine (toInts_any a c ks _ hn (hT.below (HB _ _ _) (Nat.le_refl _))).mono ?_
  obtain ⟨A0, A1, A2, AS⟩ := alloc3 w (.cells #[.int .i64 x.kind, .string x.text, .slice a ks.length c, .bool x.blank] 32) (.cells #[.int .i64 0, .string { data := #[] }, .slice none 0 0, .bool false] 33) (.cells #[.int .i64 x.kind, .string x.text, .slice none 0 0, .bool false] 33)
  have HB3 := HB (.cells #[.int .i64 x.kind, .string x.text, .slice a ks.length c, .bool x.blank] 32) (.cells #[.int .i64 0, .string { data := #[] }, .slice none 0 0, .bool false] 33) (.cells #[.int .i64 x.kind, .string x.text, .slice none 0 0, .bool false] 33)
  clear HB
  generalize ((w.alloc (.cells #[.int .i64 x.kind, .string x.text, .slice a ks.length c, .bool x.blank] 32)).alloc (.cells #[.int .i64 0, .string { data := #[] }, .slice none 0 0, .bool false] 33)).alloc (.cells #[.int .i64 x.kind, .string x.text, .slice none 0 0, .bool false] 33) = W at *
  rintro e w4 ⟨rfl, ho, hb⟩
  have B0 := (hb.block w.heap.size (by omega)).trans A0
  have B1 := (hb.block (w.heap.size + 1) (by omega)).trans A1
  have B2 := (hb.block (w.heap.size + 1 + 1) (by omega)).trans A2
  have K4 := KidsAt.of_own ho
  have HBW := HB3.trans (hb.mono HB3.size)
  have p3 : w4.cell? ⟨w.heap.size, 3, none⟩ = some (.bool x.blank) := cell_of_row w4 _ 3 _ _ _ B0
  have r0 : w4.cell? ⟨w.heap.size + 1 + 1, 0, none⟩ = some (.int .i64 x.kind) := cell_of_row w4 _ 0 _ _ _ B2
  have r1 : w4.cell? ⟨w.heap.size + 1 + 1, 1, none⟩ = some (.string x.text) := cell_of_row w4 _ 1 _ _ _ B2
  have r2 : w4.cell? ⟨w.heap.size + 1 + 1, 2, none⟩ = some (.slice none 0 0) := cell_of_row w4 _ 2 _ _ _ B2
  have r3 : w4.cell? ⟨w.heap.size + 1 + 1, 3, none⟩ = some (.bool false) := cell_of_row w4 _ 3 _ _ _ B2
  have s0 : w4.cell? ⟨w.heap.size + 1, 0, none⟩ = some (.int .i64 0) := cell_of_row w4 _ 0 _ _ _ B1
  have s1 : w4.cell? ⟨w.heap.size + 1, 1, none⟩ = some (.string { data := #[] }) := cell_of_row w4 _ 1 _ _ _ B1
  have s2 : w4.cell? ⟨w.heap.size + 1, 2, none⟩ = some (.slice none 0 0) := cell_of_row w4 _ 2 _ _ _ B1
  have s3 : w4.cell? ⟨w.heap.size + 1, 3, none⟩ = some (.bool false) := cell_of_row w4 _ 3 _ _ _ B1
  have f2 := fun j => frozen_of_row w4 (w.heap.size + 1 + 1) j _ _ B2
  have f1 := fun j => frozen_of_row w4 (w.heap.size + 1) j _ _ B1
  have f22 := f2 2
  have f23 := f2 3
  have f10 := f1 0
  have f11 := f1 1
  have f12 := f1 2
  have f13 := f1 3
  have HK := hidOf K4
  have HW := hidOf HBW
  have HS := hidOf AS
  clear ho hb A0 A1 A2 B0 B1 B2 f1 f2 K4 HBW HB3 AS
  generalize W.heap.size = S at *
  go_wp2
  refine bodyPost_ret (results_one4 rfl _ _ (w.heap.size + 1) (.int .i64 x.kind) (.string x.text) (.slice (some ⟨S, 0, none⟩) ks.length ks.length) (.bool x.blank) _ rfl ?_ ?_ ?_ ?_ Try.underlying33 rfl infoNd.1) rfl ?_
  · go_simp
  · go_simp
  · go_simp
  · go_simp
  · have hS := HS.out
    have n1 : ∀ b off, some (⟨S, 0, none⟩ : Addr) = some ⟨b, off, none⟩ → b ≠ w.heap.size + 1 := fun b off e => by cases e; omega
    have n2 : ∀ b off, some (⟨S, 0, none⟩ : Addr) = some ⟨b, off, none⟩ → b ≠ w.heap.size + 1 + 1 := fun b off e => by cases e; omega
    refine ⟨S, ks.length, rfl, by omega, ?_, ?_⟩
    · exact (((((HK.out.set _ _ n2).set _ _ n2).set _ _ n1).set _ _ n1).set _ _ n1).set _ _ n1
    · have q1 : w.heap.size ≤ w.heap.size + 1 := by omega
      have q2 : w.heap.size ≤ w.heap.size + 1 + 1 := by omega
      exact (((((HW.out.setCell q2 _).setCell q2 _).setCell q1 _).setCell q1 _).setCell q1 _).setCell q1 _
/-- The row that the copy is laid into: k nodes are there, the Kids of each in a place of their own. -/
def NdRow (w : World) (R : Nat) (zs : List Value) (xs : List Nd) (k : Nat) : Prop :=
  ∀ j x, j < k → xs[j]? = some x → ∃ g c, g ≠ R ∧ (∀ i, i < 4 → zs[j * 4 + i]? = (ndCells x (some ⟨g, 0, none⟩) c)[i]?) ∧ KidsAt w (some ⟨g, 0, none⟩) x.kids
theorem NdRow.below {w w' : World} {R : Nat} {zs : List Value} {xs : List Nd} {k : Nat} (h : NdRow w R zs xs k) (hb : Below w.heap.size w w') : NdRow w' R zs xs k := by
  intro j x hj hx
  obtain ⟨g, c, h1, h2, h3⟩ := h j x hj hx
  exact ⟨g, c, h1, h2, h3.below hb (Nat.le_refl _)⟩
/-- Four values laid one behind the other. -/
def lay4 (zs : List Value) (k : Nat) (v0 v1 v2 v3 : Value) : List Value := (((zs.set (k * 4) v0).set (k * 4 + 1) v1).set (k * 4 + 2) v2).set (k * 4 + 3) v3
theorem lay4_at {zs : List Value} {k : Nat} {v0 v1 v2 v3 : Value} (h : k * 4 + 4 ≤ zs.length) (i : Nat) (hi : i < 4) : (lay4 zs k v0 v1 v2 v3)[k * 4 + i]? = [v0, v1, v2, v3][i]? := by
  unfold lay4
  match i, hi with
  | 0, _ => rw [List.getElem?_set_ne (by omega), List.getElem?_set_ne (by omega), List.getElem?_set_ne (by omega), Nat.add_zero, List.getElem?_set_self (by omega)]; rfl
  | 1, _ => rw [List.getElem?_set_ne (by omega), List.getElem?_set_ne (by omega), List.getElem?_set_self (by simp; omega)]; rfl
  | 2, _ => rw [List.getElem?_set_ne (by omega), List.getElem?_set_self (by simp; omega)]; rfl
  | 3, _ => rw [List.getElem?_set_self (by simp; omega)]; rfl
theorem lay4_other {zs : List Value} {k : Nat} {v0 v1 v2 v3 : Value} {j : Nat} (h : j < k * 4) : (lay4 zs k v0 v1 v2 v3)[j]? = zs[j]? := by
  unfold lay4
  rw [List.getElem?_set_ne (by omega), List.getElem?_set_ne (by omega), List.getElem?_set_ne (by omega), List.getElem?_set_ne (by omega)]
theorem NdRow.step {w w' : World} {R : Nat} {zs : List Value} {xs : List Nd} {k : Nat} {x : Nd} {g c : Nat} (h : NdRow w R zs xs k) (hg : w.grownBy w' (some R)) (hz : k * 4 + 4 ≤ zs.length) (hx : xs[k]? = some x) (hne : g ≠ R) (hk : KidsAt w (some ⟨g, 0, none⟩) x.kids) :
    NdRow w' R (lay4 zs k (.int .i64 x.kind) (.string x.text) (.slice (some ⟨g, 0, none⟩) x.kids.length c) (.bool x.blank)) xs (k + 1) := by
  intro j y hj hy
  by_cases e : j = k
  · subst e
    rw [hx] at hy
    cases hy
    exact ⟨g, c, hne, fun i hi => lay4_at hz i hi, hk.grown hg (fun b off e => by cases e; exact hne)⟩
  · obtain ⟨g', c', h1, h2, h3⟩ := h j y (by omega) hy
    exact ⟨g', c', h1, fun i hi => by rw [lay4_other (by omega)]; exact h2 i hi, h3.grown hg (fun b off e => by cases e; exact h1)⟩

set_option maxHeartbeats 4000000 in
theorem toNodes_any (v : Value) (xs : List Nd) (w : World) (hn0 : xs.length ≤ 1048576) (hF : KidsFew xs) (hT : NdsAt w v xs) :
    Calls Try.prog 6 #[v] w fun e w' => ∃ a c, e = .returned (.slice a xs.length c) ∧ NdsAt w' (.slice a xs.length c) xs ∧ Below w.heap.size w w' := by
  obtain ⟨a, c, rfl, h⟩ := hT
  obtain ⟨n, hn⟩ : ∃ n, n = xs.length := ⟨_, rfl⟩
  rw [← hn] at h hn0 ⊢
  have HN := hidOf hn
  clear hn
  obtain ⟨i0, hi, hz0, hz1, hz2⟩ := info_parts infoNd.2
  go_enter Try.func6, Try.ntmps6
  go_wp2_with (at_make; refine wpList_make_full _ rfl _ _ 25 rfl w.heap.size 33 i0 _ 4 Try.underlying25 hi hz0 hz1 .i64 .i64 _ _ n rfl rfl rfl rfl (by rw [hz2]; omega) (by unfold maxLen; omega) (Nat.le_refl _) ?_; intro w1 hown hgrow)
  have hb1 : Below w.heap.size w w1 := (Below.refl _ w).grown hgrow (Nat.le_refl _) (fun k e => by cases e)
  obtain ⟨zs, hzs⟩ : ∃ zs, zs = (madeCells (Value.agg #[Value.int IntKind.i64 0, Value.string ByteArray.empty, Value.slice none 0 0, Value.bool false]).cells (n * 4)).toList := ⟨_, rfl⟩
  rw [← hzs] at hown
  clear hzs hgrow
  go_loopw [4] (fun i wr => ∃ (k : Nat) (zs : List Value), k ≤ n ∧ i = .int .i64 k ∧ wr.ownsRow w.heap.size 33 4 (.slice (some ⟨w.heap.size, 0, none⟩) n n) n zs ∧ Hid (NdRow wr w.heap.size zs xs k) ∧ Below w.heap.size w wr) (fun i _ => n - (intOf i).toNat)
  case atStart => exact ⟨0, zs, Nat.zero_le _, rfl, hown, hidOf fun j x h => by omega, hb1⟩
  case round =>
    obtain ⟨k, zs, hk, rfl, ho, HZ, hb⟩ := hrel
    by_cases hlt : k < n
    · obtain ⟨x, ex⟩ : ∃ x, xs[k]? = some x := ⟨_, List.getElem?_eq_getElem (by rw [← HN.out]; exact hlt)⟩
      obtain ⟨b1, o1, rfl, hb1, hc1⟩ := h (by omega)
      obtain ⟨ka, kc, q4, KK⟩ := hc1 k x ex
      obtain ⟨p0, p1, p2, p3⟩ := nd4 (w := wr) (fun j hj => by rw [hb.cell hb1]; exact q4 j hj)
      have hfew := hF x (List.mem_of_getElem? ex)
      have hRlt : w.heap.size < wr.heap.size := (ho.lt w.heap.size rfl).2
      have EX := hidOf ex
      clear ex hc1 h q4
      have hA : (0 : Int) ≤ (k : Int) := by omega
      have hB : (k : Int) < (n : Int) := by omega
      go_wp2_with fail
      refine (toNode_any x ka kc _ hfew (KK.below hb (Nat.le_refl _))).mono ?_
      rintro e w2 ⟨g, c', rfl, hg, hK2, hb2⟩
      have ho2 := owns_below ho hb2
      have hlz : zs.length = n * 4 := ho2.1
      have s0 := ho2.stored (k * 4) (.int .i64 x.kind)
      have s1 := s0.1.stored (k * 4 + 1) (.string x.text)
      have s2 := s1.1.stored (k * 4 + 2) (.slice (some ⟨g, 0, none⟩) x.kids.length c')
      have s3 := s2.1.stored (k * 4 + 3) (.bool x.blank)
      have HS := hidOf (And.intro s3.1 (grownBy_trans (grownBy_trans (grownBy_trans s0.2 s1.2) s2.2) s3.2))
      have HR := hidOf (NdRow.step (c := c') (HZ.out.below hb2) HS.out.2 (by omega) EX.out (by omega) hK2)
      obtain ⟨u0, d0⟩ : ∃ u, w2.cell? ⟨w.heap.size, k * 4, none⟩ = some u := ⟨_, (ho2.cellAt (k * 4) (by omega)).trans (List.getElem?_eq_getElem (by omega))⟩
      obtain ⟨u1, d1⟩ : ∃ u, w2.cell? ⟨w.heap.size, k * 4 + 1, none⟩ = some u := ⟨_, (ho2.cellAt (k * 4 + 1) (by omega)).trans (List.getElem?_eq_getElem (by omega))⟩
      obtain ⟨u2, d2⟩ : ∃ u, w2.cell? ⟨w.heap.size, k * 4 + 2, none⟩ = some u := ⟨_, (ho2.cellAt (k * 4 + 2) (by omega)).trans (List.getElem?_eq_getElem (by omega))⟩
      obtain ⟨u3, d3⟩ : ∃ u, w2.cell? ⟨w.heap.size, k * 4 + 3, none⟩ = some u := ⟨_, (ho2.cellAt (k * 4 + 3) (by omega)).trans (List.getElem?_eq_getElem (by omega))⟩
      have f0 := ho2.frozenAt (k * 4)
      have f1 := ho2.frozenAt (k * 4 + 1)
      have f2 := ho2.frozenAt (k * 4 + 2)
      have f3 := ho2.frozenAt (k * 4 + 3)
      clear s0 s1 s2 s3 hlz ho ho2 p0 p1 p2 p3 HZ hK2 hRlt
      go_wp2
      go_roundw
      case rel => exact ⟨k + 1, _, by omega, by go_num, HS.out.1, hidOf HR.out, (hb.trans (hb2.mono hb.size)).grown HS.out.2 (Nat.le_trans hb.size hb2.size) (fun q hq => by cases hq; exact Nat.le_refl _)⟩
      case measure => simp [intOf]; omega
    · go_wp2
      go_ret
      refine ⟨_, _, rfl, ⟨_, _, by rw [← HN.out], fun hpos => ?_⟩, hb⟩
      have h3 := HN.out
      refine ⟨w.heap.size, 0, rfl, (ho.lt w.heap.size rfl).2, fun j x hx => ?_⟩
      have hj := (List.getElem?_eq_some_iff.1 hx).1
      obtain ⟨g, c', hne, h4, hK⟩ := HZ.out j x (by omega) hx
      refine ⟨_, c', fun i hi => ?_, hK⟩
      rw [Nat.zero_add, ho.cellAt (j * 4 + i) (by omega)]
      exact h4 i hi
end Go.Proofs.Ytjfimlhgjjjnmab
