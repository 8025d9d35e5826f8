/- What a strings.Builder does in this program: its check for copies, and WriteString. -/
import Derived.Test.YtghfpcjgionbaaaGreatShelf
import Derived.Test.YtghfpcjgionbaaaGreatLib
import Derived.Lib.OthersKept
import Derived.Test.YtghfpcjgionbaaaGreatKah
import Derived.Test.YtghfpcjgionbaaaGreatKax
import Derived.Lib.AppendIntMem
import Derived.Laws.OwnMore
import Derived.Maps.AppendAt
namespace Go.Proofs.YtghfpcjgionbaaaGreat
open Go.RowKit

theorem infoBuilder : (Tryz.prog.info? 153).map (·.size) = some 2 := by kernel_rfl
theorem liesBuilder : liesAt Tryz.prog Tryz.prog.depth 153 (2 / Tryz.prog.cellsOf 153) 0 153 1 = true := by kernel_rfl
theorem infoByte : (Tryz.prog.info? 5).map (fun i => (i.zero, i.size, i.bytes)) = some (some (.int .u8 0), 1, 1) := by kernel_rfl

set_option maxHeartbeats 1000000 in
set_option maxRecDepth 100000 in
theorem check_used (b : Nat) (w : World) (h0 : w.cell? ⟨b, 0, none⟩ = some (.pointer (some ⟨b, 0, none⟩))) :
    Calls Tryz.prog 135 #[.pointer (some ⟨b, 0, none⟩)] w fun e w' => e = .returned (.tuple #[]) ∧ w' = w := by
  obtain ⟨j, hj, _⟩ := Option.map_eq_some_iff.1 infoBuilder
  go_enter Tryz.func135, Tryz.ntmps135
  go_wp2
  rw [Lib.run_neq_ptr_same w _ Tryz.underlying151 hj]
  go_wp2
  go_end0
  exact ⟨rfl, rfl⟩

set_option maxHeartbeats 1000000 in
set_option maxRecDepth 100000 in
theorem check_fresh (b : Nat) (w : World) (h0 : w.cell? ⟨b, 0, none⟩ = some (.pointer none)) (hsh : w.shape? b = some (153, 2)) (hfz : w.frozen? ⟨b, 0, none⟩ = false) :
    Calls Tryz.prog 135 #[.pointer (some ⟨b, 0, none⟩)] w fun e w' => e = .returned (.tuple #[]) ∧ w' = w.setCell ⟨b, 0, none⟩ (.pointer (some ⟨b, 0, none⟩)) := by
  obtain ⟨j, hj, hjs⟩ := Option.map_eq_some_iff.1 infoBuilder
  go_enter Tryz.func135, Tryz.ntmps135
  go_wp2
  rw [Lib.run_to_unsafe w ⟨b, 0, none⟩ Tryz.underlying151 Tryz.underlying178 hj (by rw [hjs]; decide) hsh (Nat.zero_lt_succ 1)]
  simp only [Result.andThen]
  rw [Oper.upon_value]
  go_wp2
  rw [run_callFunc_extern Tryz.func149 (by kernel_rfl) (by kernel_rfl) (by kernel_rfl) (e := Extern.AbiNoEscape.same) (by kernel_rfl)]
  rw [Lib.run_noEscape]
  simp only [Result.andThen]
  rw [Oper.upon_value]
  go_wp2
  rw [Lib.run_from_unsafe w ⟨b, 0, none⟩ Tryz.underlying178 Tryz.underlying151 hj hsh liesBuilder]
  simp only [Result.andThen]
  rw [Oper.upon_value]
  go_wp2
  go_end0
  exact ⟨rfl, rfl⟩

theorem check_any (B b : Nat) (bs : List Value) (w : World) (h : Lib.IsBuilder 153 5 B b bs w) :
    Calls Tryz.prog 135 #[.pointer (some ⟨b, 0, none⟩)] w fun e w' => e = .returned (.tuple #[]) ∧ Lib.BuilderAt 153 5 B b (.pointer (some ⟨b, 0, none⟩)) bs w' ∧ Below B w w' := by
  rcases h with h | h
  · refine (check_fresh b w h.cell0 h.shape h.frozen0).mono ?_
    rintro e w' ⟨rfl, rfl⟩
    exact ⟨rfl, h.used _, (Below.refl B w).setCell (p := ⟨b, 0, none⟩) h.1 _⟩
  · refine (check_used b w h.cell0).mono ?_
    rintro e w' ⟨rfl, rfl⟩
    exact ⟨rfl, h, Below.refl B _⟩

theorem slice_of_own {w : World} {base e size : Nat} {v : Value} {n : Nat} {xs : List Value} (h : w.ownsRow base e size v n xs) : ∃ ao n' c, v = .slice ao n' c := by
  rcases h.2 with ⟨hv, _⟩ | ⟨_, _, _, hv, _⟩
  · exact ⟨_, _, _, hv⟩
  · exact ⟨_, _, _, hv⟩

set_option maxHeartbeats 2000000 in
set_option maxRecDepth 100000 in
theorem write_any (B b : Nat) (bs : List Value) (s : ByteArray) (w : World) (h : Lib.IsBuilder 153 5 B b bs w) (hlen : bs.length + s.size ≤ 140737488355328) (hBw : B ≤ w.heap.size) :
    Calls Tryz.prog 113 #[.pointer (some ⟨b, 0, none⟩), .string s] w fun e w' => e = .returned (.tuple #[.int .i64 s.size, .nilIface]) ∧ Lib.IsBuilder 153 5 B b (bs ++ Lib.strCells s) w' ∧ Below B w w' := by
  obtain ⟨i0, hi, hz0, hz1, hz2⟩ := info_parts infoByte
  go_enter Tryz.func113, Tryz.ntmps113
  go_wp2_with fail
  refine (check_any B b bs _ h).mono ?_
  rintro e w1 ⟨rfl, ⟨hB, v, hbk, hown, hne⟩, hb1⟩
  have hsz1 := hb1.size
  have c1 : w1.cell? ⟨b, 1, none⟩ = some v := by rw [Lib.cell_of_heap hbk]; rfl
  have hlt : b < w1.heap.size := (Array.getElem?_eq_some_iff.1 hbk).1
  go_wp2_with (at_builtin; refine Lib.wpList_append_own_string _ rfl _ _ 149 9 rfl B 5 i0 Tryz.underlying149 Tryz.underlying9 hi hz0 hz1 hz2 _ _ _ rfl hown s rfl (by unfold maxLen; omega) (by omega) (by omega) ?_)
  intro v' w2 hown' hgrow _
  have hb2 := (hgrow.block b hlt (fun e => hne e.symm)).trans hbk
  have d1 : w2.cell? ⟨b, 1, none⟩ = some v := by rw [Lib.cell_of_heap hb2]; rfl
  have f1 : w2.frozen? ⟨b, 1, none⟩ = false := Lib.frozen_of_heap hb2 1
  obtain ⟨ao, n', cap, rfl⟩ := slice_of_own hown'
  go_wp2
  go_ret2
  exact ⟨rfl, .inr (Lib.BuilderAt.put (T := 153) (e := 5) hB hb2 (bs' := bs ++ Lib.strCells s) (by simpa [Lib.strCells_length] using hown') (by decide)), (hb1.grown hgrow (by omega) (fun k hk => (hown.lt k hk).1)).setCell (p := ⟨b, 1, none⟩) hB _⟩
end Go.Proofs.YtghfpcjgionbaaaGreat
/- What a strings.Builder's WriteString keeps: every other block that is no row of bytes. -/
namespace Go.Proofs.YtghfpcjgionbaaaGreat
open Go.RowKit

theorem check_kept (B b : Nat) (bs : List Value) (w : World) (h : Lib.IsBuilder 153 5 B b bs w) :
    Calls Tryz.prog 135 #[.pointer (some ⟨b, 0, none⟩)] w fun e w' => e = .returned (.tuple #[]) ∧ Lib.BuilderAt 153 5 B b (.pointer (some ⟨b, 0, none⟩)) bs w' ∧ Below B w w' ∧ Lib.OthersKept 5 (some b) w w' := by
  rcases h with h | h
  · refine (check_fresh b w h.cell0 h.shape h.frozen0).mono ?_
    rintro e w' ⟨rfl, rfl⟩
    exact ⟨rfl, h.used _, (Below.refl B w).setCell (p := ⟨b, 0, none⟩) h.1 _, (Lib.OthersKept.refl _ _ _).setCell ⟨b, 0, none⟩ rfl _⟩
  · refine (check_used b w h.cell0).mono ?_
    rintro e w' ⟨rfl, rfl⟩
    exact ⟨rfl, h, Below.refl B _, Lib.OthersKept.refl _ _ _⟩
theorem own_kind {w : World} {B : Nat} {e : TypeId} {v : Value} {n : Nat} {xs : List Value} (h : w.ownsRow B e 1 v n xs) : ∀ g, v.ownBlock = some g → ∃ c fz, w.heap[g]? = some (.cells c e fz) := by
  intro g hg
  rcases h.2 with ⟨rfl, _⟩ | ⟨g', cap, cur, rfl, _, hgg, _⟩
  · simp [Value.ownBlock] at hg
  · simp [Value.ownBlock] at hg
    subst hg
    exact ⟨cur, _, hgg⟩

set_option maxHeartbeats 2000000 in
set_option maxRecDepth 100000 in
theorem write_kept (B b : Nat) (bs : List Value) (s : ByteArray) (w : World) (h : Lib.IsBuilder 153 5 B b bs w) (hlen : bs.length + s.size ≤ 140737488355328) (hBw : B ≤ w.heap.size) :
    Calls Tryz.prog 113 #[.pointer (some ⟨b, 0, none⟩), .string s] w fun e w' => e = .returned (.tuple #[.int .i64 s.size, .nilIface]) ∧ Lib.IsBuilder 153 5 B b (bs ++ Lib.strCells s) w' ∧ Below B w w' ∧ Lib.OthersKept 5 (some b) w w' := by
  obtain ⟨i0, hi, hz0, hz1, hz2⟩ := info_parts infoByte
  go_enter Tryz.func113, Tryz.ntmps113
  go_wp2_with fail
  refine (check_kept B b bs _ h).mono ?_
  rintro e w1 ⟨rfl, ⟨hB, v, hbk, hown, hne⟩, hb1, hk1⟩
  have hsz1 := hb1.size
  have c1 : w1.cell? ⟨b, 1, none⟩ = some v := by rw [Lib.cell_of_heap hbk]; rfl
  have hlt : b < w1.heap.size := (Array.getElem?_eq_some_iff.1 hbk).1
  go_wp2_with (at_builtin; refine Lib.wpList_append_own_string _ rfl _ _ 149 9 rfl B 5 i0 Tryz.underlying149 Tryz.underlying9 hi hz0 hz1 hz2 v _ _ rfl hown s rfl (by unfold maxLen; omega) (by omega) (by omega) ?_)
  intro v' w2 hown' hgrow _
  have hb2 := (hgrow.block b hlt (fun e => hne e.symm)).trans hbk
  have d1 : w2.cell? ⟨b, 1, none⟩ = some v := by rw [Lib.cell_of_heap hb2]; rfl
  have f1 : w2.frozen? ⟨b, 1, none⟩ = false := Lib.frozen_of_heap hb2 1
  obtain ⟨ao, n', cap, rfl⟩ := slice_of_own hown'
  go_wp2
  go_ret2
  exact ⟨rfl, .inr (Lib.BuilderAt.put (T := 153) (e := 5) hB hb2 (bs' := bs ++ Lib.strCells s) (by simpa [Lib.strCells_length] using hown') (by decide)), (hb1.grown hgrow (by omega) (fun k hk => (hown.lt k hk).1)).setCell (p := ⟨b, 1, none⟩) hB _, (hk1.grown hgrow (own_kind hown)).setCell ⟨b, 1, none⟩ rfl _⟩
/-- A builder stays one where its blocks stay. -/
theorem builder_kept {T e : TypeId} {B b : Nat} {bs : List Value} {w w' : World} (h : Lib.IsBuilder T e B b bs w) (hb : Below w.heap.size w w') : Lib.IsBuilder T e B b bs w' := by
  rcases h with ⟨h1, v, h2, h3, h4⟩ | ⟨h1, v, h2, h3, h4⟩
  · exact .inl ⟨h1, v, (hb.block b (Array.getElem?_eq_some_iff.1 h2).1).trans h2, owns_below h3 hb, h4⟩
  · exact .inr ⟨h1, v, (hb.block b (Array.getElem?_eq_some_iff.1 h2).1).trans h2, owns_below h3 hb, h4⟩
end Go.Proofs.YtghfpcjgionbaaaGreat
/- What a strings.Builder's WriteByte does in this program. -/
namespace Go.Proofs.YtghfpcjgionbaaaGreat
open Go.RowKit

set_option maxHeartbeats 2000000 in
set_option maxRecDepth 100000 in
theorem writeByte_any (B b : Nat) (bs : List Value) (c : Int) (w : World) (h : Lib.IsBuilder 153 5 B b bs w) (hlen : bs.length + 1 ≤ 140737488355328) (hBw : B ≤ w.heap.size) :
    Calls Tryz.prog 117 #[.pointer (some ⟨b, 0, none⟩), .int .u8 c] w fun e w' => e = .returned .nilIface ∧ Lib.IsBuilder 153 5 B b (bs ++ [.int .u8 c]) w' ∧ Below B w w' := by
  obtain ⟨i0, hi, hz0, hz1, hz2⟩ := info_parts infoByte
  go_enter Tryz.func117, Tryz.ntmps117
  go_wp2_with fail
  refine (check_any B b bs _ h).mono ?_
  rintro e w1 ⟨rfl, ⟨hB, v, hbk, hown, hne⟩, hb1⟩
  have hsz1 := hb1.size
  have c0 : w1.cell? ⟨b, 0, none⟩ = some (.pointer (some ⟨b, 0, none⟩)) := by rw [Lib.cell_of_heap hbk]; rfl
  have c1 : w1.cell? ⟨b, 1, none⟩ = some v := by rw [Lib.cell_of_heap hbk]; rfl
  have hlt : b < w1.heap.size := (Array.getElem?_eq_some_iff.1 hbk).1
  go_wp2_with (at_builtin; refine wpList_append_own _ rfl _ _ 149 rfl B 5 i0 (.int .u8 0) 1 1 Tryz.underlying149 hi hz0 hz1 hz2 rfl (by decide) _ _ _ rfl (hown.alloc _) ⟨w1.heap.size, 0, none⟩ 1 1 [.int .u8 c] rfl rfl ?c1 ?c2 ?c3 ?c4 ?c5 ?_)
  case c1 =>
    intro j u hj
    match j, hj with
    | 0, hj => simp at hj; subst hj; simp [Addr.add]
  case c2 => intro u hu; simp at hu; subst hu; rfl
  case c3 => unfold maxLen; omega
  case c4 => omega
  case c5 => simp; omega
  intro v' w2 hown' hgrow _
  have hb2 : w2.heap[b]? = some (.cells #[.pointer (some ⟨b, 0, none⟩), v] 153 (0, 0)) := by
    rw [hgrow.block b (by simp; omega) (fun e => hne e.symm), Lib.alloc_old w1 _ b hlt]
    exact hbk
  have d0 : w2.cell? ⟨b, 0, none⟩ = some (.pointer (some ⟨b, 0, none⟩)) := by rw [Lib.cell_of_heap hb2]; rfl
  have d1 : w2.cell? ⟨b, 1, none⟩ = some v := by rw [Lib.cell_of_heap hb2]; rfl
  have f1 : w2.frozen? ⟨b, 1, none⟩ = false := Lib.frozen_of_heap hb2 1
  obtain ⟨ao, n', cap, rfl⟩ := slice_of_own hown'
  go_wp2
  go_ret
  exact ⟨rfl, .inr (Lib.BuilderAt.put (T := 153) (e := 5) hB hb2 (bs' := bs ++ [.int .u8 c]) (by simpa using hown') (by decide)), ((hb1.alloc (by omega) _).grown hgrow (by simp; omega) (fun k hk => (hown.lt k hk).1)).setCell (p := ⟨b, 1, none⟩) hB _⟩
end Go.Proofs.YtghfpcjgionbaaaGreat
/- What impl.lineText answers. -/
namespace Go.Proofs.YtghfpcjgionbaaaGreat
open Go.RowKit

theorem rep_blank : ∀ d : Nat, Lib.repeatL [(32 : UInt8)] d = List.replicate d 32
  | 0 => rfl
  | d + 1 => by rw [Lib.repeatL, rep_blank d, List.replicate_succ]; rfl
theorem rep_blanks {z : Int} {d : Nat} (h : z = (d : Int)) : (⟨(Lib.repeatL (⟨#[32]⟩ : ByteArray).data.toList d).toArray⟩ : ByteArray) = blanks z := by
  unfold blanks
  rw [show (⟨#[32]⟩ : ByteArray).data.toList = [32] from rfl, rep_blank, h, Int.toNat_natCast]
theorem strCells_app (a b : ByteArray) : Lib.strCells (a ++ b) = Lib.strCells a ++ Lib.strCells b := by
  rw [Lib.strCells_eq, Lib.strCells_eq, Lib.strCells_eq, ← Lib.byteCells_append, ByteArray.data_append, Array.toList_append]
theorem strCells_one : Lib.strCells (⟨#[32]⟩ : ByteArray) = [.int .u8 32] := by rw [Lib.strCells_eq]; rfl
theorem bytes_of (s : ByteArray) : (⟨s.data.toList.toArray⟩ : ByteArray) = s := by cases s; simp

set_option maxHeartbeats 8000000 in
set_option maxRecDepth 20000 in
theorem text_any (p : Pc) (l : Pl) (k0 n : Nat) (w : World) (hF : PcFew p) (hp : PcIn w p l) (h1 : Right p) (hk0 : k0 < n) (hn : n ≤ p.chunks.length) :
    Calls Tryz.prog 85 #[pcV p l, .int .i64 k0, .int .i64 n] w fun e w' => e = .returned (.string (lineOf p k0 n)) ∧ Below w.heap.size w w' := by
  show Calls _ _ #[.agg #[.int .i64 p.indent, .slice l.a1 p.rules.length l.c1, .slice l.a2 p.chunks.length l.c2, .slice l.a3 p.spans.length l.c3, .slice l.a4 p.ties.length l.c4], _, _] _ _
  have hcl := hF.chunks
  have hLs : (lineOf p k0 n).size ≤ 83886260 := lineOf_size h1 hF (by omega)
  have hin := inOf_le h1 (show k0 < p.chunks.length by omega)
  obtain ⟨W0, hW0, X0, B0, S0⟩ := boxed w p l 37
  have hX : w.heap.size < W0.heap.size := by omega
  go_enter Tryz.func85, Tryz.ntmps85
  go_wp2_with fail
  rw [← hW0]
  obtain ⟨W1, hW1⟩ : ∃ W1, W1 = W0.alloc (.cells #[.pointer none, .slice none 0 0] 153) := ⟨_, rfl⟩
  rw [← hW1]
  have S1 : W1.heap.size = w.heap.size + 2 := by rw [hW1]; simp; omega
  have B1 : Below W0.heap.size W0 W1 := by rw [hW1]; exact (Below.refl _ _).alloc (Nat.le_refl _) _
  have F1 : W1.heap[w.heap.size + 1]? = some (.cells #[.pointer none, .slice none 0 0] 153 (0, 0)) := by rw [hW1, ← S0]; exact heap_alloc_new W0 _
  have I0 := hp.below B0 (Nat.le_refl _)
  clear hW0 hW1 hp
  refine (len_any p l k0 n _ hF (I0.below B1 (Nat.le_refl _)) h1 hk0 hn).mono ?_
  rintro e w2 ⟨rfl, hb2⟩
  have F2 := (hb2.block (w.heap.size + 1) (by omega)).trans F1
  have A2 : Below W0.heap.size W0 w2 := B1.trans (hb2.mono B1.size)
  have z2 := hb2.size
  obtain ⟨-, c0, c1, c2, c3, c4⟩ := X0.below A2 hX
  go_wp2_with fail
  refine (Tryz.Builder_Grow_fresh (w.heap.size + 1) (w.heap.size + 1) _ w2 (Nat.le_refl _) F2 (by omega) (by omega)).mono ?_
  rintro e w3 ⟨rfl, hbd3, hb3⟩
  have A3 : Below W0.heap.size W0 w3 := A2.trans (by rw [S0]; exact hb3)
  have z3 := hb3.size
  clear c0 c1 c2 c3 c4 F1 F2
  obtain ⟨-, c0, c1, c2, c3, c4⟩ := X0.below A3 hX
  obtain ⟨L, hL⟩ : ∃ L, L = lineOf p k0 n := ⟨_, rfl⟩
  rw [← hL]
  rw [← hL] at hLs
  have HL := hidOf hL
  clear hL
  go_wp2_with fail
  refine (lineIn_any p l k0 _ hF (I0.below A3 (Nat.le_refl _)) h1 (by omega)).mono ?_
  obtain ⟨d, hd⟩ := Int.eq_ofNat_of_zero_le hin.1
  have HD := hidOf (rep_blanks hd)
  have hbs : (blanks (inOf p k0)).size ≤ 100 := by rw [blanks_size]; omega
  have hd2 : d ≤ 100 := by omega
  have hst : blanks (inOf p k0) = blanks (inOf p k0) := rfl
  obtain ⟨bl, hbl⟩ : ∃ bl, bl = blanks (inOf p k0) := ⟨_, rfl⟩
  have HBL := hidOf hbl
  rw [← hbl] at hbs HD
  rw [hd]
  clear hst hbl hd hin
  rintro e w4 ⟨rfl, hb4⟩
  have A4 := A3.trans (hb4.mono A3.size)
  have bd4 := builder_kept (.inr hbd3) hb4
  have z4 := hb4.size
  clear hbd3 hb4 c0 c1 c2 c3 c4
  go_wp2_with fail
  refine (Tryz.strings_Repeat ⟨#[32]⟩ d _ (by omega) (by show 1 * d ≤ _; omega)).mono ?_
  rw [HD.out]
  rintro e w5 ⟨rfl, hb5⟩
  have A5 := A4.trans (hb5.mono A4.size)
  have bd5 := builder_kept bd4 hb5
  have z5 := hb5.size
  clear bd4 hb5
  go_wp2_with fail
  refine (write_any (w.heap.size + 1) (w.heap.size + 1) _ bl _ bd5 (by simp; omega) (by omega)).mono ?_
  rintro e w6 ⟨rfl, bd6, hb6⟩
  have A6 : Below W0.heap.size W0 w6 := A5.trans (by rw [S0]; exact hb6)
  rw [List.nil_append] at bd6
  clear bd5 hb6 hb2 hb3 A2 A3 A4 A5
  go_wp2
  go_loopw [8] (fun i wr => ∃ (k : Nat) (s : ByteArray), k ≤ n ∧ i = .int .i64 k ∧ Lib.IsBuilder 153 5 (w.heap.size + 1) (w.heap.size + 1) (Lib.strCells s) wr ∧ Below W0.heap.size W0 wr ∧ Hid (lin s ((p.chunks.take n).drop k) = L)) (fun i _ => n - (intOf i).toNat)
  case atStart => exact ⟨k0, bl, by omega, rfl, bd6, A6, hidOf (by rw [HL.out, HBL.out]; rfl)⟩
  case round =>
    obtain ⟨k, s, hk, rfl, bd, hb, HI⟩ := hrel
    have BW := B0.trans (hb.mono B0.size)
    obtain ⟨-, c0, c1, c2, c3, c4⟩ := X0.below hb hX
    have hss : s.size ≤ 83886260 := by have h := lin_ge ((p.chunks.take n).drop k) s; rw [HI.out] at h; omega
    have hzz := hb.size
    by_cases hlt : k < n
    · obtain ⟨x, ex⟩ : ∃ x, p.chunks[k]? = some x := ⟨_, List.getElem?_eq_getElem (by omega)⟩
      have hxs := hF.texts k x ex
      obtain ⟨b1, o1, ea, hb1, hc1⟩ := I0.chunks (by omega)
      obtain ⟨p0, p1, p2, p3, p4⟩ := chC (w := wr) (fun j hj => by rw [hb.cell hb1]; exact hc1 k x ex j hj)
      have q0 := fun W hR => blank_any p l k n x W hF hR hlt hn ex
      have HX := hidOf ex
      have hA : (0 : Int) ≤ (k : Int) := by omega
      have hB : (k : Int) < (p.chunks.length : Int) := by omega
      have hM : (k : Int) < (n : Int) := by omega
      rw [ea] at c2
      clear ex hc1
      have hpv : pcV p l = .agg #[.int .i64 p.indent, .slice l.a1 p.rules.length l.c1, .slice (some ⟨b1, o1, none⟩) p.chunks.length l.c2, .slice l.a3 p.spans.length l.c3, .slice l.a4 p.ties.length l.c4] := by show Value.agg _ = _; rw [ea]
      rw [hpv] at q0
      clear hpv
      go_wp2_with fail
      refine (write_any (w.heap.size + 1) (w.heap.size + 1) _ x.text _ bd (by rw [Lib.strCells_length]; omega) (by omega)).mono ?_
      rintro e w7 ⟨rfl, bd7, hb7⟩
      rw [← strCells_app] at bd7
      have A7 : Below W0.heap.size W0 w7 := hb.trans (by rw [S0]; exact hb7)
      have z7 := A7.size
      clear c0 c1 c2 c3 c4 p0 p1 p2 p3 p4 hb7
      obtain ⟨-, c0, c1, c2, c3, c4⟩ := X0.below A7 hX
      rw [ea] at c2
      have q1 := q0 w7 (I0.chunks.below A7 (Nat.le_refl _))
      clear ea q0 bd
      have hst : (s ++ x.text).size ≤ 84934836 := by rw [app_size]; omega
      by_cases hm : k + 1 < n
      · cases hsp : x.space with
        | true =>
          rw [hsp, decide_eq_true hm] at q1
          have HE := hidOf (show lin (s ++ x.text ++ ⟨#[32]⟩) ((p.chunks.take n).drop (k + 1)) = L by rw [← sp1_yes hsp, ← lin_more s HX.out hm hn]; exact HI.out)
          clear hsp
          go_wp2_with fail
          refine q1.mono ?_
          rintro e w8 ⟨rfl, hb8⟩
          have bd8 := builder_kept bd7 hb8
          have A8 := A7.trans (hb8.mono A7.size)
          have z8 := A8.size
          clear q1 bd7 hb8 c0 c1 c2 c3 c4
          go_wp2_with fail
          refine (writeByte_any (w.heap.size + 1) (w.heap.size + 1) _ 32 _ bd8 (by rw [Lib.strCells_length]; omega) (by omega)).mono ?_
          rintro e w9 ⟨rfl, bd9, hb9⟩
          rw [← strCells_one, ← strCells_app] at bd9
          have A9 : Below W0.heap.size W0 w9 := A8.trans (by rw [S0]; exact hb9)
          go_wp2
          go_roundw
          case rel => exact ⟨k + 1, _, by omega, by go_num, bd9, A9, HE⟩
          case measure => simp [intOf]; omega
        | false =>
          rw [hsp, decide_eq_true hm] at q1
          have HE := hidOf (show lin (s ++ x.text) ((p.chunks.take n).drop (k + 1)) = L by rw [← app_none (s ++ x.text), ← sp1_no hsp, ← lin_more s HX.out hm hn]; exact HI.out)
          clear hsp
          go_wp2_with fail
          refine q1.mono ?_
          rintro e w8 ⟨rfl, hb8⟩
          have bd8 := builder_kept bd7 hb8
          have A8 := A7.trans (hb8.mono A7.size)
          clear q1 bd7 hb8 c0 c1 c2 c3 c4
          go_wp2
          go_roundw
          case rel => exact ⟨k + 1, _, by omega, by go_num, bd8, A8, HE⟩
          case measure => simp [intOf]; omega
      · rw [decide_eq_false hm, Bool.false_and] at q1
        have HE := hidOf (show lin (s ++ x.text) ((p.chunks.take n).drop (k + 1)) = L by rw [lin_none _ (by omega), ← lin_last s HX.out (show k + 1 = n by omega) hn]; exact HI.out)
        go_wp2_with fail
        refine q1.mono ?_
        rintro e w8 ⟨rfl, hb8⟩
        have bd8 := builder_kept bd7 hb8
        have A8 := A7.trans (hb8.mono A7.size)
        clear q1 bd7 hb8 c0 c1 c2 c3 c4
        go_wp2
        go_roundw
        case rel => exact ⟨k + 1, _, by omega, by go_num, bd8, A8, HE⟩
        case measure => simp [intOf]; omega
    · have hM : ¬ (k : Int) < (n : Int) := by omega
      have HE := hidOf (show s = L by rw [← lin_none s (show n ≤ k by omega)]; exact HI.out)
      rw [Lib.strCells_eq] at bd
      go_wp2_with fail
      refine (Tryz.Builder_String_any (w.heap.size + 1) (w.heap.size + 1) _ wr bd (by omega)).mono ?_
      rintro e w7 ⟨rfl, hb7⟩
      go_wp2
      go_ret
      exact ⟨ret_str (by rw [bytes_of, ← HL.out]; exact HE.out), BW.trans (hb7.mono (by omega))⟩
end Go.Proofs.YtghfpcjgionbaaaGreat
/- What impl.Render answers. -/
namespace Go.Proofs.YtghfpcjgionbaaaGreat
open Go.RowKit

theorem infoStrS : (Tryz.prog.info? 9).map (fun i => (i.zero, i.size, i.bytes)) = some (some (.string ByteArray.empty), 1, 16) := by kernel_rfl

set_option maxHeartbeats 8000000 in
set_option maxRecDepth 20000 in
theorem iRen_yes (p : Pc) (l : Pl) (a : Option Addr) (c : Nat) (vs : List Int) (w : World) (hF : PcFew p) (hm0 : vs.length ≤ 1048576) (hp : PcIn w p l) (hv : KidsAt w a vs) (h1 : Right p) (h2 : ValOk p vs) :
    Calls Tryz.prog 50 #[pcV p l, .slice a vs.length c] w fun e w' => StrsAns (linesOf p vs) 9 w e w' := by
  show Calls _ _ #[.agg #[.int .i64 p.indent, .slice l.a1 p.rules.length l.c1, .slice l.a2 p.chunks.length l.c2, .slice l.a3 p.spans.length l.c3, .slice l.a4 p.ties.length l.c4], _] _ _
  obtain ⟨i0, hi, hz0, hz1, hz2⟩ := info_parts infoStrS
  have hcl := hF.chunks
  have hc1 := h1.chunks.least
  have hc80 := h1.chunks.most
  obtain ⟨W0, hW0, X0, B0, S0⟩ := boxed w p l 37
  have hX : w.heap.size < W0.heap.size := by omega
  go_enter Tryz.func50, Tryz.ntmps50
  go_wp2_with fail
  obtain ⟨W1, hW1⟩ : ∃ W1, W1 = (w.alloc (.cells #[.int .i64 p.indent, .slice l.a1 p.rules.length l.c1, .slice l.a2 p.chunks.length l.c2, .slice l.a3 p.spans.length l.c3, .slice l.a4 p.ties.length l.c4] 37)).alloc (.cells #[] 9) := ⟨_, rfl⟩
  rw [← hW1]
  have O1 : W1.ownsRow (w.heap.size + 1) 9 1 (.slice (some ⟨w.heap.size + 1, 0, none⟩) 0 0) 0 (strVals []) := by rw [hW1]; exact own_none1 w _ _ _
  have B1 : Below W0.heap.size W0 W1 := by rw [hW1, ← hW0]; exact (Below.refl _ _).alloc (Nat.le_refl _) _
  have I0 := hp.below B0 (Nat.le_refl _)
  have V0 := hv.below B0 (Nat.le_refl _)
  clear hW0 hW1 hp hv
  refine (iOk_any p l _ hF (I0.below B1 (Nat.le_refl _))).mono ?_
  rintro e w1 hq
  obtain ⟨rfl, hb1⟩ := hq.yes h1
  have A1 := B1.trans (hb1.mono B1.size)
  have O1 := owns_below O1 hb1
  clear hq hb1
  obtain ⟨-, c0, c1, c2, c3, c4⟩ := X0.below A1 hX
  go_wp2_with fail
  refine (iVal_any p l a c vs _ hF.rules hm0 (noLeast_right h1.rules) (I0.rules.below A1 (Nat.le_refl _)) (V0.below A1 (Nat.le_refl _))).mono ?_
  rintro e w2 hq
  obtain ⟨rfl, hb2⟩ := hq.yes h2
  have A2 := A1.trans (hb2.mono A1.size)
  have O2 := owns_below O1 hb2
  clear hq hb2 O1 A1 c0 c1 c2 c3 c4 B1
  go_wp2
  go_loopw [5, 6] (fun v i wr => ∃ (k : Nat) (os : List ByteArray), k ≤ p.chunks.length ∧ i = .int .i64 k ∧ os.length ≤ k ∧ Hid (os ++ linesFrom p vs k = linesOf p vs) ∧ wr.ownsRow (w.heap.size + 1) 9 1 v os.length (strVals os) ∧ Below W0.heap.size W0 wr) (fun _ i _ => p.chunks.length - (intOf i).toNat)
  case atStart => exact ⟨0, [], Nat.zero_le _, rfl, Nat.zero_le _, hidOf (by rw [lines_zero (by omega)]; rfl), O2, A2⟩
  case round =>
    obtain ⟨k, os, hk, rfl, hol, HI, hown, hb⟩ := hrel
    obtain ⟨ao, cv, rfl⟩ := owns_slice hown
    have BW := B0.trans (hb.mono B0.size)
    obtain ⟨-, c0, c1, c2, c3, c4⟩ := X0.below hb hX
    by_cases hlt : k < p.chunks.length
    · have hM : (k : Int) < (p.chunks.length : Int) := by omega
      go_wp2_with fail
      refine (next_any p l a c vs k _ hF hm0 (I0.below hb (Nat.le_refl _)) (V0.below hb (Nat.le_refl _)) h1 h2 hlt).mono ?_
      rintro e w3 ⟨n, rfl, hsg, hb3⟩
      have A3 := hb.trans (hb3.mono hb.size)
      have O3 := owns_below hown hb3
      have hn1 := hsg.lt
      have hn2 := hsg.le
      have HE := hidOf (lines_seg hsg)
      clear hb3 c0 c1 c2 c3 c4 hsg
      obtain ⟨-, c0, c1, c2, c3, c4⟩ := X0.below A3 hX
      go_wp2_with fail
      obtain ⟨L, hL⟩ : ∃ L, L = lineOf p k n := ⟨_, rfl⟩
      have HL := hidOf hL
      refine (text_any p l k n _ hF (I0.below A3 (Nat.le_refl _)) h1 hn1 hn2).mono ?_
      rw [← hL]
      rintro e w4 ⟨rfl, hb4⟩
      have A4 := A3.trans (hb4.mono A3.size)
      have O4 := owns_below O3 hb4
      have hz4 := A4.size
      clear hb4 c0 c1 c2 c3 c4 O3 hown hL
      go_wp2_with (at_builtin; refine wpList_append_own _ rfl _ _ 44 rfl (w.heap.size + 1) 9 i0 (.string ByteArray.empty) 1 16 Tryz.underlying44 hi hz0 hz1 hz2 rfl (by decide) _ _ _ rfl (O4.alloc _) ⟨w4.heap.size, 0, none⟩ 1 1 [.string L] rfl rfl (cell_one_new _ _ _) (fun x hx => by simp at hx; subst hx; rfl) (by unfold maxLen; omega) (by omega) (by simp; omega) ?_; intro v' w5 hown' hgrow5 hnil5)
      go_roundw
      case rel => exact ⟨n, os ++ [L], hn2, by go_num, by simp; omega, hidOf (by have h := HI.out; rw [HE.out, ← HL.out] at h; rw [← h]; simp), by simpa [strVals] using hown', (A4.alloc hz4 _).grown hgrow5 (by simp; omega) (fun q hq => by have := (O4.lt q hq).1; omega)⟩
      case measure => simp [intOf]; omega
    · have hM : ¬ (k : Int) < (p.chunks.length : Int) := by omega
      go_wp2
      go_ret
      have h := HI.out
      rw [lines_end (by omega), List.append_nil] at h
      rw [← h]
      exact ⟨BW, _, rfl, ownsRow_base hown (by omega)⟩

set_option maxHeartbeats 4000000 in
theorem iRen_no (p : Pc) (l : Pl) (a : Option Addr) (c : Nat) (vs : List Int) (w : World) (hF : PcFew p) (hm0 : vs.length ≤ 1048576) (hp : PcIn w p l) (hv : KidsAt w a vs) (hno : ¬ (Right p ∧ ValOk p vs)) :
    Calls Tryz.prog 50 #[pcV p l, .slice a vs.length c] w fun e w' => StrsAns [] 9 w e w' := by
  show Calls _ _ #[.agg #[.int .i64 p.indent, .slice l.a1 p.rules.length l.c1, .slice l.a2 p.chunks.length l.c2, .slice l.a3 p.spans.length l.c3, .slice l.a4 p.ties.length l.c4], _] _ _
  obtain ⟨W0, hW0, X0, B0, S0⟩ := boxed w p l 37
  have hX : w.heap.size < W0.heap.size := by omega
  go_enter Tryz.func50, Tryz.ntmps50
  go_wp2_with fail
  obtain ⟨W1, hW1⟩ : ∃ W1, W1 = (w.alloc (.cells #[.int .i64 p.indent, .slice l.a1 p.rules.length l.c1, .slice l.a2 p.chunks.length l.c2, .slice l.a3 p.spans.length l.c3, .slice l.a4 p.ties.length l.c4] 37)).alloc (.cells #[] 9) := ⟨_, rfl⟩
  rw [← hW1]
  have O1 : W1.ownsRow (w.heap.size + 1) 9 1 (.slice (some ⟨w.heap.size + 1, 0, none⟩) 0 0) 0 (strVals []) := by rw [hW1]; exact own_none1 w _ _ _
  have B1 : Below W0.heap.size W0 W1 := by rw [hW1, ← hW0]; exact (Below.refl _ _).alloc (Nat.le_refl _) _
  have I0 := hp.below B0 (Nat.le_refl _)
  have V0 := hv.below B0 (Nat.le_refl _)
  clear hW0 hW1 hp hv
  refine (iOk_any p l _ hF (I0.below B1 (Nat.le_refl _))).mono ?_
  rintro e w1 hq
  by_cases h1 : Right p
  · obtain ⟨rfl, hb1⟩ := hq.yes h1
    have A1 := B1.trans (hb1.mono B1.size)
    have O1 := owns_below O1 hb1
    clear hq hb1
    obtain ⟨-, c0, c1, c2, c3, c4⟩ := X0.below A1 hX
    go_wp2_with fail
    refine (iVal_any p l a c vs _ hF.rules hm0 (noLeast_right h1.rules) (I0.rules.below A1 (Nat.le_refl _)) (V0.below A1 (Nat.le_refl _))).mono ?_
    rintro e w2 hq
    obtain ⟨rfl, hb2⟩ := hq.no (fun h => hno ⟨h1, h⟩)
    have A2 := A1.trans (hb2.mono A1.size)
    have O2 := owns_below O1 hb2
    go_wp2
    go_ret
    exact ⟨B0.trans (A2.mono B0.size), _, rfl, ownsRow_base O2 (by omega)⟩
  · obtain ⟨rfl, hb1⟩ := hq.no h1
    have A1 := B1.trans (hb1.mono B1.size)
    have O1 := owns_below O1 hb1
    go_wp2
    go_ret
    exact ⟨B0.trans (A1.mono B0.size), _, rfl, ownsRow_base O1 (by omega)⟩
end Go.Proofs.YtghfpcjgionbaaaGreat
