/- Small facts that the proofs of this seat share: what a row of bytes that the call owns reads as when it is turned into a string, and plain facts on numbers and lists. -/
import Derived.WalkKit
import Derived.WalkSpells
import Derived.BigQuiet
import Derived.Laws.BytesArg
namespace Go.Proofs.Ytdlbnllkfnfgoaa
open Go.RowKit

theorem conv_owned {P : Program} {w : World} (src dst e base : Nat) (v : Value) (n : Nat) (bs : List Int)
    (hs : P.underlying src = some (.slice e)) (he : P.underlying e = some (.int .u8)) (hd : P.underlying dst = some .string)
    (hown : w.ownsRow base e 1 v n (bs.map (Value.int .u8))) : (convert src dst v).run P w = .ok (.string (strOfNums bs)) w := by
  rcases hown.2 with ⟨rfl, h0⟩ | ⟨g, cap, cur, rfl, _⟩
  · have hb : bs = [] := by
      have := hown.1
      rw [h0] at this
      simpa using this
    subst hb
    exact run_convert_bytes_nil w src e hs he 0 0 dst hd
  · have hl : bs.length = n := by have := hown.1; simpa using this
    refine run_convert_bytes_arg w src e hs he g 0 n cap bs hl (fun i hi => ?_) dst hd
    have h := hown.cells (g := g) rfl i (.int .u8 (bs.getD i 0)) (by simp [List.getD, List.getElem?_eq_getElem (show i < bs.length by omega)])
    have hadd : (⟨g, 0, none⟩ : Addr).add i = ⟨g, 0 + i, none⟩ := by unfold Addr.add; split <;> simp_all
    rw [hadd] at h
    exact h

theorem owns_slice {w : World} {base e size : Nat} {v : Value} {n : Nat} {xs : List Value} (h : w.ownsRow base e size v n xs) : ∃ (ao : Option Addr) (c : Nat), v = .slice ao n c := by
  rcases h.2 with ⟨rfl, rfl⟩ | ⟨g, cap, cur, rfl, _⟩
  · exact ⟨none, 0, rfl⟩
  · exact ⟨_, _, rfl⟩
/-- 'append' on a row that the call owns, as one step of a region that draws its order. -/
theorem step_append_own {P : Program} {w : World} {ops : Array Oper} {o : Oper} {a : Act} {K : Act → World → Prop} {Q : Exit → Act → World → Prop} {E : Prop} (hgd : o.guard = none) (s x : Operand) (t : TypeId)
    (ho : o.op = .call { callee := .builtin .append, args := #[s, x], argTypes := #[t, t] })
    (base : Nat) (e : TypeId) (i : TypeInfo) (z : Value) (size bytes : Nat) (ht : P.underlying t = some (.slice e)) (hi : P.info? e = some i) (hz : i.zero = some z)
    (hsize : i.size = size) (hby : i.bytes = bytes) (hzs : z.cells.size = size) (hsz : 0 < size)
    (v : Value) (n : Nat) (xs : List Value) (hs : a.eval s = v) (hown : w.ownsRow base e size v n xs)
    (ad : Addr) (m c : Nat) (news : List Value) (hx : a.eval x = .slice (some ad) m c) (hl : news.length = m * size) (hnews : ∀ j u, news[j]? = some u → w.cell? (ad.add j) = some u) (h1 : ∀ u ∈ news, u.oneCell' = true)
    (h63 : n + m ≤ maxLen) (hbytes : (n + m) * bytes ≤ 140737488355328) (hbase : base ≤ w.heap.size)
    (h : ∀ v' w', w'.ownsRow base e size v' (n + m) (xs ++ news) → w.grownBy w' v.ownBlock → (v' = .slice none 0 0 ↔ v = .slice none 0 0 ∧ m = 0) → K (a.put o.dst v') w') :
    if Region.wanted o (yielded ops a.tmps) = true then Oper.wp P o a w K Q else E := by
  have hw : Region.wanted o (yielded ops a.tmps) = true := by simp [Region.wanted, hgd]
  rw [if_pos hw]
  exact wp_append_own w s x t ho base e i z size bytes ht hi hz hsize hby hzs hsz v n xs hs hown ad m c news hx hl hnews h1 h63 hbytes hbase h
theorem hidOf {p : Prop} (h : p) : Hid p := h
theorem ret_str {a b : ByteArray} (h : a = b) : Ending.returned (.string a) = .returned (.string b) := by rw [h]
theorem ret_int {k : IntKind} {a b : Int} (h : a = b) : Ending.returned (.int k a) = .returned (.int k b) := by rw [h]
theorem ret_sb {a b : ByteArray} {c : Bool} (h : a = b) : Ending.returned (.tuple #[.string a, .bool c]) = .returned (.tuple #[.string b, .bool c]) := by rw [h]
theorem ret_bool {a b : Bool} (h : a = b) : Ending.returned (.bool a) = .returned (.bool b) := by rw [h]

/-- An owned row stays owned below a base that is less. -/
theorem ownsRow_base {w : World} {base base' : Nat} {e size : Nat} {v : Value} {n : Nat} {xs : List Value} (h : w.ownsRow base e size v n xs) (hb : base' ≤ base) : w.ownsRow base' e size v n xs := by
  refine ⟨h.1, ?_⟩
  rcases h.2 with h | ⟨g, cap, cur, h1, h2, h3⟩
  · exact .inl h
  · exact .inr ⟨g, cap, cur, h1, Nat.le_trans hb h2, h3⟩

/-- Byte number k of a string as a number, 0 behind its end. -/
def by8 (s : ByteArray) (k : Nat) : Int := ((s.data.toList.getD k 0).toNat : Int)
theorem by8_at (s : ByteArray) : ∀ (k : Nat) (h : k < s.size), ((s[k]'h).toNat : Int) = by8 s k := fun k h => by
  unfold by8
  have h' : k < s.data.toList.length := by simpa using h
  rw [List.getD_eq_getElem?_getD, List.getElem?_eq_getElem h']
  rfl
theorem by8_range (s : ByteArray) (k : Nat) : 0 ≤ by8 s k ∧ by8 s k ≤ 255 := by
  unfold by8
  have := (s.data.toList.getD k 0).toNat_lt
  omega
/-- What arithmetic on a byte comes to: no wrap, and Go's division is the plain one. -/
theorem by8_wraps (s : ByteArray) (k : Nat) : IntKind.i64.wrap (by8 s k) = by8 s k := by
  have := by8_range s k
  exact IntWalk.i64_in _ ⟨by omega, by omega⟩
theorem by8_quo (s : ByteArray) (k : Nat) : (by8 s k).tdiv 16 = by8 s k / 16 := Int.tdiv_eq_ediv_of_nonneg (by8_range s k).1
theorem by8_rem (s : ByteArray) (k : Nat) : (by8 s k).tmod 16 = by8 s k % 16 := Int.tmod_eq_emod_of_nonneg (by8_range s k).1
theorem by8_wrapq (s : ByteArray) (k : Nat) : IntKind.i64.wrap (by8 s k / 16) = by8 s k / 16 := by
  have := by8_range s k
  exact IntWalk.i64_in _ ⟨by omega, by omega⟩
theorem by8_wrapr (s : ByteArray) (k : Nat) : IntKind.i64.wrap (by8 s k % 16) = by8 s k % 16 := by
  have := by8_range s k
  exact IntWalk.i64_in _ ⟨by omega, by omega⟩
theorem str_beq (a b : ByteArray) : (a.toList == b.toList) = decide (a = b) := by
  rw [Bool.eq_iff_iff]
  simp only [beq_iff_eq, decide_eq_true_eq, ByteArray.toList_eq]
  exact ⟨fun h => ByteArray.ext (Array.ext' h), fun h => by rw [h]⟩
theorem str_same {a b : ByteArray} (h : a = b) : (a.toList == b.toList) = true := by rw [str_beq]; simpa using h
theorem str_other {a b : ByteArray} (h : a.size ≠ b.size) : (a.toList == b.toList) = false := by
  rw [str_beq]
  simp
  intro e
  exact h (by rw [e])
/-- A string's piece: its bounds hold. -/
theorem str_slice {P : Program} (t : Nat) (s : ByteArray) (a b : Nat) (i j : Int) (ht : P.underlying t = some .string) (hi : i = a) (hj : j = b) (h1 : a ≤ b) (h2 : b ≤ s.size) :
    ∀ wx : World, (Instr.slice t (.string s) (some (.int .i64 i)) (some (.int .i64 j)) none).run P wx = .ok (.string (s.extract a b)) wx := by
  intro wx
  rw [run_slice_string_if (P := P) (w := wx) t s .i64 .i64 i j ht, if_pos (by omega), if_pos (by omega), hi, hj]
  rfl

/-- A string's first piece, and its last one. -/
theorem str_to {P : Program} (t : Nat) (s : ByteArray) (b : Nat) (j : Int) (ht : P.underlying t = some .string) (hj : j = b) (h2 : b ≤ s.size) :
    ∀ wx : World, (Instr.slice t (.string s) none (some (.int .i64 j)) none).run P wx = .ok (.string (s.extract 0 b)) wx := by
  intro wx
  rw [run_slice_string_to_if (P := P) (w := wx) t s .i64 j ht, if_pos (by omega), hj]
  rfl
theorem str_from {P : Program} (t : Nat) (s : ByteArray) (a : Nat) (i : Int) (ht : P.underlying t = some .string) (hi : i = a) (h2 : a ≤ s.size) :
    ∀ wx : World, (Instr.slice t (.string s) (some (.int .i64 i)) none none).run P wx = .ok (.string (s.extract a s.size)) wx := by
  intro wx
  rw [run_slice_string_from_if (P := P) (w := wx) t s .i64 i ht, if_pos (by omega), hi]
  rfl
/-- The bytes of VarText, with fuel. -/
def vbF : Nat → Nat → List Int
  | 0, n => [(n : Int)]
  | f + 1, n => if 127 < n then ((n : Int) % 128 + 128) :: vbF f (n / 128) else [(n : Int)]
theorem vbF_fuel : ∀ (f g n : Nat), n ≤ f → n ≤ g → vbF f n = vbF g n
  | 0, 0, n, _, _ => rfl
  | 0, g + 1, n, h, _ => by
    have : n = 0 := by omega
    subst this
    simp [vbF]
  | f + 1, 0, n, _, h => by
    have : n = 0 := by omega
    subst this
    simp [vbF]
  | f + 1, g + 1, n, hf, hg => by
    unfold vbF
    split
    · rw [vbF_fuel f g (n / 128) (by omega) (by omega)]
    · rfl
/-- The bytes of VarText. -/
def vb (n : Nat) : List Int := vbF n n
theorem vb_more (n : Nat) (h : 127 < n) : vb n = ((n : Int) % 128 + 128) :: vb (n / 128) := by
  unfold vb
  obtain ⟨m, rfl⟩ : ∃ m, n = m + 1 := ⟨n - 1, by omega⟩
  rw [vbF, if_pos h, vbF_fuel m ((m + 1) / 128) _ (by omega) (by omega)]
theorem vb_last (n : Nat) (h : n ≤ 127) : vb n = [(n : Int)] := by
  unfold vb
  cases n with
  | zero => rfl
  | succ m => rw [vbF, if_neg (by omega)]
theorem vb_len : ∀ (n : Nat), n < 34359738368 → (vb n).length ≤ 5 := by
  intro n h
  by_cases h1 : 127 < n
  · rw [vb_more n h1]
    by_cases h2 : 127 < n / 128
    · rw [vb_more _ h2]
      by_cases h3 : 127 < n / 128 / 128
      · rw [vb_more _ h3]
        by_cases h4 : 127 < n / 128 / 128 / 128
        · rw [vb_more _ h4, vb_last _ (by omega)]; simp
        · rw [vb_last _ (by omega)]; simp
      · rw [vb_last _ (by omega)]; simp
    · rw [vb_last _ (by omega)]; simp
  · rw [vb_last _ (by omega)]; simp
theorem vb_size (n : Nat) (h : n ≤ 1000000000) : (strOfNums (vb n)).size ≤ 5 := by rw [strOfNums_size]; exact vb_len n (by omega)
/-- A row that is owned stays owned where nothing that was there has turned. -/
theorem owns_below {w w' : World} {base e size : Nat} {v : Value} {n : Nat} {xs : List Value} (h : w.ownsRow base e size v n xs) (hb : Below w.heap.size w w') : w'.ownsRow base e size v n xs := by
  refine ⟨h.1, ?_⟩
  rcases h.2 with h | ⟨g, cap, cur, h1, h2, h3, h4⟩
  · exact .inl h
  · refine .inr ⟨g, cap, cur, h1, h2, ?_, h4⟩
    rw [hb.block g (Array.getElem?_eq_some_iff.1 h3).1]
    exact h3
theorem grownBy_of_below {w w' : World} (h : Below w.heap.size w w') (row : Option Nat) : w.grownBy w' row := ⟨h.os, h.tape, h.output, h.size, fun k hk _ => h.block k hk⟩
theorem grownBy_trans {a b c : World} {row : Option Nat} (h1 : a.grownBy b row) (h2 : b.grownBy c row) : a.grownBy c row :=
  ⟨h2.os.trans h1.os, h2.tape.trans h1.tape, h2.output.trans h1.output, Nat.le_trans h1.size h2.size, fun k hk hr => (h2.block k (Nat.lt_of_lt_of_le hk h1.size) hr).trans (h1.block k hk hr)⟩
theorem bel_drewN {B : Nat} {a w : World} (h : Below B a w) (n : Nat) : Below B a (w.drewN n) := ⟨h.os, h.tape, h.output, h.size, h.block⟩
theorem own_other {w1 w2 : World} {b1 b2 e size n1 n2 : Nat} {v1 v2 : Value} {xs ys : List Value} (h1 : w1.ownsRow b1 e size v1 n1 xs) (hb : w1.heap.size ≤ b2) (h2 : w2.ownsRow b2 e size v2 n2 ys) : v1.ownBlock = none ∨ v1.ownBlock ≠ v2.ownBlock := by
  cases hv : v1.ownBlock with
  | none => exact Or.inl rfl
  | some g =>
    right
    intro he
    have := (h1.lt g hv).2
    have := (h2.lt g he.symm).1
    omega
theorem below_drewN (w : World) (n : Nat) : Below w.heap.size w (w.drewN n) := ⟨rfl, rfl, rfl, Nat.le_refl _, fun _ _ => rfl⟩
end Go.Proofs.Ytdlbnllkfnfgoaa
