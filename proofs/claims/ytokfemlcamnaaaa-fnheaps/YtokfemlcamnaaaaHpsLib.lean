/- Lists of states and states in variables of a law, as plain lists; the contracts in these words. -/
import Derived.Test.YtokfemlcamnaaaaSameSt
import Derived.Test.YtokfemlcamnaaaaDrEl
import Derived.Test.YtokfemlcamnaaaaHpOk
import Derived.Test.YtokfemlcamnaaaaPuI
import Derived.Test.YtokfemlcamnaaaaPuSp
import Derived.Test.YtokfemlcamnaaaaPpI
import Derived.Test.YtokfemlcamnaaaaPpS
namespace Go.Proofs.Ytokfemlcamnaaaa
open Go.RowKit

/-- A list of states that lies in memory, as a plain list. -/
def StR (w : World) (a : Option Addr) (R : List St) : Prop := ∃ ps, ps.map Sp.st = R ∧ StsAt w a ps
theorem StR.below {w w' : World} {a : Option Addr} {R : List St} (h : StR w a R) (hb : Below w.heap.size w w') : StR w' a R := by
  obtain ⟨ps, e, hs⟩ := h
  exact ⟨ps, e, hs.below hb (Nat.le_refl _)⟩
/-- A state in a variable, its Vals in memory. -/
structure Vx (w : World) (b : Nat) (p : Sp) : Prop where
  box : Bx w b p
  kids : KidsAt w p.a p.st.vals
theorem Vx.below {w w' : World} {b : Nat} {p : Sp} (h : Vx w b p) (hb : Below w.heap.size w w') : Vx w' b p := ⟨h.box.kept hb, h.kids.below hb (Nat.le_refl _)⟩
/-- Few and small ones. -/
def SmL (R : List St) : Prop := (∀ x ∈ R, Small x) ∧ R.length ≤ 12
theorem smL_of {ps : List Sp} (h : Smalls ps) (hn : ps.length ≤ 10) : SmL (ps.map Sp.st) := ⟨fun x hx => by
  obtain ⟨p, hp, e⟩ := List.mem_map.1 hx
  rw [← e]
  exact h p hp, by rw [List.length_map]; omega⟩
theorem few_smL {ps : List Sp} {R : List St} (e : ps.map Sp.st = R) (h : SmL R) : Few ps := fun p hp => by
  have := (h.1 p.st (by rw [← e]; exact List.mem_map_of_mem hp)).1
  omega
theorem len_smL {ps : List Sp} {R : List St} (e : ps.map Sp.st = R) : ps.length = R.length := by rw [← e, List.length_map]

theorem iHpR (a : Option Addr) (c : Nat) (R : List St) (w : World) (hR : SmL R) (h : StR w a R) :
    Calls Try.prog 48 #[.slice a R.length c] w fun e w' => e = .returned (.bool (heapB stLess R)) ∧ Below w.heap.size w w' := by
  obtain ⟨ps, e, hs⟩ := h
  have hn := len_smL e
  have := iHp_any a c ps w (by have := hR.2; omega) (few_smL e hR) hs
  rw [hn, show heapB spLess ps = heapB stLess R by rw [← e]; exact heapB_map Sp.st ps] at this
  exact this
theorem sHpR (a : Option Addr) (c : Nat) (R : List St) (w : World) (hR : SmL R) (h : StR w a R) :
    Calls Try.prog 52 #[.slice a R.length c] w fun e w' => e = .returned (.bool (heapB stLess R)) ∧ Below w.heap.size w w' := by
  obtain ⟨ps, e, hs⟩ := h
  have hn := len_smL e
  have := sHp_any a c ps w (by have := hR.2; omega) (few_smL e hR) hs
  rw [hn, show heapB spLess ps = heapB stLess R by rw [← e]; exact heapB_map Sp.st ps] at this
  exact this
theorem iPuR (a : Option Addr) (c : Nat) (R : List St) (x : Sp) (w : World) (hR : SmL R) (hx : Small x.st) (h : StR w a R) (hk : KidsAt w x.a x.st.vals) :
    Calls Try.prog 42 #[.slice a R.length c, .agg #[.slice x.a x.st.vals.length x.c, .int .i64 x.st.sum]] w fun e w' => ∃ a' c', e = .returned (.slice a' (pushL stLess R x.st).length c') ∧ StR w' a' (pushL stLess R x.st) ∧ Below w.heap.size w w' := by
  obtain ⟨ps, e, hs⟩ := h
  have hn := len_smL e
  have := iPushed_any a c ps x w (by have := hR.2; omega) (few_smL e hR) (by have := hx.1; omega) hs hk
  rw [hn, e] at this
  refine this.mono ?_
  rintro e w' ⟨a', c', qs, rfl, s, o, hb⟩
  exact ⟨a', c', by rw [← len_smL s], ⟨qs, s, o.sts⟩, hb⟩
theorem sPuR (a : Option Addr) (c : Nat) (R : List St) (x : Sp) (w : World) (hR : SmL R) (hx : Small x.st) (h : StR w a R) (hk : KidsAt w x.a x.st.vals) :
    Calls Try.prog 50 #[.slice a R.length c, .agg #[.slice x.a x.st.vals.length x.c, .int .i64 x.st.sum]] w fun e w' => ∃ a' c', e = .returned (.slice a' (pushL stLess R x.st).length c') ∧ StR w' a' (pushL stLess R x.st) ∧ Below w.heap.size w w' := by
  obtain ⟨ps, e, hs⟩ := h
  have hn := len_smL e
  have := sPushed_any a c ps x w (by have := hR.2; omega) (few_smL e hR) (by have := hx.1; omega) hs hk
  rw [hn, e] at this
  refine this.mono ?_
  rintro e w' ⟨a', c', qs, rfl, s, o, hb⟩
  exact ⟨a', c', by rw [← len_smL s], ⟨qs, s, o.sts⟩, hb⟩
/-- What Popped answers, in plain words. -/
def PpR (R : List St) (w : World) (e : Ending) (w' : World) : Prop :=
  ∃ a c, ∃ f : Sp, e = .returned (.tuple #[.slice a (restL stLess R).length c, .agg #[.slice f.a f.st.vals.length f.c, .int .i64 f.st.sum], .bool (decide (0 < R.length))]) ∧ f.st = hdS R ∧ StR w' a (restL stLess R) ∧ KidsAt w' f.a f.st.vals ∧ Below w.heap.size w w'
theorem ppR_of {R : List St} {w w' : World} {e : Ending} (h : PopAns R w e w') : PpR R w e w' := by
  obtain ⟨a, c, ps, f, rfl, s, hf, o, fo, -, hb⟩ := h
  exact ⟨a, c, f, by rw [len_smL s], hf, ⟨ps, s, o.sts⟩, .of_own fo, hb⟩
theorem iPpR (a : Option Addr) (c : Nat) (R : List St) (w : World) (hR : SmL R) (h : StR w a R) :
    Calls Try.prog 43 #[.slice a R.length c] w fun e w' => PpR R w e w' := by
  obtain ⟨ps, e, hs⟩ := h
  have hn := len_smL e
  have := iPopped_any a c ps w (by have := hR.2; omega) (few_smL e hR) hs
  rw [hn, e] at this
  exact this.mono fun _ _ h => ppR_of h
theorem sPpR (a : Option Addr) (c : Nat) (R : List St) (w : World) (hR : SmL R) (h : StR w a R) :
    Calls Try.prog 46 #[.slice a R.length c] w fun e w' => PpR R w e w' := by
  obtain ⟨ps, e, hs⟩ := h
  have hn := len_smL e
  have := sPopped_any a c ps w (by have := hR.2; omega) (few_smL e hR) hs
  rw [hn, e] at this
  exact this.mono fun _ _ h => ppR_of h
theorem sameR (a1 a2 : Option Addr) (c1 c2 : Nat) (R : List St) (w : World) (hR : SmL R ∨ ∀ x ∈ R, x.vals.length ≤ 1048576) (hn : R.length ≤ 1048576) (h1 : StR w a1 R) (h2 : StR w a2 R) :
    Calls Try.prog 49 #[.slice a1 R.length c1, .slice a2 R.length c2] w fun e w' => e = .returned (.bool true) ∧ Below w.heap.size w w' := by
  obtain ⟨ps, e, hs⟩ := h1
  obtain ⟨qs, e', hs'⟩ := h2
  have h1 := len_smL e
  have h2 := len_smL e'
  have hF : Few ps := fun p hp => by
    have hm : p.st ∈ R := by rw [← e]; exact List.mem_map_of_mem hp
    rcases hR with h | h
    · have := (h.1 _ hm).1; omega
    · exact h _ hm
  have := sameStates_any a1 a2 c1 c2 ps qs w (by omega) hF (e.trans e'.symm) hs hs'
  rw [h1, h2] at this
  exact this
theorem iSLR (p q : Sp) (w : World) (hp : Small p.st) (hq : Small q.st) (k1 : KidsAt w p.a p.st.vals) (k2 : KidsAt w q.a q.st.vals) :
    Calls Try.prog 44 #[.agg #[.slice p.a p.st.vals.length p.c, .int .i64 p.st.sum], .agg #[.slice q.a q.st.vals.length q.c, .int .i64 q.st.sum]] w fun e w' => e = .returned (.bool (stLess p.st q.st)) ∧ Below w.heap.size w w' := iSL_any p q w (by have := hp.1; omega) (by have := hq.1; omega) k1 k2
theorem sSLR (p q : Sp) (w : World) (hp : Small p.st) (hq : Small q.st) (k1 : KidsAt w p.a p.st.vals) (k2 : KidsAt w q.a q.st.vals) :
    Calls Try.prog 51 #[.agg #[.slice p.a p.st.vals.length p.c, .int .i64 p.st.sum], .agg #[.slice q.a q.st.vals.length q.c, .int .i64 q.st.sum]] w fun e w' => e = .returned (.bool (stLess p.st q.st)) ∧ Below w.heap.size w w' := sSL_any p q w (by have := hp.1; omega) (by have := hq.1; omega) k1 k2
theorem stOrd : Ord stLess := ⟨fun h => stLess_as h, fun h1 h2 => stLess_tr h1 h2⟩
theorem smL_push {R : List St} {x : St} (h : SmL R) (hn : R.length ≤ 10) (hx : Small x) : SmL (pushL stLess R x) := ⟨fun y hy => by
  rcases List.mem_append.1 (upF_mem _ _ _ _ hy) with h1 | h1
  · exact h.1 y h1
  · have : y = x := by simpa using h1
    subst this
    exact hx, by rw [pushL_len]; omega⟩
theorem smL_rest {R : List St} (h : SmL R) : SmL (restL stLess R) := ⟨fun y hy => by
  obtain ⟨j, _, hj⟩ := rest_mem hy
  exact h.1 y (List.mem_of_getElem? hj), by rw [restL_len]; have := h.2; omega⟩
theorem small_hd {R : List St} (h : SmL R) : Small (hdS R) := by
  unfold hdS
  cases e : R[0]? with
  | none => exact ⟨by decide, by decide, by decide⟩
  | some x => exact h.1 x (List.mem_of_getElem? e)
theorem hd_at {R : List St} (h : 0 < R.length) : R[0]? = some (hdS R) := by
  unfold hdS
  rw [List.getElem?_eq_getElem h]
  rfl
/-- What the sums come to. -/
def sums (R : List St) : Int := totS (fun x => x.sum) R
theorem sums_take {R : List St} {k : Nat} {x : St} (h : R[k]? = some x) : sums (R.take (k + 1)) = sums (R.take k) + x.sum := by
  unfold sums
  rw [List.take_add_one, h, tot_app]
  simp [totS]
theorem sums_bd : ∀ (R : List St), (∀ x ∈ R, Small x) → 0 ≤ sums R ∧ sums R ≤ 10 * R.length
  | [], _ => by simp [sums, totS]
  | x :: R, h => by
    have ih := sums_bd R (fun y hy => h y (List.mem_cons_of_mem _ hy))
    have hx := h x List.mem_cons_self
    have h1 := hx.2.1
    have h2 := hx.2.2
    unfold sums at ih ⊢
    rw [totS, List.length_cons]
    omega
theorem sums_pop {R : List St} {s : St} : s.sum + sums R = (hdS (pushL stLess R s)).sum + sums (restL stLess (pushL stLess R s)) := by
  unfold sums
  rw [tot_rest (lt := stLess) (fun x : St => x.sum) (pushL stLess R s) (hdS (pushL stLess R s)) (hd_at (by rw [pushL_len]; omega)), tot_push]
  omega
end Go.Proofs.Ytokfemlcamnaaaa
