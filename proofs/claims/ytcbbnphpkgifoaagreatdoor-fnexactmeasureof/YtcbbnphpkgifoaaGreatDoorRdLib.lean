/- Reading as a plain function of the signs: where it stands, what it answers, and that it comes to an end. -/
import Derived.Test.YtcbbnphpkgifoaaGreatDoorKaa
namespace Go.Proofs.YtcbbnphpkgifoaaGreatDoor
open Go.RowKit
structure Ps where
 p : Nat
 d : Nat
 ns : List Nd
abbrev Rs (α : Type) := Option (Option (α × Ps))
section
variable {α β : Type}
def bnd (x : Rs α) (f : α → Ps → Rs β) : Rs β :=
 match x with
 | none => none
 | some none => some none
 | some (some (a, s)) => f a s
theorem bnd_no (f : α → Ps → Rs β) : bnd (some none) f = some none := rfl
theorem bnd_yes (a : α) (s : Ps) (f : α → Ps → Rs β) : bnd (some (some (a, s))) f = f a s := rfl
abbrev yes (a : α) (s : Ps) : Rs α := some (some (a, s))
end
section
variable (xs : List Sg)
def txt (p : Nat) : ByteArray := match xs[p]? with | some x => x.text | none => ByteArray.empty
def knd (p : Nat) : Int := match xs[p]? with | some x => x.kind | none => 0
def blk (p : Nat) : Bool := match xs[p]? with | some x => x.blank | none => false
def isNm (p : Nat) : Bool := (knd xs p == 1) && !kw (txt xs p)
def Ps.next (s : Ps) : Ps := ⟨s.p + 1, s.d, s.ns⟩
def wantP (t : ByteArray) (s : Ps) : Rs Unit := if txt xs s.p = t then yes () s.next else some none
def addP (kind : Int) (t : ByteArray) (ks : List Int) (s : Ps) : Rs Nat := if s.ns.length = 300 then some none else yes s.ns.length ⟨s.p, s.d, s.ns ++ [⟨kind, t, ks, false⟩]⟩
def nameP (s : Ps) : Rs ByteArray := if isNm xs s.p = true then yes (txt xs s.p) s.next else some none
def leafP (kind : Int) (s : Ps) : Rs Nat := addP kind (txt xs s.p) [] s.next
def nodeP (s : Ps) : Rs Nat := bnd (nameP xs s) fun t s1 => addP 1 t [] s1
def lim : Nat := xs.length + 1
def listedP (one : Ps → Rs Nat) (en : ByteArray) : Nat → List Int → Ps → Rs (List Int)
 | 0, _, _ => none
 | f + 1, ks, s => if txt xs s.p = en then yes ks s.next else bnd (one s) fun k s1 => if txt xs s1.p = (⟨#[44]⟩ : ByteArray) then listedP one en f (ks ++ [(k : Int)]) s1.next else bnd (wantP xs en s1) fun _ s2 => yes (ks ++ [(k : Int)]) s2
def namesP (s : Ps) : Rs (List Int) := bnd (wantP xs (⟨#[40]⟩ : ByteArray) s) fun _ s1 => listedP xs (nodeP xs) (⟨#[41]⟩ : ByteArray) (lim xs) [] s1
def arrL : Nat → Nat → Nat
 | 0, a => a
 | f + 1, a => if isNm xs a = true then (if txt xs (a + 1) = (⟨#[44]⟩ : ByteArray) then arrL f (a + 2) else a + 1) else a
def arrB (p : Nat) : Bool := decide (txt xs p = (⟨#[40]⟩ : ByteArray)) && (decide (txt xs (arrL xs (lim xs) (p + 1)) = (⟨#[41]⟩ : ByteArray)) && decide (txt xs (arrL xs (lim xs) (p + 1) + 1) = (⟨#[61, 62]⟩ : ByteArray)))
section
variable (O : Bool → Ps → Rs Nat)
def callP (c : Nat) (s : Ps) : Rs Nat := bnd (wantP xs (⟨#[40]⟩ : ByteArray) s) fun _ s1 => bnd (listedP xs (O true) (⟨#[41]⟩ : ByteArray) (lim xs) [] s1) fun ks s2 => addP 5 ByteArray.empty ((c : Int) :: ks) s2
def arrowP (s : Ps) : Rs Nat := bnd (namesP xs s) fun ks s1 => bnd (wantP xs (⟨#[61, 62]⟩ : ByteArray) s1) fun _ s2 => bnd (O false s2) fun k s3 => addP 9 ByteArray.empty (ks ++ [(k : Int)]) s3
def baseP (s : Ps) : Rs Nat :=
 if isNm xs s.p = true then leafP xs 1 s
 else if knd xs s.p = 2 then leafP xs 2 s
 else if knd xs s.p = 3 then leafP xs 3 s
 else if txt xs s.p = (⟨#[91]⟩ : ByteArray) then bnd (listedP xs (O true) (⟨#[93]⟩ : ByteArray) (lim xs) [] s.next) fun ks s1 => addP 4 ByteArray.empty ks s1
 else if arrB xs s.p = true then arrowP xs O s
 else if txt xs s.p = (⟨#[40]⟩ : ByteArray) then bnd (O true s.next) fun k s1 => bnd (wantP xs (⟨#[41]⟩ : ByteArray) s1) fun _ s2 => addP 11 ByteArray.empty [(k : Int)] s2
 else some none
def tailL : Nat → Nat → Ps → Rs Nat
 | 0, _, _ => none
 | f + 1, v, s => if txt xs s.p = (⟨#[40]⟩ : ByteArray) then bnd (callP xs O v s) fun k s1 => tailL f k s1 else if txt xs s.p = (⟨#[46]⟩ : ByteArray) then bnd (nameP xs s.next) fun t s1 => bnd (addP 6 t [(v : Int)] s1) fun k s2 => tailL f k s2 else yes v s
def tailP (s : Ps) : Rs Nat := bnd (baseP xs O s) fun k s1 => tailL xs O (lim xs) k s1
def lvl (t : ByteArray) : Nat := if t = (⟨#[124, 124]⟩ : ByteArray) then 1 else if t = (⟨#[38, 38]⟩ : ByteArray) then 2 else if t = (⟨#[61, 61]⟩ : ByteArray) then 3 else if t = (⟨#[60]⟩ : ByteArray) then 4 else if t = (⟨#[43]⟩ : ByteArray) then 5 else if t = (⟨#[45]⟩ : ByteArray) then 5 else if t = (⟨#[42]⟩ : ByteArray) then 6 else 0
def fromL (nx : Ps → Rs Nat) (mark : ByteArray) : Nat → List Int → Ps → Rs Nat
 | 0, _, _ => none
 | f + 1, ks, s => if txt xs s.p = mark then bnd (nx s.next) fun k s1 => fromL nx mark f (ks ++ [(k : Int)]) s1 else addP 7 mark ks s
def chL (nx : Ps → Rs Nat) (lv : Nat) : Nat → Nat → Ps → Rs Nat
 | 0, _, _ => none
 | f + 1, v, s => if lvl (txt xs s.p) = lv then bnd (fromL xs nx (txt xs s.p) (lim xs) [(v : Int)] s) fun k s1 => chL nx lv f k s1 else yes v s
def chainP : Nat → Ps → Rs Nat
 | 0, s => tailP xs O s
 | j + 1, s => bnd (chainP j s) fun v s1 => chL xs (chainP j) (6 - j) (lim xs) v s1
def pickP (s : Ps) : Rs Nat := if 20 < s.d + 1 then some none else bnd (chainP xs O 6 ⟨s.p, s.d + 1, s.ns⟩) fun v s1 => if txt xs s1.p = (⟨#[63]⟩ : ByteArray) then bnd (O false s1.next) fun y s2 => bnd (wantP xs (⟨#[58]⟩ : ByteArray) s2) fun _ s3 => bnd (O false s3) fun n s4 => bnd (addP 8 ByteArray.empty [(v : Int), (y : Int), (n : Int)] s4) fun k s5 => yes k ⟨s5.p, s5.d - 1, s5.ns⟩ else yes v ⟨s1.p, s1.d - 1, s1.ns⟩
def casL : Nat → List Int → Ps → Rs (List Int)
 | 0, _, _ => none
 | f + 1, ks, s => if txt xs s.p = (⟨#[46, 46]⟩ : ByteArray) then bnd (nodeP xs s.next) fun c s1 => bnd (callP xs O c s1) fun k s2 => casL f (ks ++ [(k : Int)]) s2 else yes ks s
def valueP (s : Ps) : Rs Nat := bnd (pickP xs O s) fun v s1 => bnd (casL xs O (lim xs) [(v : Int)] s1) fun ks s2 => if ks.length = 1 then yes v s2 else addP 10 ByteArray.empty ks s2
end
def vpF : Nat → Bool → Ps → Rs Nat
 | 0, _, _ => none
 | n + 1, true, s => valueP xs (vpF n) s
 | n + 1, false, s => pickP xs (vpF n) s
def valP (s : Ps) : Rs Nat := vpF xs (lim xs) true s
def setBl (s : Ps) (k : Nat) (b : Bool) : Ps := ⟨s.p, s.d, match s.ns[k]? with | some x => s.ns.set k ⟨x.kind, x.text, x.kids, b⟩ | none => s.ns⟩
def bodyP (one : Ps → Rs Nat) (en : ByteArray) : Nat → List Int → Ps → Rs (List Int)
 | 0, _, _ => none
 | f + 1, ks, s => if txt xs s.p = en then yes ks s else bnd (one s) fun k s1 => bodyP one en f (ks ++ [(k : Int)]) (setBl s1 k (blk xs s.p && decide (0 < ks.length)))
def holdP (s : Ps) : Rs Nat := bnd (nameP xs s) fun t s1 => if txt xs s1.p = (⟨#[61]⟩ : ByteArray) then bnd (valP xs s1.next) fun v s2 => bnd (wantP xs (⟨#[59]⟩ : ByteArray) s2) fun _ s3 => addP 12 t [(v : Int)] s3 else bnd (wantP xs (⟨#[59]⟩ : ByteArray) s1) fun _ s3 => addP 12 t [] s3
def condP (s : Ps) : Rs Nat := bnd (wantP xs (⟨#[40]⟩ : ByteArray) s) fun _ s1 => bnd (valP xs s1) fun v s2 => bnd (wantP xs (⟨#[41]⟩ : ByteArray) s2) fun _ s3 => yes v s3
def blockP (st : Ps → Rs Nat) (s : Ps) : Rs Nat := if 20 < s.d + 1 then some none else bnd (wantP xs (⟨#[123]⟩ : ByteArray) ⟨s.p, s.d + 1, s.ns⟩) fun _ s1 => bnd (bodyP xs st (⟨#[125]⟩ : ByteArray) (lim xs) [] s1) fun ks s2 => bnd (wantP xs (⟨#[125]⟩ : ByteArray) s2) fun _ s3 => addP 18 ByteArray.empty ks ⟨s3.p, s3.d - 1, s3.ns⟩
def answP (s : Ps) : Rs Nat := if txt xs s.p = (⟨#[59]⟩ : ByteArray) then bnd (wantP xs (⟨#[59]⟩ : ByteArray) s) fun _ s1 => addP 15 ByteArray.empty [] s1 else bnd (valP xs s) fun v s1 => bnd (wantP xs (⟨#[59]⟩ : ByteArray) s1) fun _ s2 => addP 15 ByteArray.empty [(v : Int)] s2
def choiP (st : Ps → Rs Nat) (s : Ps) : Rs Nat := bnd (condP xs s) fun v s1 => bnd (blockP xs st s1) fun b s2 => if txt xs s2.p = (⟨#[101, 108, 115, 101]⟩ : ByteArray) then bnd (blockP xs st s2.next) fun c s3 => addP 16 ByteArray.empty [(v : Int), (b : Int), (c : Int)] s3 else addP 16 ByteArray.empty [(v : Int), (b : Int)] s2
def loopP (st : Ps → Rs Nat) (s : Ps) : Rs Nat := bnd (condP xs s) fun v s1 => bnd (blockP xs st s1) fun b s2 => addP 17 ByteArray.empty [(v : Int), (b : Int)] s2
def settP (s : Ps) : Rs Nat := bnd (nameP xs s) fun t s1 => bnd (wantP xs (⟨#[61]⟩ : ByteArray) s1) fun _ s2 => bnd (valP xs s2) fun v s3 => bnd (wantP xs (⟨#[59]⟩ : ByteArray) s3) fun _ s4 => addP 13 t [(v : Int)] s4
def stepP (st : Ps → Rs Nat) (s : Ps) : Rs Nat :=
 if knd xs s.p = 5 then leafP xs 19 s
 else if txt xs s.p = (⟨#[118, 97, 114]⟩ : ByteArray) then holdP xs s.next
 else if txt xs s.p = (⟨#[114, 101, 116, 117, 114, 110]⟩ : ByteArray) then answP xs s.next
 else if txt xs s.p = (⟨#[105, 102]⟩ : ByteArray) then choiP xs st s.next
 else if txt xs s.p = (⟨#[119, 104, 105, 108, 101]⟩ : ByteArray) then loopP xs st s.next
 else if (isNm xs s.p && decide (txt xs (s.p + 1) = (⟨#[61]⟩ : ByteArray))) = true then settP xs s
 else bnd (valP xs s) fun v s1 => bnd (wantP xs (⟨#[59]⟩ : ByteArray) s1) fun _ s2 => addP 14 ByteArray.empty [(v : Int)] s2
def stF : Nat → Ps → Rs Nat
 | 0, _ => none
 | n + 1, s => stepP xs (stF n) s
def blkP (s : Ps) : Rs Nat := blockP xs (stF xs (lim xs)) s
def methP (s : Ps) : Rs Nat := bnd (nameP xs s) fun t s1 => bnd (namesP xs s1) fun ks s2 => bnd (blkP xs s2) fun b s3 => addP 20 t (ks ++ [(b : Int)]) s3
def membP (s : Ps) : Rs Nat := if knd xs s.p = 5 then leafP xs 19 s else if txt xs s.p = (⟨#[118, 97, 114]⟩ : ByteArray) then holdP xs s.next else methP xs s
def clasP (s : Ps) : Rs Nat := bnd (nameP xs s) fun t s1 => bnd (wantP xs (⟨#[123]⟩ : ByteArray) s1) fun _ s2 => bnd (bodyP xs (membP xs) (⟨#[125]⟩ : ByteArray) (lim xs) [] s2) fun ks s3 => bnd (wantP xs (⟨#[125]⟩ : ByteArray) s3) fun _ s4 => addP 21 t ks s4
def fmemP (s : Ps) : Rs Nat := if txt xs s.p = (⟨#[99, 108, 97, 115, 115]⟩ : ByteArray) then clasP xs s.next else membP xs s
def fileP : Rs Nat := bnd (bodyP xs (fmemP xs) ByteArray.empty (lim xs) [] ⟨0, 0, []⟩) fun ks s => addP 22 ByteArray.empty ks s
end
section
variable {α β : Type} {xs : List Sg}
structure Ends (xs : List Sg) (lo : Nat) (r : Rs α) : Prop where
 told : r ≠ none
 at_ : ∀ a s, r = yes a s → lo ≤ s.p ∧ s.p ≤ xs.length
theorem Ends.no {lo : Nat} : Ends (α := α) xs lo (some none) := ⟨by simp, fun a s h => by simp at h⟩
theorem Ends.ok {lo : Nat} {a : α} {s : Ps} (h1 : lo ≤ s.p) (h2 : s.p ≤ xs.length) : Ends xs lo (yes a s) := ⟨by simp, fun b t h => by simp only [Option.some.injEq, Prod.mk.injEq] at h; obtain ⟨rfl, rfl⟩ := h; exact ⟨h1, h2⟩⟩
theorem Ends.less {lo lo' : Nat} {r : Rs α} (h : Ends xs lo r) (hl : lo' ≤ lo) : Ends xs lo' r := ⟨h.told, fun a s e => ⟨Nat.le_trans hl (h.at_ a s e).1, (h.at_ a s e).2⟩⟩
theorem Ends.bnd {lo lo' : Nat} {x : Rs α} {f : α → Ps → Rs β} (h : Ends xs lo x) (hf : ∀ a s, lo ≤ s.p → s.p ≤ xs.length → Ends xs lo' (f a s)) : Ends xs lo' (bnd x f) := by
 match x, h with
 | none, h => exact absurd rfl h.told
 | some none, _ => exact Ends.no
 | some (some (a, s)), h => exact hf a s (h.at_ a s rfl).1 (h.at_ a s rfl).2
theorem txt_past {p : Nat} (h : xs.length ≤ p) : txt xs p = ByteArray.empty := by unfold txt; rw [List.getElem?_eq_none h]
theorem knd_past {p : Nat} (h : xs.length ≤ p) : knd xs p = 0 := by unfold knd; rw [List.getElem?_eq_none h]
theorem txt_lt {p : Nat} {t : ByteArray} (h : txt xs p = t) (ht : t ≠ ByteArray.empty) : p < xs.length := by
 rcases Nat.lt_or_ge p xs.length with h1 | h1
 ·exact h1
 ·exact absurd (h.symm.trans (txt_past h1)) ht
theorem knd_lt {p : Nat} {k : Int} (h : knd xs p = k) (hk : k ≠ 0) : p < xs.length := by
 rcases Nat.lt_or_ge p xs.length with h1 | h1
 ·exact h1
 ·exact absurd (h.symm.trans (knd_past h1)) hk
theorem isNm_lt {p : Nat} (h : isNm xs p = true) : p < xs.length := by
 unfold isNm at h
 simp only [Bool.and_eq_true, beq_iff_eq] at h
 exact knd_lt h.1 (by decide)
theorem lit_ne (a : UInt8) (l : List UInt8) : (⟨(a :: l).toArray⟩ : ByteArray) ≠ ByteArray.empty := by
 intro h
 have := congrArg (fun b => b.data.size) h
 simp at this
theorem lit_beq (u : ByteArray) (l : List UInt8) : (u.toList == l) = decide (u = (⟨l.toArray⟩ : ByteArray)) := by
 rw [Bool.eq_iff_iff]
 simp only [beq_iff_eq, decide_eq_true_eq, ByteArray.toList_eq]
 exact ⟨fun h => ByteArray.ext (Array.ext' (by simpa using h)), fun h => by rw [h]⟩
theorem fin_want {t : ByteArray} {s : Ps} (ht : t ≠ ByteArray.empty) : Ends xs (s.p + 1) (wantP xs t s) := by
 unfold wantP
 split
 ·rename_i h
  exact Ends.ok (Nat.le_refl _) (txt_lt h ht)
 ·exact Ends.no
theorem fin_add {kind : Int} {t : ByteArray} {ks : List Int} {s : Ps} (h : s.p ≤ xs.length) : Ends xs s.p (addP kind t ks s) := by
 unfold addP
 split
 ·exact Ends.no
 ·exact Ends.ok (Nat.le_refl _) h
theorem fin_name {s : Ps} : Ends xs (s.p + 1) (nameP xs s) := by
 unfold nameP
 split
 ·rename_i h
  exact Ends.ok (Nat.le_refl _) (isNm_lt h)
 ·exact Ends.no
theorem fin_leaf {kind : Int} {s : Ps} (h : s.p < xs.length) : Ends xs (s.p + 1) (leafP xs kind s) := fin_add (s := s.next) h
theorem fin_node {s : Ps} : Ends xs (s.p + 1) (nodeP xs s) := fin_name.bnd fun _ _ h1 h2 => (fin_add h2).less h1
def Goes (xs : List Sg) (lo : Nat) (one : Ps → Rs Nat) : Prop := ∀ s : Ps, lo ≤ s.p → s.p ≤ xs.length → Ends xs (s.p + 1) (one s)
theorem fin_listed {lo : Nat} {one : Ps → Rs Nat} {en : ByteArray} (he : en ≠ ByteArray.empty) (hg : Goes xs lo one) : ∀ (f : Nat) (ks : List Int) (s : Ps), lo ≤ s.p → s.p ≤ xs.length → xs.length - s.p < f → Ends xs (s.p + 1) (listedP xs one en f ks s)
 | 0, _, _, _, _, h => by omega
 | f + 1, ks, s, h1, h2, h3 => by
  unfold listedP
  split
  ·rename_i h
   exact Ends.ok (Nat.le_refl _) (txt_lt h he)
  ·refine (hg s h1 h2).bnd fun k s1 h4 h5 => ?_
   split
   ·rename_i h
    have hl := txt_lt h (lit_ne _ _)
    exact (fin_listed he hg f _ s1.next (by show lo ≤ s1.p + 1; omega) (by show s1.p + 1 ≤ _; omega) (by show _ - (s1.p + 1) < _; omega)).less (by show s.p + 1 ≤ s1.p + 1 + 1; omega)
   ·exact (fin_want he).bnd fun _ s2 h6 h7 => Ends.ok (by omega) h7
theorem fin_names {s : Ps} : Ends xs (s.p + 1) (namesP xs s) := by
 refine (fin_want (lit_ne _ _)).bnd fun _ s1 h1 h2 => ?_
 exact (fin_listed (lo := 0) (lit_ne _ _) (fun _ _ _ => fin_node) _ _ s1 (by omega) h2 (by unfold lim; omega)).less (by omega)
section
variable {O : Bool → Ps → Rs Nat} {q : Nat}
theorem fin_call {c : Nat} {s : Ps} (hO : Goes xs q (O true)) (hs : q ≤ s.p + 1) : Ends xs (s.p + 1) (callP xs O c s) := by
 refine (fin_want (lit_ne _ _)).bnd fun _ s1 h1 h2 => ?_
 refine (fin_listed (lit_ne _ _) hO _ _ s1 (by omega) h2 (by unfold lim; omega)).bnd fun ks s2 h3 h4 => ?_
 exact (fin_add h4).less (by omega)
theorem fin_arrow {s : Ps} (hO : Goes xs q (O false)) (hs : q ≤ s.p + 1) : Ends xs (s.p + 1) (arrowP xs O s) := by
 refine fin_names.bnd fun ks s1 h1 h2 => ?_
 refine (fin_want (lit_ne _ _)).bnd fun _ s2 h3 h4 => ?_
 refine (hO s2 (by omega) h4).bnd fun k s3 h5 h6 => ?_
 exact (fin_add h6).less (by omega)
theorem fin_base {s : Ps} (hO : ∀ b, Goes xs q (O b)) (hs : q ≤ s.p + 1) : Ends xs (s.p + 1) (baseP xs O s) := by
 unfold baseP
 split
 ·rename_i h; exact fin_leaf (isNm_lt h)
 split
 ·rename_i h; exact fin_leaf (knd_lt h (by decide))
 split
 ·rename_i h; exact fin_leaf (knd_lt h (by decide))
 split
 ·rename_i h
  have hl := txt_lt h (lit_ne _ _)
  refine (fin_listed (lit_ne _ _) (hO true) _ _ s.next (by show q ≤ s.p + 1; omega) (by show s.p + 1 ≤ _; omega) (by unfold lim; omega)).bnd fun ks s2 h3 h4 => ?_
  exact (fin_add h4).less (by have : s.next.p = s.p + 1 := rfl; omega)
 split
 ·exact fin_arrow (hO false) hs
 split
 ·rename_i h
  have hl := txt_lt h (lit_ne _ _)
  refine (hO true s.next (by show q ≤ s.p + 1; omega) (by show s.p + 1 ≤ _; omega)).bnd fun k s1 h1 h2 => ?_
  refine (fin_want (lit_ne _ _)).bnd fun _ s2 h3 h4 => ?_
  exact (fin_add h4).less (by have : s.next.p = s.p + 1 := rfl; omega)
 ·exact Ends.no
theorem fin_tailL (hO : Goes xs q (O true)) : ∀ (f v : Nat) (s : Ps), q ≤ s.p + 1 → s.p ≤ xs.length → xs.length - s.p < f → Ends xs s.p (tailL xs O f v s)
 | 0, _, _, _, _, h => by omega
 | f + 1, v, s, h1, h2, h3 => by
  unfold tailL
  split
  ·refine (fin_call hO h1).bnd fun k s1 h4 h5 => ?_
   exact (fin_tailL hO f k s1 (by omega) h5 (by omega)).less (by omega)
  split
  ·refine (fin_name (s := s.next)).bnd fun t s1 h4 h5 => ?_
   have e : s.next.p = s.p + 1 := rfl
   refine (fin_add h5).bnd fun k s2 h6 h7 => ?_
   exact (fin_tailL hO f k s2 (by omega) h7 (by omega)).less (by omega)
  ·exact Ends.ok (Nat.le_refl _) h2
theorem fin_tail {s : Ps} (hO : ∀ b, Goes xs q (O b)) (hs : q ≤ s.p + 1) : Ends xs (s.p + 1) (tailP xs O s) := by
 refine (fin_base hO hs).bnd fun k s1 h1 h2 => ?_
 exact (fin_tailL (hO true) _ _ s1 (by omega) h2 (by unfold lim; omega)).less h1
theorem fin_from {nx : Ps → Rs Nat} {mark : ByteArray} (hm : mark ≠ ByteArray.empty) (hn : Goes xs q nx) : ∀ (f : Nat) (ks : List Int) (s : Ps), q ≤ s.p + 1 → s.p ≤ xs.length → xs.length - s.p < f → Ends xs s.p (fromL xs nx mark f ks s)
 | 0, _, _, _, _, h => by omega
 | f + 1, ks, s, h1, h2, h3 => by
  unfold fromL
  split
  ·rename_i h
   have hl := txt_lt h hm
   refine (hn s.next (by show q ≤ s.p + 1; omega) (by show s.p + 1 ≤ _; omega)).bnd fun k s1 h4 h5 => ?_
   have e : s.next.p = s.p + 1 := rfl
   exact (fin_from hm hn f _ s1 (by omega) h5 (by omega)).less (by omega)
  ·exact fin_add h2
theorem fin_from1 {nx : Ps → Rs Nat} {s : Ps} {ks : List Int} (hm : txt xs s.p ≠ ByteArray.empty) (hn : Goes xs q nx) (h1 : q ≤ s.p + 1) : Ends xs (s.p + 1) (fromL xs nx (txt xs s.p) (lim xs) ks s) := by
 unfold lim fromL
 rw [if_pos rfl]
 have hl := txt_lt rfl hm
 refine (hn s.next (by show q ≤ s.p + 1; omega) (by show s.p + 1 ≤ _; omega)).bnd fun k s1 h4 h5 => ?_
 have e : s.next.p = s.p + 1 := rfl
 exact (fin_from hm hn _ _ s1 (by omega) h5 (by omega)).less (by omega)
theorem lvl_empty {lv : Nat} {t : ByteArray} (h : lvl t = lv) (hv : lv ≠ 0) : t ≠ ByteArray.empty := by
 rintro rfl
 exact hv (h.symm.trans (by decide))
theorem fin_chL {nx : Ps → Rs Nat} {lv : Nat} (hv : lv ≠ 0) (hn : Goes xs q nx) : ∀ (f v : Nat) (s : Ps), q ≤ s.p + 1 → s.p ≤ xs.length → xs.length - s.p < f → Ends xs s.p (chL xs nx lv f v s)
 | 0, _, _, _, _, h => by omega
 | f + 1, v, s, h1, h2, h3 => by
  unfold chL
  split
  ·rename_i h
   refine (fin_from1 (lvl_empty h hv) hn h1).bnd fun k s1 h4 h5 => ?_
   exact (fin_chL hv hn f k s1 (by omega) h5 (by omega)).less (by omega)
  ·exact Ends.ok (Nat.le_refl _) h2
theorem fin_chain (hO : ∀ b, Goes xs q (O b)) : ∀ (j : Nat), j ≤ 6 → ∀ s : Ps, q ≤ s.p + 1 → Ends xs (s.p + 1) (chainP xs O j s)
 | 0, _, s, hs => fin_tail hO hs
 | j + 1, hj, s, hs => by
  refine (fin_chain hO j (by omega) s hs).bnd fun v s1 h1 h2 => ?_
  exact (fin_chL (q := q) (by omega) (fun u h3 _ => fin_chain hO j (by omega) u (by omega)) _ _ s1 (by omega) h2 (by unfold lim; omega)).less h1
theorem fin_pick {s : Ps} (hO : ∀ b, Goes xs q (O b)) (hs : q ≤ s.p + 1) : Ends xs (s.p + 1) (pickP xs O s) := by
 unfold pickP
 split
 ·exact Ends.no
 refine (fin_chain hO 6 (by omega) ⟨s.p, s.d + 1, s.ns⟩ hs).bnd fun v s1 h1 h2 => ?_
 have h1' : s.p + 1 ≤ s1.p := h1
 split
 ·rename_i h
  have hl := txt_lt h (lit_ne _ _)
  have e : s1.next.p = s1.p + 1 := rfl
  refine (hO false s1.next (by omega) (by omega)).bnd fun y s2 h3 h4 => ?_
  refine (fin_want (lit_ne _ _)).bnd fun _ s3 h5 h6 => ?_
  refine (hO false s3 (by omega) h6).bnd fun n s4 h7 h8 => ?_
  refine (fin_add h8).bnd fun k s5 h9 ha => ?_
  exact Ends.ok (by show _ ≤ s5.p; omega) ha
 ·exact Ends.ok h1' h2
theorem fin_casL (hO : Goes xs q (O true)) : ∀ (f : Nat) (ks : List Int) (s : Ps), q ≤ s.p + 1 → s.p ≤ xs.length → xs.length - s.p < f → Ends xs s.p (casL xs O f ks s)
 | 0, _, _, _, _, h => by omega
 | f + 1, ks, s, h1, h2, h3 => by
  unfold casL
  split
  ·refine (fin_node (s := s.next)).bnd fun c s1 h4 h5 => ?_
   have e : s.next.p = s.p + 1 := rfl
   refine (fin_call hO (by omega)).bnd fun k s2 h6 h7 => ?_
   exact (fin_casL hO f _ s2 (by omega) h7 (by omega)).less (by omega)
  ·exact Ends.ok (Nat.le_refl _) h2
theorem fin_value {s : Ps} (hO : ∀ b, Goes xs q (O b)) (hs : q ≤ s.p + 1) : Ends xs (s.p + 1) (valueP xs O s) := by
 refine (fin_pick hO hs).bnd fun v s1 h1 h2 => ?_
 refine (fin_casL (hO true) _ _ s1 (by omega) h2 (by unfold lim; omega)).bnd fun ks s2 h3 h4 => ?_
 split
 ·exact Ends.ok (by omega) h4
 ·exact (fin_add h4).less (by omega)
end
theorem fin_vp : ∀ (n : Nat) (b : Bool) (s : Ps), s.p ≤ xs.length → xs.length - s.p < n → Ends xs (s.p + 1) (vpF xs n b s)
 | 0, _, _, _, h => by omega
 | n + 1, true, s, h1, h2 => fin_value (O := vpF xs n) (q := s.p + 1) (fun b u h3 h4 => fin_vp n b u h4 (by omega)) (Nat.le_refl _)
 | n + 1, false, s, h1, h2 => fin_pick (O := vpF xs n) (q := s.p + 1) (fun b u h3 h4 => fin_vp n b u h4 (by omega)) (Nat.le_refl _)
theorem fin_val {s : Ps} (h : s.p ≤ xs.length) : Ends xs (s.p + 1) (valP xs s) := fin_vp _ _ s h (by unfold lim; omega)
theorem fin_body {lo : Nat} {one : Ps → Rs Nat} {en : ByteArray} (hg : Goes xs lo one) : ∀ (f : Nat) (ks : List Int) (s : Ps), lo ≤ s.p → s.p ≤ xs.length → xs.length - s.p < f → Ends xs s.p (bodyP xs one en f ks s)
 | 0, _, _, _, _, h => by omega
 | f + 1, ks, s, h1, h2, h3 => by
  unfold bodyP
  split
  ·exact Ends.ok (Nat.le_refl _) h2
  ·refine (hg s h1 h2).bnd fun k s1 h4 h5 => ?_
   exact (fin_body hg f _ (setBl s1 k _) (by show lo ≤ s1.p; omega) h5 (by show _ - s1.p < _; omega)).less (by show s.p ≤ s1.p; omega)
theorem fin_hold {s : Ps} : Ends xs (s.p + 1) (holdP xs s) := by
 refine fin_name.bnd fun t s1 h1 h2 => ?_
 split
 ·rename_i h
  have hl := txt_lt h (lit_ne _ _)
  have e : s1.next.p = s1.p + 1 := rfl
  refine (fin_val (s := s1.next) (by omega)).bnd fun v s2 h3 h4 => ?_
  refine (fin_want (lit_ne _ _)).bnd fun _ s3 h5 h6 => ?_
  exact (fin_add h6).less (by omega)
 ·refine (fin_want (lit_ne _ _)).bnd fun _ s3 h5 h6 => ?_
  exact (fin_add h6).less (by omega)
theorem fin_cond {s : Ps} : Ends xs (s.p + 1) (condP xs s) := by
 refine (fin_want (lit_ne _ _)).bnd fun _ s1 h1 h2 => ?_
 refine (fin_val h2).bnd fun v s2 h3 h4 => ?_
 exact (fin_want (lit_ne _ _)).bnd fun _ s3 h5 h6 => Ends.ok (by omega) h6
theorem fin_block {q : Nat} {st : Ps → Rs Nat} {s : Ps} (hg : Goes xs q st) (hs : q ≤ s.p + 1) : Ends xs (s.p + 1) (blockP xs st s) := by
 unfold blockP
 split
 ·exact Ends.no
 refine (fin_want (lit_ne _ _)).bnd fun _ s1 h1 h2 => ?_
 have h1' : s.p + 1 ≤ s1.p := h1
 refine (fin_body hg _ _ s1 (by omega) h2 (by unfold lim; omega)).bnd fun ks s2 h3 h4 => ?_
 refine (fin_want (lit_ne _ _)).bnd fun _ s3 h5 h6 => ?_
 exact (fin_add (s := ⟨s3.p, s3.d - 1, s3.ns⟩) h6).less (by show s.p + 1 ≤ s3.p; omega)
theorem fin_answ {s : Ps} (hs : s.p ≤ xs.length) : Ends xs s.p (answP xs s) := by
 unfold answP
 split
 ·refine (fin_want (lit_ne _ _)).bnd fun _ s1 h1 h2 => ?_
  exact (fin_add h2).less (by omega)
 ·refine (fin_val hs).bnd fun v s1 h1 h2 => ?_
  refine (fin_want (lit_ne _ _)).bnd fun _ s3 h5 h6 => ?_
  exact (fin_add h6).less (by omega)
theorem fin_choi {q : Nat} {st : Ps → Rs Nat} {s : Ps} (hg : Goes xs q st) (hs : q ≤ s.p + 1) : Ends xs (s.p + 1) (choiP xs st s) := by
 refine fin_cond.bnd fun v s1 h1 h2 => ?_
 refine (fin_block hg (by omega)).bnd fun b s2 h3 h4 => ?_
 split
 ·have e : s2.next.p = s2.p + 1 := rfl
  refine (fin_block (s := s2.next) hg (by omega)).bnd fun c s3 h5 h6 => ?_
  exact (fin_add h6).less (by omega)
 ·exact (fin_add h4).less (by omega)
theorem fin_loop {q : Nat} {st : Ps → Rs Nat} {s : Ps} (hg : Goes xs q st) (hs : q ≤ s.p + 1) : Ends xs (s.p + 1) (loopP xs st s) := by
 refine fin_cond.bnd fun v s1 h1 h2 => ?_
 refine (fin_block hg (by omega)).bnd fun b s2 h3 h4 => ?_
 exact (fin_add h4).less (by omega)
theorem fin_sett {s : Ps} : Ends xs (s.p + 1) (settP xs s) := by
 refine fin_name.bnd fun t s1 h1 h2 => ?_
 refine (fin_want (lit_ne _ _)).bnd fun _ s2 h3 h4 => ?_
 refine (fin_val h4).bnd fun v s3 h5 h6 => ?_
 refine (fin_want (lit_ne _ _)).bnd fun _ s4 h7 h8 => ?_
 exact (fin_add h8).less (by omega)
theorem fin_step {q : Nat} {st : Ps → Rs Nat} {s : Ps} (hg : Goes xs q st) (hs : q ≤ s.p + 1) (hp : s.p ≤ xs.length) : Ends xs (s.p + 1) (stepP xs st s) := by
 have e : s.next.p = s.p + 1 := rfl
 unfold stepP
 split
 ·rename_i h; exact fin_leaf (knd_lt h (by decide))
 split
 ·exact (fin_hold (s := s.next)).less (by omega)
 split
 ·rename_i h
  have hl := txt_lt h (lit_ne _ _)
  exact (fin_answ (s := s.next) (by omega)).less (by omega)
 split
 ·exact (fin_choi (s := s.next) hg (by omega)).less (by omega)
 split
 ·exact (fin_loop (s := s.next) hg (by omega)).less (by omega)
 split
 ·exact fin_sett
 ·refine (fin_val hp).bnd fun v s1 h1 h2 => ?_
  refine (fin_want (lit_ne _ _)).bnd fun _ s3 h5 h6 => ?_
  exact (fin_add h6).less (by omega)
theorem fin_st : ∀ (n : Nat) (s : Ps), s.p ≤ xs.length → xs.length - s.p < n → Ends xs (s.p + 1) (stF xs n s)
 | 0, _, _, h => by omega
 | n + 1, s, h1, h2 => fin_step (q := s.p + 1) (st := stF xs n) (fun u h3 h4 => fin_st n u h4 (by omega)) (Nat.le_refl _) h1
theorem fin_blk {s : Ps} : Ends xs (s.p + 1) (blkP xs s) := by
 unfold blkP blockP
 split
 ·exact Ends.no
 refine (fin_want (lit_ne _ _)).bnd fun _ s1 h1 h2 => ?_
 have h1' : s.p + 1 ≤ s1.p := h1
 refine (fin_body (lo := s1.p) (fun u h3 h4 => fin_st _ u h4 (by unfold lim; omega)) _ _ s1 (Nat.le_refl _) h2 (by unfold lim; omega)).bnd fun ks s2 h3 h4 => ?_
 refine (fin_want (lit_ne _ _)).bnd fun _ s3 h5 h6 => ?_
 exact (fin_add (s := ⟨s3.p, s3.d - 1, s3.ns⟩) h6).less (by show s.p + 1 ≤ s3.p; omega)
theorem fin_meth {s : Ps} : Ends xs (s.p + 1) (methP xs s) := by
 refine fin_name.bnd fun t s1 h1 h2 => ?_
 refine fin_names.bnd fun ks s2 h3 h4 => ?_
 refine fin_blk.bnd fun b s3 h5 h6 => ?_
 exact (fin_add h6).less (by omega)
theorem fin_memb {s : Ps} : Ends xs (s.p + 1) (membP xs s) := by
 have e : s.next.p = s.p + 1 := rfl
 unfold membP
 split
 ·rename_i h; exact fin_leaf (knd_lt h (by decide))
 split
 ·exact (fin_hold (s := s.next)).less (by omega)
 ·exact fin_meth
theorem fin_clas {s : Ps} : Ends xs (s.p + 1) (clasP xs s) := by
 refine fin_name.bnd fun t s1 h1 h2 => ?_
 refine (fin_want (lit_ne _ _)).bnd fun _ s2 h3 h4 => ?_
 refine (fin_body (lo := 0) (fun _ _ _ => fin_memb) _ _ s2 (by omega) h4 (by unfold lim; omega)).bnd fun ks s3 h5 h6 => ?_
 refine (fin_want (lit_ne _ _)).bnd fun _ s4 h7 h8 => ?_
 exact (fin_add h8).less (by omega)
theorem fin_fmem {s : Ps} : Ends xs (s.p + 1) (fmemP xs s) := by
 have e : s.next.p = s.p + 1 := rfl
 unfold fmemP
 split
 ·exact (fin_clas (s := s.next)).less (by omega)
 ·exact fin_memb
theorem fin_file : Ends xs 0 (fileP xs) := by
 refine (fin_body (lo := 0) (fun _ _ _ => fin_fmem) _ _ ⟨0, 0, []⟩ (Nat.le_refl _) (Nat.zero_le _) (by unfold lim; show _ - 0 < _; omega)).bnd fun ks s h1 h2 => ?_
 exact (fin_add h2).less (by omega)
end
end Go.Proofs.YtcbbnphpkgifoaaGreatDoor
