/- What both Renders and both CostOfs answer, whatever comes. -/
import Derived.Test.YtndnngfljoamdaaRenI
import Derived.Test.YtndnngfljoamdaaRenS
import Derived.Test.YtndnngfljoamdaaCostI
import Derived.Test.YtndnngfljoamdaaCostS
namespace Go.Proofs.Ytndnngfljoamdaa
open Go.RowKit

theorem ren_len (ind : Int) (vs : List Int) : ∀ (cs : List Ch) (s : ByteArray), (ren ind vs s cs).length ≤ cs.length + 1
  | [], s => by rw [ren]; simp
  | [x], s => by rw [ren]; simp
  | x :: y :: cs, s => by
    have h1 := ren_len ind vs (y :: cs) (blanks (ind + x.nest))
    have h2 := ren_len ind vs (y :: cs) (s ++ x.text ++ sp1 x)
    rw [ren]
    split
    · simp only [List.length_cons] at h1 ⊢; omega
    · simp only [List.length_cons] at h2 ⊢; omega
theorem ren_key (p : Pc) (vs : List Int) (hF : PcFew p) (hm0 : vs.length ≤ 1048576) :
    ∃ ss : List ByteArray, ss.length ≤ 81 ∧
      (∀ (l : Pl) (a : Option Addr) (c : Nat) (W : World), PcIn W p l → KidsAt W a vs → Calls Try.prog 40 #[pcV p l, .slice a vs.length c] W fun e w' => StrsAns ss 9 W e w') ∧
      (∀ (l : Pl) (a : Option Addr) (c : Nat) (W : World), PcIn W p l → KidsAt W a vs → Calls Try.prog 29 #[pcV p l, .slice a vs.length c] W fun e w' => StrsAns ss 9 W e w') ∧
      (Right p → ValOk p vs → ss = linesOf p vs) := by
  by_cases h : Right p ∧ ValOk p vs
  · refine ⟨linesOf p vs, ?_, fun l a c W hP hK => sRen_yes p l a c vs W hF hm0 hP hK h.1 h.2, fun l a c W hP hK => iRen_yes p l a c vs W hF hm0 hP hK h.1 h.2, fun _ _ => rfl⟩
    have h1 := ren_len p.indent vs p.chunks (blanks p.indent)
    have h2 := h.1.chunks.most
    unfold linesOf
    omega
  · exact ⟨[], by simp, fun l a c W hP hK => sRen_no p l a c vs W hF hm0 hP hK h, fun l a c W hP hK => iRen_no p l a c vs W hF hm0 hP hK h, fun a b => absurd ⟨a, b⟩ h⟩
theorem cost_key (p : Pc) (vs : List Int) (wd : Int) (hF : PcFew p) (hm0 : vs.length ≤ 1048576) :
    ∃ o s : Int,
      (∀ (l : Pl) (a : Option Addr) (c : Nat) (W : World), PcIn W p l → KidsAt W a vs → Calls Try.prog 38 #[pcV p l, .slice a vs.length c, .int .i64 wd] W fun e w' => CoAns o s W e w') ∧
      (∀ (l : Pl) (a : Option Addr) (c : Nat) (W : World), p.chunks.length ≤ l.c2 → PcIn W p l → KidsAt W a vs → Calls Try.prog 31 #[pcV p l, .slice a vs.length c, .int .i64 wd] W fun e w' => CoAns o s W e w') ∧
      (Right p → ValOk p vs → o = costOver p vs wd ∧ s = costSum p vs) := by
  by_cases h : Right p ∧ ValOk p vs
  · exact ⟨_, _, fun l a c W hP hK => sCost_yes p l a c vs wd W hF hm0 hP hK h.1 h.2, fun l a c W hc hP hK => iCost_yes p l a c vs wd W hF hm0 hc hP hK h.1 h.2, fun _ _ => ⟨rfl, rfl⟩⟩
  · exact ⟨_, _, fun l a c W hP hK => sCost_no p l a c vs wd W hF hm0 hP hK h, fun l a c W hc hP hK => iCost_no p l a c vs wd W hF hm0 hP hK h, fun a b => absurd ⟨a, b⟩ h⟩
end Go.Proofs.Ytndnngfljoamdaa
