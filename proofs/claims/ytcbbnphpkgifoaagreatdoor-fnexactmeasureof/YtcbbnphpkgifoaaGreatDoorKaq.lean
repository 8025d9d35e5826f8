/- What impl.spanOf and the kinds of runes that it asks for answer. -/
import Derived.Test.YtcbbnphpkgifoaaGreatDoorProg
import Derived.Test.YtcbbnphpkgifoaaGreatDoorSignLib
import Derived.Lib.OthersKept
import Derived.Laws.RangeString
import Derived.Laws.RangeAny
import Derived.Shelf.Abstract
import Derived.Shelf.Strings.Trim
import Derived.Shelf.Small.Utf8
import Derived.Shelf.Small.Strs
import Derived.Shelf.LaysM
import Derived.Shelf.Strconv.Clone
import Derived.Shelf.Strings.Search1
import Derived.Shelf.Strings.Search2
import Derived.Shelf.Strings.Search3
import Derived.Shelf.Strings.Cut
import Derived.Shelf.Strings.Count
import Derived.Shelf.Strings.Shaped
import Derived.Shelf.Strings.Prefix
import Derived.Shelf.Strings.Runes
import Derived.Shelf.Strings.AsciiSet
import Derived.Shelf.Unicode.DecodeSlow
import Derived.Test.YtcbbnphpkgifoaaGreatDoorKab
namespace Go.Proofs.YtcbbnphpkgifoaaGreatDoor
set_option maxHeartbeats 4000000
set_option maxRecDepth 100000
open Go.RowKit Go.Shelf
theorem fig_any (r : Int) (w : World) : Calls Tryz.prog 146 #[.int .i32 r] w fun e w' => e = .returned (.bool (figB r)) ∧ w' = w := by
 by_cases h1 : 48 ≤ r
 all_goals go_enter Tryz.func146, Tryz.ntmps146
 all_goals go_wp2
 all_goals go_ret
 all_goals exact ⟨ret_bool (by first | (simp [figB, *]; done) | (simp [figB]; omega)), rfl⟩
theorem pla_any (r : Int) (w : World) : Calls Tryz.prog 190 #[.int .i32 r] w fun e w' => e = .returned (.bool (plaB r)) ∧ w' = w := by
 by_cases h1 : 32 ≤ r
 all_goals go_enter Tryz.func190, Tryz.ntmps190
 all_goals go_wp2
 all_goals go_ret
 all_goals exact ⟨ret_bool (by first | (simp [plaB, *]; done) | (simp [plaB]; omega)), rfl⟩
theorem gap_any (r : Int) (w : World) : Calls Tryz.prog 43 #[.int .i32 r] w fun e w' => e = .returned (.bool (gapB r)) ∧ w' = w := by
 by_cases h1 : r = 32
 ·subst h1
  go_enter Tryz.func43, Tryz.ntmps43
  go_wp2
  go_ret
  exact ⟨ret_bool (by simp [gapB]), rfl⟩
 ·have h2 : (r == 32) = false := by simpa using h1
  clear h1
  go_enter Tryz.func43, Tryz.ntmps43
  go_wp2
  go_ret
  exact ⟨ret_bool (by simp [gapB, h2]), rfl⟩
theorem tex_any (r : Int) (w : World) : Calls Tryz.prog 189 #[.int .i32 r] w fun e w' => e = .returned (.bool (texB r)) ∧ w' = w := by
 go_enter Tryz.func189, Tryz.ntmps189
 go_wp2_with fail
 refine (pla_any r _).mono ?_
 cases h : plaB r
 all_goals rintro e w ⟨rfl, rfl⟩
 all_goals go_wp2
 all_goals go_ret
 all_goals exact ⟨ret_bool (by simp [texB, h]), rfl⟩
theorem no122 {r : Int} (h : 122 < r) (u : Bool) : (decide (r ≤ 122) || decide (r ≤ 90) || u) = u := by
 have e1 : ¬ r ≤ 122 := by omega
 have e2 : ¬ r ≤ 90 := by omega
 simp [e1, e2]
theorem no90 {r : Int} (h : 90 < r) (u : Bool) : (decide (r ≤ 90) || u) = u := by
 have e2 : ¬ r ≤ 90 := by omega
 simp [e2]
theorem nam_any (r : Int) (w : World) : Calls Tryz.prog 148 #[.int .i32 r] w fun e w' => e = .returned (.bool (namB r)) ∧ w' = w := by
 have key : (97 ≤ r ∧ r ≤ 122) ∨ (97 ≤ r ∧ 122 < r ∧ 65 ≤ r ∧ 90 < r ∧ (r == 95) = false) ∨ (r < 97 ∧ 65 ≤ r ∧ r ≤ 90) ∨ (r < 97 ∧ 65 ≤ r ∧ 90 < r ∧ (r == 95) = true) ∨ (r < 97 ∧ 65 ≤ r ∧ 90 < r ∧ (r == 95) = false) ∨ (r < 97 ∧ r < 65 ∧ (r == 95) = false) := by
  simp only [beq_iff_eq, beq_eq_false_iff_ne]
  omega
 rcases key with ⟨h1, h2⟩ | ⟨h1, h2, h3, h4, h5⟩ | ⟨h1, h3, h4⟩ | ⟨h1, h3, h4, h5⟩ | ⟨h1, h3, h4, h5⟩ | ⟨h1, h3, h5⟩
 ·go_enter Tryz.func148, Tryz.ntmps148
  go_wp2
  go_ret
  exact ⟨ret_bool (by simp [namB, firB]; omega), rfl⟩
 ·have hn : namB r = figB r := by
   have : firB r = false := by simp [firB, h5]; omega
   simp [namB, this]
  rw [hn]
  have hF := fig_any r w
  obtain ⟨u, hu⟩ : ∃ u, u = figB r := ⟨_, rfl⟩
  rw [← hu] at hF ⊢
  clear hu
  go_enter Tryz.func148, Tryz.ntmps148
  go_wp2_with fail
  refine hF.mono ?_
  rintro e w ⟨rfl, rfl⟩
  go_wp2
  go_ret
  first | exact ⟨rfl, rfl⟩ | exact ⟨ret_bool (no122 h2 u), rfl⟩ | exact ⟨ret_bool (no90 h4 u), rfl⟩
 ·go_enter Tryz.func148, Tryz.ntmps148
  go_wp2
  go_ret
  exact ⟨ret_bool (by simp [namB, firB]; omega), rfl⟩
 ·go_enter Tryz.func148, Tryz.ntmps148
  go_wp2
  go_ret
  exact ⟨ret_bool (by simp [namB, firB]; simp at h5; omega), rfl⟩
 ·have hn : namB r = figB r := by
   have : firB r = false := by simp [firB, h5]; omega
   simp [namB, this]
  rw [hn]
  have hF := fig_any r w
  obtain ⟨u, hu⟩ : ∃ u, u = figB r := ⟨_, rfl⟩
  rw [← hu] at hF ⊢
  clear hu
  go_enter Tryz.func148, Tryz.ntmps148
  go_wp2_with fail
  refine hF.mono ?_
  rintro e w ⟨rfl, rfl⟩
  go_wp2
  go_ret
  first | exact ⟨rfl, rfl⟩ | exact ⟨ret_bool (no122 h2 u), rfl⟩ | exact ⟨ret_bool (no90 h4 u), rfl⟩
 ·have hn : namB r = figB r := by
   have : firB r = false := by simp [firB, h5]; omega
   simp [namB, this]
  rw [hn]
  have hF := fig_any r w
  obtain ⟨u, hu⟩ : ∃ u, u = figB r := ⟨_, rfl⟩
  rw [← hu] at hF ⊢
  clear hu
  go_enter Tryz.func148, Tryz.ntmps148
  go_wp2_with fail
  refine hF.mono ?_
  rintro e w ⟨rfl, rfl⟩
  go_wp2
  go_ret
  first | exact ⟨rfl, rfl⟩ | exact ⟨ret_bool (no122 h2 u), rfl⟩ | exact ⟨ret_bool (no90 h4 u), rfl⟩
theorem width_one {s : ByteArray} {k : Nat} (h : k < s.size) (ha : by8 s k < 128) : Utf8.decode s k = ((by8 s k).toNat, 1) := by
 have e := by8_at s k h
 rw [decode_ascii s k h (by omega), ← e]
 rfl
theorem span_any (g : Nat) (p : Int → Bool) (hp : ∀ r, 128 ≤ r → p r = false) (hg : ∀ (r : Int) (W : World), Calls Tryz.prog g #[.int .i32 r] W fun e w' => e = .returned (.bool (p r)) ∧ w' = W) (eg : ∀ (args : Array Value) (w : World), (callFunc g args).run Tryz.prog w = .ok (.enter g args) w)
  (s : ByteArray) (w : World) (_ : s.size ≤ 4194304) :
  Calls Tryz.prog 102 #[.string s, .func (.func g) #[] #[]] w fun e w' => e = .returned (.int .i64 (spn p s 0)) ∧ Below w.heap.size w w' := by
 go_enter Tryz.func102, Tryz.ntmps102
 go_wp2
 go_loopw [] (fun wr => ∃ pos : Nat, pos ≤ s.size ∧ wr.heap[w.heap.size]? = some (.stringIter s pos) ∧ Below w.heap.size w wr ∧ Hid (∀ j, j < pos → p (by8 s j) = true)) (fun wr => s.size - wr.iterPos w.heap.size)
 case atStart =>
  refine ⟨0, Nat.zero_le _, World.iter_heap w s 0, ?_, hidOf fun j hj => by omega⟩
  exact (Below.refl _ w).alloc (Nat.le_refl _) _
 case round =>
  obtain ⟨pos, hpos, hit, hb, HA⟩ := hrel
  have hsz : w.heap.size < wr.heap.size := (Array.getElem?_eq_some_iff.1 hit).1
  by_cases hlt : pos < s.size
  ·have hnx : ∀ ty, (Instr.next (.pointer (some ⟨w.heap.size, 0, none⟩)) true ty).run Tryz.prog wr = _ := fun ty => Lib.run_next_any_at wr w.heap.size s pos ty hit hlt
   have hbI := fun q => Lib.below_iterAt hb (k := w.heap.size) (Nat.le_refl _) s q
   have hitI := fun q => Lib.iterAt_heap wr w.heap.size s pos q hit
   have hr := by8_range s pos
   cases hP : p (by8 s pos)
   ·have hd : p (((Utf8.decode s pos).1 : Nat) : Int) = false := by
     by_cases ha : by8 s pos < 128
     ·rw [width_one hlt ha]
      show p (((by8 s pos).toNat : Nat) : Int) = false
      rw [Int.toNat_of_nonneg hr.1]
      exact hP
     ·have e := by8_at s pos hlt
      exact hp _ (by have := (decode_high s pos hlt (by omega)).1; omega)
    have hcall := fun W => hg (((Utf8.decode s pos).1 : Nat) : Int) W
    rw [hd] at hcall
    have HP := hidOf hP
    clear hP hd
    go_wp2_with (go_at_fn g; refine (hcall _).mono ?_; rintro e w' ⟨rfl, rfl⟩)
    go_ret
    refine ⟨ret_int ?_, hbI _⟩
    rw [spn_is (p := p) (s := s) pos 0 (by omega) (fun j hj => by rw [Nat.zero_add]; exact HA.out j hj) (fun _ => by rw [Nat.zero_add]; exact HP.out)]
   ·have ha : by8 s pos < 128 := by
     by_cases h : by8 s pos < 128
     ·exact h
     ·rw [hp _ (by omega)] at hP
      cases hP
    rw [width_one hlt ha] at hnx
    have hcall := fun W => hg (((by8 s pos).toNat : Nat) : Int) W
    rw [Int.toNat_of_nonneg hr.1, hP] at hcall
    simp only [Int.toNat_of_nonneg hr.1] at hnx
    have HP := hidOf hP
    clear hP ha
    go_wp2_with (go_at_fn g; refine (hcall _).mono ?_; rintro e w' ⟨rfl, rfl⟩)
    go_roundw
    case rel => exact ⟨pos + 1, by omega, hitI _, hbI _, hidOf fun j hj => by
     by_cases e : j = pos
     ·subst e; exact HP.out
     ·exact HA.out j (by omega)⟩
    case measure =>
     simp only [World.iterPos, hitI, hit]
     omega
  ·have hnx : ∀ ty, (Instr.next (.pointer (some ⟨w.heap.size, 0, none⟩)) true ty).run Tryz.prog wr = _ := fun ty => Lib.run_next_end_at wr w.heap.size s pos ty hit hlt
   go_wp2
   go_ret
   refine ⟨ret_int ?_, hb⟩
   rw [spn_is (p := p) (s := s) s.size 0 (by omega) (fun j hj => by rw [Nat.zero_add]; exact HA.out j (by omega)) (fun h => by omega)]
theorem enFig : ∀ (args : Array Value) (w : World), (callFunc 146 args).run Tryz.prog w = .ok (.enter 146 args) w := enters_of Tryz.func146 (by kernel_rfl) rfl
theorem enNam : ∀ (args : Array Value) (w : World), (callFunc 148 args).run Tryz.prog w = .ok (.enter 148 args) w := enters_of Tryz.func148 (by kernel_rfl) rfl
theorem enPla : ∀ (args : Array Value) (w : World), (callFunc 190 args).run Tryz.prog w = .ok (.enter 190 args) w := enters_of Tryz.func190 (by kernel_rfl) rfl
theorem enTex : ∀ (args : Array Value) (w : World), (callFunc 189 args).run Tryz.prog w = .ok (.enter 189 args) w := enters_of Tryz.func189 (by kernel_rfl) rfl
theorem enGap : ∀ (args : Array Value) (w : World), (callFunc 43 args).run Tryz.prog w = .ok (.enter 43 args) w := enters_of Tryz.func43 (by kernel_rfl) rfl
theorem span_fig (s : ByteArray) (w : World) (hs : s.size ≤ 4194304) : Calls Tryz.prog 102 #[.string s, .func (.func 146) #[] #[]] w fun e w' => e = .returned (.int .i64 (spn figB s 0)) ∧ Below w.heap.size w w' :=
 span_any _ figB (fun r h => by simp [figB]; omega) fig_any enFig s w hs
theorem span_nam (s : ByteArray) (w : World) (hs : s.size ≤ 4194304) : Calls Tryz.prog 102 #[.string s, .func (.func 148) #[] #[]] w fun e w' => e = .returned (.int .i64 (spn namB s 0)) ∧ Below w.heap.size w w' :=
 span_any _ namB (fun r h => by simp [namB, firB, figB]; omega) nam_any enNam s w hs
theorem span_pla (s : ByteArray) (w : World) (hs : s.size ≤ 4194304) : Calls Tryz.prog 102 #[.string s, .func (.func 190) #[] #[]] w fun e w' => e = .returned (.int .i64 (spn plaB s 0)) ∧ Below w.heap.size w w' :=
 span_any _ plaB (fun r h => by simp [plaB]; omega) pla_any enPla s w hs
theorem span_tex (s : ByteArray) (w : World) (hs : s.size ≤ 4194304) : Calls Tryz.prog 102 #[.string s, .func (.func 189) #[] #[]] w fun e w' => e = .returned (.int .i64 (spn texB s 0)) ∧ Below w.heap.size w w' :=
 span_any _ texB (fun r h => by simp [texB, plaB]; omega) tex_any enTex s w hs
theorem span_gap (s : ByteArray) (w : World) (hs : s.size ≤ 4194304) : Calls Tryz.prog 102 #[.string s, .func (.func 43) #[] #[]] w fun e w' => e = .returned (.int .i64 (spn gapB s 0)) ∧ Below w.heap.size w w' :=
 span_any _ gapB (fun r h => by simp [gapB]; omega) gap_any enGap s w hs
end Go.Proofs.YtcbbnphpkgifoaaGreatDoor
namespace Go.Proofs
open Go.Shelf
def Tryz.lays162_ren : Go.Shelf.Ren := ⟨fun | 162 => 232 | 232 => 255 | 227 => 256 | 234 => 257 | 236 => 258 | 228 => 268 | 271 => 269 | 151 => 270 | 120 => 280 | 197 => 281 | 152 => 282 | 260 => 289 | 137 => 290 | 119 => 291 | 224 => 240 | 225 => 239 | 217 => 238 | 266 => 263 | n => n, fun | 9 => 9 | 4 => 4 | 3 => 3 | 5 => 5 | 117 => 245 | 116 => 244 | 0 => 0 | 124 => 248 | 21 => 21 | 105 => 253 | 46 => 176 | 119 => 257 | 139 => 260 | 138 => 259 | n => n, fun | 3 => 1 | 4 => 2 | n => n⟩
theorem Tryz.lays162 : Go.Proofs.Lays.n162 Tryz.prog Tryz.lays162_ren := {
 mixed := by kernel_rfl
 f119 := Tryz.func291.trans (congrArg some (by kernel_rfl))
 f120 := Tryz.func280.trans (congrArg some (by kernel_rfl))
 f137 := Tryz.func290.trans (congrArg some (by kernel_rfl))
 f151 := Tryz.func270.trans (congrArg some (by kernel_rfl))
 f152 := Tryz.func282.trans (congrArg some (by kernel_rfl))
 f162 := Tryz.func232.trans (congrArg some (by kernel_rfl))
 f197 := Tryz.func281.trans (congrArg some (by kernel_rfl))
 f217 := Tryz.func238.trans (congrArg some (by kernel_rfl))
 f224 := Tryz.func240.trans (congrArg some (by kernel_rfl))
 f225 := Tryz.func239.trans (congrArg some (by kernel_rfl))
 f227 := Tryz.func256.trans (congrArg some (by kernel_rfl))
 f228 := Tryz.func268.trans (congrArg some (by kernel_rfl))
 f232 := Tryz.func255.trans (congrArg some (by kernel_rfl))
 f234 := Tryz.func257.trans (congrArg some (by kernel_rfl))
 f236 := Tryz.func258.trans (congrArg some (by kernel_rfl))
 f260 := Tryz.func289.trans (congrArg some (by kernel_rfl))
 f266 := Tryz.func263.trans (congrArg some (by kernel_rfl))
 f271 := Tryz.func269.trans (congrArg some (by kernel_rfl))
 t0 := Tryz.underlying0
 a0 := Tryz.isAgg0
 z0 := Tryz.sizeOf0
 v0 := Tryz.zeroValue0
 t3 := Tryz.underlying3
 a3 := Tryz.isAgg3
 z3 := Tryz.sizeOf3
 v3 := Tryz.zeroValue3
 t4 := Tryz.underlying4
 a4 := Tryz.isAgg4
 z4 := Tryz.sizeOf4
 v4 := Tryz.zeroValue4
 t5 := Tryz.underlying5
 a5 := Tryz.isAgg5
 z5 := Tryz.sizeOf5
 v5 := Tryz.zeroValue5
 t9 := Tryz.underlying9
 a9 := Tryz.isAgg9
 z9 := Tryz.sizeOf9
 v9 := Tryz.zeroValue9
 t21 := Tryz.underlying21
 a21 := Tryz.isAgg21
 z21 := Tryz.sizeOf21
 v21 := Tryz.zeroValue21
 t46 := Tryz.underlying176
 a46 := Tryz.isAgg176
 z46 := Tryz.sizeOf176
 v46 := Tryz.zeroValue176
 t105 := Tryz.underlying253
 a105 := Tryz.isAgg253
 z105 := Tryz.sizeOf253
 v105 := Tryz.zeroValue253
 t116 := Tryz.underlying244
 a116 := Tryz.isAgg244
 z116 := Tryz.sizeOf244
 t117 := Tryz.underlying245
 a117 := Tryz.isAgg245
 z117 := Tryz.sizeOf245
 v117 := Tryz.zeroValue245
 t119 := Tryz.underlying257
 a119 := Tryz.isAgg257
 z119 := Tryz.sizeOf257
 t124 := Tryz.underlying248
 a124 := Tryz.isAgg248
 z124 := Tryz.sizeOf248
 v124 := Tryz.zeroValue248
 t138 := Tryz.underlying259
 a138 := Tryz.isAgg259
 z138 := Tryz.sizeOf259
 v138 := Tryz.zeroValue259
 t139 := Tryz.underlying260
 a139 := Tryz.isAgg260
 z139 := Tryz.sizeOf260
 v139 := Tryz.zeroValue260
 g3 := by kernel_rfl
 g4 := by kernel_rfl }
open Go.RowKit in
theorem Tryz.strings_TrimRight_one (s : ByteArray) (c : UInt8) (hc : c.toNat < 128) (w : World) (hs : s.size ≤ 9223372036854775807) :
  Calls Tryz.prog 232 #[.string s, .string ⟨#[c]⟩] w fun e w' => e = .returned (.string ⟨(Lib.trimRightB s.data.toList c).toArray⟩) ∧ w' = w := Any.strings_TrimRight_one Tryz.lays162 s c hc w hs
def Tryz.laysM316_ren : Go.Shelf.Ren := ⟨fun | 316 => 110 | n => n, fun | 9 => 9 | 3 => 3 | 4 => 4 | 37 => 22 | 0 => 0 | 127 => 190 | 5 => 5 | n => n, fun | n => n⟩
theorem Tryz.laysM316 : Go.Proofs.LaysM.n316 Tryz.prog Tryz.laysM316_ren := {
 mixed := by kernel_rfl
 f316 := Tryz.func110.trans (congrArg some (by kernel_rfl))
 t0 := Tryz.underlying0
 a0 := Tryz.isAgg0
 z0 := Tryz.sizeOf0
 v0 := Tryz.zeroValue0
 t3 := Tryz.underlying3
 a3 := Tryz.isAgg3
 z3 := Tryz.sizeOf3
 v3 := Tryz.zeroValue3
 t4 := Tryz.underlying4
 a4 := Tryz.isAgg4
 z4 := Tryz.sizeOf4
 v4 := Tryz.zeroValue4
 t9 := Tryz.underlying9
 a9 := Tryz.isAgg9
 z9 := Tryz.sizeOf9
 v9 := Tryz.zeroValue9
 t37 := Tryz.underlying22
 a37 := Tryz.isAgg22
 z37 := Tryz.sizeOf22
 v37 := Tryz.zeroValue22
 t127 := Tryz.underlying190
 a127 := Tryz.isAgg190
 z127 := Tryz.sizeOf190
 v127 := Tryz.zeroValue190
 t5 := Tryz.underlying5
 a5 := Tryz.isAgg5
 z5 := Tryz.sizeOf5
 v5 := Tryz.zeroValue5
 i0 := by kernel_rfl
 i3 := by kernel_rfl
 i4 := by kernel_rfl
 i5 := by kernel_rfl
 i9 := by kernel_rfl
 i37 := by kernel_rfl
 i127 := by kernel_rfl }
open Go.RowKit in
theorem Tryz.stringslite_Clone (s : ByteArray) (w : World) (hlim : s.size ≤ 281474976710656) :
  Calls Tryz.prog 110 #[.string s] w fun e w' => e = .returned (.string s) ∧ Below w.heap.size w w' := Any.stringslite_Clone Tryz.laysM316 s w hlim
def Tryz.lays219_ren : Go.Shelf.Ren := ⟨fun | 219 => 201 | 217 => 238 | 225 => 239 | 224 => 240 | 267 => 241 | 266 => 263 | 314 => 264 | n => n, fun | 9 => 9 | 3 => 3 | 4 => 4 | 5 => 5 | 46 => 176 | 146 => 251 | 51 => 250 | n => n, fun | 1 => 0 | n => n⟩
def Tryz.lays145_ren : Go.Shelf.Ren := ⟨fun | 145 => 109 | 220 => 157 | 219 => 201 | 217 => 238 | 225 => 239 | 224 => 240 | 267 => 241 | 266 => 263 | 314 => 264 | n => n, fun | 9 => 9 | 4 => 4 | 59 => 163 | 3 => 3 | 5 => 5 | 46 => 176 | 146 => 251 | 51 => 250 | n => n, fun | 1 => 0 | n => n⟩
theorem Tryz.lays145 : Go.Proofs.Lays.n145 Tryz.prog Tryz.lays145_ren := {
 mixed := by kernel_rfl
 f145 := Tryz.func109.trans (congrArg some (by kernel_rfl))
 f217 := Tryz.func238.trans (congrArg some (by kernel_rfl))
 f219 := Tryz.func201.trans (congrArg some (by kernel_rfl))
 f220 := Tryz.func157.trans (congrArg some (by kernel_rfl))
 f224 := Tryz.func240.trans (congrArg some (by kernel_rfl))
 f225 := Tryz.func239.trans (congrArg some (by kernel_rfl))
 f266 := Tryz.func263.trans (congrArg some (by kernel_rfl))
 f267 := Tryz.func241.trans (congrArg some (by kernel_rfl))
 f314 := Tryz.func264.trans (congrArg some (by kernel_rfl))
 t3 := Tryz.underlying3
 a3 := Tryz.isAgg3
 z3 := Tryz.sizeOf3
 v3 := Tryz.zeroValue3
 t4 := Tryz.underlying4
 a4 := Tryz.isAgg4
 z4 := Tryz.sizeOf4
 v4 := Tryz.zeroValue4
 t5 := Tryz.underlying5
 a5 := Tryz.isAgg5
 z5 := Tryz.sizeOf5
 v5 := Tryz.zeroValue5
 t9 := Tryz.underlying9
 a9 := Tryz.isAgg9
 z9 := Tryz.sizeOf9
 v9 := Tryz.zeroValue9
 t46 := Tryz.underlying176
 a46 := Tryz.isAgg176
 z46 := Tryz.sizeOf176
 v46 := Tryz.zeroValue176
 t51 := Tryz.underlying250
 a51 := Tryz.isAgg250
 z51 := Tryz.sizeOf250
 v51 := Tryz.zeroValue250
 t59 := Tryz.underlying163
 a59 := Tryz.isAgg163
 z59 := Tryz.sizeOf163
 v59 := Tryz.zeroValue163
 t146 := Tryz.underlying251
 a146 := Tryz.isAgg251
 z146 := Tryz.sizeOf251
 v146 := Tryz.zeroValue251
 g1 := by kernel_rfl }
open Go.RowKit Go.Lib in
theorem Tryz.strings_Cut (s sep : ByteArray) (m : Int) (w : World) (hs : s.size < 4294967281) (hm : w.cell? ⟨0, 0, none⟩ = some (.int .i64 m)) :
  Calls Tryz.prog 109 #[.string s, .string sep] w fun e w' => e = .returned (.tuple #[.string ⟨(Lib.cut s.data.toList sep.data.toList).1.toArray⟩, .string ⟨(Lib.cut s.data.toList sep.data.toList).2.1.toArray⟩, .bool (Lib.cut s.data.toList sep.data.toList).2.2]) ∧ ∃ n, w' = w.drewN n := Any.strings_Cut Tryz.lays145 s sep m w hs hm
def Tryz.lays138_ren : Go.Shelf.Ren := ⟨fun | 138 => 153 | 195 => 192 | 218 => 193 | 143 => 194 | 219 => 201 | 217 => 238 | 225 => 239 | 224 => 240 | 267 => 241 | 266 => 263 | 314 => 264 | n => n, fun | 9 => 9 | 3 => 3 | 4 => 4 | 5 => 5 | 0 => 0 | 46 => 176 | 146 => 251 | 51 => 250 | n => n, fun | 1 => 0 | n => n⟩
theorem Tryz.lays138 : Go.Proofs.Lays.n138 Tryz.prog Tryz.lays138_ren := {
 mixed := by kernel_rfl
 f138 := Tryz.func153.trans (congrArg some (by kernel_rfl))
 f143 := Tryz.func194.trans (congrArg some (by kernel_rfl))
 f195 := Tryz.func192.trans (congrArg some (by kernel_rfl))
 f217 := Tryz.func238.trans (congrArg some (by kernel_rfl))
 f218 := Tryz.func193.trans (congrArg some (by kernel_rfl))
 f219 := Tryz.func201.trans (congrArg some (by kernel_rfl))
 f224 := Tryz.func240.trans (congrArg some (by kernel_rfl))
 f225 := Tryz.func239.trans (congrArg some (by kernel_rfl))
 f266 := Tryz.func263.trans (congrArg some (by kernel_rfl))
 f267 := Tryz.func241.trans (congrArg some (by kernel_rfl))
 f314 := Tryz.func264.trans (congrArg some (by kernel_rfl))
 t0 := Tryz.underlying0
 a0 := Tryz.isAgg0
 z0 := Tryz.sizeOf0
 v0 := Tryz.zeroValue0
 t3 := Tryz.underlying3
 a3 := Tryz.isAgg3
 z3 := Tryz.sizeOf3
 v3 := Tryz.zeroValue3
 t4 := Tryz.underlying4
 a4 := Tryz.isAgg4
 z4 := Tryz.sizeOf4
 v4 := Tryz.zeroValue4
 t5 := Tryz.underlying5
 a5 := Tryz.isAgg5
 z5 := Tryz.sizeOf5
 v5 := Tryz.zeroValue5
 t9 := Tryz.underlying9
 a9 := Tryz.isAgg9
 z9 := Tryz.sizeOf9
 v9 := Tryz.zeroValue9
 t46 := Tryz.underlying176
 a46 := Tryz.isAgg176
 z46 := Tryz.sizeOf176
 v46 := Tryz.zeroValue176
 t51 := Tryz.underlying250
 a51 := Tryz.isAgg250
 z51 := Tryz.sizeOf250
 v51 := Tryz.zeroValue250
 t146 := Tryz.underlying251
 a146 := Tryz.isAgg251
 z146 := Tryz.sizeOf251
 v146 := Tryz.zeroValue251
 g1 := by kernel_rfl }
open Go.RowKit Go.Lib in
theorem Tryz.strings_Count_one (s : ByteArray) (c : UInt8) (w : World) :
  Calls Tryz.prog 153 #[.string s, .string ⟨#[c]⟩] w fun e w' => e = .returned (.int .i64 (Lib.countByte s.data.toList c)) ∧ w' = w := Any.strings_Count_one Tryz.lays138 s c w
def Tryz.laysM145_ren : Go.Shelf.Ren := ⟨fun | 145 => 109 | 220 => 157 | 219 => 201 | 217 => 238 | 225 => 239 | 224 => 240 | 267 => 241 | 266 => 263 | 314 => 264 | n => n, fun | 9 => 9 | 4 => 4 | 59 => 163 | 3 => 3 | 5 => 5 | 46 => 176 | 146 => 251 | 51 => 250 | n => n, fun | 1 => 0 | n => n⟩
theorem Tryz.laysM145 : Go.Proofs.LaysM.n145 Tryz.prog Tryz.laysM145_ren := {
 mixed := by kernel_rfl
 f145 := Tryz.func109.trans (congrArg some (by kernel_rfl))
 f217 := Tryz.func238.trans (congrArg some (by kernel_rfl))
 f219 := Tryz.func201.trans (congrArg some (by kernel_rfl))
 f220 := Tryz.func157.trans (congrArg some (by kernel_rfl))
 f224 := Tryz.func240.trans (congrArg some (by kernel_rfl))
 f225 := Tryz.func239.trans (congrArg some (by kernel_rfl))
 f266 := Tryz.func263.trans (congrArg some (by kernel_rfl))
 f267 := Tryz.func241.trans (congrArg some (by kernel_rfl))
 f314 := Tryz.func264.trans (congrArg some (by kernel_rfl))
 t3 := Tryz.underlying3
 a3 := Tryz.isAgg3
 z3 := Tryz.sizeOf3
 v3 := Tryz.zeroValue3
 t4 := Tryz.underlying4
 a4 := Tryz.isAgg4
 z4 := Tryz.sizeOf4
 v4 := Tryz.zeroValue4
 t5 := Tryz.underlying5
 a5 := Tryz.isAgg5
 z5 := Tryz.sizeOf5
 v5 := Tryz.zeroValue5
 t9 := Tryz.underlying9
 a9 := Tryz.isAgg9
 z9 := Tryz.sizeOf9
 v9 := Tryz.zeroValue9
 t46 := Tryz.underlying176
 a46 := Tryz.isAgg176
 z46 := Tryz.sizeOf176
 v46 := Tryz.zeroValue176
 t51 := Tryz.underlying250
 a51 := Tryz.isAgg250
 z51 := Tryz.sizeOf250
 v51 := Tryz.zeroValue250
 t59 := Tryz.underlying163
 a59 := Tryz.isAgg163
 z59 := Tryz.sizeOf163
 v59 := Tryz.zeroValue163
 t146 := Tryz.underlying251
 a146 := Tryz.isAgg251
 z146 := Tryz.sizeOf251
 v146 := Tryz.zeroValue251
 g1 := by kernel_rfl
 i3 := by kernel_rfl
 i4 := by kernel_rfl
 i5 := by kernel_rfl
 i9 := by kernel_rfl
 i46 := by kernel_rfl
 i51 := by kernel_rfl
 i59 := by kernel_rfl
 i146 := by kernel_rfl
 m1 := by kernel_rfl
 s1_3 := fun w h => Go.Proofs.cell_of_shapedOpen_int (zero := #[.int .i64 0]) (t := 3) h (of_decide_eq_true (by kernel_rfl)) (by kernel_rfl) rfl (by kernel_rfl) (by kernel_rfl) Tryz.underlying3 }
def Tryz.lays206_ren : Go.Shelf.Ren := ⟨fun | 206 => 188 | n => n, fun | 9 => 9 | 4 => 4 | 3 => 3 | n => n, fun | n => n⟩
def Tryz.lays99_ren : Go.Shelf.Ren := ⟨fun | 99 => 149 | 206 => 188 | n => n, fun | 9 => 9 | 4 => 4 | 3 => 3 | n => n, fun | n => n⟩
theorem Tryz.lays99 : Go.Proofs.Lays.n99 Tryz.prog Tryz.lays99_ren := {
 mixed := by kernel_rfl
 f99 := Tryz.func149.trans (congrArg some (by kernel_rfl))
 f206 := Tryz.func188.trans (congrArg some (by kernel_rfl))
 t3 := Tryz.underlying3
 a3 := Tryz.isAgg3
 z3 := Tryz.sizeOf3
 v3 := Tryz.zeroValue3
 t4 := Tryz.underlying4
 a4 := Tryz.isAgg4
 z4 := Tryz.sizeOf4
 v4 := Tryz.zeroValue4
 t9 := Tryz.underlying9
 a9 := Tryz.isAgg9
 z9 := Tryz.sizeOf9
 v9 := Tryz.zeroValue9 }
open Go.RowKit Go.Lib in
theorem Tryz.strings_HasPrefix (s p : ByteArray) (w : World) :
  Calls Tryz.prog 149 #[.string s, .string p] w fun e w' => e = .returned (.bool (Lib.hasPrefix s.data.toList p.data.toList)) ∧ w' = w := Any.strings_HasPrefix Tryz.lays99 s p w
end Go.Proofs
namespace Go.Proofs.YtcbbnphpkgifoaaGreatDoor
open Go.RowKit Go.Maps Go.WideMaps
theorem keyLaw : Keyed Tryz.prog 9 := string_keyed Tryz.underlying9
theorem zeroInt (w : World) : (zeroValue 3).run Tryz.prog w = .ok (.int .i64 0) w := by kernel_rfl
theorem mkPs_at (l : List UInt8) : (putPs mkPs (.map [])).atKey (.string l) (.lit (.int .i64 0)) = .lit (.int .i64 (mkAt l)) := putPs_at l mkPs _ 0 isMap_empty rfl
set_option maxHeartbeats 4000000 in
set_option maxRecDepth 100000 in
theorem iSizes_any (w : World) : Calls Tryz.prog 101 #[] w fun e w' => e = .returned (.map (some w.heap.size)) ∧ MkMap Tryz.prog w' 9 3 w.heap.size ∧ Below w.heap.size w w' := by
 have hmm := @run_makeMap Tryz.prog
 have hI : (w.alloc (.map #[] 0)).ownsMap Tryz.prog 9 (plainElem (H := Unit) Tryz.prog 3) w.heap.size 0 (.map []) ∧ Below w.heap.size w (w.alloc (.map #[] 0)) := ⟨World.ownsMap_made _ _ _ _, (Below.refl _ _).alloc (Nat.le_refl _) _⟩
 go_enter Tryz.func101, Tryz.ntmps101
 go_wp2_with (refine insStep _ rfl _ _ _ 152 rfl 9 3 keyLaw Tryz.underlying152 Tryz.underlying3 Tryz.underlying9 w.heap.size w.heap.size _ _ w (Nat.le_refl _) rfl hI (by decide) _ _ rfl rfl (by decide) (by decide) ?_; clear hI; intro w1 hI)
 go_ret
 exact ⟨rfl, ⟨_, _, hI.1, mkPs_at⟩, hI.2⟩
end Go.Proofs.YtcbbnphpkgifoaaGreatDoor
