/- What impl.spanOf and the kinds of runes that it asks for answer. -/
import Derived.Test.YtdlpepmdjbmmmaaGreatDoorProg
import Derived.Test.YtdlpepmdjbmmmaaGreatDoorKab
import Derived.Lib.OthersKept
import Derived.Laws.RangeString
import Derived.Laws.RangeAny
import Derived.Shelf.Abstract
import Derived.Shelf.Strings.Trim
import Derived.Shelf.Small.Utf8
import Derived.Shelf.Small.Strs
import Derived.Shelf.LaysM
import Derived.Shelf.Strconv.Clone
import Derived.Shelf.Strings.Search1
import Derived.Shelf.Strings.Search2
import Derived.Shelf.Strings.Search3
import Derived.Shelf.Strings.Count
import Derived.Shelf.Strings.Shaped
import Derived.Shelf.Strings.Prefix
import Derived.Shelf.Strings.Runes
import Derived.Shelf.Strings.AsciiSet
import Derived.Shelf.Unicode.DecodeSlow
namespace Go.Proofs.YtdlpepmdjbmmmaaGreatDoor
open Go.RowKit Go.Shelf

set_option maxHeartbeats 1600000 in
theorem fig_any (r : Int) (w : World) : Calls Tryz.prog 67 #[.int .i32 r] w fun e w' => e = .returned (.bool (figB r)) ∧ w' = w := by
 by_cases h1 : 48 ≤ r
 all_goals go_enter Tryz.func67, Tryz.ntmps67
 all_goals go_wp2
 all_goals go_ret
 all_goals exact ⟨ret_bool (by first | (simp [figB, *]; done) | (simp [figB]; omega)), rfl⟩

set_option maxHeartbeats 1600000 in
theorem pla_any (r : Int) (w : World) : Calls Tryz.prog 90 #[.int .i32 r] w fun e w' => e = .returned (.bool (plaB r)) ∧ w' = w := by
 by_cases h1 : 32 ≤ r
 all_goals go_enter Tryz.func90, Tryz.ntmps90
 all_goals go_wp2
 all_goals go_ret
 all_goals exact ⟨ret_bool (by first | (simp [plaB, *]; done) | (simp [plaB]; omega)), rfl⟩

set_option maxHeartbeats 1600000 in
theorem gap_any (r : Int) (w : World) : Calls Tryz.prog 48 #[.int .i32 r] w fun e w' => e = .returned (.bool (gapB r)) ∧ w' = w := by
 by_cases h1 : r = 32
 ·subst h1
  go_enter Tryz.func48, Tryz.ntmps48
  go_wp2
  go_ret
  exact ⟨ret_bool (by simp [gapB]), rfl⟩
 ·have h2 : (r == 32) = false := by simpa using h1
  clear h1
  go_enter Tryz.func48, Tryz.ntmps48
  go_wp2
  go_ret
  exact ⟨ret_bool (by simp [gapB, h2]), rfl⟩

set_option maxHeartbeats 1600000 in
theorem tex_any (r : Int) (w : World) : Calls Tryz.prog 89 #[.int .i32 r] w fun e w' => e = .returned (.bool (texB r)) ∧ w' = w := by
 go_enter Tryz.func89, Tryz.ntmps89
 go_wp2_with fail
 refine (pla_any r _).mono ?_
 cases h : plaB r
 all_goals rintro e w ⟨rfl, rfl⟩
 all_goals go_wp2
 all_goals go_ret
 all_goals exact ⟨ret_bool (by simp [texB, h]), rfl⟩

theorem no122 {r : Int} (h : 122 < r) (u : Bool) : (decide (r ≤ 122) || decide (r ≤ 90) || u) = u := by
 have e1 : ¬ r ≤ 122 := by omega
 have e2 : ¬ r ≤ 90 := by omega
 simp [e1, e2]
theorem no90 {r : Int} (h : 90 < r) (u : Bool) : (decide (r ≤ 90) || u) = u := by
 have e2 : ¬ r ≤ 90 := by omega
 simp [e2]

set_option maxHeartbeats 1600000 in
theorem nam_any (r : Int) (w : World) : Calls Tryz.prog 69 #[.int .i32 r] w fun e w' => e = .returned (.bool (namB r)) ∧ w' = w := by
 have key : (97 ≤ r ∧ r ≤ 122) ∨ (97 ≤ r ∧ 122 < r ∧ 65 ≤ r ∧ 90 < r ∧ (r == 95) = false) ∨ (r < 97 ∧ 65 ≤ r ∧ r ≤ 90) ∨ (r < 97 ∧ 65 ≤ r ∧ 90 < r ∧ (r == 95) = true) ∨ (r < 97 ∧ 65 ≤ r ∧ 90 < r ∧ (r == 95) = false) ∨ (r < 97 ∧ r < 65 ∧ (r == 95) = false) := by
  simp only [beq_iff_eq, beq_eq_false_iff_ne]
  omega
 rcases key with ⟨h1, h2⟩ | ⟨h1, h2, h3, h4, h5⟩ | ⟨h1, h3, h4⟩ | ⟨h1, h3, h4, h5⟩ | ⟨h1, h3, h4, h5⟩ | ⟨h1, h3, h5⟩
 ·go_enter Tryz.func69, Tryz.ntmps69
  go_wp2
  go_ret
  exact ⟨ret_bool (by simp [namB, firB]; omega), rfl⟩
 ·have hn : namB r = figB r := by
   have : firB r = false := by simp [firB, h5]; omega
   simp [namB, this]
  rw [hn]
  have hF := fig_any r w
  obtain ⟨u, hu⟩ : ∃ u, u = figB r := ⟨_, rfl⟩
  rw [← hu] at hF ⊢
  clear hu
  go_enter Tryz.func69, Tryz.ntmps69
  go_wp2_with fail
  refine hF.mono ?_
  rintro e w ⟨rfl, rfl⟩
  go_wp2
  go_ret
  first | exact ⟨rfl, rfl⟩ | exact ⟨ret_bool (no122 h2 u), rfl⟩ | exact ⟨ret_bool (no90 h4 u), rfl⟩
 ·go_enter Tryz.func69, Tryz.ntmps69
  go_wp2
  go_ret
  exact ⟨ret_bool (by simp [namB, firB]; omega), rfl⟩
 ·go_enter Tryz.func69, Tryz.ntmps69
  go_wp2
  go_ret
  exact ⟨ret_bool (by simp [namB, firB]; simp at h5; omega), rfl⟩
 ·have hn : namB r = figB r := by
   have : firB r = false := by simp [firB, h5]; omega
   simp [namB, this]
  rw [hn]
  have hF := fig_any r w
  obtain ⟨u, hu⟩ : ∃ u, u = figB r := ⟨_, rfl⟩
  rw [← hu] at hF ⊢
  clear hu
  go_enter Tryz.func69, Tryz.ntmps69
  go_wp2_with fail
  refine hF.mono ?_
  rintro e w ⟨rfl, rfl⟩
  go_wp2
  go_ret
  first | exact ⟨rfl, rfl⟩ | exact ⟨ret_bool (no122 h2 u), rfl⟩ | exact ⟨ret_bool (no90 h4 u), rfl⟩
 ·have hn : namB r = figB r := by
   have : firB r = false := by simp [firB, h5]; omega
   simp [namB, this]
  rw [hn]
  have hF := fig_any r w
  obtain ⟨u, hu⟩ : ∃ u, u = figB r := ⟨_, rfl⟩
  rw [← hu] at hF ⊢
  clear hu
  go_enter Tryz.func69, Tryz.ntmps69
  go_wp2_with fail
  refine hF.mono ?_
  rintro e w ⟨rfl, rfl⟩
  go_wp2
  go_ret
  first | exact ⟨rfl, rfl⟩ | exact ⟨ret_bool (no122 h2 u), rfl⟩ | exact ⟨ret_bool (no90 h4 u), rfl⟩

theorem width_one {s : ByteArray} {k : Nat} (h : k < s.size) (ha : by8 s k < 128) : Utf8.decode s k = ((by8 s k).toNat, 1) := by
 have e := by8_at s k h
 rw [decode_ascii s k h (by omega), ← e]
 rfl

set_option maxHeartbeats 4000000 in
set_option maxRecDepth 100000 in
theorem span_any (g : Nat) (p : Int → Bool) (hp : ∀ r, 128 ≤ r → p r = false) (hg : ∀ (r : Int) (W : World), Calls Tryz.prog g #[.int .i32 r] W fun e w' => e = .returned (.bool (p r)) ∧ w' = W) (eg : ∀ (args : Array Value) (w : World), (callFunc g args).run Tryz.prog w = .ok (.enter g args) w)
  (s : ByteArray) (w : World) (_ : s.size ≤ 4194304) :
  Calls Tryz.prog 47 #[.string s, .func (.func g) #[] #[]] w fun e w' => e = .returned (.int .i64 (spn p s 0)) ∧ Below w.heap.size w w' := by
 go_enter Tryz.func47, Tryz.ntmps47
 go_wp2
 go_loopw [] (fun wr => ∃ pos : Nat, pos ≤ s.size ∧ wr.heap[w.heap.size]? = some (.stringIter s pos) ∧ Below w.heap.size w wr ∧ Hid (∀ j, j < pos → p (by8 s j) = true)) (fun wr => s.size - wr.iterPos w.heap.size)
 case atStart =>
  refine ⟨0, Nat.zero_le _, World.iter_heap w s 0, ?_, hidOf fun j hj => by omega⟩
  exact (Below.refl _ w).alloc (Nat.le_refl _) _
 case round =>
  obtain ⟨pos, hpos, hit, hb, HA⟩ := hrel
  have hsz : w.heap.size < wr.heap.size := (Array.getElem?_eq_some_iff.1 hit).1
  by_cases hlt : pos < s.size
  ·have hnx : ∀ ty, (Instr.next (.pointer (some ⟨w.heap.size, 0, none⟩)) true ty).run Tryz.prog wr = _ := fun ty => Lib.run_next_any_at wr w.heap.size s pos ty hit hlt
   have hbI := fun q => Lib.below_iterAt hb (k := w.heap.size) (Nat.le_refl _) s q
   have hitI := fun q => Lib.iterAt_heap wr w.heap.size s pos q hit
   have hr := by8_range s pos
   cases hP : p (by8 s pos)
   ·have hd : p (((Utf8.decode s pos).1 : Nat) : Int) = false := by
     by_cases ha : by8 s pos < 128
     ·rw [width_one hlt ha]
      show p (((by8 s pos).toNat : Nat) : Int) = false
      rw [Int.toNat_of_nonneg hr.1]
      exact hP
     ·have e := by8_at s pos hlt
      exact hp _ (by have := (decode_high s pos hlt (by omega)).1; omega)
    have hcall := fun W => hg (((Utf8.decode s pos).1 : Nat) : Int) W
    rw [hd] at hcall
    have HP := hidOf hP
    clear hP hd
    go_wp2_with (go_at_fn g; refine (hcall _).mono ?_; rintro e w' ⟨rfl, rfl⟩)
    go_ret
    refine ⟨ret_int ?_, hbI _⟩
    rw [spn_is (p := p) (s := s) pos 0 (by omega) (fun j hj => by rw [Nat.zero_add]; exact HA.out j hj) (fun _ => by rw [Nat.zero_add]; exact HP.out)]
   ·have ha : by8 s pos < 128 := by
     by_cases h : by8 s pos < 128
     ·exact h
     ·rw [hp _ (by omega)] at hP
      cases hP
    rw [width_one hlt ha] at hnx
    have hcall := fun W => hg (((by8 s pos).toNat : Nat) : Int) W
    rw [Int.toNat_of_nonneg hr.1, hP] at hcall
    simp only [Int.toNat_of_nonneg hr.1] at hnx
    have HP := hidOf hP
    clear hP ha
    go_wp2_with (go_at_fn g; refine (hcall _).mono ?_; rintro e w' ⟨rfl, rfl⟩)
    go_roundw
    case rel => exact ⟨pos + 1, by omega, hitI _, hbI _, hidOf fun j hj => by
     by_cases e : j = pos
     ·subst e; exact HP.out
     ·exact HA.out j (by omega)⟩
    case measure =>
     simp only [World.iterPos, hitI, hit]
     omega
  ·have hnx : ∀ ty, (Instr.next (.pointer (some ⟨w.heap.size, 0, none⟩)) true ty).run Tryz.prog wr = _ := fun ty => Lib.run_next_end_at wr w.heap.size s pos ty hit hlt
   go_wp2
   go_ret
   refine ⟨ret_int ?_, hb⟩
   rw [spn_is (p := p) (s := s) s.size 0 (by omega) (fun j hj => by rw [Nat.zero_add]; exact HA.out j (by omega)) (fun h => by omega)]
theorem enFig : ∀ (args : Array Value) (w : World), (callFunc 67 args).run Tryz.prog w = .ok (.enter 67 args) w := enters_of Tryz.func67 (by kernel_rfl) rfl
theorem enNam : ∀ (args : Array Value) (w : World), (callFunc 69 args).run Tryz.prog w = .ok (.enter 69 args) w := enters_of Tryz.func69 (by kernel_rfl) rfl
theorem enPla : ∀ (args : Array Value) (w : World), (callFunc 90 args).run Tryz.prog w = .ok (.enter 90 args) w := enters_of Tryz.func90 (by kernel_rfl) rfl
theorem enTex : ∀ (args : Array Value) (w : World), (callFunc 89 args).run Tryz.prog w = .ok (.enter 89 args) w := enters_of Tryz.func89 (by kernel_rfl) rfl
theorem enGap : ∀ (args : Array Value) (w : World), (callFunc 48 args).run Tryz.prog w = .ok (.enter 48 args) w := enters_of Tryz.func48 (by kernel_rfl) rfl
theorem span_fig (s : ByteArray) (w : World) (hs : s.size ≤ 4194304) : Calls Tryz.prog 47 #[.string s, .func (.func 67) #[] #[]] w fun e w' => e = .returned (.int .i64 (spn figB s 0)) ∧ Below w.heap.size w w' :=
 span_any _ figB (fun r h => by simp [figB]; omega) fig_any enFig s w hs
theorem span_nam (s : ByteArray) (w : World) (hs : s.size ≤ 4194304) : Calls Tryz.prog 47 #[.string s, .func (.func 69) #[] #[]] w fun e w' => e = .returned (.int .i64 (spn namB s 0)) ∧ Below w.heap.size w w' :=
 span_any _ namB (fun r h => by simp [namB, firB, figB]; omega) nam_any enNam s w hs
theorem span_pla (s : ByteArray) (w : World) (hs : s.size ≤ 4194304) : Calls Tryz.prog 47 #[.string s, .func (.func 90) #[] #[]] w fun e w' => e = .returned (.int .i64 (spn plaB s 0)) ∧ Below w.heap.size w w' :=
 span_any _ plaB (fun r h => by simp [plaB]; omega) pla_any enPla s w hs
theorem span_tex (s : ByteArray) (w : World) (hs : s.size ≤ 4194304) : Calls Tryz.prog 47 #[.string s, .func (.func 89) #[] #[]] w fun e w' => e = .returned (.int .i64 (spn texB s 0)) ∧ Below w.heap.size w w' :=
 span_any _ texB (fun r h => by simp [texB, plaB]; omega) tex_any enTex s w hs
theorem span_gap (s : ByteArray) (w : World) (hs : s.size ≤ 4194304) : Calls Tryz.prog 47 #[.string s, .func (.func 48) #[] #[]] w fun e w' => e = .returned (.int .i64 (spn gapB s 0)) ∧ Below w.heap.size w w' :=
 span_any _ gapB (fun r h => by simp [gapB]; omega) gap_any enGap s w hs
end Go.Proofs.YtdlpepmdjbmmmaaGreatDoor
/- Contracts of library functions that this program calls, at its own numbers. -/
namespace Go.Proofs
open Go.Shelf
def Tryz.lays162_ren : Go.Shelf.Ren := ⟨fun | 162 => 115 | 232 => 139 | 227 => 140 | 234 => 141 | 236 => 142 | 228 => 154 | 271 => 155 | 151 => 156 | 120 => 168 | 197 => 169 | 152 => 170 | 260 => 177 | 137 => 178 | 119 => 179 | 224 => 145 | 225 => 144 | 217 => 143 | 266 => 157 | n => n, fun | 9 => 9 | 4 => 4 | 3 => 3 | 5 => 5 | 117 => 131 | 116 => 130 | 0 => 0 | 124 => 134 | 21 => 21 | 105 => 149 | 46 => 135 | 119 => 156 | 139 => 159 | 138 => 158 | n => n, fun | 3 => 1 | 4 => 2 | n => n⟩
theorem Tryz.lays162 : Go.Proofs.Lays.n162 Tryz.prog Tryz.lays162_ren := {
 mixed := by kernel_rfl
 f119 := Tryz.func179.trans (congrArg some (by kernel_rfl))
 f120 := Tryz.func168.trans (congrArg some (by kernel_rfl))
 f137 := Tryz.func178.trans (congrArg some (by kernel_rfl))
 f151 := Tryz.func156.trans (congrArg some (by kernel_rfl))
 f152 := Tryz.func170.trans (congrArg some (by kernel_rfl))
 f162 := Tryz.func115.trans (congrArg some (by kernel_rfl))
 f197 := Tryz.func169.trans (congrArg some (by kernel_rfl))
 f217 := Tryz.func143.trans (congrArg some (by kernel_rfl))
 f224 := Tryz.func145.trans (congrArg some (by kernel_rfl))
 f225 := Tryz.func144.trans (congrArg some (by kernel_rfl))
 f227 := Tryz.func140.trans (congrArg some (by kernel_rfl))
 f228 := Tryz.func154.trans (congrArg some (by kernel_rfl))
 f232 := Tryz.func139.trans (congrArg some (by kernel_rfl))
 f234 := Tryz.func141.trans (congrArg some (by kernel_rfl))
 f236 := Tryz.func142.trans (congrArg some (by kernel_rfl))
 f260 := Tryz.func177.trans (congrArg some (by kernel_rfl))
 f266 := Tryz.func157.trans (congrArg some (by kernel_rfl))
 f271 := Tryz.func155.trans (congrArg some (by kernel_rfl))
 t0 := Tryz.underlying0
 a0 := Tryz.isAgg0
 z0 := Tryz.sizeOf0
 v0 := Tryz.zeroValue0
 t3 := Tryz.underlying3
 a3 := Tryz.isAgg3
 z3 := Tryz.sizeOf3
 v3 := Tryz.zeroValue3
 t4 := Tryz.underlying4
 a4 := Tryz.isAgg4
 z4 := Tryz.sizeOf4
 v4 := Tryz.zeroValue4
 t5 := Tryz.underlying5
 a5 := Tryz.isAgg5
 z5 := Tryz.sizeOf5
 v5 := Tryz.zeroValue5
 t9 := Tryz.underlying9
 a9 := Tryz.isAgg9
 z9 := Tryz.sizeOf9
 v9 := Tryz.zeroValue9
 t21 := Tryz.underlying21
 a21 := Tryz.isAgg21
 z21 := Tryz.sizeOf21
 v21 := Tryz.zeroValue21
 t46 := Tryz.underlying135
 a46 := Tryz.isAgg135
 z46 := Tryz.sizeOf135
 v46 := Tryz.zeroValue135
 t105 := Tryz.underlying149
 a105 := Tryz.isAgg149
 z105 := Tryz.sizeOf149
 v105 := Tryz.zeroValue149
 t116 := Tryz.underlying130
 a116 := Tryz.isAgg130
 z116 := Tryz.sizeOf130
 t117 := Tryz.underlying131
 a117 := Tryz.isAgg131
 z117 := Tryz.sizeOf131
 v117 := Tryz.zeroValue131
 t119 := Tryz.underlying156
 a119 := Tryz.isAgg156
 z119 := Tryz.sizeOf156
 t124 := Tryz.underlying134
 a124 := Tryz.isAgg134
 z124 := Tryz.sizeOf134
 v124 := Tryz.zeroValue134
 t138 := Tryz.underlying158
 a138 := Tryz.isAgg158
 z138 := Tryz.sizeOf158
 v138 := Tryz.zeroValue158
 t139 := Tryz.underlying159
 a139 := Tryz.isAgg159
 z139 := Tryz.sizeOf159
 v139 := Tryz.zeroValue159
 g3 := by kernel_rfl
 g4 := by kernel_rfl }
open Go.RowKit in
theorem Tryz.strings_TrimRight_one (s : ByteArray) (c : UInt8) (hc : c.toNat < 128) (w : World) (hs : s.size ≤ 9223372036854775807) :
  Calls Tryz.prog 115 #[.string s, .string ⟨#[c]⟩] w fun e w' => e = .returned (.string ⟨(Lib.trimRightB s.data.toList c).toArray⟩) ∧ w' = w := Any.strings_TrimRight_one Tryz.lays162 s c hc w hs
def Tryz.laysM316_ren : Go.Shelf.Ren := ⟨fun | 316 => 74 | n => n, fun | 9 => 9 | 3 => 3 | 4 => 4 | 37 => 102 | 0 => 0 | 127 => 103 | 5 => 5 | n => n, fun | n => n⟩
theorem Tryz.laysM316 : Go.Proofs.LaysM.n316 Tryz.prog Tryz.laysM316_ren := {
 mixed := by kernel_rfl
 f316 := Tryz.func74.trans (congrArg some (by kernel_rfl))
 t0 := Tryz.underlying0
 a0 := Tryz.isAgg0
 z0 := Tryz.sizeOf0
 v0 := Tryz.zeroValue0
 t3 := Tryz.underlying3
 a3 := Tryz.isAgg3
 z3 := Tryz.sizeOf3
 v3 := Tryz.zeroValue3
 t4 := Tryz.underlying4
 a4 := Tryz.isAgg4
 z4 := Tryz.sizeOf4
 v4 := Tryz.zeroValue4
 t9 := Tryz.underlying9
 a9 := Tryz.isAgg9
 z9 := Tryz.sizeOf9
 v9 := Tryz.zeroValue9
 t37 := Tryz.underlying102
 a37 := Tryz.isAgg102
 z37 := Tryz.sizeOf102
 v37 := Tryz.zeroValue102
 t127 := Tryz.underlying103
 a127 := Tryz.isAgg103
 z127 := Tryz.sizeOf103
 v127 := Tryz.zeroValue103
 t5 := Tryz.underlying5
 a5 := Tryz.isAgg5
 z5 := Tryz.sizeOf5
 v5 := Tryz.zeroValue5
 i0 := by kernel_rfl
 i3 := by kernel_rfl
 i4 := by kernel_rfl
 i5 := by kernel_rfl
 i9 := by kernel_rfl
 i37 := by kernel_rfl
 i127 := by kernel_rfl }
open Go.RowKit in
theorem Tryz.stringslite_Clone (s : ByteArray) (w : World) (hlim : s.size ≤ 281474976710656) :
  Calls Tryz.prog 74 #[.string s] w fun e w' => e = .returned (.string s) ∧ Below w.heap.size w w' := Any.stringslite_Clone Tryz.laysM316 s w hlim
def Tryz.lays219_ren : Go.Shelf.Ren := ⟨fun | 219 => 116 | 217 => 143 | 225 => 144 | 224 => 145 | 267 => 146 | 266 => 157 | 314 => 158 | n => n, fun | 9 => 9 | 3 => 3 | 4 => 4 | 5 => 5 | 46 => 135 | 146 => 153 | 51 => 152 | n => n, fun | 1 => 0 | n => n⟩
def Tryz.lays138_ren : Go.Shelf.Ren := ⟨fun | 138 => 75 | 195 => 92 | 218 => 93 | 143 => 94 | 219 => 116 | 217 => 143 | 225 => 144 | 224 => 145 | 267 => 146 | 266 => 157 | 314 => 158 | n => n, fun | 9 => 9 | 3 => 3 | 4 => 4 | 5 => 5 | 0 => 0 | 46 => 135 | 146 => 153 | 51 => 152 | n => n, fun | 1 => 0 | n => n⟩
theorem Tryz.lays138 : Go.Proofs.Lays.n138 Tryz.prog Tryz.lays138_ren := {
 mixed := by kernel_rfl
 f138 := Tryz.func75.trans (congrArg some (by kernel_rfl))
 f143 := Tryz.func94.trans (congrArg some (by kernel_rfl))
 f195 := Tryz.func92.trans (congrArg some (by kernel_rfl))
 f217 := Tryz.func143.trans (congrArg some (by kernel_rfl))
 f218 := Tryz.func93.trans (congrArg some (by kernel_rfl))
 f219 := Tryz.func116.trans (congrArg some (by kernel_rfl))
 f224 := Tryz.func145.trans (congrArg some (by kernel_rfl))
 f225 := Tryz.func144.trans (congrArg some (by kernel_rfl))
 f266 := Tryz.func157.trans (congrArg some (by kernel_rfl))
 f267 := Tryz.func146.trans (congrArg some (by kernel_rfl))
 f314 := Tryz.func158.trans (congrArg some (by kernel_rfl))
 t0 := Tryz.underlying0
 a0 := Tryz.isAgg0
 z0 := Tryz.sizeOf0
 v0 := Tryz.zeroValue0
 t3 := Tryz.underlying3
 a3 := Tryz.isAgg3
 z3 := Tryz.sizeOf3
 v3 := Tryz.zeroValue3
 t4 := Tryz.underlying4
 a4 := Tryz.isAgg4
 z4 := Tryz.sizeOf4
 v4 := Tryz.zeroValue4
 t5 := Tryz.underlying5
 a5 := Tryz.isAgg5
 z5 := Tryz.sizeOf5
 v5 := Tryz.zeroValue5
 t9 := Tryz.underlying9
 a9 := Tryz.isAgg9
 z9 := Tryz.sizeOf9
 v9 := Tryz.zeroValue9
 t46 := Tryz.underlying135
 a46 := Tryz.isAgg135
 z46 := Tryz.sizeOf135
 v46 := Tryz.zeroValue135
 t51 := Tryz.underlying152
 a51 := Tryz.isAgg152
 z51 := Tryz.sizeOf152
 v51 := Tryz.zeroValue152
 t146 := Tryz.underlying153
 a146 := Tryz.isAgg153
 z146 := Tryz.sizeOf153
 v146 := Tryz.zeroValue153
 g1 := by kernel_rfl }
open Go.RowKit Go.Lib in
theorem Tryz.strings_Count_one (s : ByteArray) (c : UInt8) (w : World) :
  Calls Tryz.prog 75 #[.string s, .string ⟨#[c]⟩] w fun e w' => e = .returned (.int .i64 (Lib.countByte s.data.toList c)) ∧ w' = w := Any.strings_Count_one Tryz.lays138 s c w
def Tryz.lays206_ren : Go.Shelf.Ren := ⟨fun | 206 => 88 | n => n, fun | 9 => 9 | 4 => 4 | 3 => 3 | n => n, fun | n => n⟩
def Tryz.lays99_ren : Go.Shelf.Ren := ⟨fun | 99 => 70 | 206 => 88 | n => n, fun | 9 => 9 | 4 => 4 | 3 => 3 | n => n, fun | n => n⟩
theorem Tryz.lays99 : Go.Proofs.Lays.n99 Tryz.prog Tryz.lays99_ren := {
 mixed := by kernel_rfl
 f99 := Tryz.func70.trans (congrArg some (by kernel_rfl))
 f206 := Tryz.func88.trans (congrArg some (by kernel_rfl))
 t3 := Tryz.underlying3
 a3 := Tryz.isAgg3
 z3 := Tryz.sizeOf3
 v3 := Tryz.zeroValue3
 t4 := Tryz.underlying4
 a4 := Tryz.isAgg4
 z4 := Tryz.sizeOf4
 v4 := Tryz.zeroValue4
 t9 := Tryz.underlying9
 a9 := Tryz.isAgg9
 z9 := Tryz.sizeOf9
 v9 := Tryz.zeroValue9 }
open Go.RowKit Go.Lib in
theorem Tryz.strings_HasPrefix (s p : ByteArray) (w : World) :
  Calls Tryz.prog 70 #[.string s, .string p] w fun e w' => e = .returned (.bool (Lib.hasPrefix s.data.toList p.data.toList)) ∧ w' = w := Any.strings_HasPrefix Tryz.lays99 s p w
end Go.Proofs
/- What impl.markSizes, impl.MarkOk, spec.l04Marks and spec.MarkOk answer. -/
namespace Go.Proofs.YtdlpepmdjbmmmaaGreatDoor
open Go.RowKit Go.Maps Go.WideMaps

theorem keyLaw : Keyed Tryz.prog 9 := string_keyed Tryz.underlying9
theorem zeroInt (w : World) : (zeroValue 3).run Tryz.prog w = .ok (.int .i64 0) w := by kernel_rfl
theorem mkPs_at (l : List UInt8) : (putPs mkPs (.map [])).atKey (.string l) (.lit (.int .i64 0)) = .lit (.int .i64 (mkAt l)) := putPs_at l mkPs _ 0 isMap_empty rfl

set_option maxHeartbeats 4000000 in
set_option maxRecDepth 100000 in
theorem iSizes_any (w : World) : Calls Tryz.prog 46 #[] w fun e w' => e = .returned (.map (some w.heap.size)) ∧ MkMap Tryz.prog w' 9 3 w.heap.size ∧ Below w.heap.size w w' := by
 have hmm := @run_makeMap Tryz.prog
 have hI : (w.alloc (.map #[] 0)).ownsMap Tryz.prog 9 (plainElem (H := Unit) Tryz.prog 3) w.heap.size 0 (.map []) ∧ Below w.heap.size w (w.alloc (.map #[] 0)) := ⟨World.ownsMap_made _ _ _ _, (Below.refl _ _).alloc (Nat.le_refl _) _⟩
 go_enter Tryz.func46, Tryz.ntmps46
 go_wp2_with (refine insStep _ rfl _ _ _ 75 rfl 9 3 keyLaw Tryz.underlying75 Tryz.underlying3 Tryz.underlying9 w.heap.size w.heap.size _ _ w (Nat.le_refl _) rfl hI (by decide) _ _ rfl rfl (by decide) (by decide) ?_; clear hI; intro w1 hI)
 go_ret
 exact ⟨rfl, ⟨_, _, hI.1, mkPs_at⟩, hI.2⟩
end Go.Proofs.YtdlpepmdjbmmmaaGreatDoor
