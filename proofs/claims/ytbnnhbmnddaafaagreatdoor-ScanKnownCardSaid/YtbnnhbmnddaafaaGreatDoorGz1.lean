/- Parts of the proof of what the last text says. -/
import Derived.Test.YtbnnhbmnddaafaaGreatDoorTie
import Derived.WalkKit
import Derived.ProofKit
import Derived.OpenShut
import Derived.PinnedBridge
import Derived.Lib.LaidU8
import Derived.Lay
import Derived.LaidMore
import Derived.Deep.DeepHandedRow
import Derived.Shelf.Small.Utf8
import Derived.Shelf.Small.Strs
import Derived.Shelf.Small.Wraps
import Derived.Shelf.LaysM
import Derived.Shelf.Strconv.Clone
import Derived.Shelf.LaysC
import Derived.Shelf.Strings.Search1
import Derived.Shelf.Strings.Search2
import Derived.Shelf.Strings.Search3
import Derived.Shelf.Strings.Count
import Derived.Shelf.Strings.Shaped
import Derived.Shelf.Strings.Prefix
import Derived.Shelf.Strings.Runes
import Derived.Test.YtbnnhbmnddaafaaGreatDoorProg
import Derived.WalkLawsBesides
import Derived.WalkSpells
import Derived.Lib.Hide
import Derived.Deep.QuietTactic
import Derived.BigQuiet
import Derived.Shelf.Strings.Builder1
import Derived.Shelf.Strings.BuilderF
import Derived.Shelf.Strings.BuilderK
import Derived.Shelf.Unicode.DecodeSlow
import Derived.Shelf.Unicode.DecodeAny
import Derived.Shelf.Unicode.DecodeLast
import Derived.Shelf.Strings.BuilderCap
import Derived.Handy
import Derived.Lib.DecodeN
import Derived.RangeFuncNested
import Derived.RangeFuncLeaves
import Derived.RangeFuncCalls
import Derived.Below
import Derived.Lib.FrozenHead
import Derived.OwnWalkIn
import Derived.LoopNIn
import Derived.Laws.ResultCell
import Derived.Laws.Rows
import Derived.Lib.TrimUEq
import Derived.RangeFuncBound
import Derived.Shelf.Abstract
import Derived.Shelf.RegionOpen
import Derived.TacticsInMore
import Derived.LoopIn
import Derived.Deep.Draws
/- What the listed tables give the walks, and the world that the witnesses start in. -/
namespace Go.Proofs.YtbnnhbmnddaafaaGreatDoor
open Go.Lib Go.Shelf
set_option maxRecDepth 100000

noncomputable def theLaid : List (String × DataW Unit) := [("unicode/utf8.acceptRanges", Rows.laid_unicode_utf8_acceptRanges), ("unicode/utf8.first", Rows.laid_unicode_utf8_first)]

theorem own : ownKnob Tryz.prog.godebug = none := by kernel_rfl
theorem accept_eq : (Rows.laid_unicode_utf8_acceptRanges : DataW Unit) = acceptData := by kernel_rfl

theorem tabs_of_reads {W : World} (h4 : VarReads Tryz.prog W "unicode/utf8.acceptRanges" acceptData) (h3 : VarReads Tryz.prog W "unicode/utf8.first" firstData) : Lib.Utf8Tabs 2 3 W := by
  have c5 : Tryz.prog.cellsOf 5 = 1 := by kernel_rfl
  have c78 : Tryz.prog.cellsOf 124 = 256 := by kernel_rfl
  have c80 : Tryz.prog.cellsOf 127 = 2 := by kernel_rfl
  refine ⟨fun c hc => ?_, fun i hi => ?_⟩
  · obtain ⟨g, t, cs, fuel, p, hg, hty, hvar, hd⟩ := h3
    obtain rfl := Option.some.inj ((show Tryz.prog.globalNamed "unicode/utf8.first" = some 2 by kernel_rfl).symm.trans hg)
    obtain rfl := Option.some.inj ((show (Tryz.prog.globals[2]?).map (·.type) = some 124 by kernel_rfl).symm.trans hty)
    have hcs := cells_of_tab Tryz.underlying124 Tryz.underlying5 c5 c78 hd
    have := World.var?_cell hg hvar c
    rw [this, ← Array.getElem?_toList, hcs]
    simp [firstTab, hc]
  · obtain ⟨g, t, cs, fuel, p, hg, hty, hvar, hd⟩ := h4
    obtain rfl := Option.some.inj ((show Tryz.prog.globalNamed "unicode/utf8.acceptRanges" = some 3 by kernel_rfl).symm.trans hg)
    obtain rfl := Option.some.inj ((show (Tryz.prog.globals[3]?).map (·.type) = some 128 by kernel_rfl).symm.trans hty)
    obtain ⟨fuel', d, q, hdi, he⟩ := array_elem Tryz.underlying128 hd i hi
    simp only [List.getElem?_map, List.getElem?_range hi, Option.map_some, Option.some.injEq] at hdi
    subst hdi
    rw [c80] at he
    have hcs := ints_of_struct Tryz.underlying127 (fun j f hj => by
      match j, hj with
      | 0, hj => simp at hj; subst hj; exact ⟨Tryz.underlying5, rfl, c5⟩
      | 1, hj => simp at hj; subst hj; exact ⟨Tryz.underlying5, rfl, c5⟩
      | j + 2, hj => simp at hj) (by rw [c80]; rfl) he
    have e0 := congrArg (·[0]?) hcs
    have e1 := congrArg (·[1]?) hcs
    simp only [List.getElem?_take, List.getElem?_drop] at e0 e1
    constructor
    · rw [World.var?_cell hg hvar (2 * i), ← Array.getElem?_toList]
      simpa [Nat.mul_comm] using e0
    · rw [World.var?_cell hg hvar (2 * i + 1), ← Array.getElem?_toList]
      simpa [Nat.mul_comm] using e1

end Go.Proofs.YtbnnhbmnddaafaaGreatDoor
/- The contracts of the library functions that stage 5 (scan) calls, laid over this translation: strings.Count, TrimSuffix, IndexRune, ContainsRune, IndexByte, Clone. -/
namespace Go.Proofs
open Go.Shelf
def Tryz.lays137_ren : Go.Shelf.Ren := ⟨fun | 137 => 115 | 217 => 103 | 266 => 118 | n => n, fun | 9 => 9 | 5 => 5 | 3 => 3 | n => n, fun | n => n⟩
theorem Tryz.lays137 : Go.Proofs.Lays.n137 Tryz.prog Tryz.lays137_ren := {
  mixed := by kernel_rfl
  f137 := Tryz.func115.trans (congrArg some (by kernel_rfl))
  f217 := Tryz.func103.trans (congrArg some (by kernel_rfl))
  f266 := Tryz.func118.trans (congrArg some (by kernel_rfl))
  t3 := Tryz.underlying3
  a3 := Tryz.isAgg3
  z3 := Tryz.sizeOf3
  v3 := Tryz.zeroValue3
  t5 := Tryz.underlying5
  a5 := Tryz.isAgg5
  z5 := Tryz.sizeOf5
  v5 := Tryz.zeroValue5
  t9 := Tryz.underlying9
  a9 := Tryz.isAgg9
  z9 := Tryz.sizeOf9
  v9 := Tryz.zeroValue9 }
open Go.RowKit in
theorem Tryz.strings_IndexByte (s : ByteArray) (c : Int) (w : World) :
    Calls Tryz.prog 115 #[.string s, .int .u8 c] w fun e w' => e = .returned (.int .i64 (Lib.indexByte s.data.toList c.toNat.toUInt8)) ∧ w' = w := Any.strings_IndexByte Tryz.lays137 s c w
def Tryz.laysM316_ren : Go.Shelf.Ren := ⟨fun | 316 => 88 | n => n, fun | 9 => 9 | 3 => 3 | 4 => 4 | 37 => 35 | 0 => 0 | 127 => 80 | 5 => 5 | n => n, fun | n => n⟩
theorem Tryz.laysM316 : Go.Proofs.LaysM.n316 Tryz.prog Tryz.laysM316_ren := {
  mixed := by kernel_rfl
  f316 := Tryz.func88.trans (congrArg some (by kernel_rfl))
  t0 := Tryz.underlying0
  a0 := Tryz.isAgg0
  z0 := Tryz.sizeOf0
  v0 := Tryz.zeroValue0
  t3 := Tryz.underlying3
  a3 := Tryz.isAgg3
  z3 := Tryz.sizeOf3
  v3 := Tryz.zeroValue3
  t4 := Tryz.underlying4
  a4 := Tryz.isAgg4
  z4 := Tryz.sizeOf4
  v4 := Tryz.zeroValue4
  t9 := Tryz.underlying9
  a9 := Tryz.isAgg9
  z9 := Tryz.sizeOf9
  v9 := Tryz.zeroValue9
  t37 := Tryz.underlying35
  a37 := Tryz.isAgg35
  z37 := Tryz.sizeOf35
  v37 := Tryz.zeroValue35
  t127 := Tryz.underlying80
  a127 := Tryz.isAgg80
  z127 := Tryz.sizeOf80
  v127 := Tryz.zeroValue80
  t5 := Tryz.underlying5
  a5 := Tryz.isAgg5
  z5 := Tryz.sizeOf5
  v5 := Tryz.zeroValue5
  i0 := by kernel_rfl
  i3 := by kernel_rfl
  i4 := by kernel_rfl
  i5 := by kernel_rfl
  i9 := by kernel_rfl
  i37 := by kernel_rfl
  i127 := by kernel_rfl }
open Go.RowKit in
theorem Tryz.stringslite_Clone (s : ByteArray) (w : World) (hlim : s.size ≤ 281474976710656) :
    Calls Tryz.prog 88 #[.string s] w fun e w' => e = .returned (.string s) ∧ Below w.heap.size w w' := Any.stringslite_Clone Tryz.laysM316 s w hlim
def Tryz.lays138_ren : Go.Shelf.Ren := ⟨fun | 138 => 36 | 195 => 59 | 218 => 60 | 143 => 61 | 219 => 85 | 217 => 103 | 225 => 104 | 224 => 105 | 267 => 106 | 266 => 118 | 314 => 119 | n => n, fun | 9 => 9 | 3 => 3 | 4 => 4 | 5 => 5 | 0 => 0 | 46 => 125 | 146 => 164 | 51 => 160 | n => n, fun | 1 => 1 | n => n⟩
theorem Tryz.lays138 : Go.Proofs.Lays.n138 Tryz.prog Tryz.lays138_ren := {
  mixed := by kernel_rfl
  f138 := Tryz.func36.trans (congrArg some (by kernel_rfl))
  f143 := Tryz.func61.trans (congrArg some (by kernel_rfl))
  f195 := Tryz.func59.trans (congrArg some (by kernel_rfl))
  f217 := Tryz.func103.trans (congrArg some (by kernel_rfl))
  f218 := Tryz.func60.trans (congrArg some (by kernel_rfl))
  f219 := Tryz.func85.trans (congrArg some (by kernel_rfl))
  f224 := Tryz.func105.trans (congrArg some (by kernel_rfl))
  f225 := Tryz.func104.trans (congrArg some (by kernel_rfl))
  f266 := Tryz.func118.trans (congrArg some (by kernel_rfl))
  f267 := Tryz.func106.trans (congrArg some (by kernel_rfl))
  f314 := Tryz.func119.trans (congrArg some (by kernel_rfl))
  t0 := Tryz.underlying0
  a0 := Tryz.isAgg0
  z0 := Tryz.sizeOf0
  v0 := Tryz.zeroValue0
  t3 := Tryz.underlying3
  a3 := Tryz.isAgg3
  z3 := Tryz.sizeOf3
  v3 := Tryz.zeroValue3
  t4 := Tryz.underlying4
  a4 := Tryz.isAgg4
  z4 := Tryz.sizeOf4
  v4 := Tryz.zeroValue4
  t5 := Tryz.underlying5
  a5 := Tryz.isAgg5
  z5 := Tryz.sizeOf5
  v5 := Tryz.zeroValue5
  t9 := Tryz.underlying9
  a9 := Tryz.isAgg9
  z9 := Tryz.sizeOf9
  v9 := Tryz.zeroValue9
  t46 := Tryz.underlying125
  a46 := Tryz.isAgg125
  z46 := Tryz.sizeOf125
  v46 := Tryz.zeroValue125
  t51 := Tryz.underlying160
  a51 := Tryz.isAgg160
  z51 := Tryz.sizeOf160
  v51 := Tryz.zeroValue160
  t146 := Tryz.underlying164
  a146 := Tryz.isAgg164
  z146 := Tryz.sizeOf164
  v146 := Tryz.zeroValue164
  g1 := by kernel_rfl }
open Go.RowKit Go.Lib in
theorem Tryz.strings_Count_one (s : ByteArray) (c : UInt8) (w : World) :
    Calls Tryz.prog 36 #[.string s, .string ⟨#[c]⟩] w fun e w' => e = .returned (.int .i64 (Lib.countByte s.data.toList c)) ∧ w' = w := Any.strings_Count_one Tryz.lays138 s c w
def Tryz.lays207_ren : Go.Shelf.Ren := ⟨fun | 207 => 86 | n => n, fun | 9 => 9 | 4 => 4 | 3 => 3 | n => n, fun | n => n⟩
def Tryz.lays209_ren : Go.Shelf.Ren := ⟨fun | 209 => 62 | 207 => 86 | n => n, fun | 9 => 9 | 4 => 4 | 3 => 3 | n => n, fun | n => n⟩
def Tryz.lays102_ren : Go.Shelf.Ren := ⟨fun | 102 => 37 | 209 => 62 | 207 => 86 | n => n, fun | 9 => 9 | 4 => 4 | 3 => 3 | n => n, fun | n => n⟩
theorem Tryz.lays102 : Go.Proofs.Lays.n102 Tryz.prog Tryz.lays102_ren := {
  mixed := by kernel_rfl
  f102 := Tryz.func37.trans (congrArg some (by kernel_rfl))
  f207 := Tryz.func86.trans (congrArg some (by kernel_rfl))
  f209 := Tryz.func62.trans (congrArg some (by kernel_rfl))
  t3 := Tryz.underlying3
  a3 := Tryz.isAgg3
  z3 := Tryz.sizeOf3
  v3 := Tryz.zeroValue3
  t4 := Tryz.underlying4
  a4 := Tryz.isAgg4
  z4 := Tryz.sizeOf4
  v4 := Tryz.zeroValue4
  t9 := Tryz.underlying9
  a9 := Tryz.isAgg9
  z9 := Tryz.sizeOf9
  v9 := Tryz.zeroValue9 }
open Go.RowKit Go.Lib in
theorem Tryz.strings_TrimSuffix (s p : ByteArray) (w : World) (hs : s.size ≤ 9223372036854775807) :
    Calls Tryz.prog 37 #[.string s, .string p] w fun e w' => e = .returned (.string ⟨(Lib.trimSuffix s.data.toList p.data.toList).toArray⟩) ∧ w' = w := Any.strings_TrimSuffix Tryz.lays102 s p w hs
def Tryz.lays152_ren : Go.Shelf.Ren := ⟨fun | 152 => 94 | 137 => 115 | 119 => 116 | 224 => 105 | 225 => 104 | 217 => 103 | 266 => 118 | n => n, fun | 9 => 9 | 21 => 21 | 3 => 3 | 4 => 4 | 5 => 5 | 0 => 0 | 46 => 125 | n => n, fun | n => n⟩
def Tryz.lays151_ren : Go.Shelf.Ren := ⟨fun | 151 => 71 | 152 => 94 | 137 => 115 | 119 => 116 | 224 => 105 | 225 => 104 | 217 => 103 | 266 => 118 | n => n, fun | 9 => 9 | 21 => 21 | 4 => 4 | 3 => 3 | 5 => 5 | 0 => 0 | 46 => 125 | n => n, fun | n => n⟩
theorem Tryz.lays151 : Go.Proofs.Lays.n151 Tryz.prog Tryz.lays151_ren := {
  mixed := by kernel_rfl
  f119 := Tryz.func116.trans (congrArg some (by kernel_rfl))
  f137 := Tryz.func115.trans (congrArg some (by kernel_rfl))
  f151 := Tryz.func71.trans (congrArg some (by kernel_rfl))
  f152 := Tryz.func94.trans (congrArg some (by kernel_rfl))
  f217 := Tryz.func103.trans (congrArg some (by kernel_rfl))
  f224 := Tryz.func105.trans (congrArg some (by kernel_rfl))
  f225 := Tryz.func104.trans (congrArg some (by kernel_rfl))
  f266 := Tryz.func118.trans (congrArg some (by kernel_rfl))
  t0 := Tryz.underlying0
  a0 := Tryz.isAgg0
  z0 := Tryz.sizeOf0
  v0 := Tryz.zeroValue0
  t3 := Tryz.underlying3
  a3 := Tryz.isAgg3
  z3 := Tryz.sizeOf3
  v3 := Tryz.zeroValue3
  t4 := Tryz.underlying4
  a4 := Tryz.isAgg4
  z4 := Tryz.sizeOf4
  v4 := Tryz.zeroValue4
  t5 := Tryz.underlying5
  a5 := Tryz.isAgg5
  z5 := Tryz.sizeOf5
  v5 := Tryz.zeroValue5
  t9 := Tryz.underlying9
  a9 := Tryz.isAgg9
  z9 := Tryz.sizeOf9
  v9 := Tryz.zeroValue9
  t21 := Tryz.underlying21
  a21 := Tryz.isAgg21
  z21 := Tryz.sizeOf21
  v21 := Tryz.zeroValue21
  t46 := Tryz.underlying125
  a46 := Tryz.isAgg125
  z46 := Tryz.sizeOf125
  v46 := Tryz.zeroValue125 }
open Go.RowKit Go.Lib in
theorem Tryz.strings_ContainsRune_ascii (s : ByteArray) (r : Int) (w : World) (h0 : 0 ≤ r) (h1 : r < 128) :
    Calls Tryz.prog 71 #[.string s, .int .i32 r] w fun e w' => e = .returned (.bool (decide (0 ≤ Lib.indexByte s.data.toList r.toNat.toUInt8))) ∧ w' = w := Any.strings_ContainsRune_ascii Tryz.lays151 s r w h0 h1
end Go.Proofs

namespace Go.Proofs.YtbnnhbmnddaafaaGreatDoor
open Go Go.RowKit

def inB (c lo hi : Int) : Bool := decide (lo ≤ c) && decide (c ≤ hi)

def leadI (c : Int) : Int × Int × Int :=
  if c < 128 then (1, 0, 0) else if inB c 194 223 then (2, 128, 191) else if c == 224 then (3, 160, 191) else if c == 237 then (3, 128, 159)
  else if inB c 225 239 then (3, 128, 191) else if c == 240 then (4, 144, 191) else if c == 244 then (4, 128, 143) else if inB c 241 243 then (4, 128, 191) else (0, 0, 0)

def bAt (s : ByteArray) (i : Nat) : Int := (s.data.toList.getD i 0).toNat
theorem bAt_lo (s : ByteArray) (i : Nat) : 0 ≤ bAt s i := by unfold bAt; omega
theorem bAt_hi (s : ByteArray) (i : Nat) : bAt s i < 256 := by unfold bAt; have := (s.data.toList.getD i 0).toNat_lt; omega
theorem bAt_eq (s : ByteArray) (i : Nat) (h : i < s.size) : bAt s i = (s[i]'h).toNat := by
  have h' : i < s.data.toList.length := by simpa using h
  unfold bAt
  rw [List.getD_eq_getElem?_getD, List.getElem?_eq_getElem h']; rfl
theorem run_bAt (s : ByteArray) (i : Nat) (h : i < s.size) (w : World) :
    (Instr.index 9 (.string s) (.int .i64 (i : Int))).run Tryz.prog w = .ok (.int .u8 (bAt s i)) w := by
  rw [run_index_string (h := Tryz.underlying9), dif_pos (by omega), bAt_eq s i h]; rfl
theorem run_bAt' (s : ByteArray) (i k : Nat) (h : i + k < s.size) (w : World) :
    (Instr.index 9 (.string s) (.int .i64 ((i : Int) + (k : Int)))).run Tryz.prog w = .ok (.int .u8 (bAt s (i + k))) w := by
  have := run_bAt s (i + k) h w
  simpa using this

def begunC (s : ByteArray) (i : Nat) (lo hi : Int) (k : Nat) : Bool := if k = 1 then inB (bAt s (i + k)) lo hi else inB (bAt s (i + k)) 128 191
def begunK (s : ByteArray) (i : Nat) (n lo hi : Int) : Nat → Nat → Nat
  | 0, k => k
  | f + 1, k => if (k : Int) < n ∧ i + k < s.size ∧ begunC s i lo hi k = true then begunK s i n lo hi f (k + 1) else k
def begunI (s : ByteArray) (i : Nat) : Int × Int :=
  if (leadI (bAt s i)).1 == 0 then (0, 0) else ((begunK s i (leadI (bAt s i)).1 (leadI (bAt s i)).2.1 (leadI (bAt s i)).2.2 4 1 : Nat), (leadI (bAt s i)).1)
theorem leadI_bd (c : Int) : 0 ≤ (leadI c).1 ∧ (leadI c).1 ≤ 4 := by
  unfold leadI; repeat' split
  all_goals simp

end Go.Proofs.YtbnnhbmnddaafaaGreatDoor
/- The contracts of the library functions that the program calls (unicode/utf8, strings.Builder), laid over this translation. -/
namespace Go.Proofs
open Go.Shelf
def Tryz.lays169_ren : Go.Shelf.Ren := ⟨fun | 169 => 24 | n => n, fun | 70 => 47 | 9 => 9 | 0 => 0 | 72 => 49 | 37 => 35 | 127 => 80 | 3 => 3 | 5 => 5 | n => n, fun | n => n⟩
theorem Tryz.lays169 : Go.Proofs.Lays.n169 Tryz.prog Tryz.lays169_ren := {
  mixed := by kernel_rfl
  f169 := Tryz.func24.trans (congrArg some (by kernel_rfl))
  t0 := Tryz.underlying0
  a0 := Tryz.isAgg0
  z0 := Tryz.sizeOf0
  v0 := Tryz.zeroValue0
  t3 := Tryz.underlying3
  a3 := Tryz.isAgg3
  z3 := Tryz.sizeOf3
  v3 := Tryz.zeroValue3
  t9 := Tryz.underlying9
  a9 := Tryz.isAgg9
  z9 := Tryz.sizeOf9
  v9 := Tryz.zeroValue9
  t37 := Tryz.underlying35
  a37 := Tryz.isAgg35
  z37 := Tryz.sizeOf35
  v37 := Tryz.zeroValue35
  t70 := Tryz.underlying47
  a70 := Tryz.isAgg47
  z70 := Tryz.sizeOf47
  v70 := Tryz.zeroValue47
  t72 := Tryz.underlying49
  a72 := Tryz.isAgg49
  z72 := Tryz.sizeOf49
  v72 := Tryz.zeroValue49
  t127 := Tryz.underlying80
  a127 := Tryz.isAgg80
  z127 := Tryz.sizeOf80
  v127 := Tryz.zeroValue80 }
theorem Tryz.Builder_Extra_169 : Builder.Extra Tryz.prog Tryz.lays169_ren := {
  sizeBuilder := by kernel_rfl
  liesBuilder := by kernel_rfl
  t5 := Tryz.underlying5
  a5 := Tryz.isAgg5
  z5 := Tryz.sizeOf5
  v5 := Tryz.zeroValue5
  infoByte := by kernel_rfl
  cellsByte := by kernel_rfl
  sizeByte := by kernel_rfl
  neB5 := by decide }
open Go.RowKit in
theorem Tryz.Builder_String_any_k (B b : Nat) (l : List UInt8) (w : World) (h : Lib.IsBuilderF 49 5 B b (Lib.byteCells l) w) (hBw : B ≤ w.heap.size) :
    Calls Tryz.prog 24 #[.pointer (some ⟨b, 0, none⟩)] w fun e w' => e = .returned (.string ⟨l.toArray⟩) ∧ (Lib.IsBuilderF 49 5 B b (Lib.byteCells l) w' ∧ Below B w w' ∧ Lib.OthersKept 5 (some b) w w') := Any.Builder_String_any_k Tryz.lays169 Tryz.Builder_Extra_169 B b l w h hBw
def Tryz.lays260_ren : Go.Shelf.Ren := ⟨fun | 260 => 68 | n => n, fun | 9 => 9 | 21 => 21 | 3 => 3 | 4 => 4 | 5 => 5 | 119 => 124 | 0 => 0 | 46 => 125 | 139 => 128 | 138 => 127 | n => n, fun | 3 => 2 | 4 => 3 | n => n⟩
def Tryz.lays197_ren : Go.Shelf.Ren := ⟨fun | 197 => 45 | 260 => 68 | n => n, fun | 9 => 9 | 21 => 21 | 3 => 3 | 4 => 4 | 5 => 5 | 105 => 50 | 119 => 124 | 0 => 0 | 46 => 125 | 139 => 128 | 138 => 127 | n => n, fun | 3 => 2 | 4 => 3 | n => n⟩
theorem Tryz.lays197 : Go.Proofs.Lays.n197 Tryz.prog Tryz.lays197_ren := {
  mixed := by kernel_rfl
  f197 := Tryz.func45.trans (congrArg some (by kernel_rfl))
  f260 := Tryz.func68.trans (congrArg some (by kernel_rfl))
  t0 := Tryz.underlying0
  a0 := Tryz.isAgg0
  z0 := Tryz.sizeOf0
  v0 := Tryz.zeroValue0
  t3 := Tryz.underlying3
  a3 := Tryz.isAgg3
  z3 := Tryz.sizeOf3
  v3 := Tryz.zeroValue3
  t4 := Tryz.underlying4
  a4 := Tryz.isAgg4
  z4 := Tryz.sizeOf4
  v4 := Tryz.zeroValue4
  t5 := Tryz.underlying5
  a5 := Tryz.isAgg5
  z5 := Tryz.sizeOf5
  v5 := Tryz.zeroValue5
  t9 := Tryz.underlying9
  a9 := Tryz.isAgg9
  z9 := Tryz.sizeOf9
  v9 := Tryz.zeroValue9
  t21 := Tryz.underlying21
  a21 := Tryz.isAgg21
  z21 := Tryz.sizeOf21
  v21 := Tryz.zeroValue21
  t46 := Tryz.underlying125
  a46 := Tryz.isAgg125
  z46 := Tryz.sizeOf125
  v46 := Tryz.zeroValue125
  t105 := Tryz.underlying50
  a105 := Tryz.isAgg50
  z105 := Tryz.sizeOf50
  v105 := Tryz.zeroValue50
  t119 := Tryz.underlying124
  a119 := Tryz.isAgg124
  z119 := Tryz.sizeOf124
  t138 := Tryz.underlying127
  a138 := Tryz.isAgg127
  z138 := Tryz.sizeOf127
  v138 := Tryz.zeroValue127
  t139 := Tryz.underlying128
  a139 := Tryz.isAgg128
  z139 := Tryz.sizeOf128
  v139 := Tryz.zeroValue128
  g3 := by kernel_rfl
  g4 := by kernel_rfl }
open Go.RowKit Go.Lib in
theorem Tryz.utf8_DecodeRuneInString (s : ByteArray) (w : World) (hT : Lib.Utf8Tabs 2 3 w) :
    Calls Tryz.prog 45 #[.string s] w fun e w' => e = .returned (.tuple #[.int .i32 (Lib.decodeGo s).1, .int .i64 (Lib.decodeGo s).2]) ∧ Below w.heap.size w w' := Any.utf8_DecodeRuneInString Tryz.lays197 s w hT
def Tryz.lays166_ren : Go.Shelf.Ren := ⟨fun | 166 => 22 | 240 => 46 | 276 => 69 | n => n, fun | 0 => 0 | 3 => 3 | 4 => 4 | 9 => 9 | 20 => 20 | 37 => 35 | 70 => 47 | 72 => 49 | 75 => 25 | 164 => 98 | 5 => 5 | 80 => 55 | 127 => 80 | n => n, fun | n => n⟩
theorem Tryz.lays166 : Go.Proofs.Lays.n166 Tryz.prog Tryz.lays166_ren := {
  mixed := by kernel_rfl
  f166 := Tryz.func22.trans (congrArg some (by kernel_rfl))
  f240 := Tryz.func46.trans (congrArg some (by kernel_rfl))
  f276 := Tryz.func69.trans (congrArg some (by kernel_rfl))
  t0 := Tryz.underlying0
  a0 := Tryz.isAgg0
  z0 := Tryz.sizeOf0
  v0 := Tryz.zeroValue0
  t3 := Tryz.underlying3
  a3 := Tryz.isAgg3
  z3 := Tryz.sizeOf3
  v3 := Tryz.zeroValue3
  t4 := Tryz.underlying4
  a4 := Tryz.isAgg4
  z4 := Tryz.sizeOf4
  v4 := Tryz.zeroValue4
  t9 := Tryz.underlying9
  a9 := Tryz.isAgg9
  z9 := Tryz.sizeOf9
  v9 := Tryz.zeroValue9
  t20 := Tryz.underlying20
  a20 := Tryz.isAgg20
  z20 := Tryz.sizeOf20
  v20 := Tryz.zeroValue20
  t37 := Tryz.underlying35
  a37 := Tryz.isAgg35
  z37 := Tryz.sizeOf35
  v37 := Tryz.zeroValue35
  t70 := Tryz.underlying47
  a70 := Tryz.isAgg47
  z70 := Tryz.sizeOf47
  v70 := Tryz.zeroValue47
  t72 := Tryz.underlying49
  a72 := Tryz.isAgg49
  z72 := Tryz.sizeOf49
  v72 := Tryz.zeroValue49
  t75 := Tryz.underlying25
  a75 := Tryz.isAgg25
  z75 := Tryz.sizeOf25
  v75 := Tryz.zeroValue25
  t164 := Tryz.underlying98
  a164 := Tryz.isAgg98
  z164 := Tryz.sizeOf98
  v164 := Tryz.zeroValue98 }

theorem Tryz.Builder_Extra_166 : Builder.Extra Tryz.prog Tryz.lays166_ren := {
  sizeBuilder := by kernel_rfl
  liesBuilder := by kernel_rfl
  t5 := Tryz.underlying5
  a5 := Tryz.isAgg5
  z5 := Tryz.sizeOf5
  v5 := Tryz.zeroValue5
  infoByte := by kernel_rfl
  cellsByte := by kernel_rfl
  sizeByte := by kernel_rfl
  neB5 := by decide }
end Go.Proofs

namespace Go.Proofs.YtbnnhbmnddaafaaGreatDoor
open Go Go.RowKit

def wideI (s : ByteArray) (i : Nat) : Int := if (begunI s i).1 != (begunI s i).2 then 0 else (begunI s i).2

def numI (t : ByteArray) : Int :=
  if t.size = 1 then bAt t 0 else if t.size = 2 then bAt t 0 % 32 * 64 + bAt t 1 % 64
  else if t.size = 3 then (bAt t 0 % 16 * 64 + bAt t 1 % 64) * 64 + bAt t 2 % 64
  else ((bAt t 0 % 8 * 64 + bAt t 1 % 64) * 64 + bAt t 2 % 64) * 64 + bAt t 3 % 64

end Go.Proofs.YtbnnhbmnddaafaaGreatDoor

namespace Go.Proofs.YtbnnhbmnddaafaaGreatDoor
open Go Go.RowKit Go.Lib

def bgT (r : Int × Int × Int) (N : Nat) (x1 x2 x3 : Int) : Int :=
  if 1 < r.1 ∧ 1 < N ∧ inB x1 r.2.1 r.2.2 = true then
    (if 2 < r.1 ∧ 2 < N ∧ inB x2 128 191 = true then (if 3 < r.1 ∧ 3 < N ∧ inB x3 128 191 = true then 4 else 3) else 2) else 1
def numT (w : Nat) (x0 x1 x2 x3 : Int) : Int :=
  if w = 1 then x0 else if w = 2 then x0 % 32 * 64 + x1 % 64
  else if w = 3 then (x0 % 16 * 64 + x1 % 64) * 64 + x2 % 64
  else ((x0 % 8 * 64 + x1 % 64) * 64 + x2 % 64) * 64 + x3 % 64

theorem inB_iff (c lo hi : Int) : inB c lo hi = true ↔ lo ≤ c ∧ c ≤ hi := by simp [inB]

def Agree (N b0 b1 b2 b3 : Nat) : Prop :=
  (((leadI b0).1 = 0 ∨ bgT (leadI b0) N b1 b2 b3 ≠ (leadI b0).1) ∧ decodeN N b0 b1 b2 b3 = (65533, 1)) ∨
  (∃ w : Nat, 1 ≤ w ∧ w ≤ 4 ∧ w ≤ N ∧ (leadI b0).1 = w ∧ bgT (leadI b0) N b1 b2 b3 = w ∧ (decodeN N b0 b1 b2 b3).2 = w ∧ ((decodeN N b0 b1 b2 b3).1 : Int) = numT w b0 b1 b2 b3)

theorem agree_0 (N b0 b1 b2 b3 : Nat) (hN : 1 ≤ N) (h : b0 < 128) : Agree N b0 b1 b2 b3 := by
  have hl : leadI b0 = (1, 0, 0) := by unfold leadI; rw [if_pos (by omega)]
  unfold Agree; rw [hl]
  refine .inr ⟨1, by omega, by omega, hN, rfl, ?_, ?_, ?_⟩
  · simp [bgT]
  · simp [decodeN, h]
  · simp [decodeN, h, numT]
theorem lead_bad (b0 : Nat) (h : (128 ≤ b0 ∧ b0 < 194) ∨ 245 ≤ b0) : leadI b0 = (0, 0, 0) := by
  unfold leadI
  simp only [inB_iff, beq_iff_eq]
  repeat' split
  all_goals first | rfl | (exfalso; omega)
theorem agree_bad (N b0 b1 b2 b3 : Nat) (h : (128 ≤ b0 ∧ b0 < 194) ∨ 245 ≤ b0) (c0 : b0 < 256) (_c1 : b1 < 256) (_c2 : b2 < 256) (_c3 : b3 < 256) : Agree N b0 b1 b2 b3 := by
  unfold Agree; rw [lead_bad b0 h]
  refine .inl ⟨.inl rfl, ?_⟩
  unfold decodeN
  repeat' split
  all_goals first | rfl | (exfalso; omega)
theorem lead_2 (b0 : Nat) (h : 194 ≤ b0 ∧ b0 < 224) : leadI b0 = (2, 128, 191) := by
  unfold leadI
  simp only [inB_iff, beq_iff_eq]
  repeat' split
  all_goals first | rfl | (exfalso; omega)
theorem agree_2 (N b0 b1 b2 b3 : Nat) (h : 194 ≤ b0 ∧ b0 < 224) (c1 : b1 < 256) : Agree N b0 b1 b2 b3 := by
  unfold Agree; rw [lead_2 b0 h]
  by_cases g : 1 < N ∧ 128 ≤ b1 ∧ b1 ≤ 191
  · refine .inr ⟨2, by omega, by omega, by omega, rfl, ?_, ?_, ?_⟩
    · unfold bgT; simp only [inB_iff]; rw [if_pos (by omega), if_neg (by omega)]; rfl
    · unfold decodeN; rw [if_neg (by omega), if_pos (by omega), if_pos (by omega)]
    · unfold decodeN; rw [if_neg (by omega), if_pos (by omega), if_pos (by omega)]; simp [numT]
  · refine .inl ⟨.inr ?_, ?_⟩
    · unfold bgT; simp only [inB_iff]; rw [if_neg (by omega)]; simp
    · unfold decodeN; rw [if_neg (by omega), if_neg (by omega), if_neg (by omega), if_neg (by omega)]
theorem agree_3 (N b0 b1 b2 b3 lo hi : Nat) (h : 224 ≤ b0 ∧ b0 < 240) (hl : leadI b0 = (3, (lo : Int), (hi : Int))) (hlo : (lo = if b0 = 224 then 160 else 128)) (hhi : hi = if b0 = 237 then 159 else 191) (c1 : b1 < 256) (c2 : b2 < 256) : Agree N b0 b1 b2 b3 := by
  unfold Agree; rw [hl]
  have hlo' : (b0 = 224 ∧ lo = 160) ∨ (b0 ≠ 224 ∧ lo = 128) := by split at hlo <;> omega
  have hhi' : (b0 = 237 ∧ hi = 159) ∨ (b0 ≠ 237 ∧ hi = 191) := by split at hhi <;> omega
  clear hlo hhi hl
  by_cases g : 1 < N ∧ lo ≤ b1 ∧ b1 ≤ hi ∧ 2 < N ∧ 128 ≤ b2 ∧ b2 ≤ 191
  · refine .inr ⟨3, by omega, by omega, by omega, rfl, ?_, ?_, ?_⟩
    · unfold bgT; simp only [inB_iff]; rw [if_pos (by omega), if_pos (by omega), if_neg (by omega)]; rfl
    · unfold decodeN; rw [if_neg (by omega), if_neg (by omega), if_pos (by omega), if_pos (by omega)]
    · unfold decodeN; rw [if_neg (by omega), if_neg (by omega), if_pos (by omega), if_pos (by omega)]; simp [numT]; omega
  · refine .inl ⟨.inr ?_, ?_⟩
    · unfold bgT; simp only [inB_iff]
      split
      · rw [if_neg (by omega)]; simp
      · simp
    · unfold decodeN; rw [if_neg (by omega), if_neg (by omega)]
      split
      · rw [if_neg (by omega)]
      · rw [if_neg (by omega)]
theorem agree_4 (N b0 b1 b2 b3 lo hi : Nat) (h : 240 ≤ b0 ∧ b0 < 245) (hl : leadI b0 = (4, (lo : Int), (hi : Int))) (hlo : (lo = if b0 = 240 then 144 else 128)) (hhi : hi = if b0 = 244 then 143 else 191) (c1 : b1 < 256) (c2 : b2 < 256) (c3 : b3 < 256) : Agree N b0 b1 b2 b3 := by
  unfold Agree; rw [hl]
  have hlo' : (b0 = 240 ∧ lo = 144) ∨ (b0 ≠ 240 ∧ lo = 128) := by split at hlo <;> omega
  have hhi' : (b0 = 244 ∧ hi = 143) ∨ (b0 ≠ 244 ∧ hi = 191) := by split at hhi <;> omega
  clear hlo hhi hl
  by_cases g : 1 < N ∧ lo ≤ b1 ∧ b1 ≤ hi ∧ 2 < N ∧ 128 ≤ b2 ∧ b2 ≤ 191 ∧ 3 < N ∧ 128 ≤ b3 ∧ b3 ≤ 191
  · refine .inr ⟨4, by omega, by omega, by omega, rfl, ?_, ?_, ?_⟩
    · unfold bgT; simp only [inB_iff]; rw [if_pos (by omega), if_pos (by omega), if_pos (by omega)]; rfl
    · unfold decodeN; rw [if_neg (by omega), if_neg (by omega), if_neg (by omega), if_pos (by omega), if_pos (by omega)]
    · unfold decodeN; rw [if_neg (by omega), if_neg (by omega), if_neg (by omega), if_pos (by omega), if_pos (by omega)]; simp [numT]; omega
  · refine .inl ⟨.inr ?_, ?_⟩
    · unfold bgT; simp only [inB_iff]
      split
      · split
        · rw [if_neg (by omega)]; simp
        · simp
      · simp
    · unfold decodeN; rw [if_neg (by omega), if_neg (by omega), if_neg (by omega)]
      split
      · rw [if_neg (by omega)]
      · rfl
theorem lead_3 (b0 : Nat) (h : 224 ≤ b0 ∧ b0 < 240) : leadI b0 = (3, ((if b0 = 224 then 160 else 128 : Nat) : Int), ((if b0 = 237 then 159 else 191 : Nat) : Int)) := by
  unfold leadI
  simp only [inB_iff, beq_iff_eq]
  repeat' split
  all_goals first | rfl | (exfalso; omega)
theorem lead_4 (b0 : Nat) (h : 240 ≤ b0 ∧ b0 < 245) : leadI b0 = (4, ((if b0 = 240 then 144 else 128 : Nat) : Int), ((if b0 = 244 then 143 else 191 : Nat) : Int)) := by
  unfold leadI
  simp only [inB_iff, beq_iff_eq]
  repeat' split
  all_goals first | rfl | (exfalso; omega)
theorem agree_all (N b0 b1 b2 b3 : Nat) (hN : 1 ≤ N) (c0 : b0 < 256) (c1 : b1 < 256) (c2 : b2 < 256) (c3 : b3 < 256) : Agree N b0 b1 b2 b3 := by
  by_cases h0 : b0 < 128
  · exact agree_0 N b0 b1 b2 b3 hN h0
  by_cases h1 : (128 ≤ b0 ∧ b0 < 194) ∨ 245 ≤ b0
  · exact agree_bad N b0 b1 b2 b3 h1 c0 c1 c2 c3
  by_cases h2 : b0 < 224
  · exact agree_2 N b0 b1 b2 b3 (by omega) c1
  by_cases h3 : b0 < 240
  · exact agree_3 N b0 b1 b2 b3 _ _ (by omega) (lead_3 b0 (by omega)) rfl rfl c1 c2
  · exact agree_4 N b0 b1 b2 b3 _ _ (by omega) (lead_4 b0 (by omega)) rfl rfl c1 c2 c3

def B (s : ByteArray) (i : Nat) : Nat := (s.data.toList.getD i 0).toNat
theorem bAt_B (s : ByteArray) (i : Nat) : bAt s i = (B s i : Int) := rfl
theorem B_lt (s : ByteArray) (i : Nat) : B s i < 256 := by unfold B; have := (s.data.toList.getD i 0).toNat_lt; omega
theorem get_B (s : ByteArray) (i : Nat) : (s.get! i).toNat = B s i := by
  unfold B
  by_cases h : i < s.size
  · have h1 : s.get! i = s[i]'h := by
      show s.data[i]! = s.data[i]
      rw [getElem!_pos s.data i (by exact h)]
    have h2 : s.data.toList.getD i 0 = s[i]'h := by
      have h' : i < s.data.toList.length := by simpa using h
      rw [List.getD_eq_getElem?_getD, List.getElem?_eq_getElem h']; rfl
    rw [h1, h2]
  · have h1 : s.get! i = default := by
      show s.data[i]! = _
      rw [getElem!_neg s.data i (by exact h)]
    have h2 : s.data.toList.getD i 0 = 0 := by
      rw [List.getD_eq_getElem?_getD, List.getElem?_eq_none (by simpa using h)]; rfl
    rw [h1, h2]; rfl
theorem decode_B (s : ByteArray) (i : Nat) : Utf8.decode s i = decodeN (s.size - i) (B s i) (B s (i + 1)) (B s (i + 2)) (B s (i + 3)) := by
  rw [decode_at, get_B, get_B, get_B, get_B]

theorem begunK_bg (s : ByteArray) (i : Nat) (n lo hi : Int) (h4 : n ≤ 4) : (begunK s i n lo hi 4 1 : Int) = bgT (n, lo, hi) (s.size - i) (B s (i + 1)) (B s (i + 2)) (B s (i + 3)) := by
  have e1 : ∀ k : Nat, (i + k < s.size) = (k < s.size - i) := fun k => propext ⟨fun h => by omega, fun h => by omega⟩
  have st : ∀ f k, begunK s i n lo hi (f + 1) k = if (k : Int) < n ∧ k < s.size - i ∧ begunC s i lo hi k = true then begunK s i n lo hi f (k + 1) else k := fun f k => by simp only [← e1]; rfl
  have c1 : begunC s i lo hi 1 = inB (B s (i + 1)) lo hi := rfl
  have c2 : begunC s i lo hi 2 = inB (B s (i + 2)) 128 191 := rfl
  have c3 : begunC s i lo hi 3 = inB (B s (i + 3)) 128 191 := rfl
  unfold bgT
  rw [st 3 1, c1]
  by_cases h1 : (1 : Int) < n ∧ 1 < s.size - i ∧ inB (B s (i + 1)) lo hi = true
  · rw [if_pos (by exact h1), if_pos h1, st 2 2, c2]
    by_cases h2 : (2 : Int) < n ∧ 2 < s.size - i ∧ inB (B s (i + 2)) 128 191 = true
    · rw [if_pos (by exact h2), if_pos h2, st 1 3, c3]
      by_cases h3 : (3 : Int) < n ∧ 3 < s.size - i ∧ inB (B s (i + 3)) 128 191 = true
      · rw [if_pos (by exact h3), if_pos h3, st 0 4, if_neg (by omega)]; rfl
      · rw [if_neg (by exact h3), if_neg h3]; rfl
    · rw [if_neg (by exact h2), if_neg h2]; rfl
  · rw [if_neg (by exact h1), if_neg h1]; rfl

theorem begunI_eq (s : ByteArray) (i : Nat) : begunI s i = if (leadI (B s i)).1 = 0 then ((0 : Int), (0 : Int)) else (bgT (leadI (B s i)) (s.size - i) (B s (i + 1)) (B s (i + 2)) (B s (i + 3)), (leadI (B s i)).1) := by
  unfold begunI
  rw [begunK_bg _ _ _ _ _ (leadI_bd _).2]
  simp [bAt_B]

theorem unit_at (s : ByteArray) (i : Nat) (h : i < s.size) :
    (wideI s i = 0 ∧ Utf8.decode s i = (65533, 1)) ∨
    (∃ w : Nat, 1 ≤ w ∧ w ≤ 4 ∧ i + w ≤ s.size ∧ wideI s i = w ∧ (Utf8.decode s i).2 = w ∧ ((Utf8.decode s i).1 : Int) = numT w (B s i) (B s (i + 1)) (B s (i + 2)) (B s (i + 3))) := by
  have ha := agree_all (s.size - i) (B s i) (B s (i + 1)) (B s (i + 2)) (B s (i + 3)) (by omega) (B_lt _ _) (B_lt _ _) (B_lt _ _) (B_lt _ _)
  unfold Agree at ha
  rw [← decode_B] at ha
  unfold wideI
  rw [begunI_eq]
  rcases ha with ⟨h1, h2⟩ | ⟨w, w1, w4, wN, hl, hb, hd, hn⟩
  · refine .inl ⟨?_, h2⟩
    by_cases hz : (leadI (B s i)).1 = 0
    · rw [if_pos hz]; rfl
    · rw [if_neg hz]
      have hne := h1.resolve_left hz
      simp [hne]
  · refine .inr ⟨w, w1, w4, by omega, ?_, hd, hn⟩
    have hw0 : w ≠ 0 := by omega
    simp [hl, hb, hw0]

theorem bAt_extract (s : ByteArray) (i w j : Nat) (hj : j < w) (hw : i + w ≤ s.size) : bAt (s.extract i (i + w)) j = B s (i + j) := by
  have hz : (s.extract i (i + w)).size = w := by rw [ByteArray.size_extract]; omega
  have h1 := bAt_eq (s.extract i (i + w)) j (by omega)
  have h2 := bAt_eq s (i + j) (by omega)
  rw [h1, ← bAt_B, h2, ByteArray.getElem_extract]
end Go.Proofs.YtbnnhbmnddaafaaGreatDoor

namespace Go.Proofs.YtbnnhbmnddaafaaGreatDoor
open Go Go.RowKit Go.Lib

def decP (s : ByteArray) (a : Int) : Int × Int :=
  if 0 ≤ a ∧ a < s.size then (((Utf8.decode s a.toNat).1 : Int), ((Utf8.decode s a.toNat).2 : Int)) else (65533, 0)
theorem decP_in (s : ByteArray) (i : Nat) (h : i < s.size) : decP s i = (((Utf8.decode s i).1 : Int), ((Utf8.decode s i).2 : Int)) := by
  unfold decP; rw [if_pos (by omega)]; simp
theorem decP_out (s : ByteArray) (a : Int) (h : a < 0 ∨ s.size ≤ a) : decP s a = (65533, 0) := by
  unfold decP; rw [if_neg (by omega)]
theorem B_extract (s : ByteArray) (i n k : Nat) (hn : i + n ≤ s.size) (h : k < n) : B (s.extract i (i + n)) k = B s (i + k) := by
  have := bAt_extract s i n k h hn
  rw [bAt_B] at this
  exact_mod_cast this
theorem B_out (s : ByteArray) (k : Nat) (h : s.size ≤ k) : B s k = 0 := by
  unfold B
  rw [List.getD_eq_getElem?_getD, List.getElem?_eq_none (by simpa using h)]; rfl
theorem B_tail (s : ByteArray) (i k : Nat) (hi : i ≤ s.size) : B (s.extract i s.size) k = B s (i + k) := by
  have hz : (s.extract i s.size).size = s.size - i := by rw [ByteArray.size_extract]; omega
  by_cases h : k < s.size - i
  · have := B_extract s i (s.size - i) k (by omega) h
    rw [show i + (s.size - i) = s.size by omega] at this
    exact this
  · rw [B_out _ _ (by omega), B_out _ _ (by omega)]
theorem decode_tail (s : ByteArray) (i : Nat) (hi : i < s.size) : decodeGo (s.extract i s.size) = Utf8.decode s i := by
  have hz : (s.extract i s.size).size = s.size - i := by rw [ByteArray.size_extract]; omega
  unfold decodeGo
  rw [if_neg (by omega), decode_B, decode_B, hz]
  simp only [B_tail s i _ (by omega), Nat.sub_zero, Nat.zero_add, Nat.add_zero]

theorem tabs_below {w w' : World} {n : Nat} (hT : Utf8Tabs 2 3 w) (hn : 4 ≤ n) (hb : Below n w w') : Utf8Tabs 2 3 w' :=
  ⟨fun c hc => (hb.cell (p := ⟨2, c, none⟩) (by show 2 < n; omega)).trans (hT.1 c hc), fun i hi => ⟨(hb.cell (p := ⟨3, 2 * i, none⟩) (by show 3 < n; omega)).trans (hT.2 i hi).1, (hb.cell (p := ⟨3, 2 * i + 1, none⟩) (by show 3 < n; omega)).trans (hT.2 i hi).2⟩⟩

theorem utfDecode_any (s : ByteArray) (a : Int) (w : World) (hT : Utf8Tabs 2 3 w) (_hs : s.size ≤ 4611686018427387904) :
    Calls Tryz.prog 21 #[.string s, .int .i64 a] w fun e w' => e = .returned (.tuple #[.int .i32 (decP s a).1, .int .i64 (decP s a).2]) ∧ Below w.heap.size w w' := by
  have HT := Lib.hid hT; clear hT
  by_cases hin : 0 ≤ a ∧ a < s.size
  · obtain ⟨i, rfl⟩ := Int.eq_ofNat_of_zero_le hin.1
    have hi : i < s.size := by omega
    have H := Lib.hid (decP_in s i hi)
    generalize decP s i = R at H ⊢
    have HD : Hid (∀ w, Utf8Tabs 2 3 w → Calls Tryz.prog 45 #[.string (s.extract i s.size)] w fun e w' => e = .returned (.tuple #[.int .i32 R.1, .int .i64 R.2]) ∧ Below w.heap.size w w') := Lib.hid fun w hT => by
      have := Tryz.utf8_DecodeRuneInString (s.extract i s.size) w hT
      rw [decode_tail s i hi] at this
      rw [H.out]; exact this
    clear H
    go_enter Tryz.func21, Tryz.ntmps21
    go_wp2_with (go_at_call 45; refine (HD.out _ HT.out).mono ?_; rintro e w' ⟨rfl, hb⟩)
    go_ret2
    exact ⟨rfl, hb⟩
  · have H := Lib.hid (decP_out s a (by omega))
    generalize decP s a = R at H ⊢
    by_cases h0 : a < 0
    · go_enter Tryz.func21, Tryz.ntmps21
      go_wp2
      go_ret2
      rw [H.out]; exact ⟨rfl, Below.refl _ _⟩
    · go_enter Tryz.func21, Tryz.ntmps21
      go_wp2
      go_ret2
      rw [H.out]; exact ⟨rfl, Below.refl _ _⟩
end Go.Proofs.YtbnnhbmnddaafaaGreatDoor
/- What is the same of any program: worlds that keep all blocks but some; an iterator that hands out a known list; a loop over such an iterator. -/
namespace Go.Kt
open Go Go.RowKit

structure Keep (X : Nat → Prop) (A B : World) : Prop where
  os : B.os = A.os
  tape : B.tape = A.tape
  output : B.output = A.output
  size : A.heap.size ≤ B.heap.size
  same : ∀ b, b < A.heap.size → ¬ X b → B.heap[b]? = A.heap[b]?

theorem Keep.refl (X : Nat → Prop) (A : World) : Keep X A A := ⟨rfl, rfl, rfl, Nat.le_refl _, fun _ _ _ => rfl⟩
theorem Keep.trans {X : Nat → Prop} {A B C : World} (h : Keep X A B) (k : Keep X B C) : Keep X A C :=
  ⟨k.os.trans h.os, k.tape.trans h.tape, k.output.trans h.output, Nat.le_trans h.size k.size, fun b hb hX => (k.same b (Nat.lt_of_lt_of_le hb h.size) hX).trans (h.same b hb hX)⟩
theorem Keep.weaken {X Y : Nat → Prop} {A B : World} (h : Keep X A B) (hXY : ∀ b, b < A.heap.size → X b → Y b) : Keep Y A B :=
  ⟨h.os, h.tape, h.output, h.size, fun b hb hY => h.same b hb fun hX => hY (hXY b hb hX)⟩
theorem Keep.of_below {X : Nat → Prop} {n : Nat} {A B : World} (h : Below n A B) (hX : ∀ b, b < A.heap.size → n ≤ b → X b) : Keep X A B :=
  ⟨h.os, h.tape, h.output, h.size, fun b hb hnX => h.block b (by
    rcases Nat.lt_or_ge b n with h' | h'
    · exact h'
    · exact absurd (hX b hb h') hnX)⟩
theorem Keep.of_all {X : Nat → Prop} {A B : World} (h : Below A.heap.size A B) : Keep X A B := .of_below h (fun b h1 h2 => absurd h1 (by omega))
theorem Keep.below {X : Nat → Prop} {n : Nat} {A B : World} (h : Keep X A B) (hn : n ≤ A.heap.size) (hX : ∀ b, X b → n ≤ b) : Below n A B :=
  ⟨h.os, h.tape, h.output, h.size, fun b hb => h.same b (by omega) fun hx => absurd (hX b hx) (by omega)⟩
theorem Keep.alloc {X : Nat → Prop} {A B : World} (h : Keep X A B) (o : Obj) : Keep X A (B.alloc o) :=
  h.trans (.of_all ((Below.refl _ B).alloc (Nat.le_refl _) o))
theorem Keep.drew {X : Nat → Prop} {A B : World} (h : Keep X A B) : Keep X A B.drew := h.trans ⟨rfl, rfl, rfl, Nat.le_refl _, fun _ _ _ => rfl⟩
theorem Keep.setCell {X : Nat → Prop} {A B : World} (h : Keep X A B) {p : Addr} (hp : X p.block) (u : Value) : Keep X A (B.setCell p u) :=
  h.trans ⟨rfl, rfl, rfl, by simp, fun b _ hb => Below.heap_setCell B p u b (fun e => hb (e ▸ hp))⟩
theorem Keep.then {X : Nat → Prop} {A B C : World} (h : Keep X A B) (k : Below A.heap.size B C) : Keep X A C :=
  ⟨k.os.trans h.os, k.tape.trans h.tape, k.output.trans h.output, Nat.le_trans h.size k.size, fun b hb hX => (k.block b hb).trans (h.same b hb hX)⟩
theorem Keep.putObj {X : Nat → Prop} {A B : World} (h : Keep X A B) {l : Nat} (hl : X l ∨ A.heap.size ≤ l) (o : Obj) : Keep X A (B.putObj l o) :=
  ⟨h.os, h.tape, h.output, by simpa using h.size, fun b hb hX => (World.putObj_heap_other (fun e => by subst e; rcases hl with hl | hl; exact hX hl; omega)).trans (h.same b hb hX)⟩
theorem Keep.heap {X : Nat → Prop} {A B : World} (h : Keep X A B) {b : Nat} {o : Obj} (hb : A.heap[b]? = some o) (hX : ¬ X b) : B.heap[b]? = some o :=
  (h.same b (Array.getElem?_eq_some_iff.1 hb).1 hX).trans hb
theorem lt_of_cell {A : World} {p : Addr} {v : Value} (h : A.cell? p = some v) : p.block < A.heap.size := by
  rcases Nat.lt_or_ge p.block A.heap.size with h' | h'
  · exact h'
  · have : A.heap[p.block]? = none := Array.getElem?_eq_none h'
    simp [World.cell?, this] at h
theorem Keep.cell {X : Nat → Prop} {A B : World} (h : Keep X A B) {p : Addr} {v : Value} (hc : A.cell? p = some v) (hX : ¬ X p.block) : B.cell? p = some v :=
  (World.cell?_of_block (w := A) (h.same p.block (lt_of_cell hc) hX)).trans hc
theorem Keep.frozen {X : Nat → Prop} {A B : World} (h : Keep X A B) {p : Addr} (hp : p.block < A.heap.size) (hX : ¬ X p.block) : B.frozen? p = A.frozen? p :=
  World.frozen?_of_block (w := A) (h.same p.block hp hX)
theorem below_putObj {n : Nat} {B : World} {l : Nat} (hl : n ≤ l) (o : Obj) : Below n B (B.putObj l o) :=
  ⟨rfl, rfl, rfl, by simp, fun _ hk => World.putObj_heap_other (by omega)⟩

def Low {β : Type} (B : Nat) (J : β → (Nat → Prop) → World → Prop) : Prop := ∀ s Y W W', Keep (fun b => B ≤ b ∧ ¬ Y b) W W' → J s Y W → J s Y W'
theorem Low.mono {β : Type} {B B' : Nat} {J : β → (Nat → Prop) → World → Prop} (h : Low B J) (hB : B ≤ B') : Low B' J := fun s Y W W' hk => h s Y W W' (hk.weaken fun _ _ hb => ⟨Nat.le_trans hB hb.1, hb.2⟩)
theorem Low.and {β : Type} {B : Nat} {I J : β → (Nat → Prop) → World → Prop} (h : Low B I) (k : Low B J) : Low B (fun s Y W => I s Y W ∧ J s Y W) := fun s Y W W' hb hs => ⟨h s Y W W' hb hs.1, k s Y W W' hb hs.2⟩
def Iter {α : Type} (P : Program) (gf : Nat) (lb : Array Value) (encs : α → Array Value) (L : List α) (Nd : Nat → Prop) (w0 : World) : Prop :=
  ∀ (l : Nat) (X : Nat → Prop) (J Jx : List α → (Nat → Prop) → World → Prop) (W : World),
    (∀ b, Nd b → ¬ X b) → (∀ b, X b → b < W.heap.size) → (∀ b, Nd b → W.heap[b]? = w0.heap[b]?) → w0.heap.size ≤ W.heap.size →
    Low W.heap.size J → Low W.heap.size Jx →
    (∀ pre x Y W1, pre ++ [x] <+: L → J pre Y W1 → W.heap.size ≤ W1.heap.size → (∀ b, Y b → W.heap.size ≤ b) → YieldAt Fence.wide 0 P l (encs x) W1 fun e W' =>
      ∃ Y', Keep (fun b => X b ∨ Y b) W1 W' ∧ (∀ b, Y' b → Y b ∨ W1.heap.size ≤ b) ∧ ((e = .returned (.bool true) ∧ J (pre ++ [x]) Y' W') ∨ (e = .returned (.bool false) ∧ Jx (pre ++ [x]) Y' W'))) →
    J [] (fun _ => False) W →
    Calls P gf (#[.func (.yield l) #[] #[]] ++ lb) W fun e W' => (∃ v, e = .returned v) ∧ Keep X W W' ∧ ((∃ Y, (∀ b, Y b → W.heap.size ≤ b) ∧ J L Y W') ∨ ∃ pre Y, pre <+: L ∧ (∀ b, Y b → W.heap.size ≤ b) ∧ Jx pre Y W')

def Left {α : Type} (X Y : Nat → Prop) (I : List α → (Nat → Prop) → World → Prop) (xs : List α) (W W' : World) : Prop :=
  ∃ Y', Keep (fun b => X b ∨ Y b) W W' ∧ (∀ b, Y' b → Y b ∨ W.heap.size ≤ b) ∧ I xs Y' W'
def roundEnd {α : Type} (X Y : Nat → Prop) (I : List α → (Nat → Prop) → World → Prop) (Ix : Code → List α → (Nat → Prop) → World → Prop) (xs : List α) (W : World) : Exit → Act → World → Prop
  | .normal, _, W' => Left X Y I xs W W'
  | .ret, _, W' => Left X Y (Ix .ret) xs W W'
  | .exit id, _, W' => Left X Y (Ix (.exit id)) xs W W'
  | .goto t, _, W' => Left X Y (Ix (.goto t)) xs W W'
  | .panic _, _, _ => False
  | .outgrown, _, _ => False

variable {P : Program}

def Round {α : Type} (P : Program) (ps : Array Tmp) (assign body : Code) (tmps : Array Value) (encs : α → Array Value) (L : List α) (X : Nat → Prop) (I : List α → (Nat → Prop) → World → Prop) (Ix : Code → List α → (Nat → Prop) → World → Prop) (w : World) (l : Nat) : Prop :=
  ∀ (pre : List α) (x : α) (Y : Nat → Prop) (W : World), pre ++ [x] <+: L → I pre Y W → Keep X w W → (∀ b, Y b → w.heap.size ≤ b ∧ b ≠ l) → l < W.heap.size → (∃ r, W.heap[l]? = some (.loop r)) →
    assign.wpIn (Fence.wide.inRound l) 0 P (Exit.then (fun a₁ w₁ => Keep (fun _ => False) W w₁ ∧
        (∀ W2, Keep (fun b => b = l) w₁ W2 → Keep X w W2 → I pre Y W2 → (∃ r, W2.heap[l]? = some (.loop r)) → body.wpIn (Fence.wide.inRound l) 0 P (roundEnd X Y I Ix (pre ++ [x]) W2) a₁ W2)) (fun _ _ _ => False))
      { tmps := (ps.zip (encs x)).foldl (fun t (p, v) => t.setIfInBounds p v) tmps, defers := [] } W

end Go.Kt
/- What is the same of any program: a slice that the call itself builds, element by element. -/
namespace Go.Kt
open Go Go.RowKit
variable {P : Program}

def OwnS (Y : Nat → Prop) (e : TypeId) (size : Nat) (v : Value) (n : Nat) (xs : List Value) (W : World) : Prop :=
  W.ownsRow 0 e size v n xs ∧ ∀ g, v.ownBlock = some g → Y g

theorem own_nil (e : TypeId) (size : Nat) (W : World) (Y : Nat → Prop) : OwnS Y e size (.slice none 0 0) 0 [] W := ⟨World.ownsRow_nil W 0 e size, fun _ h => by cases h⟩
theorem keep_grown {A B : World} {row : Option Nat} (hg : A.grownBy B row) : Keep (fun b => row = some b) A B :=
  ⟨hg.os, hg.tape, hg.output, hg.size, fun b hb hr => hg.block b hb (fun e => hr e.symm)⟩
theorem OwnS.keep {Y X : Nat → Prop} {e : TypeId} {size n : Nat} {v : Value} {xs : List Value} {A B : World} (h : OwnS Y e size v n xs A) (hk : Keep X A B) (hX : ∀ b, X b → ¬ Y b) : OwnS Y e size v n xs B := by
  obtain ⟨⟨hl, h2⟩, hY⟩ := h
  refine ⟨⟨hl, ?_⟩, hY⟩
  rcases h2 with h2 | ⟨g, cap, cur, rfl, hb, hg, rest⟩
  · exact .inl h2
  · exact .inr ⟨g, cap, cur, rfl, hb, hk.heap hg (fun hx => hX g hx (hY g rfl)), rest⟩
theorem OwnS.weaken {Y Z : Nat → Prop} {e : TypeId} {size n : Nat} {v : Value} {xs : List Value} {A : World} (h : OwnS Y e size v n xs A) (hY : ∀ b, Y b → Z b) : OwnS Z e size v n xs A := ⟨h.1, fun g hg => hY g (h.2 g hg)⟩

theorem append_x (W : World) (t e : TypeId) {z : Value} {size bytes : Nat} (ht : P.underlying t = some (.slice e)) (hinfo : (P.info? e).map (fun i => (i.zero, i.size, i.bytes)) = some (some z, size, bytes))
    (hzs : z.cells.size = size) (hsz : 0 < size) {Y : Nat → Prop} {v : Value} {n : Nat} {xs : List Value} (hown : OwnS Y e size v n xs W)
    (news : List Value) (hl : news.length = size) (h1 : ∀ u ∈ news, u.oneCell' = true) (h63 : n + 1 ≤ maxLen) (hbytes : (n + 1) * bytes ≤ 140737488355328) :
    ∃ g cap w', (∀ ty, (Builtin.append_ #[t, t] ty #[v, .slice (some ⟨W.heap.size, 0, none⟩) 1 1]).run P (W.alloc (.cells news.toArray e)) = .ok (.slice (some ⟨g, 0, none⟩) (n + 1) cap) w') ∧
      OwnS (fun b => b = g) e size (.slice (some ⟨g, 0, none⟩) (n + 1) cap) (n + 1) (xs ++ news) w' ∧ Keep (fun b => v.ownBlock = some b) W w' ∧ (v.ownBlock = some g ∨ W.heap.size < g) ∧ W.heap.size < w'.heap.size := by
  obtain ⟨i, hi, hz, hs1, hb1⟩ := info_parts hinfo
  have hc : ∀ j u, news[j]? = some u → (W.alloc (.cells news.toArray e)).cell? ((⟨W.heap.size, 0, none⟩ : Addr).add j) = some u := fun j u hj => by
    have hh := World.alloc_heap_new W (.cells news.toArray e)
    rw [Addr.add_lit, Lib.cell_of_heap hh]
    simpa using hj
  have hown' : (W.alloc (.cells news.toArray e)).ownsRow 0 e size v n xs := hown.1.alloc _
  obtain ⟨v', w', hrun, r1, r2, r3⟩ := run_append_own (P := P) (W.alloc (.cells news.toArray e)) 0 t 0 e i z size bytes ht hi hz hs1 hb1 hzs hsz v n xs hown' ⟨W.heap.size, 0, none⟩ 1 1 news (by omega) hc h1 h63 hbytes (Nat.zero_le _)
  have hrun' : ∀ ty, (Builtin.append_ #[t, t] ty #[v, .slice (some ⟨W.heap.size, 0, none⟩) 1 1]).run P (W.alloc (.cells news.toArray e)) = .ok v' w' := fun ty => hrun
  have hK : Keep (fun b => v.ownBlock = some b) W w' := ((Keep.refl _ W).alloc _).trans (keep_grown r2)
  have hsz' : W.heap.size < w'.heap.size := by have := r2.size; simp at this; omega
  rcases r1.2 with ⟨_, h⟩ | ⟨g, cap, cur, rfl, hb, hg, rest⟩
  · omega
  refine ⟨g, cap, w', hrun', ⟨r1, fun g' h => by cases h; rfl⟩, hK, ?_, hsz'⟩
  -- where it lies
  rcases hown'.2 with ⟨hv, hn⟩ | ⟨g0, cap0, cur0, hv, hb0, hg0, hnc, hcm, hcs, _⟩
  · -- no row yet: a new one
    right
    obtain ⟨v2, w2, hrun2, q1, q2, q3⟩ := run_append_own (P := P) (W.alloc (.cells news.toArray e)) (W.heap.size + 1) t 0 e i z size bytes ht hi hz hs1 hb1 hzs hsz v n xs ⟨hown'.1, .inl ⟨hv, hn⟩⟩ ⟨W.heap.size, 0, none⟩ 1 1 news (by omega) hc h1 h63 hbytes (by simp)
    rw [hrun] at hrun2
    injection hrun2 with e1 e2
    subst e1; subst e2
    exact (q1.lt g rfl).1
  · subst hv
    by_cases hroom : n + 1 ≤ cap0
    · left
      have hr := run_append_room (P := P) (W.alloc (.cells news.toArray e)) t 0 e i ht hi g0 n cap0 cur0 hg0 ⟨W.heap.size, 0, none⟩ 1 1 news (by omega) hc h1 hroom (by rw [hs1, hcs, hl, ← Nat.succ_mul]; exact Nat.mul_le_mul_right _ hroom)
      rw [hrun] at hr
      injection hr with e1 e2
      injection e1 with e1 _ _
      injection e1 with e1
      injection e1 with e1
      subst e1
      rfl
    · right
      have holds : ∀ j u, xs[j]? = some u → (W.alloc (.cells news.toArray e)).cell? ((⟨g0, 0, none⟩ : Addr).add j) = some u := hown'.cells (g := g0) rfl
      have hsmall : n + 1 ≤ 9223372036854775807 := by simp only [maxLen] at h63; omega
      have hr := run_append_grow (P := P) (W.alloc (.cells news.toArray e)) t 0 e i z ht hi hz ⟨g0, 0, none⟩ n cap0 xs (by rw [hs1]; exact hown'.1) holds ⟨W.heap.size, 0, none⟩ 1 1 news (by omega) hc (by omega) (by omega) (by rw [hb1]; exact growslice_fits (by omega) hbytes)
      rw [hrun] at hr
      injection hr with e1 e2
      injection e1 with e1 _ _
      injection e1 with e1
      injection e1 with e1
      subst e1
      simp

theorem append_str (W : World) (t u e : TypeId) (ht : P.underlying t = some (.slice e)) (hu : P.underlying u = some .string) (hinfo : (P.info? e).map (fun i => (i.zero, i.size, i.bytes)) = some (some (.int .u8 0), 1, 1))
    {v : Value} {n : Nat} {xs : List Value} (hown : W.ownsRowF 0 e 1 v n xs) (s : ByteArray) (h63 : n + s.size ≤ 140737488355328) :
    ∃ v' w', (∀ ty, (Builtin.append_ #[t, u] ty #[v, .string s]).run P W = .ok v' w') ∧ w'.ownsRowF 0 e 1 v' (n + s.size) (xs ++ Lib.strCells s) ∧
      Keep (fun b => v.ownBlock = some b) W w' ∧ (∀ g, v'.ownBlock = some g → v.ownBlock = some g ∨ W.heap.size ≤ g) := by
  obtain ⟨i, hi, hz, hs1, hb1⟩ := info_parts hinfo
  have hm : n + s.size ≤ maxLen := by unfold maxLen; omega
  obtain ⟨v', w', hrun, r1, r2, r3⟩ := Lib.run_append_own_stringF (P := P) W 0 t u 0 e i ht hu hi hz hs1 hb1 v n xs hown s hm h63 (Nat.zero_le _)
  refine ⟨v', w', fun ty => hrun, r1, keep_grown r2, ?_⟩
  intro g hg
  rcases hown.2 with ⟨hv, hn⟩ | ⟨g0, cap0, cur0, fz0, hv, hb0, hg0, hfz, hnc, hcm, hcs, htk⟩
  · right
    obtain ⟨v2, w2, hrun2, q1, _⟩ := Lib.run_append_own_stringF (P := P) W W.heap.size t u 0 e i ht hu hi hz hs1 hb1 v n xs ⟨hown.1, .inl ⟨hv, hn⟩⟩ s hm h63 (Nat.le_refl _)
    rw [hrun] at hrun2
    injection hrun2 with e1 e2
    subst e1; subst e2
    rcases q1.2 with ⟨h, _⟩ | ⟨g', _, _, _, h, hb', _⟩
    · rw [h] at hg; cases hg
    · rw [h] at hg; cases hg; exact hb'
  · subst hv
    have hcs' : cur0.size = cap0 := by simpa using hcs
    by_cases hroom : n + s.size ≤ cap0
    · left
      have hr := Lib.run_append_room_stringF (P := P) W t u 0 e i ht hu hi hs1 g0 n cap0 cur0 fz0 hg0 (by simpa using hfz) s hroom (by omega)
      rw [hrun] at hr
      injection hr with e1 e2
      subst e1
      exact hg
    · right
      have holds : ∀ j x, xs[j]? = some x → W.cell? ((⟨g0, 0, none⟩ : Addr).add j) = some x := hown.cells (g := g0) rfl
      have hr := Lib.run_append_grow_string (P := P) W t u 0 e i (.int .u8 0) ht hu hi hz ⟨g0, 0, none⟩ n cap0 xs (by rw [hs1]; exact hown.1) holds s (by omega) (by omega) (by rw [hb1]; exact growslice_fits (by omega) (by omega))
      rw [hrun] at hr
      injection hr with e1 e2
      subst e1
      cases hg
      exact Nat.le_refl _

theorem wpList_append_eq {ops : Array Oper} {rest : List Oper} {o : Oper} {a : Act} {Q : Exit → Act → World → Prop} {w w' : World} {v' x y : Value} (hgd : o.guard = none) {sl ar : Operand} {t u : TypeId}
    (ho : o.op = .call { callee := .builtin .append, args := #[sl, ar], argTypes := #[t, u] }) (hs : a.eval sl = x) (hx : a.eval ar = y)
    (hrun : ∀ ty, (Builtin.append_ #[t, u] ty #[x, y]).run P w = .ok v' w') (h : wpList P ops Q rest (a.put o.dst v') w') : wpList P ops Q (o :: rest) a w := by
  refine wpList_plain hgd fun K hK => ?_
  unfold Oper.wp execOp
  simp only [ho, resolve, invoke, builtin, Sem.run_bind, Sem.run_pure, Result.andThen_ok, List.map_toArray, List.map_cons, List.map_nil, hs, hx, hrun]
  exact hK _ _ h
end Go.Kt
/- What is the same of any program: a loop with a known number of rounds at the most, whose rounds may leave marks on the activation. -/
namespace Go.Kt
open Go Go.RowKit
variable {P : Program}

theorem alloc_at {A : World} {o : Obj} {k : Nat} (hk : k = A.heap.size) : (A.alloc o).heap[k]? = some o := by rw [hk]; exact World.alloc_heap_new A o
theorem alloc_old {A : World} {o x : Obj} {k : Nat} (h : A.heap[k]? = some x) : (A.alloc o).heap[k]? = some x := ((Keep.refl (fun _ => False) A).alloc o).heap h (fun h => h)
end Go.Kt
/- Lists that are read: two held against each other; a text of numbers; one unit; whether a text is right. -/
namespace Go.Proofs.YtbnnhbmnddaafaaGreatDoor
open Go Go.RowKit Go.Kt

def Sl (k : IntKind) (W : World) (v : Value) (l : List Int) : Prop :=
  ∃ ao cap, v = .slice ao l.length cap ∧ (l = [] ∨ ∃ g off, ao = some ⟨g, off, none⟩ ∧ ∀ i x, l[i]? = some x → W.cell? ⟨g, off + i, none⟩ = some (.int k x))

theorem Sl.keep {k : IntKind} {X : Nat → Prop} {A B : World} {v : Value} {l : List Int} (h : Sl k A v l) (hk : Keep X A B) (hX : ∀ ao n cap, v = .slice ao n cap → ∀ g off, ao = some ⟨g, off, none⟩ → ¬ X g) : Sl k B v l := by
  obtain ⟨ao, cap, rfl, h⟩ := h
  refine ⟨ao, cap, rfl, ?_⟩
  rcases h with h | ⟨g, off, rfl, h⟩
  · exact .inl h
  · exact .inr ⟨g, off, rfl, fun i x hx => hk.cell (h i x hx) (hX _ _ _ rfl g off rfl)⟩
theorem Sl.below {k : IntKind} {A B : World} {v : Value} {l : List Int} (h : Sl k A v l) (hb : Below A.heap.size A B) : Sl k B v l := h.keep (X := fun _ => False) (.of_all hb) (fun _ _ _ _ _ _ _ h => h)

def Drawn (w w' : World) : Prop := ∃ n, w' = w.drewN n
theorem Drawn.below {w w' : World} (h : Drawn w w') : Below w.heap.size w w' := by obtain ⟨n, rfl⟩ := h; exact ⟨rfl, rfl, rfl, Nat.le_refl _, fun _ _ => rfl⟩
theorem Drawn.more {w w' : World} (h : Drawn w w') (n : Nat) : Drawn w (w'.drewN n) := by obtain ⟨m, rfl⟩ := h; exact ⟨m + n, World.drewN_drewN ..⟩
theorem Drawn.refl (w : World) : Drawn w w := ⟨0, rfl⟩
theorem Drawn.cell {w w' : World} (h : Drawn w w') (p : Addr) : w'.cell? p = w.cell? p := by obtain ⟨n, rfl⟩ := h; rfl
def SameOut (l1 l2 : List Int) (w : World) (e : Ending) (w' : World) : Prop := e = .returned (.bool (decide (l1 = l2))) ∧ Drawn w w'

end Go.Proofs.YtbnnhbmnddaafaaGreatDoor

namespace Go.Proofs.YtbnnhbmnddaafaaGreatDoor
open Go Go.RowKit Go.Lib

def CharAt (w b0 b1 b2 b3 : Nat) : Prop :=
  (w = 1 ∧ b0 < 128) ∨ (w = 2 ∧ 194 ≤ b0 ∧ b0 < 224 ∧ 128 ≤ b1 ∧ b1 ≤ 191) ∨
  (w = 3 ∧ 224 ≤ b0 ∧ b0 < 240 ∧ 128 ≤ b1 ∧ b1 ≤ 191 ∧ (b0 = 224 → 160 ≤ b1) ∧ (b0 = 237 → b1 ≤ 159) ∧ 128 ≤ b2 ∧ b2 ≤ 191) ∨
  (w = 4 ∧ 240 ≤ b0 ∧ b0 < 245 ∧ 128 ≤ b1 ∧ b1 ≤ 191 ∧ (b0 = 240 → 144 ≤ b1) ∧ (b0 = 244 → b1 ≤ 143) ∧ 128 ≤ b2 ∧ b2 ≤ 191 ∧ 128 ≤ b3 ∧ b3 ≤ 191)

theorem lead_1 (b0 : Nat) (h : b0 < 128) : leadI b0 = (1, 0, 0) := by unfold leadI; rw [if_pos (by omega)]

theorem bgT_char (N b0 b1 b2 b3 w : Nat) (hw1 : 1 ≤ w) (hw4 : w ≤ 4) (hN : 1 ≤ N) (c0 : b0 < 256) :
    ((leadI b0).1 = w ∧ bgT (leadI b0) N b1 b2 b3 = w) ↔ (w ≤ N ∧ CharAt w b0 b1 b2 b3) := by
  unfold CharAt
  by_cases h0 : b0 < 128
  · rw [lead_1 b0 h0]; simp only [bgT, inB_iff]; rw [if_neg (by omega)]; omega
  by_cases h1 : (128 ≤ b0 ∧ b0 < 194) ∨ 245 ≤ b0
  · rw [lead_bad b0 h1]; simp only; omega
  by_cases h2 : b0 < 224
  · rw [lead_2 b0 (by omega)]; simp only [bgT, inB_iff]
    split
    · rw [if_neg (by omega)]; omega
    · omega
  by_cases h3 : b0 < 240
  · rw [lead_3 b0 (by omega)]; simp only [bgT, inB_iff]
    have e1 : (if b0 = 224 then 160 else 128) = (if b0 = 224 then 160 else 128 : Nat) := rfl
    generalize hlo : (if b0 = 224 then 160 else 128 : Nat) = lo
    generalize hhi : (if b0 = 237 then 159 else 191 : Nat) = hi
    have hlo' : (b0 = 224 ∧ lo = 160) ∨ (b0 ≠ 224 ∧ lo = 128) := by split at hlo <;> omega
    have hhi' : (b0 = 237 ∧ hi = 159) ∨ (b0 ≠ 237 ∧ hi = 191) := by split at hhi <;> omega
    clear hlo hhi e1
    split
    · split
      · rw [if_neg (by omega)]; omega
      · omega
    · omega
  · rw [lead_4 b0 (by omega)]; simp only [bgT, inB_iff]
    generalize hlo : (if b0 = 240 then 144 else 128 : Nat) = lo
    generalize hhi : (if b0 = 244 then 143 else 191 : Nat) = hi
    have hlo' : (b0 = 240 ∧ lo = 144) ∨ (b0 ≠ 240 ∧ lo = 128) := by split at hlo <;> omega
    have hhi' : (b0 = 244 ∧ hi = 143) ∨ (b0 ≠ 244 ∧ hi = 191) := by split at hhi <;> omega
    clear hlo hhi
    split
    · split
      · split <;> omega
      · omega
    · omega

theorem wide_iff (s : ByteArray) (i w : Nat) (hi : i < s.size) (hw1 : 1 ≤ w) (hw4 : w ≤ 4) :
    wideI s i = w ↔ (i + w ≤ s.size ∧ CharAt w (B s i) (B s (i + 1)) (B s (i + 2)) (B s (i + 3))) := by
  have hb := bgT_char (s.size - i) (B s i) (B s (i + 1)) (B s (i + 2)) (B s (i + 3)) w hw1 hw4 (by omega) (B_lt _ _)
  have e : (i + w ≤ s.size) ↔ (w ≤ s.size - i) := by omega
  rw [e, ← hb]
  unfold wideI
  rw [begunI_eq]
  by_cases hz : (leadI (B s i)).1 = 0
  · rw [if_pos hz]; simp [hz]; omega
  · rw [if_neg hz]
    by_cases hq : bgT (leadI (B s i)) (s.size - i) (B s (i + 1)) (B s (i + 2)) (B s (i + 3)) = (leadI (B s i)).1
    · simp [hq]
    · simp only [bne_iff_ne, ne_eq, hq, not_false_eq_true, if_true]
      omega
theorem decode_wide (s : ByteArray) (i : Nat) (hi : i < s.size) :
    (wideI s i = 0 ∧ Utf8.decode s i = (65533, 1)) ∨ (∃ w : Nat, 1 ≤ w ∧ w ≤ 4 ∧ i + w ≤ s.size ∧ wideI s i = w ∧ (Utf8.decode s i).2 = w) := by
  rcases unit_at s i hi with h | ⟨w, h1, h2, h3, h4, h5, _⟩
  · exact .inl h
  · exact .inr ⟨w, h1, h2, h3, h4, h5⟩
end Go.Proofs.YtbnnhbmnddaafaaGreatDoor

namespace Go.Proofs.YtbnnhbmnddaafaaGreatDoor
open Go Go.RowKit Go.Lib

def befK (s : ByteArray) (n : Nat) : Nat → Nat → Int × Int
  | 0, _ => (65533, 1)
  | f + 1, k => if k ≤ 4 ∧ k ≤ n then (if wideI s (n - k) = k then (((Utf8.decode s (n - k)).1 : Int), (k : Int)) else befK s n f (k + 1)) else (65533, 1)
def befP (s : ByteArray) (a : Int) : Int × Int := if 1 ≤ a ∧ a ≤ s.size then befK s a.toNat 5 1 else (65533, 0)

end Go.Proofs.YtbnnhbmnddaafaaGreatDoor

namespace Go.Proofs.YtbnnhbmnddaafaaGreatDoor
open Go Go.RowKit Go.Lib

def Ends (s : ByteArray) (n w : Nat) : Prop := 1 ≤ w ∧ w ≤ 4 ∧ w ≤ n ∧ wideI s (n - w) = w

/-! the library's decoder of the last rune -/
def preL (s : ByteArray) (n : Nat) : List UInt8 := (s.extract 0 n).data.toList
end Go.Proofs.YtbnnhbmnddaafaaGreatDoor

namespace Go.Proofs.YtbnnhbmnddaafaaGreatDoor
open Go Go.RowKit Go.Lib

end Go.Proofs.YtbnnhbmnddaafaaGreatDoor

namespace Go.Proofs.YtbnnhbmnddaafaaGreatDoor
open Go Go.RowKit Go.Kt Go.Shelf
attribute [local go_sem] Oper.semAt_some

theorem run_next_str {P : Program} (W : World) (k : Nat) (s : ByteArray) (pos : Nat) (ty : TypeId) (hb : W.heap[k]? = some (.stringIter s pos)) (h : pos < s.size) :
    (Instr.next (.pointer (some ⟨k, 0, none⟩)) true ty).run P W =
      .ok (.tuple #[.bool true, .int .i64 pos, .int .i32 (Utf8.decode s pos).1]) (W.putObj k (.stringIter s (pos + (Utf8.decode s pos).2))) := by
  simp only [Instr.next, getObj, setObj, Sem.run_bind, Sem.run, hb, Result.andThen, h, if_true]
  simp [goInt, World.putObj]
theorem run_next_str_end {P : Program} (W : World) (k : Nat) (s : ByteArray) (pos : Nat) (ty : TypeId) (hb : W.heap[k]? = some (.stringIter s pos)) (h : ¬ pos < s.size) :
    (Instr.next (.pointer (some ⟨k, 0, none⟩)) true ty).run P W = .ok (.tuple #[.bool false]) W := by
  simp [Instr.next, getObj, Sem.run, hb, h]

def unitsF (s : ByteArray) : Nat → Nat → List (Nat × Nat)
  | 0, _ => []
  | f + 1, pos => if pos < s.size then (pos, (Utf8.decode s pos).1) :: unitsF s f (pos + (Utf8.decode s pos).2) else []
def units (s : ByteArray) : List (Nat × Nat) := unitsF s s.size 0
abbrev enc2 (p : Nat × Nat) : Array Value := #[.int .i64 p.1, .int .i32 p.2]

theorem dec_width (s : ByteArray) (pos : Nat) (h : pos < s.size) : 1 ≤ (Utf8.decode s pos).2 ∧ (Utf8.decode s pos).2 ≤ 4 ∧ pos + (Utf8.decode s pos).2 ≤ s.size := by
  rcases decode_wide s pos h with ⟨_, e⟩ | ⟨w, h1, h4, hw, _, e⟩
  · rw [e]; simp; omega
  · omega
def iterPos (W : World) (k : Nat) : Nat := match W.heap[k]? with | some (.stringIter _ p) => p | _ => 0
theorem iterPos_eq {W : World} {k : Nat} {s : ByteArray} {p : Nat} (h : W.heap[k]? = some (.stringIter s p)) : iterPos W k = p := by simp [iterPos, h]

end Go.Proofs.YtbnnhbmnddaafaaGreatDoor

namespace Go.Proofs.YtbnnhbmnddaafaaGreatDoor
open Go Go.RowKit Go.Lib

theorem below_drewN {B : Nat} {a w : World} (h : Below B a w) (n : Nat) : Below B a (w.drewN n) := ⟨h.os, h.tape, h.output, h.size, h.block⟩
def fullK (k lo hi : Nat) (n b1 b2 : Nat) : Bool :=
  if k ≤ n then true else if 1 < n ∧ (b1 < lo ∨ hi < b1) then true else if 2 < n ∧ (b2 < 128 ∨ 191 < b2) then true else false

end Go.Proofs.YtbnnhbmnddaafaaGreatDoor

namespace Go.Proofs.YtbnnhbmnddaafaaGreatDoor
open Go Go.RowKit Go.Lib

def fullB (s : ByteArray) : Bool := if s.size = 0 then false else (((begunI s 0).1 == (begunI s 0).2) || decide ((begunI s 0).1 < s.size))

end Go.Proofs.YtbnnhbmnddaafaaGreatDoor

namespace Go.Proofs.YtbnnhbmnddaafaaGreatDoor
open Go Go.RowKit Go.Lib

def pieceK (s : ByteArray) : Nat → Nat → Nat
  | 0, n => n
  | f + 1, n => if n < s.size ∧ fullB (s.extract 0 (n + 1)) = false then pieceK s f (n + 1) else n

def illB (s : ByteArray) (i : Nat) : Bool := wideI s i == 0
end Go.Proofs.YtbnnhbmnddaafaaGreatDoor

namespace Go.Proofs.YtbnnhbmnddaafaaGreatDoor
open Go Go.RowKit Go.Lib

def badK (s : ByteArray) (i : Nat) : Nat := ((begunI s i).1).toNat.max 1
def badsF (s : ByteArray) : Nat → Nat → List (Nat × Nat)
  | 0, _ => []
  | f + 1, i => if i < s.size then (if wideI s i = 0 then (i, badK s i) :: badsF s f (i + badK s i) else badsF s f (i + (wideI s i).toNat)) else []
def bads (s : ByteArray) : List (Nat × Nat) := badsF s s.size 0

def badU (s : ByteArray) : Nat → Nat → Nat → List (Nat × Nat)
  | 0, _, _ => []
  | f + 1, p, e => if p < s.size then (if p < e ∨ wideI s p ≠ 0 then badU s f (p + (Utf8.decode s p).2) e else (p, badK s p) :: badU s f (p + (Utf8.decode s p).2) (p + badK s p)) else []
end Go.Proofs.YtbnnhbmnddaafaaGreatDoor
