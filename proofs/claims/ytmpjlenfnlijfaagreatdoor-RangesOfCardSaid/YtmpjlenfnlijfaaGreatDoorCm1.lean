/- Parts of the proof of what the last text says. -/
import Derived.Test.YtmpjlenfnlijfaaGreatDoorTie
import Derived.WalkKit
import Derived.ProofKit
import Derived.OpenShut
import Derived.PinnedBridge
import Derived.Lib.LaidU8
import Derived.Lay
import Derived.LaidMore
import Derived.Deep.DeepHandedRow
import Derived.Test.YtmpjlenfnlijfaaGreatDoorProg
import Derived.WalkLawsBesides
import Derived.WalkSpells
import Derived.Lib.Hide
import Derived.Deep.QuietTactic
import Derived.BigQuiet
import Derived.Shelf.Strings.Builder1
import Derived.Shelf.Small.Utf8
import Derived.Shelf.Strings.BuilderF
import Derived.Shelf.Strings.BuilderK
import Derived.Shelf.Unicode.DecodeSlow
import Derived.Shelf.Unicode.DecodeAny
import Derived.Shelf.Unicode.DecodeLast
import Derived.Shelf.Strings.BuilderCap
import Derived.Handy
import Derived.Lib.DecodeN
import Derived.RangeFuncNested
import Derived.RangeFuncLeaves
import Derived.RangeFuncCalls
import Derived.Below
import Derived.Lib.FrozenHead
import Derived.OwnWalkIn
import Derived.LoopNIn
import Derived.Laws.ResultCell
import Derived.Laws.Rows
import Derived.Lib.TrimUEq
import Derived.RangeFuncBound
import Derived.Shelf.Abstract
import Derived.Shelf.RegionOpen
import Derived.TacticsInMore
import Derived.LoopIn
import Derived.Deep.Draws
import Derived.Laws.IdiomStrings
import Derived.Laws.Cover4
import Derived.Laws.MakeOwn
import Derived.Sort.QuietIn
import Derived.Sort.QuietTacIn
/- What the listed tables give the walks, and the world that the witnesses start in. -/
namespace Go.Proofs.YtmpjlenfnlijfaaGreatDoor
open Go.Lib Go.Shelf
set_option maxRecDepth 100000

theorem own : ownKnob Tryz.prog.godebug = none := by kernel_rfl
theorem lt_of_cell0 {W : World} {p : Addr} {v : Value} (h : W.cell? p = some v) : p.block < W.heap.size := World.block_lt_of_cell? _ _ h
end Go.Proofs.YtmpjlenfnlijfaaGreatDoor

namespace Go.Proofs.YtmpjlenfnlijfaaGreatDoor
open Go Go.RowKit

def inB (c lo hi : Int) : Bool := decide (lo ≤ c) && decide (c ≤ hi)

def leadI (c : Int) : Int × Int × Int :=
  if c < 128 then (1, 0, 0) else if inB c 194 223 then (2, 128, 191) else if c == 224 then (3, 160, 191) else if c == 237 then (3, 128, 159)
  else if inB c 225 239 then (3, 128, 191) else if c == 240 then (4, 144, 191) else if c == 244 then (4, 128, 143) else if inB c 241 243 then (4, 128, 191) else (0, 0, 0)

def bAt (s : ByteArray) (i : Nat) : Int := (s.data.toList.getD i 0).toNat
theorem bAt_lo (s : ByteArray) (i : Nat) : 0 ≤ bAt s i := by unfold bAt; omega
theorem bAt_hi (s : ByteArray) (i : Nat) : bAt s i < 256 := by unfold bAt; have := (s.data.toList.getD i 0).toNat_lt; omega
theorem bAt_eq (s : ByteArray) (i : Nat) (h : i < s.size) : bAt s i = (s[i]'h).toNat := by
  have h' : i < s.data.toList.length := by simpa using h
  unfold bAt
  rw [List.getD_eq_getElem?_getD, List.getElem?_eq_getElem h']; rfl
theorem run_bAt (s : ByteArray) (i : Nat) (h : i < s.size) (w : World) :
    (Instr.index 9 (.string s) (.int .i64 (i : Int))).run Tryz.prog w = .ok (.int .u8 (bAt s i)) w := by
  rw [run_index_string (h := Tryz.underlying9), dif_pos (by omega), bAt_eq s i h]; rfl
theorem run_bAt' (s : ByteArray) (i k : Nat) (h : i + k < s.size) (w : World) :
    (Instr.index 9 (.string s) (.int .i64 ((i : Int) + (k : Int)))).run Tryz.prog w = .ok (.int .u8 (bAt s (i + k))) w := by
  have := run_bAt s (i + k) h w
  simpa using this

def begunC (s : ByteArray) (i : Nat) (lo hi : Int) (k : Nat) : Bool := if k = 1 then inB (bAt s (i + k)) lo hi else inB (bAt s (i + k)) 128 191
def begunK (s : ByteArray) (i : Nat) (n lo hi : Int) : Nat → Nat → Nat
  | 0, k => k
  | f + 1, k => if (k : Int) < n ∧ i + k < s.size ∧ begunC s i lo hi k = true then begunK s i n lo hi f (k + 1) else k
def begunI (s : ByteArray) (i : Nat) : Int × Int :=
  if (leadI (bAt s i)).1 == 0 then (0, 0) else ((begunK s i (leadI (bAt s i)).1 (leadI (bAt s i)).2.1 (leadI (bAt s i)).2.2 4 1 : Nat), (leadI (bAt s i)).1)
theorem leadI_bd (c : Int) : 0 ≤ (leadI c).1 ∧ (leadI c).1 ≤ 4 := by
  unfold leadI; repeat' split
  all_goals simp

end Go.Proofs.YtmpjlenfnlijfaaGreatDoor
/- The contracts of the library functions that the program calls (unicode/utf8, strings.Builder), laid over this translation. -/
namespace Go.Proofs
open Go.Shelf
def Tryz.lays169_ren : Go.Shelf.Ren := ⟨fun | 169 => 86 | n => n, fun | 70 => 145 | 9 => 9 | 0 => 0 | 72 => 148 | 37 => 146 | 127 => 251 | 3 => 3 | 5 => 5 | n => n, fun | n => n⟩
theorem Tryz.lays169 : Go.Proofs.Lays.n169 Tryz.prog Tryz.lays169_ren := {
  mixed := by kernel_rfl
  f169 := Tryz.func86.trans (congrArg some (by kernel_rfl))
  t0 := Tryz.underlying0
  a0 := Tryz.isAgg0
  z0 := Tryz.sizeOf0
  v0 := Tryz.zeroValue0
  t3 := Tryz.underlying3
  a3 := Tryz.isAgg3
  z3 := Tryz.sizeOf3
  v3 := Tryz.zeroValue3
  t9 := Tryz.underlying9
  a9 := Tryz.isAgg9
  z9 := Tryz.sizeOf9
  v9 := Tryz.zeroValue9
  t37 := Tryz.underlying146
  a37 := Tryz.isAgg146
  z37 := Tryz.sizeOf146
  v37 := Tryz.zeroValue146
  t70 := Tryz.underlying145
  a70 := Tryz.isAgg145
  z70 := Tryz.sizeOf145
  v70 := Tryz.zeroValue145
  t72 := Tryz.underlying148
  a72 := Tryz.isAgg148
  z72 := Tryz.sizeOf148
  v72 := Tryz.zeroValue148
  t127 := Tryz.underlying251
  a127 := Tryz.isAgg251
  z127 := Tryz.sizeOf251
  v127 := Tryz.zeroValue251 }
theorem Tryz.Builder_Extra_169 : Builder.Extra Tryz.prog Tryz.lays169_ren := {
  sizeBuilder := by kernel_rfl
  liesBuilder := by kernel_rfl
  t5 := Tryz.underlying5
  a5 := Tryz.isAgg5
  z5 := Tryz.sizeOf5
  v5 := Tryz.zeroValue5
  infoByte := by kernel_rfl
  cellsByte := by kernel_rfl
  sizeByte := by kernel_rfl
  neB5 := by decide }
open Go.RowKit in
theorem Tryz.Builder_String (B b : Nat) (l : List UInt8) (w : World) (h : Lib.IsBuilder 148 5 B b (Lib.byteCells l) w) (h0 : l ≠ []) :
    Calls Tryz.prog 86 #[.pointer (some ⟨b, 0, none⟩)] w fun e w' => e = .returned (.string ⟨l.toArray⟩) ∧ Below B w w' := Any.Builder_String Tryz.lays169 Tryz.Builder_Extra_169 B b l w h h0
open Go.RowKit in
theorem Tryz.Builder_String_empty (B b : Nat) (w : World) (h : Lib.IsBuilder 148 5 B b [] w) (hBw : B ≤ w.heap.size) :
    Calls Tryz.prog 86 #[.pointer (some ⟨b, 0, none⟩)] w fun e w' => e = .returned (.string ⟨#[]⟩) ∧ Below B w w' := Any.Builder_String_empty Tryz.lays169 Tryz.Builder_Extra_169 B b w h hBw
open Go.RowKit in
theorem Tryz.Builder_String_any (B b : Nat) (l : List UInt8) (w : World) (h : Lib.IsBuilder 148 5 B b (Lib.byteCells l) w) (hBw : B ≤ w.heap.size) :
    Calls Tryz.prog 86 #[.pointer (some ⟨b, 0, none⟩)] w fun e w' => e = .returned (.string ⟨l.toArray⟩) ∧ Below B w w' := Any.Builder_String_any Tryz.lays169 Tryz.Builder_Extra_169 B b l w h hBw
open Go.RowKit in
theorem Tryz.Builder_String_f (B b : Nat) (l : List UInt8) (w : World) (h : Lib.IsBuilderF 148 5 B b (Lib.byteCells l) w) (h0 : l ≠ []) :
    Calls Tryz.prog 86 #[.pointer (some ⟨b, 0, none⟩)] w fun e w' => e = .returned (.string ⟨l.toArray⟩) ∧ (Lib.IsBuilderF 148 5 B b (Lib.byteCells l) w' ∧ Below B w w') := Any.Builder_String_f Tryz.lays169 Tryz.Builder_Extra_169 B b l w h h0
open Go.RowKit in
theorem Tryz.Builder_String_empty_f (B b : Nat) (w : World) (h : Lib.IsBuilderF 148 5 B b [] w) (hBw : B ≤ w.heap.size) :
    Calls Tryz.prog 86 #[.pointer (some ⟨b, 0, none⟩)] w fun e w' => e = .returned (.string ⟨#[]⟩) ∧ (Lib.IsBuilderF 148 5 B b [] w' ∧ Below B w w') := Any.Builder_String_empty_f Tryz.lays169 Tryz.Builder_Extra_169 B b w h hBw
open Go.RowKit in
theorem Tryz.Builder_String_any_f (B b : Nat) (l : List UInt8) (w : World) (h : Lib.IsBuilderF 148 5 B b (Lib.byteCells l) w) (hBw : B ≤ w.heap.size) :
    Calls Tryz.prog 86 #[.pointer (some ⟨b, 0, none⟩)] w fun e w' => e = .returned (.string ⟨l.toArray⟩) ∧ (Lib.IsBuilderF 148 5 B b (Lib.byteCells l) w' ∧ Below B w w') := Any.Builder_String_any_f Tryz.lays169 Tryz.Builder_Extra_169 B b l w h hBw
open Go.RowKit in
theorem Tryz.Builder_String_k (B b : Nat) (l : List UInt8) (w : World) (h : Lib.IsBuilderF 148 5 B b (Lib.byteCells l) w) (h0 : l ≠ []) :
    Calls Tryz.prog 86 #[.pointer (some ⟨b, 0, none⟩)] w fun e w' => e = .returned (.string ⟨l.toArray⟩) ∧ (Lib.IsBuilderF 148 5 B b (Lib.byteCells l) w' ∧ Below B w w' ∧ Lib.OthersKept 5 (some b) w w') := Any.Builder_String_k Tryz.lays169 Tryz.Builder_Extra_169 B b l w h h0
open Go.RowKit in
theorem Tryz.Builder_String_empty_k (B b : Nat) (w : World) (h : Lib.IsBuilderF 148 5 B b [] w) (hBw : B ≤ w.heap.size) :
    Calls Tryz.prog 86 #[.pointer (some ⟨b, 0, none⟩)] w fun e w' => e = .returned (.string ⟨#[]⟩) ∧ (Lib.IsBuilderF 148 5 B b [] w' ∧ Below B w w' ∧ Lib.OthersKept 5 (some b) w w') := Any.Builder_String_empty_k Tryz.lays169 Tryz.Builder_Extra_169 B b w h hBw
open Go.RowKit in
theorem Tryz.Builder_String_any_k (B b : Nat) (l : List UInt8) (w : World) (h : Lib.IsBuilderF 148 5 B b (Lib.byteCells l) w) (hBw : B ≤ w.heap.size) :
    Calls Tryz.prog 86 #[.pointer (some ⟨b, 0, none⟩)] w fun e w' => e = .returned (.string ⟨l.toArray⟩) ∧ (Lib.IsBuilderF 148 5 B b (Lib.byteCells l) w' ∧ Below B w w' ∧ Lib.OthersKept 5 (some b) w w') := Any.Builder_String_any_k Tryz.lays169 Tryz.Builder_Extra_169 B b l w h hBw
def Tryz.lays166_ren : Go.Shelf.Ren := ⟨fun | 166 => 84 | 240 => 127 | 276 => 148 | n => n, fun | 0 => 0 | 3 => 3 | 4 => 4 | 9 => 9 | 20 => 20 | 37 => 146 | 70 => 145 | 72 => 148 | 75 => 27 | 164 => 263 | 5 => 5 | 80 => 95 | 127 => 251 | n => n, fun | n => n⟩
theorem Tryz.lays166 : Go.Proofs.Lays.n166 Tryz.prog Tryz.lays166_ren := {
  mixed := by kernel_rfl
  f166 := Tryz.func84.trans (congrArg some (by kernel_rfl))
  f240 := Tryz.func127.trans (congrArg some (by kernel_rfl))
  f276 := Tryz.func148.trans (congrArg some (by kernel_rfl))
  t0 := Tryz.underlying0
  a0 := Tryz.isAgg0
  z0 := Tryz.sizeOf0
  v0 := Tryz.zeroValue0
  t3 := Tryz.underlying3
  a3 := Tryz.isAgg3
  z3 := Tryz.sizeOf3
  v3 := Tryz.zeroValue3
  t4 := Tryz.underlying4
  a4 := Tryz.isAgg4
  z4 := Tryz.sizeOf4
  v4 := Tryz.zeroValue4
  t9 := Tryz.underlying9
  a9 := Tryz.isAgg9
  z9 := Tryz.sizeOf9
  v9 := Tryz.zeroValue9
  t20 := Tryz.underlying20
  a20 := Tryz.isAgg20
  z20 := Tryz.sizeOf20
  v20 := Tryz.zeroValue20
  t37 := Tryz.underlying146
  a37 := Tryz.isAgg146
  z37 := Tryz.sizeOf146
  v37 := Tryz.zeroValue146
  t70 := Tryz.underlying145
  a70 := Tryz.isAgg145
  z70 := Tryz.sizeOf145
  v70 := Tryz.zeroValue145
  t72 := Tryz.underlying148
  a72 := Tryz.isAgg148
  z72 := Tryz.sizeOf148
  v72 := Tryz.zeroValue148
  t75 := Tryz.underlying27
  a75 := Tryz.isAgg27
  z75 := Tryz.sizeOf27
  v75 := Tryz.zeroValue27
  t164 := Tryz.underlying263
  a164 := Tryz.isAgg263
  z164 := Tryz.sizeOf263
  v164 := Tryz.zeroValue263 }

theorem Tryz.Builder_Extra_166 : Builder.Extra Tryz.prog Tryz.lays166_ren := {
  sizeBuilder := by kernel_rfl
  liesBuilder := by kernel_rfl
  t5 := Tryz.underlying5
  a5 := Tryz.isAgg5
  z5 := Tryz.sizeOf5
  v5 := Tryz.zeroValue5
  infoByte := by kernel_rfl
  cellsByte := by kernel_rfl
  sizeByte := by kernel_rfl
  neB5 := by decide }
open Go.RowKit in
theorem Tryz.Builder_WriteString_k (B b : Nat) (bs : List Value) (s : ByteArray) (w : World) (h : Lib.IsBuilderF 148 5 B b bs w) (hlen : bs.length + s.size ≤ 140737488355328) (hBw : B ≤ w.heap.size) :
    Calls Tryz.prog 84 #[.pointer (some ⟨b, 0, none⟩), .string s] w fun e w' => e = .returned (.tuple #[.int .i64 s.size, .nilIface]) ∧ (Lib.BuilderAtF 148 5 B b (.pointer (some ⟨b, 0, none⟩)) (bs ++ Lib.strCells s) w' ∧ Below B w w' ∧ Lib.OthersKept 5 (some b) w w') := Any.Builder_WriteString_k Tryz.lays166 Tryz.Builder_Extra_166 B b bs s w h hlen hBw
end Go.Proofs

namespace Go.Proofs.YtmpjlenfnlijfaaGreatDoor
open Go Go.RowKit

def wideI (s : ByteArray) (i : Nat) : Int := if (begunI s i).1 != (begunI s i).2 then 0 else (begunI s i).2

def numI (t : ByteArray) : Int :=
  if t.size = 1 then bAt t 0 else if t.size = 2 then bAt t 0 % 32 * 64 + bAt t 1 % 64
  else if t.size = 3 then (bAt t 0 % 16 * 64 + bAt t 1 % 64) * 64 + bAt t 2 % 64
  else ((bAt t 0 % 8 * 64 + bAt t 1 % 64) * 64 + bAt t 2 % 64) * 64 + bAt t 3 % 64

end Go.Proofs.YtmpjlenfnlijfaaGreatDoor

namespace Go.Proofs.YtmpjlenfnlijfaaGreatDoor
open Go Go.RowKit Go.Lib

def bgT (r : Int × Int × Int) (N : Nat) (x1 x2 x3 : Int) : Int :=
  if 1 < r.1 ∧ 1 < N ∧ inB x1 r.2.1 r.2.2 = true then
    (if 2 < r.1 ∧ 2 < N ∧ inB x2 128 191 = true then (if 3 < r.1 ∧ 3 < N ∧ inB x3 128 191 = true then 4 else 3) else 2) else 1
def numT (w : Nat) (x0 x1 x2 x3 : Int) : Int :=
  if w = 1 then x0 else if w = 2 then x0 % 32 * 64 + x1 % 64
  else if w = 3 then (x0 % 16 * 64 + x1 % 64) * 64 + x2 % 64
  else ((x0 % 8 * 64 + x1 % 64) * 64 + x2 % 64) * 64 + x3 % 64

theorem inB_iff (c lo hi : Int) : inB c lo hi = true ↔ lo ≤ c ∧ c ≤ hi := by simp [inB]

/-- What a beginning and Go's own decode say of the same bytes. -/
def Agree (N b0 b1 b2 b3 : Nat) : Prop :=
  (((leadI b0).1 = 0 ∨ bgT (leadI b0) N b1 b2 b3 ≠ (leadI b0).1) ∧ decodeN N b0 b1 b2 b3 = (65533, 1)) ∨
  (∃ w : Nat, 1 ≤ w ∧ w ≤ 4 ∧ w ≤ N ∧ (leadI b0).1 = w ∧ bgT (leadI b0) N b1 b2 b3 = w ∧ (decodeN N b0 b1 b2 b3).2 = w ∧ ((decodeN N b0 b1 b2 b3).1 : Int) = numT w b0 b1 b2 b3)

theorem agree_0 (N b0 b1 b2 b3 : Nat) (hN : 1 ≤ N) (h : b0 < 128) : Agree N b0 b1 b2 b3 := by
  have hl : leadI b0 = (1, 0, 0) := by unfold leadI; rw [if_pos (by omega)]
  unfold Agree; rw [hl]
  refine .inr ⟨1, by omega, by omega, hN, rfl, ?_, ?_, ?_⟩
  · simp [bgT]
  · simp [decodeN, h]
  · simp [decodeN, h, numT]
theorem lead_bad (b0 : Nat) (h : (128 ≤ b0 ∧ b0 < 194) ∨ 245 ≤ b0) : leadI b0 = (0, 0, 0) := by
  unfold leadI
  simp only [inB_iff, beq_iff_eq]
  repeat' split
  all_goals first | rfl | (exfalso; omega)
theorem agree_bad (N b0 b1 b2 b3 : Nat) (h : (128 ≤ b0 ∧ b0 < 194) ∨ 245 ≤ b0) (c0 : b0 < 256) (_c1 : b1 < 256) (_c2 : b2 < 256) (_c3 : b3 < 256) : Agree N b0 b1 b2 b3 := by
  unfold Agree; rw [lead_bad b0 h]
  refine .inl ⟨.inl rfl, ?_⟩
  unfold decodeN
  repeat' split
  all_goals first | rfl | (exfalso; omega)
theorem lead_2 (b0 : Nat) (h : 194 ≤ b0 ∧ b0 < 224) : leadI b0 = (2, 128, 191) := by
  unfold leadI
  simp only [inB_iff, beq_iff_eq]
  repeat' split
  all_goals first | rfl | (exfalso; omega)
theorem agree_2 (N b0 b1 b2 b3 : Nat) (h : 194 ≤ b0 ∧ b0 < 224) (c1 : b1 < 256) : Agree N b0 b1 b2 b3 := by
  unfold Agree; rw [lead_2 b0 h]
  by_cases g : 1 < N ∧ 128 ≤ b1 ∧ b1 ≤ 191
  · refine .inr ⟨2, by omega, by omega, by omega, rfl, ?_, ?_, ?_⟩
    · unfold bgT; simp only [inB_iff]; rw [if_pos (by omega), if_neg (by omega)]; rfl
    · unfold decodeN; rw [if_neg (by omega), if_pos (by omega), if_pos (by omega)]
    · unfold decodeN; rw [if_neg (by omega), if_pos (by omega), if_pos (by omega)]; simp [numT]
  · refine .inl ⟨.inr ?_, ?_⟩
    · unfold bgT; simp only [inB_iff]; rw [if_neg (by omega)]; simp
    · unfold decodeN; rw [if_neg (by omega), if_neg (by omega), if_neg (by omega), if_neg (by omega)]
theorem agree_3 (N b0 b1 b2 b3 lo hi : Nat) (h : 224 ≤ b0 ∧ b0 < 240) (hl : leadI b0 = (3, (lo : Int), (hi : Int))) (hlo : (lo = if b0 = 224 then 160 else 128)) (hhi : hi = if b0 = 237 then 159 else 191) (c1 : b1 < 256) (c2 : b2 < 256) : Agree N b0 b1 b2 b3 := by
  unfold Agree; rw [hl]
  have hlo' : (b0 = 224 ∧ lo = 160) ∨ (b0 ≠ 224 ∧ lo = 128) := by split at hlo <;> omega
  have hhi' : (b0 = 237 ∧ hi = 159) ∨ (b0 ≠ 237 ∧ hi = 191) := by split at hhi <;> omega
  clear hlo hhi hl
  by_cases g : 1 < N ∧ lo ≤ b1 ∧ b1 ≤ hi ∧ 2 < N ∧ 128 ≤ b2 ∧ b2 ≤ 191
  · refine .inr ⟨3, by omega, by omega, by omega, rfl, ?_, ?_, ?_⟩
    · unfold bgT; simp only [inB_iff]; rw [if_pos (by omega), if_pos (by omega), if_neg (by omega)]; rfl
    · unfold decodeN; rw [if_neg (by omega), if_neg (by omega), if_pos (by omega), if_pos (by omega)]
    · unfold decodeN; rw [if_neg (by omega), if_neg (by omega), if_pos (by omega), if_pos (by omega)]; simp [numT]; omega
  · refine .inl ⟨.inr ?_, ?_⟩
    · unfold bgT; simp only [inB_iff]
      split
      · rw [if_neg (by omega)]; simp
      · simp
    · unfold decodeN; rw [if_neg (by omega), if_neg (by omega)]
      split
      · rw [if_neg (by omega)]
      · rw [if_neg (by omega)]
theorem agree_4 (N b0 b1 b2 b3 lo hi : Nat) (h : 240 ≤ b0 ∧ b0 < 245) (hl : leadI b0 = (4, (lo : Int), (hi : Int))) (hlo : (lo = if b0 = 240 then 144 else 128)) (hhi : hi = if b0 = 244 then 143 else 191) (c1 : b1 < 256) (c2 : b2 < 256) (c3 : b3 < 256) : Agree N b0 b1 b2 b3 := by
  unfold Agree; rw [hl]
  have hlo' : (b0 = 240 ∧ lo = 144) ∨ (b0 ≠ 240 ∧ lo = 128) := by split at hlo <;> omega
  have hhi' : (b0 = 244 ∧ hi = 143) ∨ (b0 ≠ 244 ∧ hi = 191) := by split at hhi <;> omega
  clear hlo hhi hl
  by_cases g : 1 < N ∧ lo ≤ b1 ∧ b1 ≤ hi ∧ 2 < N ∧ 128 ≤ b2 ∧ b2 ≤ 191 ∧ 3 < N ∧ 128 ≤ b3 ∧ b3 ≤ 191
  · refine .inr ⟨4, by omega, by omega, by omega, rfl, ?_, ?_, ?_⟩
    · unfold bgT; simp only [inB_iff]; rw [if_pos (by omega), if_pos (by omega), if_pos (by omega)]; rfl
    · unfold decodeN; rw [if_neg (by omega), if_neg (by omega), if_neg (by omega), if_pos (by omega), if_pos (by omega)]
    · unfold decodeN; rw [if_neg (by omega), if_neg (by omega), if_neg (by omega), if_pos (by omega), if_pos (by omega)]; simp [numT]; omega
  · refine .inl ⟨.inr ?_, ?_⟩
    · unfold bgT; simp only [inB_iff]
      split
      · split
        · rw [if_neg (by omega)]; simp
        · simp
      · simp
    · unfold decodeN; rw [if_neg (by omega), if_neg (by omega), if_neg (by omega)]
      split
      · rw [if_neg (by omega)]
      · rfl
theorem lead_3 (b0 : Nat) (h : 224 ≤ b0 ∧ b0 < 240) : leadI b0 = (3, ((if b0 = 224 then 160 else 128 : Nat) : Int), ((if b0 = 237 then 159 else 191 : Nat) : Int)) := by
  unfold leadI
  simp only [inB_iff, beq_iff_eq]
  repeat' split
  all_goals first | rfl | (exfalso; omega)
theorem lead_4 (b0 : Nat) (h : 240 ≤ b0 ∧ b0 < 245) : leadI b0 = (4, ((if b0 = 240 then 144 else 128 : Nat) : Int), ((if b0 = 244 then 143 else 191 : Nat) : Int)) := by
  unfold leadI
  simp only [inB_iff, beq_iff_eq]
  repeat' split
  all_goals first | rfl | (exfalso; omega)
theorem agree_all (N b0 b1 b2 b3 : Nat) (hN : 1 ≤ N) (c0 : b0 < 256) (c1 : b1 < 256) (c2 : b2 < 256) (c3 : b3 < 256) : Agree N b0 b1 b2 b3 := by
  by_cases h0 : b0 < 128
  · exact agree_0 N b0 b1 b2 b3 hN h0
  by_cases h1 : (128 ≤ b0 ∧ b0 < 194) ∨ 245 ≤ b0
  · exact agree_bad N b0 b1 b2 b3 h1 c0 c1 c2 c3
  by_cases h2 : b0 < 224
  · exact agree_2 N b0 b1 b2 b3 (by omega) c1
  by_cases h3 : b0 < 240
  · exact agree_3 N b0 b1 b2 b3 _ _ (by omega) (lead_3 b0 (by omega)) rfl rfl c1 c2
  · exact agree_4 N b0 b1 b2 b3 _ _ (by omega) (lead_4 b0 (by omega)) rfl rfl c1 c2 c3

def B (s : ByteArray) (i : Nat) : Nat := (s.data.toList.getD i 0).toNat
theorem bAt_B (s : ByteArray) (i : Nat) : bAt s i = (B s i : Int) := rfl
theorem B_lt (s : ByteArray) (i : Nat) : B s i < 256 := by unfold B; have := (s.data.toList.getD i 0).toNat_lt; omega
theorem get_B (s : ByteArray) (i : Nat) : (s.get! i).toNat = B s i := by
  unfold B
  by_cases h : i < s.size
  · have h1 : s.get! i = s[i]'h := by
      show s.data[i]! = s.data[i]
      rw [getElem!_pos s.data i (by exact h)]
    have h2 : s.data.toList.getD i 0 = s[i]'h := by
      have h' : i < s.data.toList.length := by simpa using h
      rw [List.getD_eq_getElem?_getD, List.getElem?_eq_getElem h']; rfl
    rw [h1, h2]
  · have h1 : s.get! i = default := by
      show s.data[i]! = _
      rw [getElem!_neg s.data i (by exact h)]
    have h2 : s.data.toList.getD i 0 = 0 := by
      rw [List.getD_eq_getElem?_getD, List.getElem?_eq_none (by simpa using h)]; rfl
    rw [h1, h2]; rfl
theorem decode_B (s : ByteArray) (i : Nat) : Utf8.decode s i = decodeN (s.size - i) (B s i) (B s (i + 1)) (B s (i + 2)) (B s (i + 3)) := by
  rw [decode_at, get_B, get_B, get_B, get_B]

theorem begunK_bg (s : ByteArray) (i : Nat) (n lo hi : Int) (h4 : n ≤ 4) : (begunK s i n lo hi 4 1 : Int) = bgT (n, lo, hi) (s.size - i) (B s (i + 1)) (B s (i + 2)) (B s (i + 3)) := by
  have e1 : ∀ k : Nat, (i + k < s.size) = (k < s.size - i) := fun k => propext ⟨fun h => by omega, fun h => by omega⟩
  have st : ∀ f k, begunK s i n lo hi (f + 1) k = if (k : Int) < n ∧ k < s.size - i ∧ begunC s i lo hi k = true then begunK s i n lo hi f (k + 1) else k := fun f k => by simp only [← e1]; rfl
  have c1 : begunC s i lo hi 1 = inB (B s (i + 1)) lo hi := rfl
  have c2 : begunC s i lo hi 2 = inB (B s (i + 2)) 128 191 := rfl
  have c3 : begunC s i lo hi 3 = inB (B s (i + 3)) 128 191 := rfl
  unfold bgT
  rw [st 3 1, c1]
  by_cases h1 : (1 : Int) < n ∧ 1 < s.size - i ∧ inB (B s (i + 1)) lo hi = true
  · rw [if_pos (by exact h1), if_pos h1, st 2 2, c2]
    by_cases h2 : (2 : Int) < n ∧ 2 < s.size - i ∧ inB (B s (i + 2)) 128 191 = true
    · rw [if_pos (by exact h2), if_pos h2, st 1 3, c3]
      by_cases h3 : (3 : Int) < n ∧ 3 < s.size - i ∧ inB (B s (i + 3)) 128 191 = true
      · rw [if_pos (by exact h3), if_pos h3, st 0 4, if_neg (by omega)]; rfl
      · rw [if_neg (by exact h3), if_neg h3]; rfl
    · rw [if_neg (by exact h2), if_neg h2]; rfl
  · rw [if_neg (by exact h1), if_neg h1]; rfl

theorem begunI_eq (s : ByteArray) (i : Nat) : begunI s i = if (leadI (B s i)).1 = 0 then ((0 : Int), (0 : Int)) else (bgT (leadI (B s i)) (s.size - i) (B s (i + 1)) (B s (i + 2)) (B s (i + 3)), (leadI (B s i)).1) := by
  unfold begunI
  rw [begunK_bg _ _ _ _ _ (leadI_bd _).2]
  simp [bAt_B]

/-- THE UNIT AT A PLACE, as the reference has it and as the model has it. -/
theorem unit_at (s : ByteArray) (i : Nat) (h : i < s.size) :
    (wideI s i = 0 ∧ Utf8.decode s i = (65533, 1)) ∨
    (∃ w : Nat, 1 ≤ w ∧ w ≤ 4 ∧ i + w ≤ s.size ∧ wideI s i = w ∧ (Utf8.decode s i).2 = w ∧ ((Utf8.decode s i).1 : Int) = numT w (B s i) (B s (i + 1)) (B s (i + 2)) (B s (i + 3))) := by
  have ha := agree_all (s.size - i) (B s i) (B s (i + 1)) (B s (i + 2)) (B s (i + 3)) (by omega) (B_lt _ _) (B_lt _ _) (B_lt _ _) (B_lt _ _)
  unfold Agree at ha
  rw [← decode_B] at ha
  unfold wideI
  rw [begunI_eq]
  rcases ha with ⟨h1, h2⟩ | ⟨w, w1, w4, wN, hl, hb, hd, hn⟩
  · refine .inl ⟨?_, h2⟩
    by_cases hz : (leadI (B s i)).1 = 0
    · rw [if_pos hz]; rfl
    · rw [if_neg hz]
      have hne := h1.resolve_left hz
      simp [hne]
  · refine .inr ⟨w, w1, w4, by omega, ?_, hd, hn⟩
    have hw0 : w ≠ 0 := by omega
    simp [hl, hb, hw0]

theorem bAt_extract (s : ByteArray) (i w j : Nat) (hj : j < w) (hw : i + w ≤ s.size) : bAt (s.extract i (i + w)) j = B s (i + j) := by
  have hz : (s.extract i (i + w)).size = w := by rw [ByteArray.size_extract]; omega
  have h1 := bAt_eq (s.extract i (i + w)) j (by omega)
  have h2 := bAt_eq s (i + j) (by omega)
  rw [h1, ← bAt_B, h2, ByteArray.getElem_extract]
theorem numI_extract (s : ByteArray) (i w : Nat) (h1 : 1 ≤ w) (h4 : w ≤ 4) (hw : i + w ≤ s.size) : numI (s.extract i (i + w)) = numT w (B s i) (B s (i + 1)) (B s (i + 2)) (B s (i + 3)) := by
  have hz : (s.extract i (i + w)).size = w := by rw [ByteArray.size_extract]; omega
  unfold numI numT
  rw [hz]
  have e : ∀ j, j < w → bAt (s.extract i (i + w)) j = B s (i + j) := fun j hj => bAt_extract s i w j hj hw
  rcases (by omega : w = 1 ∨ w = 2 ∨ w = 3 ∨ w = 4) with h | h | h | h
  · subst h; simp [e]
  · subst h; simp [e]
  · subst h; simp [e]
  · subst h; simp [e]
end Go.Proofs.YtmpjlenfnlijfaaGreatDoor
/- The unit at a place: its point and its width; as layer 2's document reckons it, and as the model decodes. No run in this text. -/
namespace Go.Proofs.YtmpjlenfnlijfaaGreatDoor
open Go Go.RowKit Go.Lib

/-- The point and the width of the unit at the head of N bytes b0 b1 b2 b3 .. -/
def ptN (N b0 b1 b2 b3 : Nat) : Nat × Nat := if decodeN N b0 b1 b2 b3 = (65533, 1) then (1114112 + b0, 1) else decodeN N b0 b1 b2 b3
/-- The same at a place of a text. -/
def ptU (s : ByteArray) (i : Nat) : Nat × Nat := if Utf8.decode s i = (65533, 1) then (1114112 + B s i, 1) else Utf8.decode s i
def ptP (s : ByteArray) (a : Int) : Int × Int := if 0 ≤ a ∧ a < s.size then (((ptU s a.toNat).1 : Int), ((ptU s a.toNat).2 : Int)) else (0, 0)
theorem ptU_N (s : ByteArray) (i : Nat) : ptU s i = ptN (s.size - i) (B s i) (B s (i + 1)) (B s (i + 2)) (B s (i + 3)) := by
  unfold ptU ptN; rw [decode_B]
theorem ptP_in (s : ByteArray) (i : Nat) (h : i < s.size) : ptP s i = (((ptU s i).1 : Int), ((ptU s i).2 : Int)) := by
  unfold ptP; rw [if_pos (by omega)]; simp
theorem ptP_out (s : ByteArray) (a : Int) (h : a < 0 ∨ s.size ≤ a) : ptP s a = (0, 0) := by
  unfold ptP; rw [if_neg (by omega)]

/-- The document's first byte: how many bytes it asks for, and its own bits. -/
def longI (c : Int) : Int × Int :=
  if c < 128 then (1, c) else if 192 ≤ c ∧ c < 224 then (2, c - 192) else if 224 ≤ c ∧ c < 240 then (3, c - 224) else if 240 ≤ c ∧ c < 248 then (4, c - 240) else (0, 0)
def charB (c : Int) : Bool := decide (0 ≤ c ∧ c < 55296) || decide (57343 < c ∧ c ≤ 1114111)
def leastI (n : Int) : Int := if n = 1 then 0 else if n = 2 then 128 else if n = 3 then 2048 else 65536

/-- The document's unit, unfolded. -/
def nextN (N b0 b1 b2 b3 : Int) : Int × Int :=
  if b0 < 128 then (b0, 1)
  else if 192 ≤ b0 ∧ b0 < 224 then
    if 2 ≤ N ∧ (128 ≤ b1 ∧ b1 < 192) ∧ 128 ≤ (b0 - 192) * 64 + b1 - 128 then ((b0 - 192) * 64 + b1 - 128, 2) else (1114112 + b0, 1)
  else if 224 ≤ b0 ∧ b0 < 240 then
    if 3 ≤ N ∧ (128 ≤ b1 ∧ b1 < 192) ∧ (128 ≤ b2 ∧ b2 < 192) ∧ 2048 ≤ ((b0 - 224) * 64 + b1 - 128) * 64 + b2 - 128 ∧ charB (((b0 - 224) * 64 + b1 - 128) * 64 + b2 - 128) = true
    then (((b0 - 224) * 64 + b1 - 128) * 64 + b2 - 128, 3) else (1114112 + b0, 1)
  else if 240 ≤ b0 ∧ b0 < 248 then
    if 4 ≤ N ∧ (128 ≤ b1 ∧ b1 < 192) ∧ (128 ≤ b2 ∧ b2 < 192) ∧ (128 ≤ b3 ∧ b3 < 192) ∧ 65536 ≤ (((b0 - 240) * 64 + b1 - 128) * 64 + b2 - 128) * 64 + b3 - 128 ∧ charB ((((b0 - 240) * 64 + b1 - 128) * 64 + b2 - 128) * 64 + b3 - 128) = true
    then ((((b0 - 240) * 64 + b1 - 128) * 64 + b2 - 128) * 64 + b3 - 128, 4) else (1114112 + b0, 1)
  else (1114112 + b0, 1)

theorem charB_iff (c : Int) : charB c = true ↔ (0 ≤ c ∧ c < 55296) ∨ (57343 < c ∧ c ≤ 1114111) := by simp [charB]

theorem nextN_2 (N b0 b1 b2 b3 : Nat) (h : 192 ≤ b0 ∧ b0 < 224) (c1 : b1 < 256) : nextN N b0 b1 b2 b3 = (((ptN N b0 b1 b2 b3).1 : Int), ((ptN N b0 b1 b2 b3).2 : Int)) := by
  by_cases g : 1 < N ∧ 128 ≤ b1 ∧ b1 ≤ 191 ∧ 128 ≤ (b0 - 192) * 64 + (b1 - 128)
  · have e : decodeN N b0 b1 b2 b3 = ((b0 - 192) * 64 + (b1 - 128), 2) := by
      unfold decodeN; rw [if_neg (by omega), if_pos (by omega), if_pos (by omega)]
      exact Prod.ext (by simp; omega) rfl
    unfold nextN ptN
    rw [if_neg (by omega), if_pos (by omega), if_pos (by omega), e, if_neg (by simp)]
    exact Prod.ext (by simp; omega) rfl
  · have e : decodeN N b0 b1 b2 b3 = (65533, 1) := by
      unfold decodeN; rw [if_neg (by omega)]
      by_cases k : b0 / 32 = 6 ∧ (1 < N ∧ b1 / 64 = 2)
      · rw [if_pos k, if_neg (by omega)]
      · rw [if_neg k, if_neg (by omega), if_neg (by omega)]
    unfold nextN ptN
    rw [if_neg (by omega), if_pos (by omega), if_neg (by omega), e, if_pos rfl]
    exact Prod.ext (by simp) rfl
theorem nextN_3 (N b0 b1 b2 b3 : Nat) (h : 224 ≤ b0 ∧ b0 < 240) (c1 : b1 < 256) (c2 : b2 < 256) : nextN N b0 b1 b2 b3 = (((ptN N b0 b1 b2 b3).1 : Int), ((ptN N b0 b1 b2 b3).2 : Int)) := by
  by_cases g : (2 < N ∧ 128 ≤ b1 ∧ b1 ≤ 191 ∧ 128 ≤ b2 ∧ b2 ≤ 191) ∧ 2048 ≤ ((b0 - 224) * 64 + (b1 - 128)) * 64 + (b2 - 128) ∧ (((b0 - 224) * 64 + (b1 - 128)) * 64 + (b2 - 128) < 55296 ∨ 57344 ≤ ((b0 - 224) * 64 + (b1 - 128)) * 64 + (b2 - 128))
  · have e : decodeN N b0 b1 b2 b3 = (((b0 - 224) * 64 + (b1 - 128)) * 64 + (b2 - 128), 3) := by
      unfold decodeN; rw [if_neg (by omega), if_neg (by omega), if_pos (by omega), if_pos (by omega)]
      exact Prod.ext (by simp; omega) rfl
    unfold nextN ptN
    rw [if_neg (by omega), if_neg (by omega), if_pos (by omega), if_pos (by rw [charB_iff]; omega), e, if_neg (by simp)]
    exact Prod.ext (by simp; omega) rfl
  · have e : decodeN N b0 b1 b2 b3 = (65533, 1) := by
      unfold decodeN; rw [if_neg (by omega), if_neg (by omega)]
      by_cases k : b0 / 16 = 14 ∧ (1 < N ∧ b1 / 64 = 2) ∧ (2 < N ∧ b2 / 64 = 2)
      · rw [if_pos k, if_neg (by omega)]
      · rw [if_neg k, if_neg (by omega)]
    unfold nextN ptN
    rw [if_neg (by omega), if_neg (by omega), if_pos (by omega), if_neg (by rw [charB_iff]; omega), e, if_pos rfl]
    exact Prod.ext (by simp) rfl
theorem nextN_4 (N b0 b1 b2 b3 : Nat) (h : 240 ≤ b0 ∧ b0 < 248) (c1 : b1 < 256) (c2 : b2 < 256) (c3 : b3 < 256) : nextN N b0 b1 b2 b3 = (((ptN N b0 b1 b2 b3).1 : Int), ((ptN N b0 b1 b2 b3).2 : Int)) := by
  by_cases g : (3 < N ∧ 128 ≤ b1 ∧ b1 ≤ 191 ∧ 128 ≤ b2 ∧ b2 ≤ 191 ∧ 128 ≤ b3 ∧ b3 ≤ 191) ∧ 65536 ≤ (((b0 - 240) * 64 + (b1 - 128)) * 64 + (b2 - 128)) * 64 + (b3 - 128) ∧ (((b0 - 240) * 64 + (b1 - 128)) * 64 + (b2 - 128)) * 64 + (b3 - 128) ≤ 1114111
  · have e : decodeN N b0 b1 b2 b3 = ((((b0 - 240) * 64 + (b1 - 128)) * 64 + (b2 - 128)) * 64 + (b3 - 128), 4) := by
      unfold decodeN; rw [if_neg (by omega), if_neg (by omega), if_neg (by omega), if_pos (by omega), if_pos (by omega)]
      exact Prod.ext (by simp; omega) rfl
    unfold nextN ptN
    rw [if_neg (by omega), if_neg (by omega), if_neg (by omega), if_pos (by omega), if_pos (by rw [charB_iff]; omega), e, if_neg (by simp)]
    exact Prod.ext (by simp; omega) rfl
  · have e : decodeN N b0 b1 b2 b3 = (65533, 1) := by
      unfold decodeN; rw [if_neg (by omega), if_neg (by omega), if_neg (by omega)]
      by_cases k : b0 / 8 = 30 ∧ (1 < N ∧ b1 / 64 = 2) ∧ (2 < N ∧ b2 / 64 = 2) ∧ (3 < N ∧ b3 / 64 = 2)
      · rw [if_pos k, if_neg (by omega)]
      · rw [if_neg k]
    unfold nextN ptN
    rw [if_neg (by omega), if_neg (by omega), if_neg (by omega), if_pos (by omega), if_neg (by rw [charB_iff]; omega), e, if_pos rfl]
    exact Prod.ext (by simp) rfl
theorem nextN_eq (N b0 b1 b2 b3 : Nat) (_hN : 1 ≤ N) (_c0 : b0 < 256) (c1 : b1 < 256) (c2 : b2 < 256) (c3 : b3 < 256) : nextN N b0 b1 b2 b3 = (((ptN N b0 b1 b2 b3).1 : Int), ((ptN N b0 b1 b2 b3).2 : Int)) := by
  by_cases h0 : b0 < 128
  · have e : decodeN N b0 b1 b2 b3 = (b0, 1) := by unfold decodeN; rw [if_pos h0]
    unfold nextN ptN
    rw [if_pos (by omega), e, if_neg (by simp; omega)]
    rfl
  by_cases h2 : 192 ≤ b0 ∧ b0 < 224
  · exact nextN_2 N b0 b1 b2 b3 h2 c1
  by_cases h3 : 224 ≤ b0 ∧ b0 < 240
  · exact nextN_3 N b0 b1 b2 b3 h3 c1 c2
  by_cases h4 : 240 ≤ b0 ∧ b0 < 248
  · exact nextN_4 N b0 b1 b2 b3 h4 c1 c2 c3
  · have e : decodeN N b0 b1 b2 b3 = (65533, 1) := by
      unfold decodeN; rw [if_neg h0, if_neg (by omega), if_neg (by omega), if_neg (by omega)]
    unfold nextN ptN
    rw [if_neg (by omega), if_neg (by omega), if_neg (by omega), if_neg (by omega), e, if_pos rfl]
    exact Prod.ext (by simp) rfl
theorem nextN_at (s : ByteArray) (i : Nat) (h : i < s.size) : nextN ((s.size - i : Nat) : Int) (B s i) (B s (i + 1)) (B s (i + 2)) (B s (i + 3)) = (((ptU s i).1 : Int), ((ptU s i).2 : Int)) := by
  rw [ptU_N]; exact nextN_eq _ _ _ _ _ (by omega) (B_lt _ _) (B_lt _ _) (B_lt _ _) (B_lt _ _)

/-- Widths and sizes of points. -/
theorem ptU_wide (s : ByteArray) (i : Nat) (h : i < s.size) : 1 ≤ (ptU s i).2 ∧ (ptU s i).2 ≤ 4 ∧ i + (ptU s i).2 ≤ s.size := by
  rcases unit_at s i h with ⟨_, e⟩ | ⟨w, h1, h4, hw, _, e, _⟩
  · unfold ptU; rw [if_pos e]; simp; omega
  · unfold ptU; split
    · simp; omega
    · omega
theorem ptU_wide_eq (s : ByteArray) (i : Nat) : (ptU s i).2 = (Utf8.decode s i).2 := by
  unfold ptU; split
  · rename_i h; rw [h]
  · rfl
end Go.Proofs.YtmpjlenfnlijfaaGreatDoor

namespace Go.Proofs.YtmpjlenfnlijfaaGreatDoor
open Go Go.RowKit Go.Lib

def decP (s : ByteArray) (a : Int) : Int × Int :=
  if 0 ≤ a ∧ a < s.size then (((Utf8.decode s a.toNat).1 : Int), ((Utf8.decode s a.toNat).2 : Int)) else (65533, 0)
theorem decP_in (s : ByteArray) (i : Nat) (h : i < s.size) : decP s i = (((Utf8.decode s i).1 : Int), ((Utf8.decode s i).2 : Int)) := by
  unfold decP; rw [if_pos (by omega)]; simp
theorem decP_out (s : ByteArray) (a : Int) (h : a < 0 ∨ s.size ≤ a) : decP s a = (65533, 0) := by
  unfold decP; rw [if_neg (by omega)]
theorem wideI_bd (s : ByteArray) (i : Nat) (h : i < s.size) : 0 ≤ wideI s i ∧ wideI s i ≤ 4 ∧ i + wideI s i ≤ s.size := by
  rcases unit_at s i h with ⟨h1, _⟩ | ⟨w, h1, h4, hw, he, _⟩
  · omega
  · omega

theorem B_extract (s : ByteArray) (i n k : Nat) (hn : i + n ≤ s.size) (h : k < n) : B (s.extract i (i + n)) k = B s (i + k) := by
  have := bAt_extract s i n k h hn
  rw [bAt_B] at this
  exact_mod_cast this
theorem B_out (s : ByteArray) (k : Nat) (h : s.size ≤ k) : B s k = 0 := by
  unfold B
  rw [List.getD_eq_getElem?_getD, List.getElem?_eq_none (by simpa using h)]; rfl
theorem B_tail (s : ByteArray) (i k : Nat) (hi : i ≤ s.size) : B (s.extract i s.size) k = B s (i + k) := by
  have hz : (s.extract i s.size).size = s.size - i := by rw [ByteArray.size_extract]; omega
  by_cases h : k < s.size - i
  · have := B_extract s i (s.size - i) k (by omega) h
    rw [show i + (s.size - i) = s.size by omega] at this
    exact this
  · rw [B_out _ _ (by omega), B_out _ _ (by omega)]
theorem decode_tail (s : ByteArray) (i : Nat) (hi : i < s.size) : decodeGo (s.extract i s.size) = Utf8.decode s i := by
  have hz : (s.extract i s.size).size = s.size - i := by rw [ByteArray.size_extract]; omega
  unfold decodeGo
  rw [if_neg (by omega), decode_B, decode_B, hz]
  simp only [B_tail s i _ (by omega), Nat.sub_zero, Nat.zero_add, Nat.add_zero]

end Go.Proofs.YtmpjlenfnlijfaaGreatDoor
/- The unit at a place: the document's Next, and points.Next. -/
namespace Go.Proofs.YtmpjlenfnlijfaaGreatDoor
open Go Go.RowKit Go.Lib

end Go.Proofs.YtmpjlenfnlijfaaGreatDoor
/- What is the same of any program: worlds that keep all blocks but some; an iterator that hands out a known list; a loop over such an iterator. -/
namespace Go.Kt
open Go Go.RowKit

/-- Every block of A but those of X lies in B as it lay. -/
structure Keep (X : Nat → Prop) (A B : World) : Prop where
  os : B.os = A.os
  tape : B.tape = A.tape
  output : B.output = A.output
  size : A.heap.size ≤ B.heap.size
  same : ∀ b, b < A.heap.size → ¬ X b → B.heap[b]? = A.heap[b]?

theorem Keep.refl (X : Nat → Prop) (A : World) : Keep X A A := ⟨rfl, rfl, rfl, Nat.le_refl _, fun _ _ _ => rfl⟩
theorem Keep.trans {X : Nat → Prop} {A B C : World} (h : Keep X A B) (k : Keep X B C) : Keep X A C :=
  ⟨k.os.trans h.os, k.tape.trans h.tape, k.output.trans h.output, Nat.le_trans h.size k.size, fun b hb hX => (k.same b (Nat.lt_of_lt_of_le hb h.size) hX).trans (h.same b hb hX)⟩
theorem Keep.weaken {X Y : Nat → Prop} {A B : World} (h : Keep X A B) (hXY : ∀ b, b < A.heap.size → X b → Y b) : Keep Y A B :=
  ⟨h.os, h.tape, h.output, h.size, fun b hb hY => h.same b hb fun hX => hY (hXY b hb hX)⟩
theorem Keep.of_below {X : Nat → Prop} {n : Nat} {A B : World} (h : Below n A B) (hX : ∀ b, b < A.heap.size → n ≤ b → X b) : Keep X A B :=
  ⟨h.os, h.tape, h.output, h.size, fun b hb hnX => h.block b (by
    rcases Nat.lt_or_ge b n with h' | h'
    · exact h'
    · exact absurd (hX b hb h') hnX)⟩
theorem Keep.of_all {X : Nat → Prop} {A B : World} (h : Below A.heap.size A B) : Keep X A B := .of_below h (fun b h1 h2 => absurd h1 (by omega))
theorem Keep.below {X : Nat → Prop} {n : Nat} {A B : World} (h : Keep X A B) (hn : n ≤ A.heap.size) (hX : ∀ b, X b → n ≤ b) : Below n A B :=
  ⟨h.os, h.tape, h.output, h.size, fun b hb => h.same b (by omega) fun hx => absurd (hX b hx) (by omega)⟩
theorem Keep.alloc {X : Nat → Prop} {A B : World} (h : Keep X A B) (o : Obj) : Keep X A (B.alloc o) :=
  h.trans (.of_all ((Below.refl _ B).alloc (Nat.le_refl _) o))
theorem Keep.drew {X : Nat → Prop} {A B : World} (h : Keep X A B) : Keep X A B.drew := h.trans ⟨rfl, rfl, rfl, Nat.le_refl _, fun _ _ _ => rfl⟩
theorem Keep.setCell {X : Nat → Prop} {A B : World} (h : Keep X A B) {p : Addr} (hp : X p.block) (u : Value) : Keep X A (B.setCell p u) :=
  h.trans ⟨rfl, rfl, rfl, by simp, fun b _ hb => Below.heap_setCell B p u b (fun e => hb (e ▸ hp))⟩
/-- A store into a block that is younger than A. -/
theorem Keep.setCell_new {X : Nat → Prop} {A B : World} (h : Keep X A B) {p : Addr} (hp : A.heap.size ≤ p.block) (u : Value) : Keep X A (B.setCell p u) :=
  ⟨h.os, h.tape, h.output, by simpa using h.size, fun b hb hX => (Below.heap_setCell B p u b (by omega)).trans (h.same b hb hX)⟩
theorem Keep.then {X : Nat → Prop} {A B C : World} (h : Keep X A B) (k : Below A.heap.size B C) : Keep X A C :=
  ⟨k.os.trans h.os, k.tape.trans h.tape, k.output.trans h.output, Nat.le_trans h.size k.size, fun b hb hX => (k.block b hb).trans (h.same b hb hX)⟩
theorem Keep.putObj {X : Nat → Prop} {A B : World} (h : Keep X A B) {l : Nat} (hl : X l ∨ A.heap.size ≤ l) (o : Obj) : Keep X A (B.putObj l o) :=
  ⟨h.os, h.tape, h.output, by simpa using h.size, fun b hb hX => (World.putObj_heap_other (fun e => by subst e; rcases hl with hl | hl; exact hX hl; omega)).trans (h.same b hb hX)⟩
theorem Keep.heap {X : Nat → Prop} {A B : World} (h : Keep X A B) {b : Nat} {o : Obj} (hb : A.heap[b]? = some o) (hX : ¬ X b) : B.heap[b]? = some o :=
  (h.same b (Array.getElem?_eq_some_iff.1 hb).1 hX).trans hb
theorem lt_of_cell {A : World} {p : Addr} {v : Value} (h : A.cell? p = some v) : p.block < A.heap.size := by
  rcases Nat.lt_or_ge p.block A.heap.size with h' | h'
  · exact h'
  · have : A.heap[p.block]? = none := Array.getElem?_eq_none h'
    simp [World.cell?, this] at h
theorem Keep.cell {X : Nat → Prop} {A B : World} (h : Keep X A B) {p : Addr} {v : Value} (hc : A.cell? p = some v) (hX : ¬ X p.block) : B.cell? p = some v :=
  (World.cell?_of_block (w := A) (h.same p.block (lt_of_cell hc) hX)).trans hc
theorem Keep.frozen {X : Nat → Prop} {A B : World} (h : Keep X A B) {p : Addr} (hp : p.block < A.heap.size) (hX : ¬ X p.block) : B.frozen? p = A.frozen? p :=
  World.frozen?_of_block (w := A) (h.same p.block hp hX)
theorem below_putObj {n : Nat} {B : World} {l : Nat} (hl : n ≤ l) (o : Obj) : Below n B (B.putObj l o) :=
  ⟨rfl, rfl, rfl, by simp, fun _ hk => World.putObj_heap_other (by omega)⟩

/-- What speaks of blocks below B, and of those of Y, alone. -/
def Low {β : Type} (B : Nat) (J : β → (Nat → Prop) → World → Prop) : Prop := ∀ s Y W W', Keep (fun b => B ≤ b ∧ ¬ Y b) W W' → J s Y W → J s Y W'
theorem Low.mono {β : Type} {B B' : Nat} {J : β → (Nat → Prop) → World → Prop} (h : Low B J) (hB : B ≤ B') : Low B' J := fun s Y W W' hk => h s Y W W' (hk.weaken fun _ _ hb => ⟨Nat.le_trans hB hb.1, hb.2⟩)
theorem low_pure {β : Type} (B : Nat) (p : β → Prop) : Low B (fun s _ (_ : World) => p s) := fun _ _ _ _ _ h => h
theorem Low.and {β : Type} {B : Nat} {I J : β → (Nat → Prop) → World → Prop} (h : Low B I) (k : Low B J) : Low B (fun s Y W => I s Y W ∧ J s Y W) := fun s Y W W' hb hs => ⟨h s Y W W' hb hs.1, k s Y W W' hb hs.2⟩
theorem low_cell {β : Type} {B : Nat} {p : Addr} (hp : p.block < B) (v : β → Value) : Low B (fun s _ W => W.cell? p = some (v s)) := fun _ _ _ _ hb h => hb.cell h fun hx => by have := hx.1; omega
theorem low_heap {β : Type} {B : Nat} {b : Nat} (hp : b < B) (o : β → Obj) : Low B (fun s _ W => W.heap[b]? = some (o s)) := fun _ _ _ _ hb h => hb.heap h fun hx => by have := hx.1; omega

/-- **AN ITERATOR THAT HANDS OUT JUST THE LIST L**: the blocks Nd are what it reads (as they lie in w0). A round may write the blocks X (of before the loop) and Y (which the rounds have laid). -/
def Iter {α : Type} (P : Program) (gf : Nat) (lb : Array Value) (encs : α → Array Value) (L : List α) (Nd : Nat → Prop) (w0 : World) : Prop :=
  ∀ (l : Nat) (X : Nat → Prop) (J Jx : List α → (Nat → Prop) → World → Prop) (W : World),
    (∀ b, Nd b → ¬ X b) → (∀ b, X b → b < W.heap.size) → (∀ b, Nd b → W.heap[b]? = w0.heap[b]?) → w0.heap.size ≤ W.heap.size →
    Low W.heap.size J → Low W.heap.size Jx →
    (∀ pre x Y W1, pre ++ [x] <+: L → J pre Y W1 → W.heap.size ≤ W1.heap.size → (∀ b, Y b → W.heap.size ≤ b) → YieldAt Fence.wide 0 P l (encs x) W1 fun e W' =>
      ∃ Y', Keep (fun b => X b ∨ Y b) W1 W' ∧ (∀ b, Y' b → Y b ∨ W1.heap.size ≤ b) ∧ ((e = .returned (.bool true) ∧ J (pre ++ [x]) Y' W') ∨ (e = .returned (.bool false) ∧ Jx (pre ++ [x]) Y' W'))) →
    J [] (fun _ => False) W →
    Calls P gf (#[.func (.yield l) #[] #[]] ++ lb) W fun e W' => (∃ v, e = .returned v) ∧ Keep X W W' ∧ ((∃ Y, (∀ b, Y b → W.heap.size ≤ b) ∧ J L Y W') ∨ ∃ pre Y, pre <+: L ∧ (∀ b, Y b → W.heap.size ≤ b) ∧ Jx pre Y W')

/-- How a round's body may be left. -/
def Left {α : Type} (X Y : Nat → Prop) (I : List α → (Nat → Prop) → World → Prop) (xs : List α) (W W' : World) : Prop :=
  ∃ Y', Keep (fun b => X b ∨ Y b) W W' ∧ (∀ b, Y' b → Y b ∨ W.heap.size ≤ b) ∧ I xs Y' W'
def roundEnd {α : Type} (X Y : Nat → Prop) (I : List α → (Nat → Prop) → World → Prop) (Ix : Code → List α → (Nat → Prop) → World → Prop) (xs : List α) (W : World) : Exit → Act → World → Prop
  | .normal, _, W' => Left X Y I xs W W'
  | .ret, _, W' => Left X Y (Ix .ret) xs W W'
  | .exit id, _, W' => Left X Y (Ix (.exit id)) xs W W'
  | .goto t, _, W' => Left X Y (Ix (.goto t)) xs W W'
  | .panic _, _, _ => False
  | .outgrown, _, _ => False

variable {P : Program}

/-- What one round owes. -/
def Round {α : Type} (P : Program) (ps : Array Tmp) (assign body : Code) (tmps : Array Value) (encs : α → Array Value) (L : List α) (X : Nat → Prop) (I : List α → (Nat → Prop) → World → Prop) (Ix : Code → List α → (Nat → Prop) → World → Prop) (w : World) (l : Nat) : Prop :=
  ∀ (pre : List α) (x : α) (Y : Nat → Prop) (W : World), pre ++ [x] <+: L → I pre Y W → Keep X w W → (∀ b, Y b → w.heap.size ≤ b ∧ b ≠ l) → l < W.heap.size → (∃ r, W.heap[l]? = some (.loop r)) →
    assign.wpIn (Fence.wide.inRound l) 0 P (Exit.then (fun a₁ w₁ => Keep (fun _ => False) W w₁ ∧
        (∀ W2, Keep (fun b => b = l) w₁ W2 → Keep X w W2 → I pre Y W2 → (∃ r, W2.heap[l]? = some (.loop r)) → body.wpIn (Fence.wide.inRound l) 0 P (roundEnd X Y I Ix (pre ++ [x]) W2) a₁ W2)) (fun _ _ _ => False))
      { tmps := (ps.zip (encs x)).foldl (fun t (p, v) => t.setIfInBounds p v) tmps, defers := [] } W

theorem loop_core {α : Type} {F : Fence} {ps : Array Tmp} {assign body : Code} {Q : Exit → Act → World → Prop} {a a' : Act} {w W1 : World}
    {gf : Nat} {lb : Array Value} {encs : α → Array Value} {L : List α} {Nd X : Nat → Prop} {w0 : World} (hit : Iter P gf lb encs L Nd w0)
    (hps : ∀ x, (encs x).size = ps.size) (l : Nat) (rec : LoopState → Option Code → Loop) (fn : FuncId) (D : Nat)
    (hrec : ∀ st pe, rec st pe = { state := st, pending := pe, fn, tmps := a.tmps, params := ps, assign, body, defers := D })
    (hX : ∀ b, X b → b < w.heap.size) (hNd : ∀ b, Nd b → ¬ X b ∧ b < w.heap.size) (hNdw : ∀ b, Nd b → w.heap[b]? = w0.heap[b]?) (hw0 : w0.heap.size ≤ w.heap.size)
    (hl : w.heap.size ≤ l) (hL1 : W1.heap[l]? = some (.loop (rec .ready none))) (hbw : Below w.heap.size w W1)
    (I : List α → (Nat → Prop) → World → Prop) (Ix : Code → List α → (Nat → Prop) → World → Prop) (hI : Low w.heap.size I) (hIx : ∀ c, Low w.heap.size (Ix c)) (h0 : I [] (fun _ => False) w)
    (hround : Round P ps assign body a.tmps encs L X I Ix w l)
    (hdone : ∀ Y W, I L Y W → (∀ b, Y b → W1.heap.size ≤ b) → Keep X w W → Keep (fun b => X b ∨ b = l) W1 W → Q .normal a' W)
    (hstop : ∀ c pre Y W, pre <+: L → Ix c pre Y W → (∀ b, Y b → W1.heap.size ≤ b) → Keep X w W → Keep (fun b => X b ∨ b = l) W1 W → c.wpIn F 0 P Q a' W) :
    Calls P gf (#[.func (.yield l) #[] #[]] ++ lb) W1 (rangePost F 0 P l Q a') := by
  have hlt1 : l < W1.heap.size := (Array.getElem?_eq_some_iff.1 hL1).1
  have hB1 : w.heap.size ≤ W1.heap.size := hbw.size
  have hkw : Keep X w W1 := .of_all hbw
  -- a step that touches nothing below W1's heap's end but what is not of Y
  have low1 : ∀ {Y : Nat → Prop} {A B : World}, Keep (fun b => W1.heap.size ≤ b ∧ ¬ Y b) A B → Keep (fun b => w.heap.size ≤ b ∧ ¬ Y b) A B := fun h => h.weaken fun _ _ hb => ⟨Nat.le_trans hB1 hb.1, hb.2⟩
  have lowX : ∀ {Y : Nat → Prop} {A B : World}, Keep (fun b => W1.heap.size ≤ b ∧ ¬ Y b) A B → Keep X w A → Keep X w B := fun h k =>
    ⟨h.os.trans k.os, h.tape.trans k.tape, h.output.trans k.output, Nat.le_trans k.size h.size, fun b hb hx => (h.same b (Nat.lt_of_lt_of_le hb k.size) (fun hy => by have := hy.1; omega)).trans (k.same b hb hx)⟩
  have lowl : ∀ {Y : Nat → Prop} {A B : World} {o : Obj}, Keep (fun b => W1.heap.size ≤ b ∧ ¬ Y b) A B → A.heap[l]? = some o → B.heap[l]? = some o := fun h ho => h.heap ho (fun hy => by have := hy.1; omega)
  -- the law's own turn of its record
  have turn : ∀ {Y : Nat → Prop} (W : World) (o : Obj), (∀ b, Y b → W1.heap.size ≤ b) → Keep (fun b => w.heap.size ≤ b ∧ ¬ Y b) W (W.putObj l o) := fun W o hY => (Keep.refl _ W).putObj (.inl ⟨hl, fun hy => by have := hY l hy; omega⟩) o
  refine (hit l (fun b => X b ∨ b = l) (fun pre Y W => (∀ b, Y b → W1.heap.size ≤ b) ∧ I pre Y W ∧ Keep X w W ∧ W.heap[l]? = some (.loop (rec .ready none)))
    (fun pre Y W => (∀ b, Y b → W1.heap.size ≤ b) ∧ ∃ c, Ix c pre Y W ∧ Keep X w W ∧ W.heap[l]? = some (.loop (rec .done (some c)))) W1
    (fun b hb => by have := hNd b hb; rintro (h | h); exact this.1 h; omega)
    (fun b hb => by rcases hb with hb | hb; have := hX b hb; omega; omega)
    (fun b hb => (hkw.same b (hNd b hb).2 (hNd b hb).1).trans (hNdw b hb)) (by omega)
    (fun s Y A B hb ⟨hY, h1, h2, h3⟩ => ⟨hY, hI s Y A B (low1 hb) h1, lowX hb h2, lowl hb h3⟩)
    (fun s Y A B hb ⟨hY, c, h1, h2, h3⟩ => ⟨hY, c, hIx c s Y A B (low1 hb) h1, lowX hb h2, lowl hb h3⟩)
    ?_ ⟨fun _ h => h.elim, hI _ _ _ _ (.of_all hbw) h0, hkw, hL1⟩).mono ?_
  · rintro pre x Y W hpre ⟨hY, hi, hk, hl3⟩ hsz _
    have hlt : l < W.heap.size := (Array.getElem?_eq_some_iff.1 hl3).1
    have hYl : ∀ b, Y b → w.heap.size ≤ b ∧ b ≠ l := fun b hb => by have := hY b hb; omega
    have hy := run_yield (P := P) (args := encs x) hl3 (by rw [hrec]; exact hps x)
    rw [hrec] at hy
    refine ⟨fn, _, assign, body, hy, roundIn_of_wpIn trivial (wpIn_mono (hround pre x Y W hpre hi hk hYl hlt ⟨_, hl3⟩) ?_)⟩
    intro e a₁ w₁ h
    cases e with
    | normal =>
      obtain ⟨hk1, hb1⟩ := h
      have hl4 : w₁.heap[l]? = some (.loop (rec .ready none)) := hk1.heap hl3 (fun hx => hx)
      refine ⟨_, run_beginRound hl4 (by rw [hrec]), ?_⟩
      have hlt4 : l < w₁.heap.size := (Array.getElem?_eq_some_iff.1 hl4).1
      have hi1 : I pre Y w₁ := hI _ _ _ _ (hk1.weaken (fun _ _ h => h.elim)) hi
      have hi2 := hI _ _ _ _ (turn (Y := Y) w₁ (.loop { rec .ready none with state := .busy }) hY) hi1
      have hkw1 : Keep X w (w₁.putObj l (.loop { rec .ready none with state := .busy })) := (hk.trans (hk1.weaken fun _ _ h => h.elim)).putObj (.inr hl) _
      have hl5 : (w₁.putObj l (.loop { rec .ready none with state := .busy })).heap[l]? = some (.loop { rec .ready none with state := .busy }) := World.putObj_heap_same hlt4
      refine wpIn_mono (hb1 _ ((Keep.refl (fun b => b = l) w₁).putObj (.inl rfl) _) hkw1 hi2 ⟨_, hl5⟩) ?_
      have hX2 : Keep (fun b => (X b ∨ b = l) ∨ Y b) W (w₁.putObj l (.loop { rec .ready none with state := .busy })) := (hk1.weaken (fun _ _ h => h.elim)).putObj (.inl (.inl (.inr rfl))) _
      have hsz2 : W.heap.size ≤ (w₁.putObj l (.loop { rec .ready none with state := .busy })).heap.size := hX2.size
      have fin : ∀ (jump : Option Code) (W3 : World) (I' : List α → (Nat → Prop) → World → Prop), Low w.heap.size I' → Left X Y I' (pre ++ [x]) (w₁.putObj l (.loop { rec .ready none with state := .busy })) W3 →
          (Instr.endRound l jump).run P W3 = .ok (.bool jump.isNone) (W3.putObj l (.loop (rec (if jump.isNone then .ready else .done) jump))) ∧
          (W3.putObj l (.loop (rec (if jump.isNone then .ready else .done) jump))).heap[l]? = some (.loop (rec (if jump.isNone then .ready else .done) jump)) ∧
          ∃ Y', (∀ b, Y' b → W1.heap.size ≤ b) ∧ (∀ b, Y' b → Y b ∨ W.heap.size ≤ b) ∧ I' (pre ++ [x]) Y' (W3.putObj l (.loop (rec (if jump.isNone then .ready else .done) jump))) ∧
          Keep X w (W3.putObj l (.loop (rec (if jump.isNone then .ready else .done) jump))) ∧
          Keep (fun b => (X b ∨ b = l) ∨ Y b) W (W3.putObj l (.loop (rec (if jump.isNone then .ready else .done) jump))) := fun jump W3 I' hI' ⟨Y', hk3, hY', hi3⟩ => by
        have hl6 := hk3.heap hl5 (fun hx => by rcases hx with hx | hx; have := hX l hx; omega; have := hY l hx; omega)
        have hr := run_endRound (P := P) jump hl6
        have er : ({ ({ rec .ready none with state := .busy } : Loop) with state := if jump.isNone then .ready else .done, pending := jump } : Loop) = rec (if jump.isNone then .ready else .done) jump := by
          rw [hrec, hrec]
        rw [er] at hr
        have hY1 : ∀ b, Y' b → W1.heap.size ≤ b := fun b hb => by rcases hY' b hb with h | h; exact hY b h; omega
        refine ⟨hr, World.putObj_heap_same (Array.getElem?_eq_some_iff.1 hl6).1, Y', hY1, fun b hb => by rcases hY' b hb with h | h; exact .inl h; exact .inr (by omega), hI' _ _ _ _ (turn W3 _ hY1) hi3, ?_, ?_⟩
        · refine Keep.putObj ?_ (.inr hl) _
          exact ⟨hk3.os.trans hkw1.os, hk3.tape.trans hkw1.tape, hk3.output.trans hkw1.output, Nat.le_trans hkw1.size hk3.size, fun b hb hx => (hk3.same b (Nat.lt_of_lt_of_le hb hkw1.size) (fun h => by rcases h with h | h; exact hx h; have := hY b h; omega)).trans (hkw1.same b hb hx)⟩
        · exact (hX2.trans (hk3.weaken (fun _ _ h => by rcases h with h | h; exact .inl (.inl h); exact .inr h))).putObj (.inl (.inl (.inr rfl))) _
      rintro e a3 W3 hp
      cases e with
      | normal =>
        obtain ⟨hr, hl7, Y', q1, q2, q3, q4, q5⟩ := fin none W3 I hI hp
        exact ⟨_, _, hr, Y', q5, q2, .inl ⟨rfl, q1, q3, q4, hl7⟩⟩
      | ret =>
        obtain ⟨hr, hl7, Y', q1, q2, q3, q4, q5⟩ := fin (some .ret) W3 _ (hIx _) hp
        exact ⟨_, _, hr, Y', q5, q2, .inr ⟨rfl, q1, .ret, q3, q4, hl7⟩⟩
      | exit id =>
        obtain ⟨hr, hl7, Y', q1, q2, q3, q4, q5⟩ := fin (some (.exit id)) W3 _ (hIx _) hp
        exact ⟨_, _, hr, Y', q5, q2, .inr ⟨rfl, q1, .exit id, q3, q4, hl7⟩⟩
      | goto t =>
        obtain ⟨hr, hl7, Y', q1, q2, q3, q4, q5⟩ := fin (some (.goto t)) W3 _ (hIx _) hp
        exact ⟨_, _, hr, Y', q5, q2, .inr ⟨rfl, q1, .goto t, q3, q4, hl7⟩⟩
      | panic ch => exact hp.elim
      | outgrown => exact hp.elim
    | ret => exact h.elim
    | exit id => exact h.elim
    | goto t => exact h.elim
    | panic ch => exact h.elim
    | outgrown => exact h.elim
  · rintro e W2 ⟨⟨v, rfl⟩, hk2, (⟨Y, _, hY, hi, hk, hl2⟩ | ⟨pre, Y, hpre, _, hY, c, hi, hk, hl2⟩)⟩
    · have hr := run_endLoop (P := P) hl2 (by rw [hrec]; simp)
      have e1 : (rec .ready none).pending = none := by rw [hrec]
      rw [e1] at hr
      exact ⟨none, _, hr, hdone Y _ (hI _ _ _ _ (turn W2 _ hY) hi) hY (hk.putObj (.inr hl) _) (hk2.putObj (.inl (.inr rfl)) _)⟩
    · have hr := run_endLoop (P := P) hl2 (by rw [hrec]; simp)
      have e1 : (rec .done (some c)).pending = some c := by rw [hrec]
      rw [e1] at hr
      exact ⟨some c, _, hr, hstop c pre Y _ hpre (hIx c _ _ _ _ (turn W2 _ hY) hi) hY (hk.putObj (.inr hl) _) (hk2.putObj (.inl (.inr rfl)) _)⟩

/-- THE LOOP, OUTERMOST: behind it the activation bears one mark more. -/
theorem loop_out {α : Type} {g : Operand} {ps : Array Tmp} {assign body : Code} {Q : Exit → Act → World → Prop} {a : Act} {w : World}
    {gf : Nat} {lb : Array Value} (hg : a.eval g = .func (.func gf) #[] lb) (eg : ∀ args w, (callFunc gf args).run P w = .ok (.enter gf args) w)
    {encs : α → Array Value} {L : List α} {Nd X : Nat → Prop} {w0 : World} (hit : Iter P gf lb encs L Nd w0) (hps : ∀ x, (encs x).size = ps.size)
    (hX : ∀ b, X b → b < w.heap.size) (hNd : ∀ b, Nd b → ¬ X b ∧ b < w.heap.size) (hNdw : ∀ b, Nd b → w.heap[b]? = w0.heap[b]?) (hw0 : w0.heap.size ≤ w.heap.size)
    (I : List α → (Nat → Prop) → World → Prop) (Ix : Code → List α → (Nat → Prop) → World → Prop) (hI : Low w.heap.size I) (hIx : ∀ c, Low w.heap.size (Ix c)) (h0 : I [] (fun _ => False) w)
    (hround : ∀ l, w.heap.size ≤ l → Round P ps assign body a.tmps encs L X I Ix w l)
    (hdone : ∀ D Y W, w.heap.size ≤ D → W.heap[D]? = some (.deferred (some [])) → I L Y W → (∀ b, Y b → w.heap.size ≤ b ∧ b ≠ D) → Keep X w W → Q .normal { a with defers := { target := .collected D, args := #[] } :: a.defers } W)
    (hstop : ∀ D c pre Y W, w.heap.size ≤ D → W.heap[D]? = some (.deferred (some [])) → pre <+: L → Ix c pre Y W → (∀ b, Y b → w.heap.size ≤ b ∧ b ≠ D) → Keep X w W → c.wpIn Fence.wide 0 P Q { a with defers := { target := .collected D, args := #[] } :: a.defers } W) :
    (Code.rangeFunc g ps assign body).wpIn Fence.wide 0 P Q a w := by
  refine wpIn_rangeFunc ?_
  intro fn _
  obtain ⟨rec, hrec⟩ : ∃ rec : LoopState → Option Code → Loop, rec = fun st pe => { state := st, pending := pe, fn, tmps := a.tmps, params := ps, assign, body, defers := w.heap.size } := ⟨_, rfl⟩
  obtain ⟨W1, hW1⟩ : ∃ W1, (w.alloc (.deferred (some []))).alloc (.loop (rec .ready none)) = W1 := ⟨_, rfl⟩
  have hL1 : W1.heap[w.heap.size + 1]? = some (.loop (rec .ready none)) := by
    rw [← hW1]; have := World.alloc_heap_new (w.alloc (.deferred (some []))) (.loop (rec .ready none)); rwa [World.size_alloc] at this
  have hD1 : W1.heap[w.heap.size]? = some (.deferred (some [])) := by
    rw [← hW1]; exact (Below.heap_alloc _ _ _ (by simp)).trans (World.alloc_heap_new w _)
  have hbw : Below w.heap.size w W1 := by
    rw [← hW1]; exact ((Below.refl _ w).alloc (Nat.le_refl _) _).alloc (by simp) _
  have hltD : w.heap.size < W1.heap.size := (Array.getElem?_eq_some_iff.1 hD1).1
  have hD : ∀ W, Keep (fun b => X b ∨ b = w.heap.size + 1) W1 W → W.heap[w.heap.size]? = some (.deferred (some [])) := fun W hk =>
    hk.heap hD1 (fun h => by rcases h with h | h; have := hX _ h; omega; omega)
  refine ⟨w.heap.size + 1, [{ target := .collected w.heap.size, args := #[] }], W1, { target := .fn (.func gf) lb, args := #[.func (.yield (w.heap.size + 1)) #[] #[]] }, W1, gf,
    #[.func (.yield (w.heap.size + 1)) #[] #[]] ++ lb, W1, ?_, ?_, ?_, ?_, (fun h => by cases h), ?_⟩
  · rw [← hW1, hrec]; exact run_enterLoop_outer _ _ _ _ _
  · simp only [resolve, hg]
    simp [go_sem]
  · intro _ _; trivial
  · simp [invoke, go_sem, eg]
  · exact callsIn_wide.2 (loop_core hit hps (w.heap.size + 1) rec fn w.heap.size (by intro st pe; rw [hrec]) hX hNd hNdw hw0 (by omega) hL1 hbw I Ix hI hIx h0
      (hround _ (by omega))
      (fun Y W hi hY hk hk1 => hdone _ Y W (Nat.le_refl _) (hD W hk1) hi (fun b hb => by have := hY b hb; omega) hk)
      (fun c pre Y W hp hi hY hk hk1 => hstop _ c pre Y W (Nat.le_refl _) (hD W hk1) hp hi (fun b hb => by have := hY b hb; omega) hk))

/-- THE LOOP WITHIN A ROUND of the loop l₀: no mark. -/
theorem loop_in {α : Type} {l₀ : Nat} {g : Operand} {ps : Array Tmp} {assign body : Code} {Q : Exit → Act → World → Prop} {a : Act} {w : World}
    (hr₀ : ∃ r, w.heap[l₀]? = some (.loop r))
    {gf : Nat} {lb : Array Value} (hg : a.eval g = .func (.func gf) #[] lb) (eg : ∀ args w, (callFunc gf args).run P w = .ok (.enter gf args) w)
    {encs : α → Array Value} {L : List α} {Nd X : Nat → Prop} {w0 : World} (hit : Iter P gf lb encs L Nd w0) (hps : ∀ x, (encs x).size = ps.size)
    (hX : ∀ b, X b → b < w.heap.size) (hNd : ∀ b, Nd b → ¬ X b ∧ b < w.heap.size) (hNdw : ∀ b, Nd b → w.heap[b]? = w0.heap[b]?) (hw0 : w0.heap.size ≤ w.heap.size)
    (I : List α → (Nat → Prop) → World → Prop) (Ix : Code → List α → (Nat → Prop) → World → Prop) (hI : Low w.heap.size I) (hIx : ∀ c, Low w.heap.size (Ix c)) (h0 : I [] (fun _ => False) w)
    (hround : ∀ l, w.heap.size ≤ l → Round P ps assign body a.tmps encs L X I Ix w l)
    (hdone : ∀ Y W, I L Y W → (∀ b, Y b → w.heap.size ≤ b) → Keep X w W → Q .normal a W)
    (hstop : ∀ c pre Y W, pre <+: L → Ix c pre Y W → (∀ b, Y b → w.heap.size ≤ b) → Keep X w W → c.wpIn (Fence.wide.inRound l₀) 0 P Q a W) :
    (Code.rangeFunc g ps assign body).wpIn (Fence.wide.inRound l₀) 0 P Q a w := by
  refine wpIn_rangeFunc ?_
  intro fn _
  obtain ⟨r₀, hr₀⟩ := hr₀
  obtain ⟨rec, hrec⟩ : ∃ rec : LoopState → Option Code → Loop, rec = fun st pe => { state := st, pending := pe, fn, tmps := a.tmps, params := ps, assign, body, defers := r₀.defers } := ⟨_, rfl⟩
  obtain ⟨W1, hW1⟩ : ∃ W1, w.alloc (.loop (rec .ready none)) = W1 := ⟨_, rfl⟩
  have hL1 : W1.heap[w.heap.size]? = some (.loop (rec .ready none)) := by
    rw [← hW1]; exact World.alloc_heap_new w _
  have hbw : Below w.heap.size w W1 := by
    rw [← hW1]; exact (Below.refl _ w).alloc (Nat.le_refl _) _
  refine ⟨w.heap.size, [], W1, { target := .fn (.func gf) lb, args := #[.func (.yield w.heap.size) #[] #[]] }, W1, gf,
    #[.func (.yield w.heap.size) #[] #[]] ++ lb, W1, ?_, ?_, ?_, ?_, (fun h => by cases h), ?_⟩
  · rw [← hW1, hrec]; exact run_enterLoop_inner hr₀ _ _ _ _ _
  · simp only [resolve, hg]
    simp [go_sem]
  · intro _ _; trivial
  · simp [invoke, go_sem, eg]
  · exact CallsIn.inRound l₀ (callsIn_wide.2 (loop_core hit hps w.heap.size rec fn r₀.defers (by intro st pe; rw [hrec]) hX hNd hNdw hw0 (by omega) hL1 hbw I Ix hI hIx h0
      (hround _ (by omega))
      (fun Y W hi hY hk _ => hdone Y W hi (fun b hb => by have := hY b hb; have := hbw.size; omega) hk)
      (fun c pre Y W hp hi hY hk _ => hstop c pre Y W hp hi (fun b hb => by have := hY b hb; have := hbw.size; omega) hk)))

/-- A frame's way out, its marks taken off one behind the other. -/
theorem leaves_marks {fn : Func} {tmps : Array Value} {R : Ending → World → Prop} {W : World} {Ds : List Nat} (hnd : Ds.Nodup) (hD : ∀ D, D ∈ Ds → W.heap[D]? = some (.deferred (some [])))
    (h : ∀ W', Keep (fun b => b ∈ Ds) W W' → ∃ v, (results fn tmps).run P W' = .ok v W' ∧ R (.returned v) W') :
    LeavesInM Fence.wide 0 P fn tmps R (Ds.map fun D => { target := .collected D, args := #[] }) .returning W := by
  induction Ds generalizing W with
  | nil => exact h W (Keep.refl _ _)
  | cons D Ds ih =>
    have h1 := hD D (List.mem_cons_self ..)
    obtain ⟨hn1, hn2⟩ := List.nodup_cons.1 hnd
    refine ⟨by simp, .inl ⟨D, _, rfl, run_takeDeferred h1, ih hn2 (fun D' hD' => ?_) (fun W' hk => h W' ?_)⟩⟩
    · exact (World.putObj_heap_other (fun e : D' = D => hn1 (e ▸ hD'))).trans (hD D' (List.mem_cons_of_mem _ hD'))
    · exact ((Keep.refl (fun b => b ∈ D :: Ds) W).putObj (.inl (List.mem_cons_self ..)) _).trans (hk.weaken (fun _ _ hb => List.mem_cons_of_mem _ hb))
end Go.Kt
/- What is the same of any program: a slice that the call itself builds, element by element. -/
namespace Go.Kt
open Go Go.RowKit
variable {P : Program}

/-- v is a slice of n elements of its own row, whose cells are xs; its block is of Y. -/
def OwnS (Y : Nat → Prop) (e : TypeId) (size : Nat) (v : Value) (n : Nat) (xs : List Value) (W : World) : Prop :=
  W.ownsRow 0 e size v n xs ∧ ∀ g, v.ownBlock = some g → Y g

theorem heap_alloc_if (A : World) (o : Obj) (k : Nat) : (A.alloc o).heap[k]? = if k = A.heap.size then some o else A.heap[k]? := by
  show (A.heap.push o)[k]? = _
  exact Array.getElem?_push ..
theorem own_nil (e : TypeId) (size : Nat) (W : World) (Y : Nat → Prop) : OwnS Y e size (.slice none 0 0) 0 [] W := ⟨World.ownsRow_nil W 0 e size, fun _ h => by cases h⟩
theorem keep_grown {A B : World} {row : Option Nat} (hg : A.grownBy B row) : Keep (fun b => row = some b) A B :=
  ⟨hg.os, hg.tape, hg.output, hg.size, fun b hb hr => hg.block b hb (fun e => hr e.symm)⟩
theorem OwnS.keep {Y X : Nat → Prop} {e : TypeId} {size n : Nat} {v : Value} {xs : List Value} {A B : World} (h : OwnS Y e size v n xs A) (hk : Keep X A B) (hX : ∀ b, X b → ¬ Y b) : OwnS Y e size v n xs B := by
  obtain ⟨⟨hl, h2⟩, hY⟩ := h
  refine ⟨⟨hl, ?_⟩, hY⟩
  rcases h2 with h2 | ⟨g, cap, cur, rfl, hb, hg, rest⟩
  · exact .inl h2
  · exact .inr ⟨g, cap, cur, rfl, hb, hk.heap hg (fun hx => hX g hx (hY g rfl)), rest⟩
theorem OwnS.weaken {Y Z : Nat → Prop} {e : TypeId} {size n : Nat} {v : Value} {xs : List Value} {A : World} (h : OwnS Y e size v n xs A) (hY : ∀ b, Y b → Z b) : OwnS Z e size v n xs A := ⟨h.1, fun g hg => hY g (h.2 g hg)⟩

/-- 'append(v, x)': x lies in a new block of its own; v' lies where v lay, or in a row that is younger. -/
theorem append_x (W : World) (t e : TypeId) {z : Value} {size bytes : Nat} (ht : P.underlying t = some (.slice e)) (hinfo : (P.info? e).map (fun i => (i.zero, i.size, i.bytes)) = some (some z, size, bytes))
    (hzs : z.cells.size = size) (hsz : 0 < size) {Y : Nat → Prop} {v : Value} {n : Nat} {xs : List Value} (hown : OwnS Y e size v n xs W)
    (news : List Value) (hl : news.length = size) (h1 : ∀ u ∈ news, u.oneCell' = true) (h63 : n + 1 ≤ maxLen) (hbytes : (n + 1) * bytes ≤ 140737488355328) :
    ∃ g cap w', (∀ ty, (Builtin.append_ #[t, t] ty #[v, .slice (some ⟨W.heap.size, 0, none⟩) 1 1]).run P (W.alloc (.cells news.toArray e)) = .ok (.slice (some ⟨g, 0, none⟩) (n + 1) cap) w') ∧
      OwnS (fun b => b = g) e size (.slice (some ⟨g, 0, none⟩) (n + 1) cap) (n + 1) (xs ++ news) w' ∧ Keep (fun b => v.ownBlock = some b) W w' ∧ (v.ownBlock = some g ∨ W.heap.size < g) ∧ W.heap.size < w'.heap.size := by
  obtain ⟨i, hi, hz, hs1, hb1⟩ := info_parts hinfo
  have hc : ∀ j u, news[j]? = some u → (W.alloc (.cells news.toArray e)).cell? ((⟨W.heap.size, 0, none⟩ : Addr).add j) = some u := fun j u hj => by
    have hh := World.alloc_heap_new W (.cells news.toArray e)
    rw [Addr.add_lit, Lib.cell_of_heap hh]
    simpa using hj
  have hown' : (W.alloc (.cells news.toArray e)).ownsRow 0 e size v n xs := hown.1.alloc _
  obtain ⟨v', w', hrun, r1, r2, r3⟩ := run_append_own (P := P) (W.alloc (.cells news.toArray e)) 0 t 0 e i z size bytes ht hi hz hs1 hb1 hzs hsz v n xs hown' ⟨W.heap.size, 0, none⟩ 1 1 news (by omega) hc h1 h63 hbytes (Nat.zero_le _)
  have hrun' : ∀ ty, (Builtin.append_ #[t, t] ty #[v, .slice (some ⟨W.heap.size, 0, none⟩) 1 1]).run P (W.alloc (.cells news.toArray e)) = .ok v' w' := fun ty => hrun
  have hK : Keep (fun b => v.ownBlock = some b) W w' := ((Keep.refl _ W).alloc _).trans (keep_grown r2)
  have hsz' : W.heap.size < w'.heap.size := by have := r2.size; simp at this; omega
  rcases r1.2 with ⟨_, h⟩ | ⟨g, cap, cur, rfl, hb, hg, rest⟩
  · omega
  refine ⟨g, cap, w', hrun', ⟨r1, fun g' h => by cases h; rfl⟩, hK, ?_, hsz'⟩
  -- where it lies
  rcases hown'.2 with ⟨hv, hn⟩ | ⟨g0, cap0, cur0, hv, hb0, hg0, hnc, hcm, hcs, _⟩
  · -- no row yet: a new one
    right
    obtain ⟨v2, w2, hrun2, q1, q2, q3⟩ := run_append_own (P := P) (W.alloc (.cells news.toArray e)) (W.heap.size + 1) t 0 e i z size bytes ht hi hz hs1 hb1 hzs hsz v n xs ⟨hown'.1, .inl ⟨hv, hn⟩⟩ ⟨W.heap.size, 0, none⟩ 1 1 news (by omega) hc h1 h63 hbytes (by simp)
    rw [hrun] at hrun2
    injection hrun2 with e1 e2
    subst e1; subst e2
    exact (q1.lt g rfl).1
  · subst hv
    by_cases hroom : n + 1 ≤ cap0
    · left
      have hr := run_append_room (P := P) (W.alloc (.cells news.toArray e)) t 0 e i ht hi g0 n cap0 cur0 hg0 ⟨W.heap.size, 0, none⟩ 1 1 news (by omega) hc h1 hroom (by rw [hs1, hcs, hl, ← Nat.succ_mul]; exact Nat.mul_le_mul_right _ hroom)
      rw [hrun] at hr
      injection hr with e1 e2
      injection e1 with e1 _ _
      injection e1 with e1
      injection e1 with e1
      subst e1
      rfl
    · right
      have holds : ∀ j u, xs[j]? = some u → (W.alloc (.cells news.toArray e)).cell? ((⟨g0, 0, none⟩ : Addr).add j) = some u := hown'.cells (g := g0) rfl
      have hsmall : n + 1 ≤ 9223372036854775807 := by simp only [maxLen] at h63; omega
      have hr := run_append_grow (P := P) (W.alloc (.cells news.toArray e)) t 0 e i z ht hi hz ⟨g0, 0, none⟩ n cap0 xs (by rw [hs1]; exact hown'.1) holds ⟨W.heap.size, 0, none⟩ 1 1 news (by omega) hc (by omega) (by omega) (by rw [hb1]; exact growslice_fits (by omega) hbytes)
      rw [hrun] at hr
      injection hr with e1 e2
      injection e1 with e1 _ _
      injection e1 with e1
      injection e1 with e1
      subst e1
      simp

/-- The bytes of a text as cells. -/
theorem strCells_len (s : ByteArray) : (Lib.strCells s).length = s.size := Lib.strCells_length s

/-- 'append(v, s...)' of a text, the row's head frozen or not. -/
theorem append_str (W : World) (t u e : TypeId) (ht : P.underlying t = some (.slice e)) (hu : P.underlying u = some .string) (hinfo : (P.info? e).map (fun i => (i.zero, i.size, i.bytes)) = some (some (.int .u8 0), 1, 1))
    {v : Value} {n : Nat} {xs : List Value} (hown : W.ownsRowF 0 e 1 v n xs) (s : ByteArray) (h63 : n + s.size ≤ 140737488355328) :
    ∃ v' w', (∀ ty, (Builtin.append_ #[t, u] ty #[v, .string s]).run P W = .ok v' w') ∧ w'.ownsRowF 0 e 1 v' (n + s.size) (xs ++ Lib.strCells s) ∧
      Keep (fun b => v.ownBlock = some b) W w' ∧ (∀ g, v'.ownBlock = some g → v.ownBlock = some g ∨ W.heap.size ≤ g) := by
  obtain ⟨i, hi, hz, hs1, hb1⟩ := info_parts hinfo
  have hm : n + s.size ≤ maxLen := by unfold maxLen; omega
  obtain ⟨v', w', hrun, r1, r2, r3⟩ := Lib.run_append_own_stringF (P := P) W 0 t u 0 e i ht hu hi hz hs1 hb1 v n xs hown s hm h63 (Nat.zero_le _)
  refine ⟨v', w', fun ty => hrun, r1, keep_grown r2, ?_⟩
  intro g hg
  rcases hown.2 with ⟨hv, hn⟩ | ⟨g0, cap0, cur0, fz0, hv, hb0, hg0, hfz, hnc, hcm, hcs, htk⟩
  · right
    obtain ⟨v2, w2, hrun2, q1, _⟩ := Lib.run_append_own_stringF (P := P) W W.heap.size t u 0 e i ht hu hi hz hs1 hb1 v n xs ⟨hown.1, .inl ⟨hv, hn⟩⟩ s hm h63 (Nat.le_refl _)
    rw [hrun] at hrun2
    injection hrun2 with e1 e2
    subst e1; subst e2
    rcases q1.2 with ⟨h, _⟩ | ⟨g', _, _, _, h, hb', _⟩
    · rw [h] at hg; cases hg
    · rw [h] at hg; cases hg; exact hb'
  · subst hv
    have hcs' : cur0.size = cap0 := by simpa using hcs
    by_cases hroom : n + s.size ≤ cap0
    · left
      have hr := Lib.run_append_room_stringF (P := P) W t u 0 e i ht hu hi hs1 g0 n cap0 cur0 fz0 hg0 (by simpa using hfz) s hroom (by omega)
      rw [hrun] at hr
      injection hr with e1 e2
      subst e1
      exact hg
    · right
      have holds : ∀ j x, xs[j]? = some x → W.cell? ((⟨g0, 0, none⟩ : Addr).add j) = some x := hown.cells (g := g0) rfl
      have hr := Lib.run_append_grow_string (P := P) W t u 0 e i (.int .u8 0) ht hu hi hz ⟨g0, 0, none⟩ n cap0 xs (by rw [hs1]; exact hown.1) holds s (by omega) (by omega) (by rw [hb1]; exact growslice_fits (by omega) (by omega))
      rw [hrun] at hr
      injection hr with e1 e2
      subst e1
      cases hg
      exact Nat.le_refl _

/-- AN append WHOSE RUN IS KNOWN, for the walk. -/
theorem wpList_append_eq {ops : Array Oper} {rest : List Oper} {o : Oper} {a : Act} {Q : Exit → Act → World → Prop} {w w' : World} {v' x y : Value} (hgd : o.guard = none) {sl ar : Operand} {t u : TypeId}
    (ho : o.op = .call { callee := .builtin .append, args := #[sl, ar], argTypes := #[t, u] }) (hs : a.eval sl = x) (hx : a.eval ar = y)
    (hrun : ∀ ty, (Builtin.append_ #[t, u] ty #[x, y]).run P w = .ok v' w') (h : wpList P ops Q rest (a.put o.dst v') w') : wpList P ops Q (o :: rest) a w := by
  refine wpList_plain hgd fun K hK => ?_
  unfold Oper.wp execOp
  simp only [ho, resolve, invoke, builtin, Sem.run_bind, Sem.run_pure, Result.andThen_ok, List.map_toArray, List.map_cons, List.map_nil, hs, hx, hrun]
  exact hK _ _ h
theorem wpListIn_append_eq {F : Fence} {n : Nat} {ops : Array Oper} {rest : List Oper} {o : Oper} {a : Act} {Q : Exit → Act → World → Prop} {w w' : World} {v' x y : Value} (hgd : o.guard = none) {sl ar : Operand} {t u : TypeId}
    (ho : o.op = .call { callee := .builtin .append, args := #[sl, ar], argTypes := #[t, u] }) (hs : a.eval sl = x) (hx : a.eval ar = y)
    (hrun : ∀ ty, (Builtin.append_ #[t, u] ty #[x, y]).run P w = .ok v' w') (h : wpListIn F n P ops Q rest (a.put o.dst v') w') : wpListIn F n P ops Q (o :: rest) a w := by
  refine wpListIn_plain hgd fun K hK => ?_
  unfold Oper.wpIn
  refine ⟨?_, ?_⟩
  · simp [Oper.about, ho, resolve, Target.leads, Sem.run_pure]
  · rw [Oper.semAt_plain F _ _ (by rw [ho]; intro c hc'; cases hc')]
    simp [execOp, ho, resolve, invoke, builtin, hs, hx, hrun, Result.andThen]
    exact hK _ _ h
end Go.Kt
/- What is the same of any program: a loop with a known number of rounds at the most, whose rounds may leave marks on the activation. -/
namespace Go.Kt
open Go Go.RowKit
variable {P : Program}

theorem rounds_ind {F : Fence} {n : Nat} {c : Code} {Q : Exit → Act → World → Prop} (Rel : Nat → Act → World → Prop)
    (hstep : ∀ m a w, Rel (m + 1) a w → c.wpIn F n P (Exit.then (Rel m) Q) a w) (h0 : ∀ a w, ¬ Rel 0 a w) (m : Nat) {a : Act} {w : World} (h : Rel m a w) : (Code.loop c).wpIn F n P Q a w := by
  refine wpIn_loop_rounds m ?_
  induction m generalizing a w with
  | zero => exact (h0 _ _ h).elim
  | succ m ih =>
    rw [roundsIn_succ]
    refine wpIn_mono (hstep m a w h) ?_
    intro e a' w' he
    cases e with
    | normal => exact ih he
    | ret => exact he
    | exit id => exact he
    | goto t => exact he
    | panic ch => exact he
    | outgrown => exact he

theorem alloc_at {A : World} {o : Obj} {k : Nat} (hk : k = A.heap.size) : (A.alloc o).heap[k]? = some o := by rw [hk]; exact World.alloc_heap_new A o
theorem alloc_old {A : World} {o x : Obj} {k : Nat} (h : A.heap[k]? = some x) : (A.alloc o).heap[k]? = some x := ((Keep.refl (fun _ => False) A).alloc o).heap h (fun h => h)
theorem set_at {A : World} {k : Nat} {v u : Value} {t : TypeId} {fr : Nat × Nat} (h : A.heap[k]? = some (.cells #[v] t fr)) : (A.setCell ⟨k, 0, none⟩ u).heap[k]? = some (.cells #[u] t fr) := by
  simp [World.setCell, Array.getElem?_modify, h]
theorem set_old {A : World} {j k : Nat} {o : Nat} {x : Obj} {u : Value} (h : A.heap[j]? = some x) (hne : j ≠ k) : (A.setCell ⟨k, o, none⟩ u).heap[j]? = some x :=
  ((Keep.refl (fun b => b = k) A).setCell (p := ⟨k, o, none⟩) rfl u).heap h hne
theorem cell_one {A : World} {k : Nat} {v : Value} {t : TypeId} {fr : Nat × Nat} (h : A.heap[k]? = some (.cells #[v] t fr)) : A.cell? ⟨k, 0, none⟩ = some v := by
  simp [World.cell?, h]
theorem frozen_one {A : World} {k : Nat} {v : Value} {t : TypeId} (h : A.heap[k]? = some (.cells #[v] t (0, 0))) : A.frozen? ⟨k, 0, none⟩ = false := by
  simp [World.frozen?, h]

theorem results_cell_one {fn : Func} {p : Tmp} {ty : TypeId} (h : fn.results = #[.cell p ty]) (tmps : Array Value) (w : World) (g : Nat) (v : Value)
    (hp : tmps.getD p undef = .pointer (some ⟨g, 0, none⟩)) (hg : w.cell? ⟨g, 0, none⟩ = some v) (ha : ∀ w, (isAgg ty).run P w = .ok false w) :
    (results fn tmps).run P w = .ok v w := by
  have hp' : tmps[p]?.getD undef = .pointer (some ⟨g, 0, none⟩) := by simpa using hp
  simp [results, h, hp', asAddr, loadVar, ha, hg]
end Go.Kt
/- Lists that are read: two held against each other; a text of numbers; one unit; whether a text is right. -/
namespace Go.Proofs.YtmpjlenfnlijfaaGreatDoor
open Go Go.RowKit Go.Kt

/-- v is read as the numbers l. -/
def Sl (k : IntKind) (W : World) (v : Value) (l : List Int) : Prop :=
  ∃ ao cap, v = .slice ao l.length cap ∧ (l = [] ∨ ∃ g off, ao = some ⟨g, off, none⟩ ∧ ∀ i x, l[i]? = some x → W.cell? ⟨g, off + i, none⟩ = some (.int k x))

theorem Sl.keep {k : IntKind} {X : Nat → Prop} {A B : World} {v : Value} {l : List Int} (h : Sl k A v l) (hk : Keep X A B) (hX : ∀ ao n cap, v = .slice ao n cap → ∀ g off, ao = some ⟨g, off, none⟩ → ¬ X g) : Sl k B v l := by
  obtain ⟨ao, cap, rfl, h⟩ := h
  refine ⟨ao, cap, rfl, ?_⟩
  rcases h with h | ⟨g, off, rfl, h⟩
  · exact .inl h
  · exact .inr ⟨g, off, rfl, fun i x hx => hk.cell (h i x hx) (hX _ _ _ rfl g off rfl)⟩
theorem Sl.below {k : IntKind} {A B : World} {v : Value} {l : List Int} (h : Sl k A v l) (hb : Below A.heap.size A B) : Sl k B v l := h.keep (X := fun _ => False) (.of_all hb) (fun _ _ _ _ _ _ _ h => h)

theorem ret_b {a b : Bool} (h : a = b) : Ending.returned (.bool a) = .returned (.bool b) := by rw [h]
def Drawn (w w' : World) : Prop := ∃ n, w' = w.drewN n
theorem Drawn.below {w w' : World} (h : Drawn w w') : Below w.heap.size w w' := by obtain ⟨n, rfl⟩ := h; exact ⟨rfl, rfl, rfl, Nat.le_refl _, fun _ _ => rfl⟩
theorem Drawn.more {w w' : World} (h : Drawn w w') (n : Nat) : Drawn w (w'.drewN n) := by obtain ⟨m, rfl⟩ := h; exact ⟨m + n, World.drewN_drewN ..⟩
theorem Drawn.refl (w : World) : Drawn w w := ⟨0, rfl⟩
theorem Drawn.cell {w w' : World} (h : Drawn w w') (p : Addr) : w'.cell? p = w.cell? p := by obtain ⟨n, rfl⟩ := h; rfl
def SameOut (l1 l2 : List Int) (w : World) (e : Ending) (w' : World) : Prop := e = .returned (.bool (decide (l1 = l2))) ∧ Drawn w w'

set_option maxRecDepth 100000 in
theorem sameRunes_any (v1 v2 : Value) (l1 l2 : List Int) (w : World) (h1 : Sl .i32 w v1 l1) (h2 : Sl .i32 w v2 l2) (m1 : l1.length ≤ 4611686018427387904) (m2 : l2.length ≤ 4611686018427387904) :
    Calls Tryz.prog 41 #[v1, v2] w (SameOut l1 l2 w) := by
  obtain ⟨a1, c1, rfl, h1⟩ := h1
  obtain ⟨a2, c2, rfl, h2⟩ := h2
  by_cases hl : l1.length = l2.length
  · have hlt : (l1.length : Int) = l2.length := by omega
    have H1 := Lib.hid h1
    have H2 := Lib.hid h2
    have HL := Lib.hid hl
    have hne : ((l1.length : Int) != l2.length) = false := by simp [hl]
    clear h1 h2 hl hlt
    go_enter Tryz.func41, Tryz.ntmps41
    go_wp2
    go_loopw [5] (fun v wr => ∃ k : Nat, k ≤ l1.length ∧ v = .int .i64 k ∧ l1.take k = l2.take k ∧ Drawn w wr) (fun v _ => l1.length - (RowKit.intOf v).toNat)
    case atStart => exact ⟨0, by omega, rfl, by simp, Drawn.refl _⟩
    case round =>
      obtain ⟨k, hk, rfl, htk, hb⟩ := hrel
      have HT := Lib.hid htk
      clear htk
      by_cases hlt : k < l1.length
      · have hlt2 : k < l2.length := by have := HL.out; omega
        obtain ⟨g1, o1, rfl, k1⟩ : ∃ g off, a1 = some ⟨g, off, none⟩ ∧ ∀ i x, l1[i]? = some x → w.cell? ⟨g, off + i, none⟩ = some (.int .i32 x) := by
          rcases H1.out with h | h
          · subst h; simp at hlt
          · exact h
        obtain ⟨g2, o2, rfl, k2⟩ : ∃ g off, a2 = some ⟨g, off, none⟩ ∧ ∀ i x, l2[i]? = some x → w.cell? ⟨g, off + i, none⟩ = some (.int .i32 x) := by
          rcases H2.out with h | h
          · subst h; simp at hlt2
          · exact h
        obtain ⟨x1, e1⟩ : ∃ x, l1[k]? = some x := ⟨l1[k], List.getElem?_eq_getElem hlt⟩
        obtain ⟨x2, e2⟩ : ∃ x, l2[k]? = some x := ⟨l2[k], List.getElem?_eq_getElem hlt2⟩
        have q1 := k1 k x1 e1
        have q2 := k2 k x2 e2
        have p1 := (hb.cell _).trans q1
        have p2 := (hb.cell _).trans q2
        have E := Lib.hid (And.intro e1 e2)
        clear k1 k2 q1 q2 e1 e2
        by_cases hx : x1 = x2
        · subst hx
          have hxx : (x1 != x1) = false := by simp
          go_wp2
          go_quiet (fail)
          go_wp2
          go_roundw
          case rel =>
            refine ⟨k + 1, by omega, by go_num, ?_, hb.more _⟩
            rw [List.take_add_one, List.take_add_one, HT.out, E.out.1, E.out.2]
          case measure => simp [RowKit.intOf]; omega
        · have hxx : (x1 != x2) = true := by simp [hx]
          have hfin : decide (l1 = l2) = false := by
            simp only [decide_eq_false_iff_not]
            intro h; subst h; rw [E.out.1] at E
            exact hx (Option.some.inj E.out.2)
          go_wp2
          go_quiet (fail)
          go_wp2
          go_ret
          exact ⟨ret_b hfin.symm, hb.more _⟩
      · have hke : k = l1.length := by omega
        have hfin : decide (l1 = l2) = true := by
          have := HT.out
          rw [hke, List.take_length, HL.out, List.take_length] at this
          simpa using this
        clear hke
        go_wp2
        go_ret
        exact ⟨ret_b hfin.symm, hb⟩
  · have hne : ((l1.length : Int) != l2.length) = true := by simp; omega
    have hfin : decide (l1 = l2) = false := by
      simp only [decide_eq_false_iff_not]
      intro h; subst h; exact hl rfl
    clear h1 h2 hl
    go_enter Tryz.func41, Tryz.ntmps41
    go_wp2
    go_ret
    exact ⟨ret_b hfin.symm, Drawn.refl _⟩
end Go.Proofs.YtmpjlenfnlijfaaGreatDoor

namespace Go.Proofs.YtmpjlenfnlijfaaGreatDoor
open Go Go.RowKit Go.Lib

def CharAt (w b0 b1 b2 b3 : Nat) : Prop :=
  (w = 1 ∧ b0 < 128) ∨ (w = 2 ∧ 194 ≤ b0 ∧ b0 < 224 ∧ 128 ≤ b1 ∧ b1 ≤ 191) ∨
  (w = 3 ∧ 224 ≤ b0 ∧ b0 < 240 ∧ 128 ≤ b1 ∧ b1 ≤ 191 ∧ (b0 = 224 → 160 ≤ b1) ∧ (b0 = 237 → b1 ≤ 159) ∧ 128 ≤ b2 ∧ b2 ≤ 191) ∨
  (w = 4 ∧ 240 ≤ b0 ∧ b0 < 245 ∧ 128 ≤ b1 ∧ b1 ≤ 191 ∧ (b0 = 240 → 144 ≤ b1) ∧ (b0 = 244 → b1 ≤ 143) ∧ 128 ≤ b2 ∧ b2 ≤ 191 ∧ 128 ≤ b3 ∧ b3 ≤ 191)

theorem lead_1 (b0 : Nat) (h : b0 < 128) : leadI b0 = (1, 0, 0) := by unfold leadI; rw [if_pos (by omega)]

theorem bgT_char (N b0 b1 b2 b3 w : Nat) (hw1 : 1 ≤ w) (hw4 : w ≤ 4) (hN : 1 ≤ N) (c0 : b0 < 256) :
    ((leadI b0).1 = w ∧ bgT (leadI b0) N b1 b2 b3 = w) ↔ (w ≤ N ∧ CharAt w b0 b1 b2 b3) := by
  unfold CharAt
  by_cases h0 : b0 < 128
  · rw [lead_1 b0 h0]; simp only [bgT, inB_iff]; rw [if_neg (by omega)]; omega
  by_cases h1 : (128 ≤ b0 ∧ b0 < 194) ∨ 245 ≤ b0
  · rw [lead_bad b0 h1]; simp only; omega
  by_cases h2 : b0 < 224
  · rw [lead_2 b0 (by omega)]; simp only [bgT, inB_iff]
    split
    · rw [if_neg (by omega)]; omega
    · omega
  by_cases h3 : b0 < 240
  · rw [lead_3 b0 (by omega)]; simp only [bgT, inB_iff]
    have e1 : (if b0 = 224 then 160 else 128) = (if b0 = 224 then 160 else 128 : Nat) := rfl
    generalize hlo : (if b0 = 224 then 160 else 128 : Nat) = lo
    generalize hhi : (if b0 = 237 then 159 else 191 : Nat) = hi
    have hlo' : (b0 = 224 ∧ lo = 160) ∨ (b0 ≠ 224 ∧ lo = 128) := by split at hlo <;> omega
    have hhi' : (b0 = 237 ∧ hi = 159) ∨ (b0 ≠ 237 ∧ hi = 191) := by split at hhi <;> omega
    clear hlo hhi e1
    split
    · split
      · rw [if_neg (by omega)]; omega
      · omega
    · omega
  · rw [lead_4 b0 (by omega)]; simp only [bgT, inB_iff]
    generalize hlo : (if b0 = 240 then 144 else 128 : Nat) = lo
    generalize hhi : (if b0 = 244 then 143 else 191 : Nat) = hi
    have hlo' : (b0 = 240 ∧ lo = 144) ∨ (b0 ≠ 240 ∧ lo = 128) := by split at hlo <;> omega
    have hhi' : (b0 = 244 ∧ hi = 143) ∨ (b0 ≠ 244 ∧ hi = 191) := by split at hhi <;> omega
    clear hlo hhi
    split
    · split
      · split <;> omega
      · omega
    · omega

theorem wide_iff (s : ByteArray) (i w : Nat) (hi : i < s.size) (hw1 : 1 ≤ w) (hw4 : w ≤ 4) :
    wideI s i = w ↔ (i + w ≤ s.size ∧ CharAt w (B s i) (B s (i + 1)) (B s (i + 2)) (B s (i + 3))) := by
  have hb := bgT_char (s.size - i) (B s i) (B s (i + 1)) (B s (i + 2)) (B s (i + 3)) w hw1 hw4 (by omega) (B_lt _ _)
  have e : (i + w ≤ s.size) ↔ (w ≤ s.size - i) := by omega
  rw [e, ← hb]
  unfold wideI
  rw [begunI_eq]
  by_cases hz : (leadI (B s i)).1 = 0
  · rw [if_pos hz]; simp [hz]; omega
  · rw [if_neg hz]
    by_cases hq : bgT (leadI (B s i)) (s.size - i) (B s (i + 1)) (B s (i + 2)) (B s (i + 3)) = (leadI (B s i)).1
    · simp [hq]
    · simp only [bne_iff_ne, ne_eq, hq, not_false_eq_true, if_true]
      omega
/-- A decode of more than one byte is that of a character. -/
theorem decode_wide (s : ByteArray) (i : Nat) (hi : i < s.size) :
    (wideI s i = 0 ∧ Utf8.decode s i = (65533, 1)) ∨ (∃ w : Nat, 1 ≤ w ∧ w ≤ 4 ∧ i + w ≤ s.size ∧ wideI s i = w ∧ (Utf8.decode s i).2 = w) := by
  rcases unit_at s i hi with h | ⟨w, h1, h2, h3, h4, h5, _⟩
  · exact .inl h
  · exact .inr ⟨w, h1, h2, h3, h4, h5⟩
end Go.Proofs.YtmpjlenfnlijfaaGreatDoor

namespace Go.Proofs.YtmpjlenfnlijfaaGreatDoor
open Go Go.RowKit Go.Lib

def befK (s : ByteArray) (n : Nat) : Nat → Nat → Int × Int
  | 0, _ => (65533, 1)
  | f + 1, k => if k ≤ 4 ∧ k ≤ n then (if wideI s (n - k) = k then (((Utf8.decode s (n - k)).1 : Int), (k : Int)) else befK s n f (k + 1)) else (65533, 1)
def befP (s : ByteArray) (a : Int) : Int × Int := if 1 ≤ a ∧ a ≤ s.size then befK s a.toNat 5 1 else (65533, 0)

end Go.Proofs.YtmpjlenfnlijfaaGreatDoor

namespace Go.Proofs.YtmpjlenfnlijfaaGreatDoor
open Go Go.RowKit Go.Lib

/-- The character of w bytes that ends at n. -/
def Ends (s : ByteArray) (n w : Nat) : Prop := 1 ≤ w ∧ w ≤ 4 ∧ w ≤ n ∧ wideI s (n - w) = w

theorem ends_char {s : ByteArray} {n w : Nat} (hn : n ≤ s.size) (h : Ends s n w) : CharAt w (B s (n - w)) (B s (n - w + 1)) (B s (n - w + 2)) (B s (n - w + 3)) :=
  let ⟨h1, h4, hw, he⟩ := h
  ((wide_iff s (n - w) w (by omega) h1 h4).1 he).2
theorem ends_of_char {s : ByteArray} {n w : Nat} (hn : n ≤ s.size) (h1 : 1 ≤ w) (h4 : w ≤ 4) (hw : w ≤ n) (h : CharAt w (B s (n - w)) (B s (n - w + 1)) (B s (n - w + 2)) (B s (n - w + 3))) : Ends s n w :=
  ⟨h1, h4, hw, (wide_iff s (n - w) w (by omega) h1 h4).2 ⟨by omega, h⟩⟩
theorem char_congr {w a0 a1 a2 a3 b0 b1 b2 b3 : Nat} (h0 : a0 = b0) (h1 : 1 < w → a1 = b1) (h2 : 2 < w → a2 = b2) (h3 : 3 < w → a3 = b3) (h : CharAt w a0 a1 a2 a3) : CharAt w b0 b1 b2 b3 := by
  unfold CharAt at *
  omega
theorem ends_c {s : ByteArray} {n w : Nat} (hn : n ≤ s.size) (h : Ends s n w) : CharAt w (B s (n - w)) (B s (n - (w - 1))) (B s (n - (w - 2))) (B s (n - (w - 3))) := by
  have hw := h.2.2.1
  exact char_congr rfl (fun h => congrArg (B s) (by omega)) (fun h => congrArg (B s) (by omega)) (fun h => congrArg (B s) (by omega)) (ends_char hn h)
theorem ends_one {s : ByteArray} {n u v : Nat} (hn : n ≤ s.size) (hu : Ends s n u) (hv : Ends s n v) : u = v := by
  have cu := ends_c hn hu
  have cv := ends_c hn hv
  obtain ⟨u1, u4, un, _⟩ := hu
  obtain ⟨v1, v4, vn, _⟩ := hv
  unfold CharAt at cu cv
  rcases (by omega : u = 1 ∨ u = 2 ∨ u = 3 ∨ u = 4) with rfl | rfl | rfl | rfl <;>
  rcases (by omega : v = 1 ∨ v = 2 ∨ v = 3 ∨ v = 4) with rfl | rfl | rfl | rfl <;>
  first | rfl | (exfalso; simp only [Nat.reduceSub] at cu cv; omega)
theorem befK_ends {s : ByteArray} {n v : Nat} (hn : n ≤ s.size) (h : Ends s n v) : ∀ f k, 1 ≤ k → k ≤ v → v < f + k → befK s n f k = (((Utf8.decode s (n - v)).1 : Int), (v : Int))
  | 0, k, _, hk, hf => by omega
  | f + 1, k, h1, hk, hf => by
    unfold befK
    have hv4 := h.2.1
    have hvn := h.2.2.1
    rw [if_pos (by omega)]
    by_cases c : wideI s (n - k) = k
    · obtain rfl : v = k := ends_one hn h ⟨h1, by omega, by omega, c⟩
      rw [if_pos c]
    · rw [if_neg c]
      have : k ≠ v := fun e => c (e ▸ h.2.2.2)
      exact befK_ends hn h f (k + 1) (by omega) (by omega) (by omega)
theorem befK_none {s : ByteArray} {n : Nat} (h : ∀ v, ¬ Ends s n v) : ∀ f k, 1 ≤ k → befK s n f k = (65533, 1)
  | 0, _, _ => rfl
  | f + 1, k, h1 => by
    unfold befK
    split
    · rename_i hk
      rw [if_neg (fun c => h k ⟨h1, hk.1, hk.2, c⟩)]
      exact befK_none h f (k + 1) (by omega)
    · rfl

/-! the library's decoder of the last rune -/
def preL (s : ByteArray) (n : Nat) : List UInt8 := (s.extract 0 n).data.toList
theorem size_pre (s : ByteArray) (n : Nat) (hn : n ≤ s.size) : (s.extract 0 n).size = n := by rw [ByteArray.size_extract]; omega
theorem length_pre (s : ByteArray) (n : Nat) (hn : n ≤ s.size) : (preL s n).length = n := by
  have := size_pre s n hn
  unfold preL
  simpa using this
theorem B_pre (s : ByteArray) (n k : Nat) (hn : n ≤ s.size) (hk : k < n) : B (s.extract 0 n) k = B s k := by
  have := B_extract s 0 n k (by omega) hk
  simpa using this
theorem getD_pre (s : ByteArray) (n k : Nat) (hn : n ≤ s.size) (hk : k < n) : ((preL s n).getD k 0).toNat = B s k := B_pre s n k hn hk
theorem ends_pre (s : ByteArray) (n v : Nat) (hn : n ≤ s.size) : Ends (s.extract 0 n) n v ↔ Ends s n v := by
  have hz := size_pre s n hn
  constructor
  · intro h
    have hc := ends_c (by omega) h
    obtain ⟨h1, h4, hv, _⟩ := h
    refine ends_of_char hn h1 h4 hv (char_congr (B_pre s n _ hn (by omega)) (fun g => ?_) (fun g => ?_) (fun g => ?_) hc)
    all_goals (rw [B_pre s n _ hn (by omega)]; exact congrArg (B s) (by omega))
  · intro h
    have hc := ends_c hn h
    obtain ⟨h1, h4, hv, _⟩ := h
    refine ends_of_char (by omega) h1 h4 hv (char_congr (B_pre s n _ hn (by omega)).symm (fun g => ?_) (fun g => ?_) (fun g => ?_) hc)
    all_goals (rw [B_pre s n _ hn (by omega)]; exact congrArg (B s) (by omega))
theorem decode_pre (s : ByteArray) (n v : Nat) (hn : n ≤ s.size) (h : Ends s n v) : Utf8.decode (s.extract 0 n) (n - v) = Utf8.decode s (n - v) := by
  have hz := size_pre s n hn
  have h' := (ends_pre s n v hn).2 h
  obtain ⟨h1, h4, hv, he⟩ := h
  obtain ⟨_, _, _, he'⟩ := h'
  rcases unit_at s (n - v) (by omega) with ⟨q, _⟩ | ⟨u, _, _, _, e1, e2, e3⟩
  · omega
  rcases unit_at (s.extract 0 n) (n - v) (by omega) with ⟨q, _⟩ | ⟨u', _, _, _, e1', e2', e3'⟩
  · omega
  obtain rfl : u = v := by omega
  obtain rfl : u' = u := by omega
  refine Prod.ext ?_ (by omega)
  have : numT u' (B (s.extract 0 n) (n - u')) (B (s.extract 0 n) (n - u' + 1)) (B (s.extract 0 n) (n - u' + 2)) (B (s.extract 0 n) (n - u' + 3)) = numT u' (B s (n - u')) (B s (n - u' + 1)) (B s (n - u' + 2)) (B s (n - u' + 3)) := by
    have e : ∀ j, j < u' → B (s.extract 0 n) (n - u' + j) = B s (n - u' + j) := fun j hj => B_pre s n _ hn (by omega)
    have e0 := e 0 (by omega)
    rw [Nat.add_zero] at e0
    unfold numT
    rcases (by omega : u' = 1 ∨ u' = 2 ∨ u' = 3 ∨ u' = 4) with h | h | h | h
    · subst h; simp [e0]
    · subst h; simp [e0, e 1 (by omega)]
    · subst h; simp [e0, e 1 (by omega), e 2 (by omega)]
    · subst h; simp [e0, e 1 (by omega), e 2 (by omega), e 3 (by omega)]
  omega
theorem lastStart_ends (s : ByteArray) (n u : Nat) (hn : n ≤ s.size) (h : Ends s n u) (h2 : 2 ≤ u) : lastStart (preL s n) = n - u := by
  have hc := ends_c hn h
  obtain ⟨h1, h4, hu, _⟩ := h
  unfold lastStart
  simp only [length_pre s n hn, runeStartB, bne_iff_ne, ne_eq]
  rcases (by omega : u = 2 ∨ u = 3 ∨ u = 4) with rfl | rfl | rfl
  all_goals
    unfold CharAt at hc
    simp only [Nat.reduceSub] at hc
  · rw [if_neg (by omega), getD_pre s n _ hn (by omega), if_pos (by omega)]
  · rw [if_neg (by omega), getD_pre s n _ hn (by omega), if_neg (by omega), if_neg (by omega), getD_pre s n _ hn (by omega), if_pos (by omega)]
  · rw [if_neg (by omega), getD_pre s n _ hn (by omega), if_neg (by omega), if_neg (by omega), getD_pre s n _ hn (by omega), if_neg (by omega), if_neg (by omega), getD_pre s n _ hn (by omega), if_pos (by omega)]
theorem lastStart_lt1 (s : ByteArray) (n : Nat) (hn : n ≤ s.size) (h1 : 1 ≤ n) : lastStart (preL s n) < n ∧ (lastStart (preL s n) + 1 = n → n = 1) ∧ n ≤ lastStart (preL s n) + 5 := by
  unfold lastStart
  simp only [length_pre s n hn]
  repeat' split
  all_goals omega
theorem last_bef (s : ByteArray) (n : Nat) (hn : n ≤ s.size) (h1 : 1 ≤ n) :
    (((decodeLastL (preL s n)).1 : Int), ((decodeLastL (preL s n)).2 : Int)) = befK s n 5 1 := by
  have hl := length_pre s n hn
  have hne : preL s n ≠ [] := fun e => by rw [e] at hl; simp at hl; omega
  have hz := size_pre s n hn
  unfold decodeLastL
  rw [if_neg hne, hl, getD_pre s n _ hn (by omega)]
  by_cases ha : B s (n - 1) < 128
  · rw [if_pos ha]
    have he : Ends s n 1 := ends_of_char hn (by omega) (by omega) h1 (.inl ⟨rfl, ha⟩)
    rw [befK_ends hn he 5 1 (by omega) (by omega) (by omega)]
    rcases unit_at s (n - 1) (by omega) with ⟨q, _⟩ | ⟨u, _, _, _, e1, e2, e3⟩
    · have := he.2.2.2; omega
    · have := he.2.2.2
      obtain rfl : u = 1 := by omega
      rw [e3]; simp [numT]
  · rw [if_neg ha]
    obtain ⟨hs1, hs2, hs3⟩ := lastStart_lt1 s n hn h1
    have hd : decodeL ((preL s n).drop (lastStart (preL s n))) = Utf8.decode (s.extract 0 n) (lastStart (preL s n)) := decodeL_drop _ _
    simp only [hd]
    have no1 : ¬ Ends s n 1 := fun h => by have := ends_c hn h; unfold CharAt at this; simp only [Nat.reduceSub] at this; omega
    have two : ∀ u, Ends s n u → 2 ≤ u := fun u h => by
      have := h.1
      rcases (by omega : u = 1 ∨ 2 ≤ u) with rfl | h'
      · exact absurd h no1
      · exact h'
    generalize hst : lastStart (preL s n) = st at *
    rcases decode_wide (s.extract 0 n) st (by omega) with ⟨e0, ed⟩ | ⟨v, v1, v4, hv, ev, ed⟩
    · have none' : ∀ u, ¬ Ends s n u := fun u h => by
        have hu := two u h
        have e1 := lastStart_ends s n u hn h hu
        have h' := ((ends_pre s n u hn).2 h).2.2.2
        rw [← e1, hst] at h'
        have := h.1
        omega
      rw [befK_none none' 5 1 (by omega), ed]
      split <;> rfl
    · by_cases hsum : st + v = n
      · have hE : Ends s n v := (ends_pre s n v hn).1 ⟨v1, v4, by omega, by rw [show n - v = st by omega]; exact ev⟩
        rw [if_pos (by omega), befK_ends hn hE 5 1 (by omega) (by omega) (by omega), ← decode_pre s n v hn hE, show n - v = st by omega, ed]
      · have none' : ∀ u, ¬ Ends s n u := fun u h => by
          have hu := two u h
          have e1 := lastStart_ends s n u hn h hu
          have h' := ((ends_pre s n u hn).2 h).2.2.2
          rw [← e1, hst] at h'
          have := h.1
          have := h.2.2.1
          omega
        rw [if_neg (by omega), befK_none none' 5 1 (by omega)]
        rfl
end Go.Proofs.YtmpjlenfnlijfaaGreatDoor

namespace Go.Proofs.YtmpjlenfnlijfaaGreatDoor
open Go Go.RowKit Go.Lib

theorem befP_in (s : ByteArray) (n : Nat) (h1 : 1 ≤ n) (h : n ≤ s.size) : befP s n = befK s n 5 1 := by
  unfold befP; rw [if_pos (by omega)]; simp
theorem befP_out (s : ByteArray) (a : Int) (h : a < 1 ∨ s.size < a) : befP s a = (65533, 0) := by
  unfold befP; rw [if_neg (by omega)]

end Go.Proofs.YtmpjlenfnlijfaaGreatDoor

namespace Go.Proofs.YtmpjlenfnlijfaaGreatDoor
open Go Go.RowKit Go.Kt Go.Shelf
attribute [local go_sem] Oper.semAt_some

theorem run_next_str {P : Program} (W : World) (k : Nat) (s : ByteArray) (pos : Nat) (ty : TypeId) (hb : W.heap[k]? = some (.stringIter s pos)) (h : pos < s.size) :
    (Instr.next (.pointer (some ⟨k, 0, none⟩)) true ty).run P W =
      .ok (.tuple #[.bool true, .int .i64 pos, .int .i32 (Utf8.decode s pos).1]) (W.putObj k (.stringIter s (pos + (Utf8.decode s pos).2))) := by
  simp only [Instr.next, getObj, setObj, Sem.run_bind, Sem.run, hb, Result.andThen, h, if_true]
  simp [goInt, World.putObj]
theorem run_next_str_end {P : Program} (W : World) (k : Nat) (s : ByteArray) (pos : Nat) (ty : TypeId) (hb : W.heap[k]? = some (.stringIter s pos)) (h : ¬ pos < s.size) :
    (Instr.next (.pointer (some ⟨k, 0, none⟩)) true ty).run P W = .ok (.tuple #[.bool false]) W := by
  simp [Instr.next, getObj, Sem.run, hb, h]

def unitsF (s : ByteArray) : Nat → Nat → List (Nat × Nat)
  | 0, _ => []
  | f + 1, pos => if pos < s.size then (pos, (Utf8.decode s pos).1) :: unitsF s f (pos + (Utf8.decode s pos).2) else []
def units (s : ByteArray) : List (Nat × Nat) := unitsF s s.size 0
abbrev enc2 (p : Nat × Nat) : Array Value := #[.int .i64 p.1, .int .i32 p.2]

theorem dec_width (s : ByteArray) (pos : Nat) (h : pos < s.size) : 1 ≤ (Utf8.decode s pos).2 ∧ (Utf8.decode s pos).2 ≤ 4 ∧ pos + (Utf8.decode s pos).2 ≤ s.size := by
  rcases decode_wide s pos h with ⟨_, e⟩ | ⟨w, h1, h4, hw, _, e⟩
  · rw [e]; simp; omega
  · omega
def iterPos (W : World) (k : Nat) : Nat := match W.heap[k]? with | some (.stringIter _ p) => p | _ => 0
theorem iterPos_eq {W : World} {k : Nat} {s : ByteArray} {p : Nat} (h : W.heap[k]? = some (.stringIter s p)) : iterPos W k = p := by simp [iterPos, h]

end Go.Proofs.YtmpjlenfnlijfaaGreatDoor

namespace Go.Proofs.YtmpjlenfnlijfaaGreatDoor
open Go Go.RowKit Go.Lib

theorem below_drewN {B : Nat} {a w : World} (h : Below B a w) (n : Nat) : Below B a (w.drewN n) := ⟨h.os, h.tape, h.output, h.size, h.block⟩
/-- What the library's look at the beginning of a text comes to, by what the table says of the first byte. -/
def fullK (k lo hi : Nat) (n b1 b2 : Nat) : Bool :=
  if k ≤ n then true else if 1 < n ∧ (b1 < lo ∨ hi < b1) then true else if 2 < n ∧ (b2 < 128 ∨ 191 < b2) then true else false

end Go.Proofs.YtmpjlenfnlijfaaGreatDoor

namespace Go.Proofs.YtmpjlenfnlijfaaGreatDoor
open Go Go.RowKit Go.Lib

/-- Is the first unit settled? -/
def fullB (s : ByteArray) : Bool := if s.size = 0 then false else (((begunI s 0).1 == (begunI s 0).2) || decide ((begunI s 0).1 < s.size))

theorem fullK_bgT (k lo hi n b1 b2 b3 : Nat) (hk2 : 2 ≤ k) (hk4 : k ≤ 4) (hn : 1 ≤ n) :
    fullK k lo hi n b1 b2 = ((bgT ((k : Int), (lo : Int), (hi : Int)) n b1 b2 b3 == (k : Int)) || decide (bgT ((k : Int), (lo : Int), (hi : Int)) n b1 b2 b3 < n)) := by
  unfold fullK bgT
  simp only [inB_iff]
  rcases (by omega : k = 2 ∨ k = 3 ∨ k = 4) with rfl | rfl | rfl
  all_goals
    repeat' split
    all_goals first | (simp; done) | (simp; omega) | (exfalso; omega)

theorem fullB_lead (s : ByteArray) (k lo hi : Nat) (h0 : 0 < s.size) (hl : leadI (B s 0) = ((k : Int), (lo : Int), (hi : Int))) (hk2 : 2 ≤ k) (hk4 : k ≤ 4) :
    fullB s = fullK k lo hi s.size (B s 1) (B s 2) := by
  rw [fullK_bgT k lo hi s.size (B s 1) (B s 2) (B s 3) hk2 hk4 (by omega)]
  unfold fullB
  rw [if_neg (by omega), begunI_eq, hl, if_neg (by simp; omega)]
  simp

end Go.Proofs.YtmpjlenfnlijfaaGreatDoor

namespace Go.Proofs.YtmpjlenfnlijfaaGreatDoor
open Go Go.RowKit Go.Lib

def pieceK (s : ByteArray) : Nat → Nat → Nat
  | 0, n => n
  | f + 1, n => if n < s.size ∧ fullB (s.extract 0 (n + 1)) = false then pieceK s f (n + 1) else n

theorem pieceK_le (s : ByteArray) : ∀ f n, n ≤ s.size → pieceK s f n ≤ s.size
  | 0, n, h => h
  | f + 1, n, h => by
    unfold pieceK
    split
    · exact pieceK_le s f (n + 1) (by omega)
    · exact h

/-- Is the unit at a place, whose number is r, an ill-formed byte? -/
def illB (s : ByteArray) (i : Nat) : Bool := wideI s i == 0
end Go.Proofs.YtmpjlenfnlijfaaGreatDoor

namespace Go.Proofs.YtmpjlenfnlijfaaGreatDoor
open Go Go.RowKit Go.Lib

/-- How many bytes belong together from a place where no character begins. -/
def badK (s : ByteArray) (i : Nat) : Nat := ((begunI s i).1).toNat.max 1
def badsF (s : ByteArray) : Nat → Nat → List (Nat × Nat)
  | 0, _ => []
  | f + 1, i => if i < s.size then (if wideI s i = 0 then (i, badK s i) :: badsF s f (i + badK s i) else badsF s f (i + (wideI s i).toNat)) else []
def bads (s : ByteArray) : List (Nat × Nat) := badsF s s.size 0

theorem bgT_min (r : Int × Int × Int) (N m : Nat) (b1 b2 b3 c1 c2 c3 : Int) (h1 : 1 ≤ m) (hm : m ≤ N) (e1 : 1 < m → c1 = b1) (e2 : 2 < m → c2 = b2) (e3 : 3 < m → c3 = b3) :
    bgT r m c1 c2 c3 = min (bgT r N b1 b2 b3) m := by
  obtain ⟨k, lo, hi⟩ := r
  unfold bgT
  simp only [inB_iff]
  rcases (by omega : m = 1 ∨ m = 2 ∨ m = 3 ∨ 4 ≤ m) with h | h | h | h
  · subst h
    repeat' split
    all_goals omega
  · subst h
    rw [e1 (by omega)]
    repeat' split
    all_goals omega
  · subst h
    rw [e1 (by omega), e2 (by omega)]
    repeat' split
    all_goals omega
  · rw [e1 (by omega), e2 (by omega), e3 (by omega)]
    repeat' split
    all_goals omega
theorem bgT_bd (r : Int × Int × Int) (N : Nat) (b1 b2 b3 : Int) (h1 : 1 ≤ N) : 1 ≤ bgT r N b1 b2 b3 ∧ bgT r N b1 b2 b3 ≤ N ∧ bgT r N b1 b2 b3 ≤ 4 ∧ (1 ≤ r.1 → bgT r N b1 b2 b3 ≤ r.1) := by
  obtain ⟨k, lo, hi⟩ := r
  unfold bgT
  repeat' split
  all_goals (simp only at *; omega)

theorem wide0_iff (s : ByteArray) (i : Nat) : wideI s i = 0 ↔ ((leadI (B s i)).1 = 0 ∨ bgT (leadI (B s i)) (s.size - i) (B s (i + 1)) (B s (i + 2)) (B s (i + 3)) ≠ (leadI (B s i)).1) := by
  unfold wideI
  rw [begunI_eq]
  by_cases hz : (leadI (B s i)).1 = 0
  · rw [if_pos hz]; simp [hz]
  · rw [if_neg hz]
    by_cases hq : bgT (leadI (B s i)) (s.size - i) (B s (i + 1)) (B s (i + 2)) (B s (i + 3)) = (leadI (B s i)).1
    · simp [hq, hz]
    · simp [hq]
theorem badK_eq (s : ByteArray) (i : Nat) (hi : i < s.size) : (leadI (B s i)).1 = 0 ∧ badK s i = 1 ∨ (1 ≤ (leadI (B s i)).1 ∧ (badK s i : Int) = bgT (leadI (B s i)) (s.size - i) (B s (i + 1)) (B s (i + 2)) (B s (i + 3))) := by
  unfold badK
  rw [begunI_eq]
  have hb := bgT_bd (leadI (B s i)) (s.size - i) (B s (i + 1)) (B s (i + 2)) (B s (i + 3)) (by omega)
  have hl := leadI_bd (B s i)
  by_cases hz : (leadI (B s i)).1 = 0
  · rw [if_pos hz]; exact .inl ⟨hz, rfl⟩
  · rw [if_neg hz]
    refine .inr ⟨by omega, ?_⟩
    simp only [Nat.max_def]
    split <;> omega
theorem badK_bd (s : ByteArray) (i : Nat) (hi : i < s.size) : 1 ≤ badK s i ∧ i + badK s i ≤ s.size ∧ badK s i ≤ 4 := by
  have hb := bgT_bd (leadI (B s i)) (s.size - i) (B s (i + 1)) (B s (i + 2)) (B s (i + 3)) (by omega)
  rcases badK_eq s i hi with ⟨_, h⟩ | ⟨_, h⟩ <;> omega
theorem bgT_cont (r : Int × Int × Int) (N : Nat) (b1 b2 b3 : Int) (hlo : 128 ≤ r.2.1 ∨ r.1 ≤ 1) (hhi : r.2.2 ≤ 191) :
    (1 < bgT r N b1 b2 b3 → 128 ≤ b1 ∧ b1 ≤ 191) ∧ (2 < bgT r N b1 b2 b3 → 128 ≤ b2 ∧ b2 ≤ 191) ∧ (3 < bgT r N b1 b2 b3 → 128 ≤ b3 ∧ b3 ≤ 191) := by
  obtain ⟨k, lo, hi⟩ := r
  unfold bgT
  simp only [inB_iff] at *
  repeat' split
  all_goals omega
theorem lead_lohi (c : Int) : (128 ≤ (leadI c).2.1 ∨ (leadI c).1 ≤ 1) ∧ (leadI c).2.2 ≤ 191 := by
  unfold leadI; repeat' split
  all_goals simp
/-- The bytes of a piece behind its first one are continuations. -/
theorem badK_cont (s : ByteArray) (i j : Nat) (hi : i < s.size) (h1 : 1 ≤ j) (hj : j < badK s i) : 128 ≤ B s (i + j) ∧ B s (i + j) ≤ 191 := by
  have hb := bgT_bd (leadI (B s i)) (s.size - i) (B s (i + 1)) (B s (i + 2)) (B s (i + 3)) (by omega)
  obtain ⟨hl, hh⟩ := lead_lohi (B s i)
  obtain ⟨k1, k2, k3⟩ := bgT_cont (leadI (B s i)) (s.size - i) (B s (i + 1)) (B s (i + 2)) (B s (i + 3)) hl hh
  rcases badK_eq s i hi with ⟨_, h⟩ | ⟨_, h⟩
  · omega
  · rcases (by omega : j = 1 ∨ j = 2 ∨ j = 3) with rfl | rfl | rfl
    · have := k1 (by omega); omega
    · have := k2 (by omega); omega
    · have := k3 (by omega); omega
theorem wide_cont (s : ByteArray) (i : Nat) (h1 : 128 ≤ B s i) (h2 : B s i ≤ 191) : wideI s i = 0 := by
  rw [wide0_iff]; left; rw [lead_bad _ (by omega)]
theorem decode_ill (s : ByteArray) (i : Nat) (hi : i < s.size) (h : wideI s i = 0) : Utf8.decode s i = (65533, 1) := by
  rcases decode_wide s i hi with ⟨_, e⟩ | ⟨w, h1, _, _, e, _⟩
  · exact e
  · omega

set_option maxRecDepth 10000 in
theorem fullB_pre (t : ByteArray) (m : Nat) (h1 : 1 ≤ m) (hm : m ≤ t.size) (hw : wideI t 0 = 0) : fullB (t.extract 0 m) = decide (badK t 0 < m ∨ (leadI (B t 0)).1 = 0) := by
  have hz := size_pre t m hm
  have e0 : B (t.extract 0 m) 0 = B t 0 := B_pre t m 0 hm (by omega)
  unfold fullB
  rw [if_neg (by omega), begunI_eq, e0, hz]
  by_cases hl : (leadI (B t 0)).1 = 0
  · rw [if_pos hl]; simp [hl]
  · rw [if_neg hl]
    have hmin := bgT_min (leadI (B t 0)) (t.size - 0) m (B t (0 + 1)) (B t (0 + 2)) (B t (0 + 3)) (B (t.extract 0 m) (0 + 1)) (B (t.extract 0 m) (0 + 2)) (B (t.extract 0 m) (0 + 3)) h1 (by omega)
      (fun h => by rw [B_pre t m _ hm (by omega)]) (fun h => by rw [B_pre t m _ hm (by omega)]) (fun h => by rw [B_pre t m _ hm (by omega)])
    rw [Nat.sub_zero, hmin]
    have hne := ((wide0_iff t 0).1 hw).resolve_left hl
    have hbd := bgT_bd (leadI (B t 0)) (t.size - 0) (B t (0 + 1)) (B t (0 + 2)) (B t (0 + 3)) (by omega)
    have hlb := leadI_bd (B t 0)
    rcases badK_eq t 0 (by omega) with ⟨hq, _⟩ | ⟨_, hk⟩
    · exact absurd hq hl
    · rw [← hk] at hne hbd ⊢
      have hb := hbd.2.2.2 (by omega)
      simp only
      have e1 : ((min (badK t 0 : Int) (m : Int)) == (leadI (B t 0)).1) = false := by
        rw [beq_eq_false_iff_ne]; omega
      rw [e1, Bool.false_or]
      congr 1
      apply propext
      constructor
      · intro h; left; omega
      · intro h; rcases h with h | h
        · omega
        · exact absurd h hl

theorem pieceK_eq (t : ByteArray) (hw : wideI t 0 = 0) : ∀ f n, 1 ≤ n → n ≤ badK t 0 → t.size ≤ f + n → badK t 0 ≤ t.size → pieceK t f n = badK t 0
  | 0, n, h1, h2, h3, h4 => by unfold pieceK; omega
  | f + 1, n, h1, h2, h3, h4 => by
    unfold pieceK
    by_cases hn : n < t.size
    · rw [fullB_pre t (n + 1) (by omega) (by omega) hw]
      by_cases hl : (leadI (B t 0)).1 = 0
      · have : badK t 0 = 1 := by
          rcases badK_eq t 0 (by omega) with ⟨_, h⟩ | ⟨h, _⟩
          · exact h
          · omega
        rw [if_neg (by simp [hl])]; omega
      · by_cases hk : badK t 0 < n + 1
        · rw [if_neg (by simp [hk])]; omega
        · rw [if_pos ⟨hn, by simp [hl]; omega⟩]
          exact pieceK_eq t hw f (n + 1) (by omega) (by omega) (by omega) h4
    · rw [if_neg (by omega)]; omega
theorem tail_size (s : ByteArray) (i : Nat) (hi : i ≤ s.size) : (s.extract i s.size).size = s.size - i := by rw [ByteArray.size_extract]; omega
theorem begunI_tail (s : ByteArray) (i : Nat) (hi : i < s.size) : begunI (s.extract i s.size) 0 = begunI s i := by
  rw [begunI_eq, begunI_eq, tail_size s i (by omega)]
  simp only [B_tail s i _ (by omega), Nat.zero_add, Nat.add_zero, Nat.sub_zero]
theorem piece_bad (s : ByteArray) (i : Nat) (hi : i < s.size) (hw : wideI s i = 0) : pieceK (s.extract i s.size) (s.extract i s.size).size 1 = badK s i := by
  have e := begunI_tail s i hi
  have hw' : wideI (s.extract i s.size) 0 = 0 := by unfold wideI at *; rw [e]; exact hw
  have hk : badK (s.extract i s.size) 0 = badK s i := by unfold badK; rw [e]
  have hb := badK_bd s i hi
  rw [pieceK_eq _ hw' _ 1 (by omega) (by omega) (by omega) (by rw [hk, tail_size s i (by omega)]; omega), hk]

/-- What the program's walk over a text hands out. -/
def badU (s : ByteArray) : Nat → Nat → Nat → List (Nat × Nat)
  | 0, _, _ => []
  | f + 1, p, e => if p < s.size then (if p < e ∨ wideI s p ≠ 0 then badU s f (p + (Utf8.decode s p).2) e else (p, badK s p) :: badU s f (p + (Utf8.decode s p).2) (p + badK s p)) else []
theorem badU_skip (s : ByteArray) (e : Nat) (he : e ≤ s.size) (d : Nat) : ∀ f p, p + d = e → (∀ q, p ≤ q → q < e → wideI s q = 0) → s.size ≤ f + p → ∃ f', s.size ≤ f' + e ∧ badU s f p e = badU s f' e e := by
  induction d with
  | zero =>
    intro f p h _ hf
    obtain rfl : p = e := by omega
    exact ⟨f, hf, rfl⟩
  | succ d ih =>
    intro f p h hc hf
    obtain ⟨f', rfl⟩ : ∃ f', f = f' + 1 := ⟨f - 1, by omega⟩
    have h0 := hc p (Nat.le_refl _) (by omega)
    have hd := decode_ill s p (by omega) h0
    obtain ⟨f2, h1, h2⟩ := ih f' (p + 1) (by omega) (fun q hq => hc q (by omega)) (by omega)
    refine ⟨f2, h1, ?_⟩
    rw [← h2]
    rw [badU, if_pos (by omega), if_pos (.inl (by omega)), hd]
theorem badU_eq (s : ByteArray) : ∀ m p e f g, s.size - p ≤ m → e ≤ p → s.size ≤ f + p → s.size ≤ g + p → badU s f p e = badsF s g p
  | 0, p, e, f, g, hm, he, hf, hg => by
    have hp : ¬ p < s.size := by omega
    cases f <;> cases g <;> simp [badU, badsF, hp]
  | m + 1, p, e, f, g, hm, he, hf, hg => by
    by_cases hp : p < s.size
    · obtain ⟨f', rfl⟩ : ∃ f', f = f' + 1 := ⟨f - 1, by omega⟩
      obtain ⟨g', rfl⟩ : ∃ g', g = g' + 1 := ⟨g - 1, by omega⟩
      rw [badU, badsF, if_pos hp, if_pos hp]
      by_cases hw : wideI s p = 0
      · rw [if_neg (by omega), if_pos hw]
        have hb := badK_bd s p hp
        rw [decode_ill s p hp hw]
        obtain ⟨f2, h1, h2⟩ := badU_skip s (p + badK s p) hb.2.1 (badK s p - 1) f' (p + 1) (by omega) (fun q hq1 hq2 => by
          obtain ⟨c1, c2⟩ := badK_cont s p (q - p) hp (by omega) (by omega)
          rw [show p + (q - p) = q by omega] at c1 c2
          exact wide_cont s q c1 c2) (by omega)
        rw [h2, badU_eq s m (p + badK s p) (p + badK s p) f2 g' (by omega) (by omega) (by omega) (by omega)]
      · rw [if_pos (.inr hw), if_neg hw]
        rcases decode_wide s p hp with ⟨e0, _⟩ | ⟨v, v1, v4, hv, ev, ed⟩
        · exact absurd e0 hw
        · rw [ed, ev]
          simp only [Int.toNat_natCast]
          exact badU_eq s m (p + v) e f' g' (by omega) (by omega) (by omega) (by omega)
    · cases f <;> cases g <;> simp [badU, badsF, hp]
theorem badU_bads (s : ByteArray) : badU s s.size 0 0 = bads s := badU_eq s s.size 0 0 s.size s.size (by omega) (by omega) (by omega) (by omega)
end Go.Proofs.YtmpjlenfnlijfaaGreatDoor

namespace Go.Proofs.YtmpjlenfnlijfaaGreatDoor
open Go Go.RowKit Go.Kt Go.Shelf
attribute [local go_sem] Oper.semAt_some

abbrev encP (p : Nat × Nat) : Array Value := #[.int .i64 p.1, .int .i64 p.2]

end Go.Proofs.YtmpjlenfnlijfaaGreatDoor

namespace Go.Proofs.YtmpjlenfnlijfaaGreatDoor
open Go Go.RowKit Go.Kt

/-- A builder of the call's own, at block b, that holds the bytes l. -/
def Bld (b : Nat) (Y : Nat → Prop) (l : List UInt8) (W : World) : Prop :=
  ∃ p v, (p = .pointer none ∨ p = .pointer (some ⟨b, 0, none⟩)) ∧ W.heap[b]? = some (.cells #[p, v] 148 (0, 0)) ∧ W.ownsRowF 0 5 1 v l.length (Lib.byteCells l) ∧ v.ownBlock ≠ some b ∧ ∀ g, v.ownBlock = some g → Y g

theorem tinfo5 : (Tryz.prog.info? 5).map (fun i => (i.zero, i.size, i.bytes)) = some (some (.int .u8 0), 1, 1) := by kernel_rfl

theorem ownsF_keep {X : Nat → Prop} {e : TypeId} {n : Nat} {v : Value} {xs : List Value} {A B : World} (h : A.ownsRowF 0 e 1 v n xs) (hk : Keep X A B) (hX : ∀ g, v.ownBlock = some g → ¬ X g) : B.ownsRowF 0 e 1 v n xs := by
  refine ⟨h.1, ?_⟩
  rcases h.2 with h2 | ⟨g, cap, cur, fz, rfl, hb, hg, rest⟩
  · exact .inl h2
  · exact .inr ⟨g, cap, cur, fz, rfl, hb, hk.heap hg (hX g rfl), rest⟩
theorem Bld.keep {b : Nat} {Y X : Nat → Prop} {l : List UInt8} {A B : World} (h : Bld b Y l A) (hk : Keep X A B) (hb : ¬ X b) (hY : ∀ g, Y g → ¬ X g) : Bld b Y l B := by
  obtain ⟨p, v, hp, hh, ho, hne, hy⟩ := h
  exact ⟨p, v, hp, hk.heap hh hb, ownsF_keep ho hk (fun g hg => hY g (hy g hg)), hne, hy⟩

theorem copyCheck_x (b : Nat) (Y : Nat → Prop) (l : List UInt8) (W : World) (h : Bld b Y l W) :
    Calls Tryz.prog 127 #[.pointer (some ⟨b, 0, none⟩)] W fun e w' => e = .returned (.tuple #[]) ∧ ∃ v, w'.heap[b]? = some (.cells #[.pointer (some ⟨b, 0, none⟩), v] 148 (0, 0)) ∧ w'.ownsRowF 0 5 1 v l.length (Lib.byteCells l) ∧ v.ownBlock ≠ some b ∧ (∀ g, v.ownBlock = some g → Y g) ∧ Keep (fun c => c = b) W w' ∧ w'.heap.size = W.heap.size := by
  obtain ⟨p, v, hp, hh, ho, hne, hy⟩ := h
  rcases hp with rfl | rfl
  · refine (Any.Builder_copyCheck_fresh { Tryz.lays166 with } Tryz.Builder_Extra_166.toX72 b W (by rw [Lib.cell_of_heap hh]; rfl) (by simp [World.shape?, hh]; rfl) (Lib.frozen_of_heap hh 0)).mono ?_
    rintro e w' ⟨rfl, rfl⟩
    have hk : Keep (fun c => c = b) W (W.setCell ⟨b, 0, none⟩ (.pointer (some ⟨b, 0, none⟩))) := (Keep.refl (fun c => c = b) W).setCell (p := ⟨b, 0, none⟩) rfl _
    refine ⟨rfl, v, ?_, ownsF_keep ho hk (fun g hg e => hne (e ▸ hg)), hne, hy, hk, by simp⟩
    simp [World.setCell, Array.getElem?_modify, hh]
  · refine (Any.Builder_copyCheck_used { Tryz.lays166 with } Tryz.Builder_Extra_166.toX72 b W (by rw [Lib.cell_of_heap hh]; rfl)).mono ?_
    rintro e w' ⟨rfl, rfl⟩
    exact ⟨rfl, v, hh, ho, hne, hy, Keep.refl _ _, rfl⟩

set_option maxRecDepth 100000 in
theorem writeString_x (b : Nat) (Y : Nat → Prop) (l : List UInt8) (s : ByteArray) (W : World) (h : Bld b Y l W) (hlen : l.length + s.size ≤ 140737488355328) :
    Calls Tryz.prog 84 #[.pointer (some ⟨b, 0, none⟩), .string s] W fun e w' => e = .returned (.tuple #[.int .i64 s.size, .nilIface]) ∧
      ∃ Y', Bld b Y' (l ++ s.data.toList) w' ∧ Keep (fun c => c = b ∨ Y c) W w' ∧ (∀ c, Y' c → Y c ∨ W.heap.size ≤ c) := by
  have hc := Lib.hid (copyCheck_x b Y l W h)
  clear h
  go_enter Tryz.func84, Tryz.ntmps84
  go_wp2_with fail
  refine hc.out.mono ?_
  rintro e w1 ⟨rfl, v, hh, ho, hne, hy, hk, hsz⟩
  obtain ⟨a0, k0, p0, rfl⟩ : ∃ ao n' cap, v = .slice ao n' cap := by
    rcases ho.2 with ⟨hv, _⟩ | ⟨g, cap, cur, fz, hv, _⟩
    · exact ⟨_, _, _, hv⟩
    · exact ⟨_, _, _, hv⟩
  obtain ⟨v', w2, hrun, ho2, hk2, hfr⟩ := append_str (P := Tryz.prog) w1 146 9 5 Tryz.underlying146 Tryz.underlying9 tinfo5 ho s hlen
  have c1 : w1.cell? ⟨b, 1, none⟩ = some (.slice a0 k0 p0) := by rw [Lib.cell_of_heap hh]; rfl
  have hb2 : w2.heap[b]? = some (.cells #[.pointer (some ⟨b, 0, none⟩), .slice a0 k0 p0] 148 (0, 0)) := hk2.heap hh hne
  have c2 : w2.cell? ⟨b, 1, none⟩ = some (.slice a0 k0 p0) := by rw [Lib.cell_of_heap hb2]; rfl
  have f2 : w2.frozen? ⟨b, 1, none⟩ = false := Lib.frozen_of_heap hb2 1
  have hfacts := Lib.hid (And.intro hh (And.intro ho (And.intro hne (And.intro hy (And.intro hb2 (And.intro hsz hfr))))))
  clear hh hb2 hsz hfr hy
  obtain ⟨ao, n', cap, rfl⟩ : ∃ ao n' cap, v' = .slice ao n' cap := by
    rcases ho2.2 with ⟨hv, _⟩ | ⟨g, cap, cur, fz, hv, _⟩
    · exact ⟨_, _, _, hv⟩
    · exact ⟨_, _, _, hv⟩
  have HO2 := Lib.hid ho2
  clear ho2 hne ho
  have HR := Lib.hid hrun
  clear hrun
  go_wp2_with (at_builtin; refine wpList_append_eq rfl rfl rfl rfl HR.out ?_)
  go_ret2
  obtain ⟨hh, ho, hne, hy, hb2, hsz, hfr⟩ := hfacts.out
  have hk3 : Keep (fun c => c = b) w2 (w2.setCell ⟨b, 1, none⟩ (.slice ao n' cap)) := (Keep.refl (fun c => c = b) w2).setCell (p := ⟨b, 1, none⟩) rfl _
  have hbs : b < w1.heap.size := (Array.getElem?_eq_some_iff.1 hh).1
  have hne' : (Value.slice ao n' cap).ownBlock ≠ some b := fun e => by
    rcases hfr b e with h | h
    · exact hne h
    · omega
  refine ⟨rfl, fun c => (Value.slice ao n' cap).ownBlock = some c, ⟨_, _, .inr rfl, ?_, ?_, hne', fun g hg => hg⟩, ?_, ?_⟩
  · simp [World.setCell, Array.getElem?_modify, hb2]
  · have := ownsF_keep HO2.out hk3 (fun g hg e => hne' (e ▸ hg))
    have e1 : (l ++ s.data.toList).length = l.length + s.size := by simp
    rw [e1, show Lib.byteCells (l ++ s.data.toList) = Lib.byteCells l ++ Lib.strCells s by simp [Lib.byteCells, Lib.strCells]]
    exact this
  · exact ((hk.weaken (fun _ _ h => .inl h)).trans (hk2.weaken (fun _ _ h => .inr (hy _ h)))).trans (hk3.weaken (fun _ _ h => .inl h))
  · intro c hc
    rcases hfr c hc with h | h
    · exact .inl (hy c h)
    · exact .inr (by omega)

theorem string_x (b : Nat) (Y : Nat → Prop) (l : List UInt8) (W : World) (h : Bld b Y l W) (n0 : Nat) (hn : n0 ≤ W.heap.size) (hb : n0 ≤ b) (hY : ∀ g, Y g → n0 ≤ g) :
    Calls Tryz.prog 86 #[.pointer (some ⟨b, 0, none⟩)] W fun e w' => e = .returned (.string ⟨l.toArray⟩) ∧ Below n0 W w' ∧ Lib.OthersKept 5 (some b) W w' := by
  obtain ⟨p, v, hp, hh, ho, hne, hy⟩ := h
  have hA : ∀ q, q = p → Lib.BuilderAtF 148 5 n0 b q (Lib.byteCells l) W := fun q hq => by
    subst hq
    have h1 := ho.1
    refine ⟨hb, v, hh, ⟨by rw [Lib.byteCells_length]; rw [Lib.byteCells_length] at h1; exact h1, ?_⟩, hne⟩
    rw [Lib.byteCells_length]
    rcases ho.2 with h2 | ⟨g, cap, cur, fz, rfl, _, rest⟩
    · exact .inl h2
    · exact .inr ⟨g, cap, cur, fz, rfl, hY g (hy g rfl), rest⟩
  have hB : Lib.IsBuilderF 148 5 n0 b (Lib.byteCells l) W := by
    rcases hp with rfl | rfl
    · exact .inl (hA _ rfl)
    · exact .inr (hA _ rfl)
  exact (Tryz.Builder_String_any_k n0 b l W hB hn).mono fun e w' ⟨h1, _, h2, h3⟩ => ⟨h1, h2, h3⟩
end Go.Proofs.YtmpjlenfnlijfaaGreatDoor

namespace Go.Proofs.YtmpjlenfnlijfaaGreatDoor
open Go Go.RowKit Go.Kt Go.Shelf
attribute [local go_sem] Oper.semAt_some

/-! what Mend writes -/
def rep (l : List UInt8) : Nat → List UInt8
  | 0 => []
  | n + 1 => rep l n ++ l
theorem rep_len (l : List UInt8) (n : Nat) : (rep l n).length = n * l.length := by
  induction n with
  | zero => simp [rep]
  | succ n ih => simp [rep, ih, Nat.succ_mul]
def mendStep (s by' : ByteArray) (whole : Bool) (st : List UInt8 × Nat) (p : Nat × Nat) : List UInt8 × Nat :=
  (st.1 ++ (s.extract st.2 p.1).data.toList ++ rep by'.data.toList (if whole then 1 else p.2), p.1 + p.2)
def mendF (s by' : ByteArray) (whole : Bool) (l : List (Nat × Nat)) : List UInt8 × Nat := l.foldl (mendStep s by' whole) ([], 0)
def mendL (s by' : ByteArray) (whole : Bool) : List UInt8 :=
  (mendF s by' whole (bads s)).1 ++ (s.extract (mendF s by' whole (bads s)).2 s.size).data.toList
theorem mendF_snoc (s by' : ByteArray) (whole : Bool) (l : List (Nat × Nat)) (p : Nat × Nat) : mendF s by' whole (l ++ [p]) = mendStep s by' whole (mendF s by' whole l) p := by simp [mendF]

/-- Pieces lie one behind the other, within n bytes. -/
def Chain (n : Nat) : Nat → List (Nat × Nat) → Prop
  | _, [] => True
  | lo, (a, k) :: r => lo ≤ a ∧ 1 ≤ k ∧ a + k ≤ n ∧ Chain n (a + k) r
theorem Chain.mono {n : Nat} : ∀ {lo lo' : Nat} {l : List (Nat × Nat)}, lo' ≤ lo → Chain n lo l → Chain n lo' l
  | _, _, [], _, _ => trivial
  | _, _, (a, k) :: r, h, ⟨h1, h2, h3, h4⟩ => ⟨by omega, h2, h3, h4⟩
set_option maxRecDepth 10000 in
theorem badsF_chain (s : ByteArray) : ∀ f i, Chain s.size i (badsF s f i)
  | 0, _ => trivial
  | f + 1, i => by
    by_cases hi : i < s.size
    · have e1 : badsF s (f + 1) i = if wideI s i = 0 then (i, badK s i) :: badsF s f (i + badK s i) else badsF s f (i + (wideI s i).toNat) := by simp only [badsF]; rw [if_pos hi]
      rw [e1]
      by_cases hw : wideI s i = 0
      · rw [if_pos hw]
        have hb := badK_bd s i hi
        have ih := badsF_chain s f (i + badK s i)
        generalize badsF s f (i + badK s i) = r at *
        generalize badK s i = k at *
        exact ⟨Nat.le_refl _, hb.1, hb.2.1, ih⟩
      · rw [if_neg hw]
        exact (badsF_chain s f _).mono (Nat.le_add_right _ _)
    · rw [badsF, if_neg hi]
      trivial
theorem chain_end (s by' : ByteArray) (whole : Bool) : ∀ (pre rest : List (Nat × Nat)) (acc : List UInt8) (e : Nat), Chain s.size e (pre ++ rest) → e ≤ s.size → acc.length ≤ e + e * by'.size →
    (pre.foldl (mendStep s by' whole) (acc, e)).2 ≤ s.size ∧ Chain s.size (pre.foldl (mendStep s by' whole) (acc, e)).2 rest ∧
    (pre.foldl (mendStep s by' whole) (acc, e)).1.length ≤ (pre.foldl (mendStep s by' whole) (acc, e)).2 + (pre.foldl (mendStep s by' whole) (acc, e)).2 * by'.size
  | [], rest, acc, e, h, he, ha => ⟨he, h, ha⟩
  | (a, k) :: pre, rest, acc, e, ⟨h1, h2, h3, h4⟩, he, ha => by
    simp only [List.foldl_cons]
    refine chain_end s by' whole pre rest _ _ h4 h3 ?_
    have e1 : (s.extract e a).data.toList.length = a - e := by
      have : (s.extract e a).size = a - e := by rw [ByteArray.size_extract]; omega
      rw [Lib.size_eq] at this
      exact this
    simp only [List.length_append, rep_len, e1]
    have hb : by'.data.toList.length = by'.size := by simp
    rw [hb]
    have hc : (if whole = true then 1 else k) * by'.size ≤ k * by'.size := Nat.mul_le_mul_right _ (by split <;> omega)
    have hd : (a + k) * by'.size = a * by'.size + k * by'.size := Nat.add_mul _ _ _
    have he2 : e * by'.size ≤ a * by'.size := Nat.mul_le_mul_right _ h1
    omega
end Go.Proofs.YtmpjlenfnlijfaaGreatDoor

namespace Go.Proofs.YtmpjlenfnlijfaaGreatDoor
open Go Go.RowKit Go.Kt Go.Shelf
attribute [local go_sem] Oper.semAt_some

end Go.Proofs.YtmpjlenfnlijfaaGreatDoor
/- The document's lists of what is ill-formed, and its mended text. -/
namespace Go.Proofs.YtmpjlenfnlijfaaGreatDoor
open Go Go.RowKit Go.Kt Go.Shelf

/-- The cells of a list of pieces. -/
def pieceCells (l : List (Nat × Nat)) : List Value := l.flatMap fun p => [.int .i64 p.1, .int .i64 p.2]
theorem pieceCells_snoc (l : List (Nat × Nat)) (p : Nat × Nat) : pieceCells (l ++ [p]) = pieceCells l ++ [.int .i64 p.1, .int .i64 p.2] := by simp [pieceCells]
theorem badsF_len (s : ByteArray) : ∀ f i, (badsF s f i).length ≤ f
  | 0, _ => by simp [badsF]
  | f + 1, i => by
    rw [badsF]
    split
    · split
      · have := badsF_len s f (i + badK s i)
        simp; omega
      · have := badsF_len s f (i + (wideI s i).toNat)
        omega
    · simp
theorem bads_len (s : ByteArray) : (bads s).length ≤ s.size := badsF_len s s.size 0

theorem begunI_bd (s : ByteArray) (i : Nat) (hi : i < s.size) : 0 ≤ (begunI s i).1 ∧ (begunI s i).1 ≤ 4 ∧ 0 ≤ (begunI s i).2 ∧ (begunI s i).2 ≤ 4 := by
  have hb := bgT_bd (leadI (B s i)) (s.size - i) (B s (i + 1)) (B s (i + 2)) (B s (i + 3)) (by omega)
  have hl := leadI_bd (B s i)
  rw [begunI_eq]
  split
  · simp
  · simp only; omega

/-- A slice of bytes of the call's own, that holds l. -/
def OwnB (Y : Nat → Prop) (v : Value) (l : List UInt8) (W : World) : Prop := W.ownsRowF 0 5 1 v l.length (Lib.byteCells l) ∧ ∀ g, v.ownBlock = some g → Y g
theorem OwnB.nil (Y : Nat → Prop) (W : World) : OwnB Y (.slice none 0 0) [] W := ⟨World.ownsRowF_nil W 0 5 1, fun _ h => by cases h⟩
theorem OwnB.slice {Y : Nat → Prop} {v : Value} {l : List UInt8} {W : World} (h : OwnB Y v l W) : ∃ ao cap, v = .slice ao l.length cap := by
  rcases h.1.2 with ⟨hv, hn⟩ | ⟨g, cap, cur, fz, hv, _⟩
  · exact ⟨none, 0, by rw [hv, hn]⟩
  · exact ⟨_, _, hv⟩
theorem OwnB.append {Y : Nat → Prop} {v : Value} {l : List UInt8} {W : World} (h : OwnB Y v l W) (n0 : Nat) (hn : n0 ≤ W.heap.size) (hY : ∀ g, Y g → n0 ≤ g) (s : ByteArray) (hl : l.length + s.size ≤ 140737488355328) :
    ∃ ao cap W', (∀ ty, (Builtin.append_ #[146, 9] ty #[v, .string s]).run Tryz.prog W = .ok (.slice ao (l.length + s.size) cap) W') ∧ OwnB (fun b => n0 ≤ b) (.slice ao (l.length + s.size) cap) (l ++ s.data.toList) W' ∧ Below n0 W W' := by
  obtain ⟨v', w', hrun, h1, hk, hf⟩ := append_str (P := Tryz.prog) W 146 9 5 Tryz.underlying146 Tryz.underlying9 tinfo5 h.1 s hl
  have e1 : (l ++ s.data.toList).length = l.length + s.size := by simp
  have hO : OwnB (fun b => n0 ≤ b) v' (l ++ s.data.toList) w' := ⟨by
    rw [e1, show Lib.byteCells (l ++ s.data.toList) = Lib.byteCells l ++ Lib.strCells s by simp [Lib.byteCells, Lib.strCells]]
    exact h1, fun g hg => by
      rcases hf g hg with q | q
      · exact hY g (h.2 g q)
      · omega⟩
  obtain ⟨ao, cap, rfl⟩ := hO.slice
  rw [e1] at hrun hO
  exact ⟨ao, cap, w', hrun, hO, hk.below hn fun b hb => hY b (h.2 b hb)⟩
theorem OwnB.text {Y : Nat → Prop} {v : Value} {l : List UInt8} {W : World} (h : OwnB Y v l W) : (convert 146 9 v).run Tryz.prog W = .ok (.string ⟨l.toArray⟩) W := by
  rcases h.1.2 with ⟨hv, hn⟩ | ⟨g, cap, cur, fz, hv, _⟩
  · have : l = [] := List.eq_nil_of_length_eq_zero hn
    subst this; subst hv
    simp [convert, Conv.bytesToString, run_underlying Tryz.underlying146, run_underlying Tryz.underlying9, run_underlying Tryz.underlying5]
    rfl
  · subst hv
    refine run_convert_bytes_back W 146 9 5 ⟨g, 0, none⟩ cap l Tryz.underlying146 Tryz.underlying5 Tryz.underlying9 fun j hj => ?_
    refine h.1.cells rfl j _ ?_
    simp [Lib.byteCells, hj]

theorem pieceCells_get (l : List (Nat × Nat)) : ∀ (i : Nat) (p : Nat × Nat), l[i]? = some p → (pieceCells l)[2 * i]? = some (.int .i64 p.1) ∧ (pieceCells l)[2 * i + 1]? = some (.int .i64 p.2) := by
  induction l with
  | nil => intro i p h; simp at h
  | cons q r ih =>
    intro i p h
    cases i with
    | zero => simp at h; subst h; simp [pieceCells]
    | succ i =>
      simp at h
      obtain ⟨h1, h2⟩ := ih i p h
      simp only [pieceCells] at h1 h2
      exact ⟨by simpa [pieceCells, Nat.mul_add] using h1, by simpa [pieceCells, Nat.mul_add] using h2⟩
end Go.Proofs.YtmpjlenfnlijfaaGreatDoor

namespace Go.Proofs.YtmpjlenfnlijfaaGreatDoor
open Go Go.RowKit Go.Kt Go.Shelf

theorem runesFrom_eq (s : ByteArray) : ∀ f i (acc : Array Value), Conv.runesFrom s f i acc = acc ++ ((unitsF s f i).map fun p => Value.int .i32 p.2).toArray
  | 0, i, acc => by simp [Conv.runesFrom, unitsF]
  | f + 1, i, acc => by
    unfold Conv.runesFrom unitsF
    split
    · show Conv.runesFrom s f (i + (Utf8.decode s i).2) (acc.push (Value.int IntKind.i32 (Int.ofNat (Utf8.decode s i).1))) = _
      rw [runesFrom_eq s f]
      simp
    · simp
def runeCells (s : ByteArray) : List Value := (units s).map fun p => Value.int .i32 p.2
theorem runeCells_len (s : ByteArray) : (runeCells s).length = (units s).length := by simp [runeCells]
theorem runesFrom_units (s : ByteArray) : Conv.runesFrom s s.size 0 #[] = (runeCells s).toArray := by
  rw [runesFrom_eq]; simp [runeCells, units]
theorem unitsF_len (s : ByteArray) : ∀ f i, (unitsF s f i).length ≤ f
  | 0, i => by simp [unitsF]
  | f + 1, i => by
    unfold unitsF
    split
    · have := unitsF_len s f (i + (Utf8.decode s i).2)
      simp; omega
    · simp
theorem units_len (s : ByteArray) : (units s).length ≤ s.size := unitsF_len s s.size 0

theorem ownsRow_laid (w : World) (cs zs : List Value) (e : TypeId) (n : Nat) (hn : cs.length = n) (hm : n + zs.length ≤ maxLen) :
    OwnS (fun b => b = w.heap.size) e 1 (.slice (some ⟨w.heap.size, 0, none⟩) n (n + zs.length)) n cs (w.alloc (.cells (cs.toArray ++ zs.toArray) e)) := by
  refine ⟨⟨by omega, .inr ⟨w.heap.size, n + zs.length, _, rfl, Nat.zero_le _, World.alloc_heap_new w _, by omega, hm, by simp; omega, ?_⟩⟩, fun g h => by cases h; rfl⟩
  simp [← hn]

end Go.Proofs.YtmpjlenfnlijfaaGreatDoor

namespace Go.Proofs.YtmpjlenfnlijfaaGreatDoor
open Go Go.RowKit Go.Kt Go.Shelf

abbrev s1 : ByteArray := ⟨#[97, 195, 169]⟩
abbrev s2 : ByteArray := ⟨#[195]⟩
abbrev s3 : ByteArray := ⟨#[255, 98]⟩
theorem d1 : decP s1 1 = (233, 2) := by kernel_rfl
theorem d2 : decP s2 0 = (65533, 1) := by kernel_rfl
theorem d3 : runeCells s3 = [.int .i32 65533, .int .i32 98] := by kernel_rfl
theorem d3n : (units s3).length = 2 := by kernel_rfl
theorem d4 : Utf8.encode 233 = ⟨#[195, 169]⟩ := by kernel_rfl
theorem d5 : mendL ⟨#[255]⟩ ⟨#[63]⟩ true = [63] := by kernel_rfl
theorem d6 : fullB ⟨#[97]⟩ = true := by kernel_rfl

end Go.Proofs.YtmpjlenfnlijfaaGreatDoor
/- Whether a text is right; the text of numbers; one unit held; the ill-formed pieces held. -/
namespace Go.Proofs.YtmpjlenfnlijfaaGreatDoor
open Go Go.RowKit Go.Kt Go.Shelf

def okF (s : ByteArray) : Nat → Nat → Bool
  | 0, _ => true
  | f + 1, i => if i < s.size then (if illB s i then false else okF s f (i + (Utf8.decode s i).2)) else true
/-- Is nothing ill-formed in it? -/
def okB (s : ByteArray) : Bool := okF s s.size 0

/-- The text of numbers. -/
theorem text_run (v : Value) (l : List Int) (w : World) (h : Sl .i32 w v l) : (convert 23 9 v).run Tryz.prog w = .ok (.string (runesBytes l)) w := by
  obtain ⟨ao, cap, rfl, h⟩ := h
  rcases h with rfl | ⟨g, off, rfl, h⟩
  · cases ao with
    | none => exact run_convert_runes_nil w 23 9 21 _ _ Tryz.underlying23 Tryz.underlying21 Tryz.underlying9
    | some a => exact run_convert_runes w 23 9 21 a 0 cap [] (Nat.le_refl _) Tryz.underlying23 Tryz.underlying21 Tryz.underlying9 (fun j hj => by simp at hj)
  · have := run_convert_runes w 23 9 21 ⟨g, off, none⟩ l.length cap l (Nat.le_refl _) Tryz.underlying23 Tryz.underlying21 Tryz.underlying9 (fun j hj => by
      rw [Addr.add_lit]
      exact h j _ (by rw [List.getD_eq_getElem?_getD, List.getElem?_eq_getElem hj]; rfl))
    rwa [List.take_length] at this

/-- What a slice of its own row is read as. -/
theorem sl_of_own {k : IntKind} {Y : Nat → Prop} {e : TypeId} {v : Value} {n : Nat} {l : List Int} {W : World} (h : OwnS Y e 1 v n (l.map fun x => .int k x) W) (hl : l.length = n) : Sl k W v l := by
  subst hl
  rcases h.1.2 with ⟨hv, hn⟩ | ⟨g, cap, cur, hv, rest⟩
  · exact ⟨none, 0, by rw [hv, hn], .inl (List.eq_nil_of_length_eq_zero hn)⟩
  · refine ⟨_, cap, hv, .inr ⟨g, 0, rfl, fun i x hx => ?_⟩⟩
    have hc := h.1.cells (g := g) (by rw [hv]; rfl)
    have c1 := hc i (.int k x) (by simp [hx])
    rw [Addr.add_lit] at c1
    exact c1
end Go.Proofs.YtmpjlenfnlijfaaGreatDoor
/- A text that is cut: the numbers of its two pieces are its own just where it is cut between two units. -/
namespace Go.Proofs.YtmpjlenfnlijfaaGreatDoor
open Go

def numsF (s : ByteArray) (f i : Nat) : List Nat := (unitsF s f i).map (·.2)
def placesF (s : ByteArray) (f i : Nat) : List Nat := (unitsF s f i).map (·.1)
theorem numsF_in (s : ByteArray) (f i : Nat) (h : i < s.size) : numsF s (f + 1) i = (Utf8.decode s i).1 :: numsF s f (i + (Utf8.decode s i).2) := by
  simp [numsF, unitsF, h]
theorem placesF_in (s : ByteArray) (f i : Nat) (h : i < s.size) : placesF s (f + 1) i = i :: placesF s f (i + (Utf8.decode s i).2) := by
  simp [placesF, unitsF, h]
theorem numsF_end (s : ByteArray) (f i : Nat) (h : s.size ≤ i) : numsF s f i = [] := by
  cases f with
  | zero => rfl
  | succ f => simp [numsF, unitsF, Nat.not_lt.2 h]
theorem placesF_end (s : ByteArray) (f i : Nat) (h : s.size ≤ i) : placesF s f i = [] := by
  cases f with
  | zero => rfl
  | succ f => simp [placesF, unitsF, Nat.not_lt.2 h]
theorem numsF_fuel (s : ByteArray) : ∀ f g i, s.size ≤ f + i → s.size ≤ g + i → numsF s f i = numsF s g i
  | 0, g, i, h, _ => by rw [numsF_end s g i (by omega)]; rfl
  | f + 1, 0, i, _, h => by rw [numsF_end s (f + 1) i (by omega)]; rfl
  | f + 1, g + 1, i, h, h' => by
    rcases Nat.lt_or_ge i s.size with hi | hi
    · have := dec_width s i hi
      rw [numsF_in s f i hi, numsF_in s g i hi, numsF_fuel s f g _ (by omega) (by omega)]
    · rw [numsF_end s _ i hi, numsF_end s _ i hi]
theorem placesF_ge (s : ByteArray) : ∀ f i p, p ∈ placesF s f i → i ≤ p
  | 0, _, p, h => by simp [placesF, unitsF] at h
  | f + 1, i, p, h => by
    rcases Nat.lt_or_ge i s.size with hi | hi
    · rw [placesF_in s f i hi] at h
      rcases List.mem_cons.1 h with h | h
      · omega
      · have := placesF_ge s f _ p h; omega
    · rw [placesF_end s _ i hi] at h; simp at h

/-- What stands behind a cut. -/
theorem decode_behind (s : ByteArray) (a j : Nat) (ha : a ≤ s.size) : Utf8.decode (s.extract a s.size) j = Utf8.decode s (a + j) := by
  have hz := tail_size s a ha
  rw [decode_B, decode_B, hz, Nat.sub_sub]
  simp only [B_tail s a _ ha, ← Nat.add_assoc]
theorem numsF_behind (s : ByteArray) (a : Nat) (ha : a ≤ s.size) : ∀ f j, numsF (s.extract a s.size) f j = numsF s f (a + j)
  | 0, _ => rfl
  | f + 1, j => by
    have hz := tail_size s a ha
    rcases Nat.lt_or_ge j (s.size - a) with hj | hj
    · rw [numsF_in _ f j (by omega), numsF_in s f (a + j) (by omega), decode_behind s a j ha, numsF_behind s a ha f, Nat.add_assoc]
    · rw [numsF_end _ _ j (by omega), numsF_end s _ (a + j) (by omega)]

/-- What stands ahead of a cut. -/
theorem wide_ahead (s : ByteArray) (a i v : Nat) (ha : a ≤ s.size) (hi : i < a) (h1 : 1 ≤ v) (h4 : v ≤ 4) : wideI (s.extract 0 a) i = v ↔ (wideI s i = v ∧ i + v ≤ a) := by
  have hz := size_pre s a ha
  rw [wide_iff _ i v (by omega) h1 h4, wide_iff s i v (by omega) h1 h4, hz]
  constructor
  · rintro ⟨hv, hc⟩
    refine ⟨⟨by omega, ?_⟩, hv⟩
    exact char_congr (B_pre s a _ ha (by omega)) (fun h => B_pre s a _ ha (by omega)) (fun h => B_pre s a _ ha (by omega)) (fun h => B_pre s a _ ha (by omega)) hc
  · rintro ⟨⟨_, hc⟩, hv⟩
    refine ⟨hv, ?_⟩
    exact char_congr (B_pre s a _ ha (by omega)).symm (fun h => (B_pre s a _ ha (by omega)).symm) (fun h => (B_pre s a _ ha (by omega)).symm) (fun h => (B_pre s a _ ha (by omega)).symm) hc
theorem decode_ahead (s : ByteArray) (a i : Nat) (ha : a ≤ s.size) (hi : i < a) (hw : i + (Utf8.decode s i).2 ≤ a) : Utf8.decode (s.extract 0 a) i = Utf8.decode s i := by
  have hz := size_pre s a ha
  rcases unit_at s i (by omega) with ⟨q, e⟩ | ⟨u, u1, u4, _, e1, e2, e3⟩
  · rcases unit_at (s.extract 0 a) i (by omega) with ⟨q', e'⟩ | ⟨u', u1', u4', _, e1', e2', e3'⟩
    · rw [e, e']
    · have := ((wide_ahead s a i u' ha hi u1' u4').1 e1').1
      omega
  · have hwp := (wide_ahead s a i u ha hi u1 u4).2 ⟨e1, by omega⟩
    rcases unit_at (s.extract 0 a) i (by omega) with ⟨q', e'⟩ | ⟨u', u1', u4', _, e1', e2', e3'⟩
    · omega
    · obtain rfl : u' = u := by omega
      refine Prod.ext ?_ (by omega)
      have e : ∀ j, j < u' → B (s.extract 0 a) (i + j) = B s (i + j) := fun j hj => B_pre s a _ ha (by omega)
      have e0 := e 0 (by omega)
      rw [Nat.add_zero] at e0
      have : numT u' (B (s.extract 0 a) i) (B (s.extract 0 a) (i + 1)) (B (s.extract 0 a) (i + 2)) (B (s.extract 0 a) (i + 3)) = numT u' (B s i) (B s (i + 1)) (B s (i + 2)) (B s (i + 3)) := by
        unfold numT
        rcases (by omega : u' = 1 ∨ u' = 2 ∨ u' = 3 ∨ u' = 4) with h | h | h | h
        · subst h; simp [e0]
        · subst h; simp [e0, e 1 (by omega)]
        · subst h; simp [e0, e 1 (by omega), e 2 (by omega)]
        · subst h; simp [e0, e 1 (by omega), e 2 (by omega), e 3 (by omega)]
      omega

/-- A row of bytes none of which begins a character: as many numbers. -/
theorem ill_run (s : ByteArray) : ∀ k f i, i + k ≤ s.size → (∀ q, i ≤ q → q < i + k → wideI s q = 0) → s.size ≤ f + i → ∃ g, s.size ≤ g + (i + k) ∧ (numsF s f i).length = k + (numsF s g (i + k)).length
  | 0, f, i, _, _, hf => ⟨f, by omega, by simp⟩
  | k + 1, f, i, hk, hq, hf => by
    obtain ⟨f', rfl⟩ : ∃ f', f = f' + 1 := ⟨f - 1, by omega⟩
    have e := decode_ill s i (by omega) (hq i (by omega) (by omega))
    obtain ⟨g, hg, hl⟩ := ill_run s k f' (i + 1) (by omega) (fun q h1 h2 => hq q (by omega) (by omega)) (by omega)
    refine ⟨g, by omega, ?_⟩
    rw [numsF_in s f' i (by omega), e]
    simp only [List.length_cons]
    rw [hl, show i + 1 + k = i + (k + 1) by omega]
    omega

/-- The bytes behind the first one of a character begin none. -/
theorem in_char (s : ByteArray) (i j : Nat) (hi : i < s.size) (hj : 1 ≤ j) (hw : j < (Utf8.decode s i).2) : 128 ≤ B s (i + j) ∧ B s (i + j) ≤ 191 := by
  rcases unit_at s i hi with ⟨_, e⟩ | ⟨u, u1, u4, _, e1, e2, _⟩
  · rw [e] at hw; simp only at hw; omega
  · have hc := ((wide_iff s i u hi u1 u4).1 e1).2
    rw [e2] at hw
    rcases hc with ⟨rfl, _⟩ | ⟨rfl, h⟩ | ⟨rfl, h⟩ | ⟨rfl, h⟩
    · omega
    · obtain rfl : j = 1 := by omega
      omega
    · rcases (by omega : j = 1 ∨ j = 2) with rfl | rfl <;> omega
    · rcases (by omega : j = 1 ∨ j = 2 ∨ j = 3) with rfl | rfl | rfl <;> omega

theorem cut_at (s : ByteArray) (a : Nat) (ha : a ≤ s.size) : ∀ f i, i ≤ a → s.size ≤ f + i →
    ((a ∈ placesF s f i ∨ a = s.size) ∧ ∀ f2 f3, s.size ≤ f2 + i → s.size ≤ f3 + a → numsF (s.extract 0 a) f2 i ++ numsF s f3 a = numsF s f i) ∨
    ((a ∉ placesF s f i ∧ a ≠ s.size) ∧ ∀ f2 f3, s.size ≤ f2 + i → s.size ≤ f3 + a → (numsF s f i).length < (numsF (s.extract 0 a) f2 i ++ numsF s f3 a).length)
  | f, i, hia, hf => by
    have hz := size_pre s a ha
    rcases Nat.lt_or_ge i a with hlt | hge
    · have hi : i < s.size := by omega
      obtain ⟨d1, d2, d3⟩ := dec_width s i hi
      obtain ⟨f', rfl⟩ : ∃ f', f = f' + 1 := ⟨f - 1, by omega⟩
      by_cases hw : i + (Utf8.decode s i).2 ≤ a
      · have hda := decode_ahead s a i ha hlt hw
        have hrec := cut_at s a ha f' (i + (Utf8.decode s i).2) hw (by omega)
        rw [placesF_in s f' i hi, numsF_in s f' i hi]
        have hne : a ≠ i := by omega
        rcases hrec with ⟨h1, h2⟩ | ⟨⟨h1, h1'⟩, h2⟩
        · refine .inl ⟨?_, fun f2 f3 hf2 hf3 => ?_⟩
          · rcases h1 with h | h
            · exact .inl (List.mem_cons_of_mem _ h)
            · exact .inr h
          · obtain ⟨f2', rfl⟩ : ∃ f2', f2 = f2' + 1 := ⟨f2 - 1, by omega⟩
            rw [numsF_in _ f2' i (by omega), hda, List.cons_append, h2 f2' f3 (by omega) hf3]
        · refine .inr ⟨⟨fun h => ?_, h1'⟩, fun f2 f3 hf2 hf3 => ?_⟩
          · rcases List.mem_cons.1 h with h | h
            · exact hne h
            · exact h1 h
          · obtain ⟨f2', rfl⟩ : ∃ f2', f2 = f2' + 1 := ⟨f2 - 1, by omega⟩
            rw [numsF_in _ f2' i (by omega), hda, List.cons_append]
            simp only [List.length_cons]
            exact Nat.succ_lt_succ (h2 f2' f3 (by omega) hf3)
      · refine .inr ⟨⟨fun h => ?_, by omega⟩, fun f2 f3 hf2 hf3 => ?_⟩
        · rw [placesF_in s f' i hi] at h
          rcases List.mem_cons.1 h with h | h
          · omega
          · have := placesF_ge s f' _ _ h; omega
        · obtain ⟨g, hg, hl⟩ := ill_run (s.extract 0 a) (a - i) f2 i (by omega) (fun q h1 h2 => by
            rcases Nat.lt_or_ge i q with hq | hq
            · have := in_char s i (q - i) hi (by omega) (by omega)
              rw [Nat.add_sub_cancel' h1] at this
              rw [← B_pre s a q ha (by omega)] at this
              exact wide_cont _ q this.1 this.2
            · obtain rfl : q = i := by omega
              rcases decode_wide (s.extract 0 a) q (by omega) with ⟨h, _⟩ | ⟨u, u1, u4, _, e, _⟩
              · exact h
              · exfalso
                obtain ⟨e1, e2⟩ := (wide_ahead s a q u ha hlt u1 u4).1 e
                rcases decode_wide s q hi with ⟨h, _⟩ | ⟨u', _, _, _, e', e''⟩
                · omega
                · omega) (by omega)
          rw [show i + (a - i) = a by omega] at hl
          obtain ⟨g2, hg2, hl2⟩ := ill_run s (i + (Utf8.decode s i).2 - a) f3 a (by omega) (fun q h1 h2 => by
            have := in_char s i (q - i) hi (by omega) (by omega)
            rw [Nat.add_sub_cancel' (by omega)] at this
            exact wide_cont _ q this.1 this.2) hf3
          rw [show a + (i + (Utf8.decode s i).2 - a) = i + (Utf8.decode s i).2 by omega] at hl2 hg2
          rw [numsF_in s f' i hi, numsF_fuel s f' g2 _ (by omega) hg2]
          simp only [List.length_append, List.length_cons]
          rw [hl, hl2]
          omega
    · obtain rfl : i = a := by omega
      refine .inl ⟨?_, fun f2 f3 hf2 hf3 => ?_⟩
      · rcases Nat.lt_or_ge i s.size with hi | hi
        · obtain ⟨f', rfl⟩ : ∃ f', f = f' + 1 := ⟨f - 1, by omega⟩
          rw [placesF_in s f' i hi]; exact .inl (List.mem_cons_self ..)
        · exact .inr (by omega)
      · rw [numsF_end (s.extract 0 i) f2 i (by omega), List.nil_append]
        exact numsF_fuel s f3 f i hf3 hf
  termination_by _f i => s.size - i
  decreasing_by omega

/-- The numbers of a text. -/
def nums (s : ByteArray) : List Nat := numsF s s.size 0
theorem nums_units (s : ByteArray) : nums s = (units s).map (·.2) := rfl
/-- **The cut.** -/
theorem cut_iff (s : ByteArray) (a : Nat) (ha : a ≤ s.size) : (nums (s.extract 0 a) ++ nums (s.extract a s.size) = nums s) ↔ (a ∈ (units s).map (·.1) ∨ a = 0 ∨ a = s.size) := by
  have hz := size_pre s a ha
  have hz2 := tail_size s a ha
  have e2 : nums (s.extract a s.size) = numsF s s.size a := by
    rw [nums, numsF_behind s a ha, hz2, Nat.add_zero]
    exact numsF_fuel s _ _ a (by omega) (by omega)
  have e1 : nums (s.extract 0 a) = numsF (s.extract 0 a) s.size 0 := by
    rw [nums, hz]; exact numsF_fuel _ _ _ 0 (by omega) (by omega)
  rw [e1, e2]
  rcases cut_at s a ha s.size 0 (Nat.zero_le _) (by omega) with ⟨h1, h2⟩ | ⟨⟨h1, h1'⟩, h2⟩
  · refine ⟨fun _ => ?_, fun _ => h2 _ _ (by omega) (by omega)⟩
    rcases h1 with h | h
    · exact .inl h
    · exact .inr (.inr h)
  · have := h2 s.size s.size (by omega) (by omega)
    constructor
    · intro e; rw [e] at this; unfold nums at this; omega
    · intro h
      exfalso
      rcases h with h | h | h
      · exact h1 h
      · subst h
        rcases Nat.lt_or_ge 0 s.size with hp | hp
        · apply h1
          obtain ⟨f', hf'⟩ : ∃ f', s.size = f' + 1 := ⟨s.size - 1, by omega⟩
          rw [hf', placesF_in s f' 0 hp]; exact List.mem_cons_self ..
        · exact h1' (by omega)
      · exact h1' h
end Go.Proofs.YtmpjlenfnlijfaaGreatDoor
/- The walk of UtfCuts. -/
namespace Go.Proofs.YtmpjlenfnlijfaaGreatDoor
open Go Go.RowKit Go.Kt Go.Shelf
attribute [local go_sem] Oper.semAt_some

theorem tinfo4 : (Tryz.prog.info? 4).map (fun i => (i.zero, i.size, i.bytes)) = some (some (.bool false), 1, 1) := by kernel_rfl
theorem tinfo21 : (Tryz.prog.info? 21).map (fun i => (i.zero, i.size, i.bytes)) = some (some (.int .i32 0), 1, 4) := by kernel_rfl

/-- The block m holds a row of places. -/
def Plc (m : Nat) (s : ByteArray) (p : Nat → Bool) (W : World) : Prop :=
  ∃ c : Array Value, W.heap[m]? = some (.cells c 4 (0, 0)) ∧ ∀ i, i ≤ s.size → c[i]? = some (.bool (p i))
theorem Plc.keep {m : Nat} {s : ByteArray} {p : Nat → Bool} {X : Nat → Prop} {A B : World} (h : Plc m s p A) (hk : Keep X A B) (hX : ¬ X m) : Plc m s p B := by
  obtain ⟨c, h1, h2⟩ := h
  exact ⟨c, hk.heap h1 hX, h2⟩
theorem Plc.cell {m : Nat} {s : ByteArray} {p : Nat → Bool} {W : World} (h : Plc m s p W) {i : Nat} (hi : i ≤ s.size) : W.cell? ⟨m, i, none⟩ = some (.bool (p i)) := by
  obtain ⟨c, h1, h2⟩ := h
  rw [Lib.cell_of_heap h1]; exact h2 i hi
theorem Plc.frozen {m : Nat} {s : ByteArray} {p : Nat → Bool} {W : World} (h : Plc m s p W) (i : Nat) : W.frozen? ⟨m, i, none⟩ = false := by
  obtain ⟨c, h1, h2⟩ := h
  exact Lib.frozen_of_heap h1 i
theorem Plc.set {m : Nat} {s : ByteArray} {p : Nat → Bool} {W : World} (h : Plc m s p W) {j : Nat} (_ : j ≤ s.size) : Plc m s (fun i => p i || i == j) (W.setCell ⟨m, j, none⟩ (.bool true)) := by
  obtain ⟨c, h1, h2⟩ := h
  refine ⟨c.setIfInBounds j (.bool true), by simp [World.setCell, Array.getElem?_modify, h1], fun i hi => ?_⟩
  rw [Array.getElem?_setIfInBounds]
  have := h2 i hi
  have hlt := (Array.getElem?_eq_some_iff.1 this).1
  by_cases e : j = i
  · subst e; rw [if_pos rfl, if_pos hlt]; simp
  · rw [if_neg e, this]
    have : (i == j) = false := by simp; omega
    simp [this]
theorem Plc.congr {m : Nat} {s : ByteArray} {p q : Nat → Bool} {W : World} (h : Plc m s p W) (e : ∀ i, i ≤ s.size → p i = q i) : Plc m s q W := by
  obtain ⟨c, h1, h2⟩ := h
  exact ⟨c, h1, fun i hi => by rw [← e i hi]; exact h2 i hi⟩

theorem units_lt (s : ByteArray) : ∀ f i p, p ∈ unitsF s f i → p.1 < s.size
  | 0, _, p, h => by simp [unitsF] at h
  | f + 1, i, p, h => by
    rw [unitsF] at h
    split at h
    · rcases List.mem_cons.1 h with h | h
      · subst h; assumption
      · exact units_lt s f _ p h
    · simp at h

/-- Which places are marked once the units pre have been gone through. -/
def pcs (s : ByteArray) (pre : List (Nat × Nat)) (i : Nat) : Bool := (pre.map fun p => p.1).contains i || (i == s.size || i == 0)
theorem pcs_snoc (s : ByteArray) (pre : List (Nat × Nat)) (p : Nat × Nat) (i : Nat) : pcs s (pre ++ [p]) i = (pcs s pre i || i == p.1) := by
  unfold pcs
  rw [List.map_append, List.map_cons, List.map_nil, Bool.eq_iff_iff]
  simp
  constructor
  · rintro ((h | h) | h)
    · exact .inl (.inl h)
    · exact .inr h
    · exact .inl (.inr h)
  · rintro ((h | h) | h)
    · exact .inl (.inl h)
    · exact .inr h
    · exact .inl (.inr h)

/-- The numbers of a text, as a list is read. -/
def numsI (s : ByteArray) : List Int := (nums s).map fun x : Nat => (x : Int)
theorem runeCells_I (s : ByteArray) : runeCells s = (numsI s).map fun x => .int .i32 x := by
  simp [runeCells, numsI, nums_units, List.map_map, Function.comp_def]
theorem numsI_len (s : ByteArray) : (numsI s).length = (units s).length := by simp [numsI, nums_units]
theorem mapI_inj : ∀ (a b : List Nat), (a.map fun x : Nat => (x : Int)) = b.map (fun x : Nat => (x : Int)) ↔ a = b
  | [], [] => by simp
  | [], _ :: _ => by simp
  | _ :: _, [] => by simp
  | x :: a, y :: b => by simp [mapI_inj a b, Int.ofNat_inj]
theorem cut_same (s : ByteArray) (a : Nat) (ha : a ≤ s.size) : decide (numsI (s.extract 0 a) ++ numsI (s.extract a s.size) = numsI s) = pcs s (units s) a := by
  have h := cut_iff s a ha
  rw [Bool.eq_iff_iff, decide_eq_true_iff]
  unfold numsI
  rw [← List.map_append, mapI_inj, h]
  unfold pcs
  simp
  constructor
  · rintro (h | h | h)
    · exact .inl h
    · exact .inr (.inr h)
    · exact .inr (.inl h)
  · rintro (h | h | h)
    · exact .inl h
    · exact .inr (.inr h)
    · exact .inr (.inl h)

/-- 'append(v, l2...)' of numbers. -/
theorem append_sl (W : World) (base : Nat) {v : Value} {n : Nat} {l : List Int} (hown : W.ownsRow base 21 1 v n (l.map fun x => .int .i32 x)) (g m c : Nat) (l2 : List Int) (hm : l2.length = m)
    (hc : ∀ i x, l2[i]? = some x → W.cell? ⟨g, i, none⟩ = some (.int .i32 x)) (hb : base ≤ W.heap.size) (h63 : n + m ≤ 35184372088832) :
    ∃ v' W', (∀ ty, (Builtin.append_ #[23, 23] ty #[v, .slice (some ⟨g, 0, none⟩) m c]).run Tryz.prog W = .ok v' W') ∧ W'.ownsRow base 21 1 v' (n + m) ((l ++ l2).map fun x => .int .i32 x) ∧
      Keep (fun b => v.ownBlock = some b) W W' := by
  obtain ⟨i, hi, hz, hs1, hb1⟩ := info_parts tinfo21
  obtain ⟨v', W', hrun, h1, h2, _⟩ := run_append_own (P := Tryz.prog) W base 23 0 21 i (.int .i32 0) 1 4 Tryz.underlying23 hi hz hs1 hb1 rfl (by omega) v n (l.map fun x => .int .i32 x) hown ⟨g, 0, none⟩ m c (l2.map fun x => .int .i32 x)
    (by simp [hm]) (fun j u hj => by
      simp only [List.getElem?_map, Option.map_eq_some_iff] at hj
      obtain ⟨x, hx, rfl⟩ := hj
      rw [Addr.add_lit]; simpa using hc j x hx) (by intro u hu; simp at hu; obtain ⟨x, _, rfl⟩ := hu; rfl) (by unfold maxLen; omega) (by omega) hb
  refine ⟨v', W', fun ty => hrun, ?_, keep_grown h2⟩
  rw [List.map_append]; exact h1
theorem own_base {Y : Nat → Prop} {e : TypeId} {size n base : Nat} {v : Value} {xs : List Value} {W : World} (h : OwnS Y e size v n xs W) (hY : ∀ b, Y b → base ≤ b) : W.ownsRow base e size v n xs := by
  obtain ⟨⟨hl, h2⟩, hY'⟩ := h
  refine ⟨hl, ?_⟩
  rcases h2 with h2 | ⟨g, cap, cur, rfl, hb, hg, rest⟩
  · exact .inl h2
  · exact .inr ⟨g, cap, cur, rfl, hY g (hY' g rfl), hg, rest⟩
theorem own_of_base {e : TypeId} {size n base : Nat} {v : Value} {xs : List Value} {W : World} (h : W.ownsRow base e size v n xs) : OwnS (fun b => base ≤ b) e size v n xs W := by
  obtain ⟨hl, h2⟩ := h
  refine ⟨⟨hl, ?_⟩, fun g hg => ?_⟩
  · rcases h2 with h2 | ⟨g, cap, cur, rfl, hb, hg, rest⟩
    · exact .inl h2
    · exact .inr ⟨g, cap, cur, rfl, Nat.zero_le _, hg, rest⟩
  · rcases h2 with ⟨h2, _⟩ | ⟨g', cap, cur, h2, hb, _⟩
    · rw [h2] at hg; cases hg
    · rw [h2] at hg; cases hg; exact hb
theorem _root_.Go.Kt.Keep.drewN {X : Nat → Prop} {A B : World} (h : Keep X A B) (j : Nat) : Keep X A (B.drewN j) := h.trans ⟨rfl, rfl, rfl, Nat.le_refl _, fun _ _ _ => rfl⟩
theorem Sl.drewN {k : IntKind} {W : World} {v : Value} {l : List Int} (h : Sl k W v l) (j : Nat) : Sl k (W.drewN j) v l := h

theorem sameRunes_d (v1 v2 : Value) (l1 l2 : List Int) (w : World) (h1 : Sl .i32 w v1 l1) (h2 : Sl .i32 w v2 l2) (m1 : l1.length ≤ 4611686018427387904) (m2 : l2.length ≤ 4611686018427387904) (j : Nat) :
    Calls Tryz.prog 41 #[v1, v2] (w.drewN j) fun e w' => e = .returned (.bool (decide (l1 = l2))) ∧ ∃ m, w' = (w.drewN j).drewN m :=
  sameRunes_any v1 v2 l1 l2 (w.drewN j) (h1.drewN j) (h2.drewN j) m1 m2

end Go.Proofs.YtmpjlenfnlijfaaGreatDoor
/- The document's text of numbers. -/
namespace Go.Proofs.YtmpjlenfnlijfaaGreatDoor
open Go Go.RowKit Go.Kt Go.Shelf

theorem conv1 (W : World) (x : Int) (hx : 0 ≤ x) (hx' : x < 256) :
    (convert 146 9 (.slice (some ⟨W.heap.size, 0, none⟩) 1 1)).run Tryz.prog (W.alloc (.cells #[.int .u8 x] 5)) = .ok (.string ⟨#[UInt8.ofNat x.toNat]⟩) (W.alloc (.cells #[.int .u8 x] 5)) := by
  have := run_convert_bytes_back (P := Tryz.prog) (W.alloc (.cells #[.int .u8 x] 5)) 146 9 5 ⟨W.heap.size, 0, none⟩ 1 [UInt8.ofNat x.toNat] Tryz.underlying146 Tryz.underlying5 Tryz.underlying9 (fun j hj => by
    simp at hj; subst hj
    rw [Addr.add_lit, Lib.cell_of_heap (World.alloc_heap_new W _)]
    simp; omega)
  simpa using this
theorem conv2 (W : World) (x y : Int) (hx : 0 ≤ x) (hx' : x < 256) (hy : 0 ≤ y) (hy' : y < 256) :
    (convert 146 9 (.slice (some ⟨W.heap.size, 0, none⟩) 2 2)).run Tryz.prog (W.alloc (.cells #[.int .u8 x, .int .u8 y] 5)) = .ok (.string ⟨#[UInt8.ofNat x.toNat, UInt8.ofNat y.toNat]⟩) (W.alloc (.cells #[.int .u8 x, .int .u8 y] 5)) := by
  have := run_convert_bytes_back (P := Tryz.prog) (W.alloc (.cells #[.int .u8 x, .int .u8 y] 5)) 146 9 5 ⟨W.heap.size, 0, none⟩ 2 [UInt8.ofNat x.toNat, UInt8.ofNat y.toNat] Tryz.underlying146 Tryz.underlying5 Tryz.underlying9 (fun j hj => by
    simp at hj
    rw [Addr.add_lit, Lib.cell_of_heap (World.alloc_heap_new W _)]
    rcases (by omega : j = 0 ∨ j = 1) with rfl | rfl <;> simp <;> omega)
  simpa using this
theorem conv3 (W : World) (x y z : Int) (hx : 0 ≤ x) (hx' : x < 256) (hy : 0 ≤ y) (hy' : y < 256) (hz : 0 ≤ z) (hz' : z < 256) :
    (convert 146 9 (.slice (some ⟨W.heap.size, 0, none⟩) 3 3)).run Tryz.prog (W.alloc (.cells #[.int .u8 x, .int .u8 y, .int .u8 z] 5)) = .ok (.string ⟨#[UInt8.ofNat x.toNat, UInt8.ofNat y.toNat, UInt8.ofNat z.toNat]⟩) (W.alloc (.cells #[.int .u8 x, .int .u8 y, .int .u8 z] 5)) := by
  have := run_convert_bytes_back (P := Tryz.prog) (W.alloc (.cells #[.int .u8 x, .int .u8 y, .int .u8 z] 5)) 146 9 5 ⟨W.heap.size, 0, none⟩ 3 [UInt8.ofNat x.toNat, UInt8.ofNat y.toNat, UInt8.ofNat z.toNat] Tryz.underlying146 Tryz.underlying5 Tryz.underlying9 (fun j hj => by
    simp at hj
    rw [Addr.add_lit, Lib.cell_of_heap (World.alloc_heap_new W _)]
    rcases (by omega : j = 0 ∨ j = 1 ∨ j = 2) with rfl | rfl | rfl <;> simp <;> omega)
  simpa using this
theorem conv4 (W : World) (x y z u : Int) (hx : 0 ≤ x) (hx' : x < 256) (hy : 0 ≤ y) (hy' : y < 256) (hz : 0 ≤ z) (hz' : z < 256) (hu : 0 ≤ u) (hu' : u < 256) :
    (convert 146 9 (.slice (some ⟨W.heap.size, 0, none⟩) 4 4)).run Tryz.prog (W.alloc (.cells #[.int .u8 x, .int .u8 y, .int .u8 z, .int .u8 u] 5)) = .ok (.string ⟨#[UInt8.ofNat x.toNat, UInt8.ofNat y.toNat, UInt8.ofNat z.toNat, UInt8.ofNat u.toNat]⟩) (W.alloc (.cells #[.int .u8 x, .int .u8 y, .int .u8 z, .int .u8 u] 5)) := by
  have := run_convert_bytes_back (P := Tryz.prog) (W.alloc (.cells #[.int .u8 x, .int .u8 y, .int .u8 z, .int .u8 u] 5)) 146 9 5 ⟨W.heap.size, 0, none⟩ 4 [UInt8.ofNat x.toNat, UInt8.ofNat y.toNat, UInt8.ofNat z.toNat, UInt8.ofNat u.toNat] Tryz.underlying146 Tryz.underlying5 Tryz.underlying9 (fun j hj => by
    simp at hj
    rw [Addr.add_lit, Lib.cell_of_heap (World.alloc_heap_new W _)]
    rcases (by omega : j = 0 ∨ j = 1 ∨ j = 2 ∨ j = 3) with rfl | rfl | rfl | rfl <;> simp <;> omega)
  simpa using this

/-- The bytes of a character's number. -/
def encC (c : Int) : ByteArray :=
  if c < 128 then ⟨#[UInt8.ofNat c.toNat]⟩
  else if c < 2048 then ⟨#[UInt8.ofNat (192 + c / 64).toNat, UInt8.ofNat (128 + c % 64).toNat]⟩
  else if c < 65536 then ⟨#[UInt8.ofNat (224 + c / 4096).toNat, UInt8.ofNat (128 + c / 64 % 64).toNat, UInt8.ofNat (128 + c % 64).toNat]⟩
  else ⟨#[UInt8.ofNat (240 + c / 262144).toNat, UInt8.ofNat (128 + c / 4096 % 64).toNat, UInt8.ofNat (128 + c / 64 % 64).toNat, UInt8.ofNat (128 + c % 64).toNat]⟩
theorem encode_C (r : Int) : Utf8.encode r = encC (if Utf8.valid r then r else 65533) := by
  unfold Utf8.encode encC
  have hr : Utf8.valid r = true → 0 ≤ r ∧ r ≤ 1114111 := by unfold Utf8.valid; simp; omega
  by_cases h : Utf8.valid r = true
  · obtain ⟨h0, h1⟩ := hr h
    obtain ⟨c, rfl⟩ := Int.eq_ofNat_of_zero_le h0
    simp only [h, if_true, Int.toNat_natCast]
    by_cases a1 : c < 128
    · rw [if_pos a1, if_pos (show (c : Int) < 128 by omega)]
    · rw [if_neg a1, if_neg (show ¬ (c : Int) < 128 by omega)]
      by_cases a2 : c < 2048
      · rw [if_pos a2, if_pos (show (c : Int) < 2048 by omega)]
        congr 5
      · rw [if_neg a2, if_neg (show ¬ (c : Int) < 2048 by omega)]
        by_cases a3 : c < 65536
        · rw [if_pos a3, if_pos (show (c : Int) < 65536 by omega)]
          congr 5
        · rw [if_neg a3, if_neg (show ¬ (c : Int) < 65536 by omega)]
          congr 5
  · simp only [h, if_false, Bool.false_eq_true]
    rfl

end Go.Proofs.YtmpjlenfnlijfaaGreatDoor
/- What is read and made again: the bytes of a character; the text of a text's numbers; mended texts. -/
namespace Go.Proofs.YtmpjlenfnlijfaaGreatDoor
open Go

/-- The bytes of s from i on, up to j. -/
def seg (s : ByteArray) (i j : Nat) : List UInt8 := (s.extract i j).data.toList
theorem seg_eq (s : ByteArray) (i j : Nat) : seg s i j = (s.data.toList.take j).drop i := by
  simp [seg, List.drop_take]
theorem seg_len (s : ByteArray) (i j : Nat) (_h : i ≤ j) (hj : j ≤ s.size) : (seg s i j).length = j - i := by
  have : s.data.toList.length = s.size := by simp
  rw [seg_eq]; simp; omega
theorem seg_app (s : ByteArray) (i j k : Nat) (h1 : i ≤ j) (h2 : j ≤ k) : seg s i j ++ seg s j k = seg s i k := by
  simp only [seg_eq]
  rw [← List.take_append_drop (j - i) ((s.data.toList.take k).drop i), List.drop_drop, List.take_drop, Nat.add_sub_cancel' h1, List.take_take, Nat.min_eq_left h2]
theorem seg_self (s : ByteArray) (i : Nat) : seg s i i = [] := by
  rw [seg_eq]; apply List.drop_eq_nil_of_le; simp; omega
theorem seg_all (s : ByteArray) : seg s 0 s.size = s.data.toList := by
  have : s.data.toList.length = s.size := by simp
  rw [seg_eq, List.drop_zero, List.take_of_length_le (by omega)]
theorem seg_range (s : ByteArray) (i w : Nat) (h : i + w ≤ s.size) : seg s i (i + w) = (List.range w).map fun j => UInt8.ofNat (B s (i + j)) := by
  have hl : s.data.toList.length = s.size := by simp
  apply List.ext_getElem?
  intro j
  rw [seg_eq, List.getElem?_drop, List.getElem?_take, List.getElem?_map]
  by_cases hj : j < w
  · rw [if_pos (by omega), List.getElem?_range hj]
    have hlt : i + j < s.data.toList.length := by omega
    unfold B
    rw [Option.map_some, List.getD_eq_getElem?_getD, List.getElem?_eq_getElem hlt]
    simp
  · rw [if_neg (by omega), List.getElem?_eq_none (by simpa using hj)]
    rfl

/-- A character's own bytes. -/
theorem encode_decode (s : ByteArray) (i w : Nat) (hi : i < s.size) (hw1 : 1 ≤ w) (hw4 : w ≤ 4) (h : wideI s i = w) : (Utf8.encode (Utf8.decode s i).1).data.toList = seg s i (i + w) ∧ Utf8.valid (Utf8.decode s i).1 = true := by
  obtain ⟨hs, hc⟩ := (wide_iff s i w hi hw1 hw4).1 h
  have hd : ((Utf8.decode s i).1 : Int) = numT w (B s i) (B s (i + 1)) (B s (i + 2)) (B s (i + 3)) := by
    rcases unit_at s i hi with ⟨q, _⟩ | ⟨u, _, _, _, e1, _, e3⟩
    · omega
    · obtain rfl : u = w := by omega
      exact e3
  rw [seg_range s i w hs]
  have b0 := B_lt s i
  have b1 := B_lt s (i + 1)
  have b2 := B_lt s (i + 2)
  have b3 := B_lt s (i + 3)
  generalize (Utf8.decode s i).1 = c at hd
  have hv : Utf8.valid c = true := by
    unfold numT at hd
    simp only [Utf8.valid, Bool.or_eq_true, Bool.and_eq_true, decide_eq_true_iff]
    rcases hc with ⟨rfl, h1⟩ | ⟨rfl, h1⟩ | ⟨rfl, h1⟩ | ⟨rfl, h1⟩
    · simp at hd; omega
    · simp at hd; omega
    · simp at hd; omega
    · simp at hd; omega
  refine ⟨?_, hv⟩
  rw [encode_C, if_pos hv]
  unfold encC
  unfold numT at hd
  rcases hc with ⟨rfl, h1⟩ | ⟨rfl, h1⟩ | ⟨rfl, h1⟩ | ⟨rfl, h1⟩
  · simp at hd
    rw [if_pos (by omega)]
    simp [List.range_succ]
    rw [show (c : Nat) = B s i by omega]
  · simp at hd
    rw [if_neg (by omega), if_pos (by omega)]
    simp [List.range_succ]
    exact ⟨by rw [show (192 + (c : Int) / 64).toNat = B s i by omega], by rw [show (128 + (c : Int) % 64).toNat = B s (i + 1) by omega]⟩
  · simp at hd
    rw [if_neg (by omega), if_neg (by omega), if_pos (by omega)]
    simp [List.range_succ]
    exact ⟨by rw [show (224 + (c : Int) / 4096).toNat = B s i by omega], by rw [show (128 + (c : Int) / 64 % 64).toNat = B s (i + 1) by omega], by rw [show (128 + (c : Int) % 64).toNat = B s (i + 2) by omega]⟩
  · simp at hd
    rw [if_neg (by omega), if_neg (by omega), if_neg (by omega)]
    simp [List.range_succ]
    exact ⟨by rw [show (240 + (c : Int) / 262144).toNat = B s i by omega], by rw [show (128 + (c : Int) / 4096 % 64).toNat = B s (i + 1) by omega], by rw [show (128 + (c : Int) / 64 % 64).toNat = B s (i + 2) by omega], by rw [show (128 + (c : Int) % 64).toNat = B s (i + 3) by omega]⟩

/-- The text of the numbers from i on. -/
def fixF (s : ByteArray) : Nat → Nat → List UInt8
  | 0, _ => []
  | f + 1, i => if i < s.size then (Utf8.encode (Utf8.decode s i).1).data.toList ++ fixF s f (i + (Utf8.decode s i).2) else []
def fffd : List UInt8 := [239, 191, 189]
theorem enc_fffd : (Utf8.encode (65533 : Nat)).data.toList = fffd := by kernel_rfl
theorem runesBytes_cons (x : Int) (l : List Int) : runesBytes (x :: l) = Utf8.encode x ++ runesBytes l := by
  have : ∀ (l : List Int) (a : ByteArray), l.foldl (fun r n => r ++ Utf8.encode n) a = a ++ l.foldl (fun r n => r ++ Utf8.encode n) ByteArray.empty := by
    intro l
    induction l with
    | nil => intro a; simp
    | cons x l ih => intro a; simp only [List.foldl_cons]; rw [ih, ih (ByteArray.empty ++ _)]; simp [ByteArray.append_assoc]
  unfold runesBytes
  rw [List.foldl_cons, this]
  simp
theorem fix_runes (s : ByteArray) : ∀ f i, (runesBytes ((numsF s f i).map fun x : Nat => (x : Int))).data.toList = fixF s f i
  | 0, i => rfl
  | f + 1, i => by
    rcases Nat.lt_or_ge i s.size with hi | hi
    · rw [numsF_in s f i hi, List.map_cons, runesBytes_cons, fixF, if_pos hi, ← fix_runes s f]
      simp
    · rw [numsF_end s _ i hi, fixF, if_neg (by omega)]; rfl

theorem ill_iff (s : ByteArray) (i : Nat) : illB s i = true ↔ wideI s i = 0 := by simp [illB]
/-- A unit: a character, or an ill-formed byte. -/
theorem unit_cases (s : ByteArray) (i : Nat) (hi : i < s.size) :
    (illB s i = true ∧ wideI s i = 0 ∧ Utf8.decode s i = (65533, 1)) ∨ (∃ w : Nat, 1 ≤ w ∧ w ≤ 4 ∧ i + w ≤ s.size ∧ illB s i = false ∧ wideI s i = w ∧ (Utf8.decode s i).2 = w ∧ (Utf8.encode (Utf8.decode s i).1).data.toList = seg s i (i + w) ∧ Utf8.valid (Utf8.decode s i).1 = true) := by
  rcases decode_wide s i hi with ⟨h1, h2⟩ | ⟨w, h1, h4, h5, h6, h7⟩
  · exact .inl ⟨(ill_iff s i).2 h1, h1, h2⟩
  · refine .inr ⟨w, h1, h4, h5, ?_, h6, h7, (encode_decode s i w hi h1 h4 h6).1, (encode_decode s i w hi h1 h4 h6).2⟩
    cases hb : illB s i
    · rfl
    · have := (ill_iff s i).1 hb; omega
/-- The text of the numbers is the text just where nothing is ill-formed. -/
theorem fix_len (s : ByteArray) : ∀ f i, s.size ≤ f + i → i ≤ s.size → (okF s f i = true ∧ fixF s f i = seg s i s.size) ∨ (okF s f i = false ∧ s.size - i < (fixF s f i).length)
  | 0, i, hf, h => by
    obtain rfl : i = s.size := by omega
    exact .inl ⟨rfl, (seg_self s s.size).symm⟩
  | f + 1, i, hf, h => by
    rcases Nat.lt_or_ge i s.size with hi | hi
    · rw [okF, if_pos hi, fixF, if_pos hi]
      rcases unit_cases s i hi with ⟨h1, _, h3⟩ | ⟨w, h1, h4, h5, h6, _, h7, h8, _⟩
      · refine .inr ⟨by rw [if_pos h1], ?_⟩
        rw [h3]
        simp only [List.length_append]
        rw [enc_fffd]
        have hfl : fffd.length = 3 := rfl
        rcases fix_len s f (i + 1) (by omega) (by omega) with ⟨_, h⟩ | ⟨_, h⟩
        · rw [h, seg_len s _ _ (by omega) (Nat.le_refl _)]; omega
        · omega
      · rw [h6, h7, h8]
        simp only [Bool.false_eq_true, if_false]
        rcases fix_len s f (i + w) (by omega) (by omega) with ⟨ho, h⟩ | ⟨ho, h⟩
        · exact .inl ⟨ho, by rw [h, seg_app s i _ _ (by omega) h5]⟩
        · refine .inr ⟨ho, ?_⟩
          rw [List.length_append, seg_len s i (i + w) (by omega) h5]; omega
    · obtain rfl : i = s.size := by omega
      refine .inl ⟨by rw [okF, if_neg (by omega)], by rw [fixF, if_neg (by omega), seg_self]⟩
theorem text_runes (s : ByteArray) : (runesBytes (numsI s)).data.toList = fixF s s.size 0 := fix_runes s s.size 0
theorem back_iff (s : ByteArray) : runesBytes (numsI s) = s ↔ okB s = true := by
  have ht := text_runes s
  have hl : s.data.toList.length = s.size := by simp
  rcases fix_len s s.size 0 (by omega) (by omega) with ⟨h1, h2⟩ | ⟨h1, h2⟩
  · unfold okB
    rw [h1]
    rw [h2, seg_all] at ht
    refine ⟨fun _ => rfl, fun _ => ?_⟩
    apply ByteArray.ext
    exact Array.ext' ht
  · unfold okB
    rw [h1]
    refine ⟨fun h => ?_, fun h => by cases h⟩
    rw [h] at ht
    rw [← ht] at h2; omega
end Go.Proofs.YtmpjlenfnlijfaaGreatDoor
/- Mended texts: how long they are; that they are right; U+FFFD byte by byte. -/
namespace Go.Proofs.YtmpjlenfnlijfaaGreatDoor
open Go

def mendR (s by' : ByteArray) (whole : Bool) : Nat → Nat → List UInt8
  | 0, _ => []
  | f + 1, i => if i < s.size then (if wideI s i = 0 then rep by'.data.toList (if whole then 1 else badK s i) ++ mendR s by' whole f (i + badK s i) else seg s i (i + (wideI s i).toNat) ++ mendR s by' whole f (i + (wideI s i).toNat)) else []
theorem badsF_step (s : ByteArray) (f i : Nat) (hi : i < s.size) : badsF s (f + 1) i = if wideI s i = 0 then (i, badK s i) :: badsF s f (i + badK s i) else badsF s f (i + (wideI s i).toNat) := by simp only [badsF]; rw [if_pos hi]
theorem badsF_end (s : ByteArray) (f i : Nat) (hi : s.size ≤ i) : badsF s f i = [] := by
  cases f with
  | zero => rfl
  | succ f => rw [badsF, if_neg (by omega)]
theorem mendR_end (s by' : ByteArray) (whole : Bool) (f i : Nat) (hi : s.size ≤ i) : mendR s by' whole f i = [] := by
  cases f with
  | zero => rfl
  | succ f => rw [mendR, if_neg (by omega)]

theorem mend_fold (s by' : ByteArray) (whole : Bool) : ∀ f i acc e, e ≤ i → i ≤ s.size → s.size ≤ f + i →
    ((badsF s f i).foldl (mendStep s by' whole) (acc, e)).1 ++ seg s ((badsF s f i).foldl (mendStep s by' whole) (acc, e)).2 s.size = acc ++ seg s e i ++ mendR s by' whole f i
  | 0, i, acc, e, he, hi, hf => by
    obtain rfl : i = s.size := by omega
    simp [badsF, mendR]
  | f + 1, i, acc, e, he, hi, hf => by
    rcases Nat.lt_or_ge i s.size with hlt | hge
    · rw [badsF_step s f i hlt, mendR, if_pos hlt]
      obtain ⟨k1, k2, _⟩ := badK_bd s i hlt
      have wb := wideI_bd s i hlt
      by_cases hw : wideI s i = 0
      · rw [if_pos hw, if_pos hw, List.foldl_cons]
        have := mend_fold s by' whole f (i + badK s i) (acc ++ seg s e i ++ rep by'.data.toList (if whole then 1 else badK s i)) (i + badK s i) (Nat.le_refl _) k2 (by omega)
        show (List.foldl (mendStep s by' whole) (mendStep s by' whole (acc, e) (i, badK s i)) _).1 ++ seg s (List.foldl (mendStep s by' whole) (mendStep s by' whole (acc, e) (i, badK s i)) _).2 s.size = _
        have e1 : mendStep s by' whole (acc, e) (i, badK s i) = (acc ++ seg s e i ++ rep by'.data.toList (if whole then 1 else badK s i), i + badK s i) := rfl
        rw [e1, this, seg_self]
        simp [List.append_assoc]
      · rw [if_neg hw, if_neg hw]
        rw [mend_fold s by' whole f _ acc e (by omega) (by omega) (by omega), ← seg_app s e i (i + (wideI s i).toNat) he (by omega)]
        simp [List.append_assoc]
    · obtain rfl : i = s.size := by omega
      rw [badsF_end s _ _ (Nat.le_refl _), mendR_end s by' whole _ _ (Nat.le_refl _)]
      simp
theorem mendL_R (s by' : ByteArray) (whole : Bool) : mendL s by' whole = mendR s by' whole s.size 0 := by
  have := mend_fold s by' whole s.size 0 [] 0 (Nat.le_refl _) (Nat.zero_le _) (by omega)
  rw [seg_self] at this
  exact this

def sumK (l : List (Nat × Nat)) : Nat := (l.map (·.2)).sum
theorem sumK_cons (p : Nat × Nat) (l : List (Nat × Nat)) : sumK (p :: l) = p.2 + sumK l := by simp [sumK]
theorem sumK_snoc (l : List (Nat × Nat)) (p : Nat × Nat) : sumK (l ++ [p]) = sumK l + p.2 := by simp [sumK]
theorem mend_len (s by' : ByteArray) : ∀ f i, i ≤ s.size → s.size ≤ f + i →
    (mendR s by' true f i).length + sumK (badsF s f i) = (s.size - i) + (badsF s f i).length * by'.size ∧
    (mendR s by' false f i).length + sumK (badsF s f i) = (s.size - i) + sumK (badsF s f i) * by'.size ∧ sumK (badsF s f i) ≤ s.size - i
  | 0, i, hi, hf => by
    obtain rfl : i = s.size := by omega
    simp [badsF, mendR, sumK]
  | f + 1, i, hi, hf => by
    rcases Nat.lt_or_ge i s.size with hlt | hge
    · rw [badsF_step s f i hlt, mendR, mendR, if_pos hlt, if_pos hlt]
      obtain ⟨k1, k2, _⟩ := badK_bd s i hlt
      have wb := wideI_bd s i hlt
      have hb : by'.data.toList.length = by'.size := by simp
      by_cases hw : wideI s i = 0
      · rw [if_pos hw, if_pos hw, if_pos hw]
        obtain ⟨h1, h2, h3⟩ := mend_len s by' f (i + badK s i) k2 (by omega)
        simp only [List.length_append, rep_len, hb, sumK_cons, List.length_cons, if_true, Bool.false_eq_true, if_false]
        refine ⟨?_, ?_, by omega⟩
        · rw [Nat.add_mul, Nat.one_mul]; omega
        · rw [Nat.add_mul]; omega
      · rw [if_neg hw, if_neg hw, if_neg hw]
        obtain ⟨h1, h2, h3⟩ := mend_len s by' f (i + (wideI s i).toNat) (by omega) (by omega)
        simp only [List.length_append]
        rw [seg_len s i _ (by omega) (by omega)]
        refine ⟨by omega, by omega, by omega⟩
    · obtain rfl : i = s.size := by omega
      rw [badsF_end s _ _ (Nat.le_refl _), mendR_end s by' _ _ _ (Nat.le_refl _), mendR_end s by' _ _ _ (Nat.le_refl _)]
      simp [sumK]

theorem bads_ok (s : ByteArray) : ∀ f i, (badsF s f i = [] ↔ okF s f i = true)
  | 0, i => by simp [badsF, okF]
  | f + 1, i => by
    rcases Nat.lt_or_ge i s.size with hlt | hge
    · rw [badsF_step s f i hlt, okF, if_pos hlt]
      rcases unit_cases s i hlt with ⟨h1, h2, h3⟩ | ⟨w, h1, h4, h5, h6, h7, h8, _, _⟩
      · rw [if_pos h2, if_pos h1]; simp
      · rw [h6, if_neg (by omega)]
        simp only [Bool.false_eq_true, if_false]
        rw [h8, h7, Int.toNat_natCast]
        exact bads_ok s f (i + w)
    · rw [badsF_end s _ _ hge, okF, if_neg (by omega)]; simp
theorem mend_ok (s by' : ByteArray) (whole : Bool) : ∀ f i, i ≤ s.size → s.size ≤ f + i → badsF s f i = [] → mendR s by' whole f i = seg s i s.size
  | 0, i, hi, hf, _ => by
    obtain rfl : i = s.size := by omega
    simp [mendR, seg_self]
  | f + 1, i, hi, hf, h => by
    rcases Nat.lt_or_ge i s.size with hlt | hge
    · rw [badsF_step s f i hlt] at h
      rw [mendR, if_pos hlt]
      have wb := wideI_bd s i hlt
      by_cases hw : wideI s i = 0
      · rw [if_pos hw] at h; cases h
      · rw [if_neg hw] at h ⊢
        rw [mend_ok s by' whole f _ (by omega) (by omega) h, seg_app s i _ _ (by omega) (by omega)]
    · obtain rfl : i = s.size := by omega
      rw [mendR_end s by' _ _ _ (Nat.le_refl _), seg_self]

/-- A row of ill-formed bytes. -/
theorem fix_run (s : ByteArray) : ∀ k g i, i + k ≤ s.size → (∀ q, i ≤ q → q < i + k → wideI s q = 0) → s.size ≤ g + i → ∃ g', s.size ≤ g' + (i + k) ∧ fixF s g i = rep fffd k ++ fixF s g' (i + k)
  | 0, g, i, _, _, hf => ⟨g, by omega, by simp [rep]⟩
  | k + 1, g, i, hk, hq, hf => by
    obtain ⟨g1, rfl⟩ : ∃ g1, g = g1 + 1 := ⟨g - 1, by omega⟩
    have e := decode_ill s i (by omega) (hq i (by omega) (by omega))
    obtain ⟨g', hg, hl⟩ := fix_run s k g1 (i + 1) (by omega) (fun q h1 h2 => hq q (by omega) (by omega)) (by omega)
    refine ⟨g', by omega, ?_⟩
    rw [fixF, if_pos (by omega), e]
    simp only
    rw [enc_fffd, hl, show i + 1 + k = i + (k + 1) by omega, ← List.append_assoc]
    congr 1
    have : ∀ k, fffd ++ rep fffd k = rep fffd (k + 1) := by
      intro k
      induction k with
      | zero => simp [rep]
      | succ k ih => rw [rep, ← List.append_assoc, ih]; rfl
    exact this k
theorem mend_fix (s by' : ByteArray) (hb : by'.data.toList = fffd) : ∀ f i g, i ≤ s.size → s.size ≤ f + i → s.size ≤ g + i → mendR s by' false f i = fixF s g i
  | 0, i, g, hi, hf, _ => by
    obtain rfl : i = s.size := by omega
    cases g with
    | zero => rfl
    | succ g => simp [mendR, fixF]
  | f + 1, i, g, hi, hf, hg => by
    rcases Nat.lt_or_ge i s.size with hlt | hge
    · rw [mendR, if_pos hlt]
      obtain ⟨k1, k2, _⟩ := badK_bd s i hlt
      rcases unit_cases s i hlt with ⟨h1, h2, h3⟩ | ⟨w, h1, h4, h5, h6, h7, h8, h9, _⟩
      · rw [if_pos h2]
        obtain ⟨g', hg', hl⟩ := fix_run s (badK s i) g i k2 (fun q h1 h2' => by
          rcases Nat.eq_or_lt_of_le h1 with e | e
          · subst e; exact h2
          · have := badK_cont s i (q - i) hlt (by omega) (by omega)
            rw [Nat.add_sub_cancel' h1] at this
            exact wide_cont s q this.1 this.2) hg
        rw [hl, hb, mend_fix s by' hb f _ g' k2 (by omega) hg']
        simp
      · rw [if_neg (by omega), h7, Int.toNat_natCast]
        obtain ⟨g1, rfl⟩ : ∃ g1, g = g1 + 1 := ⟨g - 1, by omega⟩
        rw [fixF, if_pos hlt, h8, h9, mend_fix s by' hb f (i + w) g1 h5 (by omega) (by omega)]
    · obtain rfl : i = s.size := by omega
      rw [mendR_end s by' _ _ _ (Nat.le_refl _)]
      cases g with
      | zero => rfl
      | succ g => simp [fixF]
end Go.Proofs.YtmpjlenfnlijfaaGreatDoor
