/- Parts of the proof of what the last text says. -/
import Derived.Test.YtcfhblbmpbfoaaaGreatDoorProg
import Derived.Test.YtcfhblbmpbfoaaaGreatDoorGv2
import Derived.Test.YtcfhblbmpbfoaaaGreatDoorGv3
import Derived.Lib.Hide
import Derived.Deep.QuietTactic
import Derived.BigQuiet
import Derived.WalkKit
import Derived.WalkLawsBesides
import Derived.WalkSpells
import Derived.Shelf.Strings.Builder1
import Derived.Shelf.Small.Utf8
import Derived.Shelf.Strings.BuilderF
import Derived.Shelf.Strings.BuilderK
import Derived.Shelf.Unicode.DecodeSlow
import Derived.Shelf.Unicode.DecodeAny
import Derived.Shelf.Unicode.DecodeLast
import Derived.Shelf.Strings.BuilderCap
import Derived.Handy
import Derived.Lib.DecodeN
import Derived.Lib.TrimUEq
namespace Go.Proofs.YtcfhblbmpbfoaaaGreatDoor
open Go Go.RowKit Go.Kt

def Sl (k : IntKind) (W : World) (v : Value) (l : List Int) : Prop :=
  ∃ ao cap, v = .slice ao l.length cap ∧ (l = [] ∨ ∃ g off, ao = some ⟨g, off, none⟩ ∧ ∀ i x, l[i]? = some x → W.cell? ⟨g, off + i, none⟩ = some (.int k x))

theorem Sl.keep {k : IntKind} {X : Nat → Prop} {A B : World} {v : Value} {l : List Int} (h : Sl k A v l) (hk : Keep X A B) (hX : ∀ ao n cap, v = .slice ao n cap → ∀ g off, ao = some ⟨g, off, none⟩ → ¬ X g) : Sl k B v l := by
  obtain ⟨ao, cap, rfl, h⟩ := h
  refine ⟨ao, cap, rfl, ?_⟩
  rcases h with h | ⟨g, off, rfl, h⟩
  · exact .inl h
  · exact .inr ⟨g, off, rfl, fun i x hx => hk.cell (h i x hx) (hX _ _ _ rfl g off rfl)⟩
theorem Sl.below {k : IntKind} {A B : World} {v : Value} {l : List Int} (h : Sl k A v l) (hb : Below A.heap.size A B) : Sl k B v l := h.keep (X := fun _ => False) (.of_all hb) (fun _ _ _ _ _ _ _ h => h)

theorem ret_b {a b : Bool} (h : a = b) : Ending.returned (.bool a) = .returned (.bool b) := by rw [h]
def Drawn (w w' : World) : Prop := ∃ n, w' = w.drewN n
theorem Drawn.below {w w' : World} (h : Drawn w w') : Below w.heap.size w w' := by obtain ⟨n, rfl⟩ := h; exact ⟨rfl, rfl, rfl, Nat.le_refl _, fun _ _ => rfl⟩
theorem Drawn.more {w w' : World} (h : Drawn w w') (n : Nat) : Drawn w (w'.drewN n) := by obtain ⟨m, rfl⟩ := h; exact ⟨m + n, World.drewN_drewN ..⟩
theorem Drawn.refl (w : World) : Drawn w w := ⟨0, rfl⟩
theorem Drawn.cell {w w' : World} (h : Drawn w w') (p : Addr) : w'.cell? p = w.cell? p := by obtain ⟨n, rfl⟩ := h; rfl
def SameOut (l1 l2 : List Int) (w : World) (e : Ending) (w' : World) : Prop := e = .returned (.bool (decide (l1 = l2))) ∧ Drawn w w'

set_option maxRecDepth 100000 in
theorem sameRunes_any (v1 v2 : Value) (l1 l2 : List Int) (w : World) (h1 : Sl .i32 w v1 l1) (h2 : Sl .i32 w v2 l2) (m1 : l1.length ≤ 4611686018427387904) (m2 : l2.length ≤ 4611686018427387904) :
    Calls Tryz.prog 17 #[v1, v2] w (SameOut l1 l2 w) := by
  obtain ⟨a1, c1, rfl, h1⟩ := h1
  obtain ⟨a2, c2, rfl, h2⟩ := h2
  by_cases hl : l1.length = l2.length
  · have hlt : (l1.length : Int) = l2.length := by omega
    have H1 := Lib.hid h1
    have H2 := Lib.hid h2
    have HL := Lib.hid hl
    have hne : ((l1.length : Int) != l2.length) = false := by simp [hl]
    clear h1 h2 hl hlt
    go_enter Tryz.func17, Tryz.ntmps17
    go_wp2
    go_loopw [5] (fun v wr => ∃ k : Nat, k ≤ l1.length ∧ v = .int .i64 k ∧ l1.take k = l2.take k ∧ Drawn w wr) (fun v _ => l1.length - (RowKit.intOf v).toNat)
    case atStart => exact ⟨0, by omega, rfl, by simp, Drawn.refl _⟩
    case round =>
      obtain ⟨k, hk, rfl, htk, hb⟩ := hrel
      have HT := Lib.hid htk
      clear htk
      by_cases hlt : k < l1.length
      · have hlt2 : k < l2.length := by have := HL.out; omega
        obtain ⟨g1, o1, rfl, k1⟩ : ∃ g off, a1 = some ⟨g, off, none⟩ ∧ ∀ i x, l1[i]? = some x → w.cell? ⟨g, off + i, none⟩ = some (.int .i32 x) := by
          rcases H1.out with h | h
          · subst h; simp at hlt
          · exact h
        obtain ⟨g2, o2, rfl, k2⟩ : ∃ g off, a2 = some ⟨g, off, none⟩ ∧ ∀ i x, l2[i]? = some x → w.cell? ⟨g, off + i, none⟩ = some (.int .i32 x) := by
          rcases H2.out with h | h
          · subst h; simp at hlt2
          · exact h
        obtain ⟨x1, e1⟩ : ∃ x, l1[k]? = some x := ⟨l1[k], List.getElem?_eq_getElem hlt⟩
        obtain ⟨x2, e2⟩ : ∃ x, l2[k]? = some x := ⟨l2[k], List.getElem?_eq_getElem hlt2⟩
        have q1 := k1 k x1 e1
        have q2 := k2 k x2 e2
        have p1 := (hb.cell _).trans q1
        have p2 := (hb.cell _).trans q2
        have E := Lib.hid (And.intro e1 e2)
        clear k1 k2 q1 q2 e1 e2
        by_cases hx : x1 = x2
        · subst hx
          have hxx : (x1 != x1) = false := by simp
          go_wp2
          go_quiet (fail)
          go_wp2
          go_roundw
          case rel =>
            refine ⟨k + 1, by omega, by go_num, ?_, hb.more _⟩
            rw [List.take_add_one, List.take_add_one, HT.out, E.out.1, E.out.2]
          case measure => simp [RowKit.intOf]; omega
        · have hxx : (x1 != x2) = true := by simp [hx]
          have hfin : decide (l1 = l2) = false := by
            simp only [decide_eq_false_iff_not]
            intro h; subst h; rw [E.out.1] at E
            exact hx (Option.some.inj E.out.2)
          go_wp2
          go_quiet (fail)
          go_wp2
          go_ret
          exact ⟨ret_b hfin.symm, hb.more _⟩
      · have hke : k = l1.length := by omega
        have hfin : decide (l1 = l2) = true := by
          have := HT.out
          rw [hke, List.take_length, HL.out, List.take_length] at this
          simpa using this
        clear hke
        go_wp2
        go_ret
        exact ⟨ret_b hfin.symm, hb⟩
  · have hne : ((l1.length : Int) != l2.length) = true := by simp; omega
    have hfin : decide (l1 = l2) = false := by
      simp only [decide_eq_false_iff_not]
      intro h; subst h; exact hl rfl
    clear h1 h2 hl
    go_enter Tryz.func17, Tryz.ntmps17
    go_wp2
    go_ret
    exact ⟨ret_b hfin.symm, Drawn.refl _⟩
end Go.Proofs.YtcfhblbmpbfoaaaGreatDoor
namespace Go.Proofs.YtcfhblbmpbfoaaaGreatDoor
open Go Go.RowKit

def inB (c lo hi : Int) : Bool := decide (lo ≤ c) && decide (c ≤ hi)

def leadI (c : Int) : Int × Int × Int :=
  if c < 128 then (1, 0, 0) else if inB c 194 223 then (2, 128, 191) else if c == 224 then (3, 160, 191) else if c == 237 then (3, 128, 159)
  else if inB c 225 239 then (3, 128, 191) else if c == 240 then (4, 144, 191) else if c == 244 then (4, 128, 143) else if inB c 241 243 then (4, 128, 191) else (0, 0, 0)

def bAt (s : ByteArray) (i : Nat) : Int := (s.data.toList.getD i 0).toNat
theorem bAt_lo (s : ByteArray) (i : Nat) : 0 ≤ bAt s i := by unfold bAt; omega
theorem bAt_hi (s : ByteArray) (i : Nat) : bAt s i < 256 := by unfold bAt; have := (s.data.toList.getD i 0).toNat_lt; omega
theorem bAt_eq (s : ByteArray) (i : Nat) (h : i < s.size) : bAt s i = (s[i]'h).toNat := by
  have h' : i < s.data.toList.length := by simpa using h
  unfold bAt
  rw [List.getD_eq_getElem?_getD, List.getElem?_eq_getElem h']; rfl
theorem run_bAt (s : ByteArray) (i : Nat) (h : i < s.size) (w : World) :
    (Instr.index 9 (.string s) (.int .i64 (i : Int))).run Tryz.prog w = .ok (.int .u8 (bAt s i)) w := by
  rw [run_index_string (h := Tryz.underlying9), dif_pos (by omega), bAt_eq s i h]; rfl
def begunC (s : ByteArray) (i : Nat) (lo hi : Int) (k : Nat) : Bool := if k = 1 then inB (bAt s (i + k)) lo hi else inB (bAt s (i + k)) 128 191
def begunK (s : ByteArray) (i : Nat) (n lo hi : Int) : Nat → Nat → Nat
  | 0, k => k
  | f + 1, k => if (k : Int) < n ∧ i + k < s.size ∧ begunC s i lo hi k = true then begunK s i n lo hi f (k + 1) else k
def begunI (s : ByteArray) (i : Nat) : Int × Int :=
  if (leadI (bAt s i)).1 == 0 then (0, 0) else ((begunK s i (leadI (bAt s i)).1 (leadI (bAt s i)).2.1 (leadI (bAt s i)).2.2 4 1 : Nat), (leadI (bAt s i)).1)
theorem leadI_bd (c : Int) : 0 ≤ (leadI c).1 ∧ (leadI c).1 ≤ 4 := by
  unfold leadI; repeat' split
  all_goals simp

end Go.Proofs.YtcfhblbmpbfoaaaGreatDoor
namespace Go.Proofs
open Go.Shelf
def Tryz.lays169_ren : Go.Shelf.Ren := ⟨fun | 169 => 87 | n => n, fun | 70 => 126 | 9 => 9 | 0 => 0 | 72 => 128 | 37 => 124 | 127 => 181 | 3 => 3 | 5 => 5 | n => n, fun | n => n⟩
theorem Tryz.lays169 : Go.Proofs.Lays.n169 Tryz.prog Tryz.lays169_ren := {
  mixed := by kernel_rfl
  f169 := Tryz.func87.trans (congrArg some (by kernel_rfl))
  t0 := Tryz.underlying0
  a0 := Tryz.isAgg0
  z0 := Tryz.sizeOf0
  v0 := Tryz.zeroValue0
  t3 := Tryz.underlying3
  a3 := Tryz.isAgg3
  z3 := Tryz.sizeOf3
  v3 := Tryz.zeroValue3
  t9 := Tryz.underlying9
  a9 := Tryz.isAgg9
  z9 := Tryz.sizeOf9
  v9 := Tryz.zeroValue9
  t37 := Tryz.underlying124
  a37 := Tryz.isAgg124
  z37 := Tryz.sizeOf124
  v37 := Tryz.zeroValue124
  t70 := Tryz.underlying126
  a70 := Tryz.isAgg126
  z70 := Tryz.sizeOf126
  v70 := Tryz.zeroValue126
  t72 := Tryz.underlying128
  a72 := Tryz.isAgg128
  z72 := Tryz.sizeOf128
  v72 := Tryz.zeroValue128
  t127 := Tryz.underlying181
  a127 := Tryz.isAgg181
  z127 := Tryz.sizeOf181
  v127 := Tryz.zeroValue181 }
theorem Tryz.Builder_Extra_169 : Builder.Extra Tryz.prog Tryz.lays169_ren := {
  sizeBuilder := by kernel_rfl
  liesBuilder := by kernel_rfl
  t5 := Tryz.underlying5
  a5 := Tryz.isAgg5
  z5 := Tryz.sizeOf5
  v5 := Tryz.zeroValue5
  infoByte := by kernel_rfl
  cellsByte := by kernel_rfl
  sizeByte := by kernel_rfl
  neB5 := by decide }
def Tryz.lays120_ren : Go.Shelf.Ren := ⟨fun | 120 => 223 | n => n, fun | 5 => 5 | 4 => 4 | n => n, fun | n => n⟩
open Go.RowKit in
theorem Tryz.Builder_String_any_k (B b : Nat) (l : List UInt8) (w : World) (h : Lib.IsBuilderF 128 5 B b (Lib.byteCells l) w) (hBw : B ≤ w.heap.size) :
    Calls Tryz.prog 87 #[.pointer (some ⟨b, 0, none⟩)] w fun e w' => e = .returned (.string ⟨l.toArray⟩) ∧ (Lib.IsBuilderF 128 5 B b (Lib.byteCells l) w' ∧ Below B w w' ∧ Lib.OthersKept 5 (some b) w w') := Any.Builder_String_any_k Tryz.lays169 Tryz.Builder_Extra_169 B b l w h hBw
def Tryz.lays260_ren : Go.Shelf.Ren := ⟨fun | 260 => 177 | n => n, fun | 9 => 9 | 21 => 21 | 3 => 3 | 4 => 4 | 5 => 5 | 119 => 245 | 0 => 0 | 46 => 209 | 139 => 248 | 138 => 247 | n => n, fun | 3 => 3 | 4 => 4 | n => n⟩
def Tryz.lays197_ren : Go.Shelf.Ren := ⟨fun | 197 => 155 | 260 => 177 | n => n, fun | 9 => 9 | 21 => 21 | 3 => 3 | 4 => 4 | 5 => 5 | 105 => 103 | 119 => 245 | 0 => 0 | 46 => 209 | 139 => 248 | 138 => 247 | n => n, fun | 3 => 3 | 4 => 4 | n => n⟩
theorem Tryz.lays197 : Go.Proofs.Lays.n197 Tryz.prog Tryz.lays197_ren := {
  mixed := by kernel_rfl
  f197 := Tryz.func155.trans (congrArg some (by kernel_rfl))
  f260 := Tryz.func177.trans (congrArg some (by kernel_rfl))
  t0 := Tryz.underlying0
  a0 := Tryz.isAgg0
  z0 := Tryz.sizeOf0
  v0 := Tryz.zeroValue0
  t3 := Tryz.underlying3
  a3 := Tryz.isAgg3
  z3 := Tryz.sizeOf3
  v3 := Tryz.zeroValue3
  t4 := Tryz.underlying4
  a4 := Tryz.isAgg4
  z4 := Tryz.sizeOf4
  v4 := Tryz.zeroValue4
  t5 := Tryz.underlying5
  a5 := Tryz.isAgg5
  z5 := Tryz.sizeOf5
  v5 := Tryz.zeroValue5
  t9 := Tryz.underlying9
  a9 := Tryz.isAgg9
  z9 := Tryz.sizeOf9
  v9 := Tryz.zeroValue9
  t21 := Tryz.underlying21
  a21 := Tryz.isAgg21
  z21 := Tryz.sizeOf21
  v21 := Tryz.zeroValue21
  t46 := Tryz.underlying209
  a46 := Tryz.isAgg209
  z46 := Tryz.sizeOf209
  v46 := Tryz.zeroValue209
  t105 := Tryz.underlying103
  a105 := Tryz.isAgg103
  z105 := Tryz.sizeOf103
  v105 := Tryz.zeroValue103
  t119 := Tryz.underlying245
  a119 := Tryz.isAgg245
  z119 := Tryz.sizeOf245
  t138 := Tryz.underlying247
  a138 := Tryz.isAgg247
  z138 := Tryz.sizeOf247
  v138 := Tryz.zeroValue247
  t139 := Tryz.underlying248
  a139 := Tryz.isAgg248
  z139 := Tryz.sizeOf248
  v139 := Tryz.zeroValue248
  g3 := by kernel_rfl
  g4 := by kernel_rfl }
open Go.RowKit Go.Lib in
theorem Tryz.utf8_DecodeRuneInString (s : ByteArray) (w : World) (hT : Lib.Utf8Tabs 3 4 w) :
    Calls Tryz.prog 155 #[.string s] w fun e w' => e = .returned (.tuple #[.int .i32 (Lib.decodeGo s).1, .int .i64 (Lib.decodeGo s).2]) ∧ Below w.heap.size w w' := Any.utf8_DecodeRuneInString Tryz.lays197 s w hT
def Tryz.lays271_ren : Go.Shelf.Ren := ⟨fun | 271 => 209 | 120 => 223 | 197 => 155 | 260 => 177 | n => n, fun | 9 => 9 | 21 => 21 | 3 => 3 | 4 => 4 | 5 => 5 | 105 => 103 | 119 => 245 | 0 => 0 | 46 => 209 | 139 => 248 | 138 => 247 | n => n, fun | 3 => 3 | 4 => 4 | n => n⟩
def Tryz.lays166_ren : Go.Shelf.Ren := ⟨fun | 166 => 83 | 240 => 129 | 276 => 162 | n => n, fun | 0 => 0 | 3 => 3 | 4 => 4 | 9 => 9 | 20 => 20 | 37 => 124 | 70 => 126 | 72 => 128 | 75 => 47 | 164 => 210 | 5 => 5 | 80 => 137 | 127 => 181 | n => n, fun | n => n⟩
theorem Tryz.lays166 : Go.Proofs.Lays.n166 Tryz.prog Tryz.lays166_ren := {
  mixed := by kernel_rfl
  f166 := Tryz.func83.trans (congrArg some (by kernel_rfl))
  f240 := Tryz.func129.trans (congrArg some (by kernel_rfl))
  f276 := Tryz.func162.trans (congrArg some (by kernel_rfl))
  t0 := Tryz.underlying0
  a0 := Tryz.isAgg0
  z0 := Tryz.sizeOf0
  v0 := Tryz.zeroValue0
  t3 := Tryz.underlying3
  a3 := Tryz.isAgg3
  z3 := Tryz.sizeOf3
  v3 := Tryz.zeroValue3
  t4 := Tryz.underlying4
  a4 := Tryz.isAgg4
  z4 := Tryz.sizeOf4
  v4 := Tryz.zeroValue4
  t9 := Tryz.underlying9
  a9 := Tryz.isAgg9
  z9 := Tryz.sizeOf9
  v9 := Tryz.zeroValue9
  t20 := Tryz.underlying20
  a20 := Tryz.isAgg20
  z20 := Tryz.sizeOf20
  v20 := Tryz.zeroValue20
  t37 := Tryz.underlying124
  a37 := Tryz.isAgg124
  z37 := Tryz.sizeOf124
  v37 := Tryz.zeroValue124
  t70 := Tryz.underlying126
  a70 := Tryz.isAgg126
  z70 := Tryz.sizeOf126
  v70 := Tryz.zeroValue126
  t72 := Tryz.underlying128
  a72 := Tryz.isAgg128
  z72 := Tryz.sizeOf128
  v72 := Tryz.zeroValue128
  t75 := Tryz.underlying47
  a75 := Tryz.isAgg47
  z75 := Tryz.sizeOf47
  v75 := Tryz.zeroValue47
  t164 := Tryz.underlying210
  a164 := Tryz.isAgg210
  z164 := Tryz.sizeOf210
  v164 := Tryz.zeroValue210 }

theorem Tryz.Builder_Extra_166 : Builder.Extra Tryz.prog Tryz.lays166_ren := {
  sizeBuilder := by kernel_rfl
  liesBuilder := by kernel_rfl
  t5 := Tryz.underlying5
  a5 := Tryz.isAgg5
  z5 := Tryz.sizeOf5
  v5 := Tryz.zeroValue5
  infoByte := by kernel_rfl
  cellsByte := by kernel_rfl
  sizeByte := by kernel_rfl
  neB5 := by decide }
end Go.Proofs
namespace Go.Proofs.YtcfhblbmpbfoaaaGreatDoor
open Go Go.RowKit

def wideI (s : ByteArray) (i : Nat) : Int := if (begunI s i).1 != (begunI s i).2 then 0 else (begunI s i).2

def numI (t : ByteArray) : Int :=
  if t.size = 1 then bAt t 0 else if t.size = 2 then bAt t 0 % 32 * 64 + bAt t 1 % 64
  else if t.size = 3 then (bAt t 0 % 16 * 64 + bAt t 1 % 64) * 64 + bAt t 2 % 64
  else ((bAt t 0 % 8 * 64 + bAt t 1 % 64) * 64 + bAt t 2 % 64) * 64 + bAt t 3 % 64

end Go.Proofs.YtcfhblbmpbfoaaaGreatDoor
namespace Go.Proofs.YtcfhblbmpbfoaaaGreatDoor
open Go Go.RowKit Go.Lib

def bgT (r : Int × Int × Int) (N : Nat) (x1 x2 x3 : Int) : Int :=
  if 1 < r.1 ∧ 1 < N ∧ inB x1 r.2.1 r.2.2 = true then
    (if 2 < r.1 ∧ 2 < N ∧ inB x2 128 191 = true then (if 3 < r.1 ∧ 3 < N ∧ inB x3 128 191 = true then 4 else 3) else 2) else 1
def numT (w : Nat) (x0 x1 x2 x3 : Int) : Int :=
  if w = 1 then x0 else if w = 2 then x0 % 32 * 64 + x1 % 64
  else if w = 3 then (x0 % 16 * 64 + x1 % 64) * 64 + x2 % 64
  else ((x0 % 8 * 64 + x1 % 64) * 64 + x2 % 64) * 64 + x3 % 64

theorem inB_iff (c lo hi : Int) : inB c lo hi = true ↔ lo ≤ c ∧ c ≤ hi := by simp [inB]

def Agree (N b0 b1 b2 b3 : Nat) : Prop :=
  (((leadI b0).1 = 0 ∨ bgT (leadI b0) N b1 b2 b3 ≠ (leadI b0).1) ∧ decodeN N b0 b1 b2 b3 = (65533, 1)) ∨
  (∃ w : Nat, 1 ≤ w ∧ w ≤ 4 ∧ w ≤ N ∧ (leadI b0).1 = w ∧ bgT (leadI b0) N b1 b2 b3 = w ∧ (decodeN N b0 b1 b2 b3).2 = w ∧ ((decodeN N b0 b1 b2 b3).1 : Int) = numT w b0 b1 b2 b3)

theorem agree_0 (N b0 b1 b2 b3 : Nat) (hN : 1 ≤ N) (h : b0 < 128) : Agree N b0 b1 b2 b3 := by
  have hl : leadI b0 = (1, 0, 0) := by unfold leadI; rw [if_pos (by omega)]
  unfold Agree; rw [hl]
  refine .inr ⟨1, by omega, by omega, hN, rfl, ?_, ?_, ?_⟩
  · simp [bgT]
  · simp [decodeN, h]
  · simp [decodeN, h, numT]
theorem lead_bad (b0 : Nat) (h : (128 ≤ b0 ∧ b0 < 194) ∨ 245 ≤ b0) : leadI b0 = (0, 0, 0) := by
  unfold leadI
  simp only [inB_iff, beq_iff_eq]
  repeat' split
  all_goals first | rfl | (exfalso; omega)
theorem agree_bad (N b0 b1 b2 b3 : Nat) (h : (128 ≤ b0 ∧ b0 < 194) ∨ 245 ≤ b0) (c0 : b0 < 256) (_c1 : b1 < 256) (_c2 : b2 < 256) (_c3 : b3 < 256) : Agree N b0 b1 b2 b3 := by
  unfold Agree; rw [lead_bad b0 h]
  refine .inl ⟨.inl rfl, ?_⟩
  unfold decodeN
  repeat' split
  all_goals first | rfl | (exfalso; omega)
theorem lead_2 (b0 : Nat) (h : 194 ≤ b0 ∧ b0 < 224) : leadI b0 = (2, 128, 191) := by
  unfold leadI
  simp only [inB_iff, beq_iff_eq]
  repeat' split
  all_goals first | rfl | (exfalso; omega)
theorem agree_2 (N b0 b1 b2 b3 : Nat) (h : 194 ≤ b0 ∧ b0 < 224) (c1 : b1 < 256) : Agree N b0 b1 b2 b3 := by
  unfold Agree; rw [lead_2 b0 h]
  by_cases g : 1 < N ∧ 128 ≤ b1 ∧ b1 ≤ 191
  · refine .inr ⟨2, by omega, by omega, by omega, rfl, ?_, ?_, ?_⟩
    · unfold bgT; simp only [inB_iff]; rw [if_pos (by omega), if_neg (by omega)]; rfl
    · unfold decodeN; rw [if_neg (by omega), if_pos (by omega), if_pos (by omega)]
    · unfold decodeN; rw [if_neg (by omega), if_pos (by omega), if_pos (by omega)]; simp [numT]
  · refine .inl ⟨.inr ?_, ?_⟩
    · unfold bgT; simp only [inB_iff]; rw [if_neg (by omega)]; simp
    · unfold decodeN; rw [if_neg (by omega), if_neg (by omega), if_neg (by omega), if_neg (by omega)]
theorem agree_3 (N b0 b1 b2 b3 lo hi : Nat) (h : 224 ≤ b0 ∧ b0 < 240) (hl : leadI b0 = (3, (lo : Int), (hi : Int))) (hlo : (lo = if b0 = 224 then 160 else 128)) (hhi : hi = if b0 = 237 then 159 else 191) (c1 : b1 < 256) (c2 : b2 < 256) : Agree N b0 b1 b2 b3 := by
  unfold Agree; rw [hl]
  have hlo' : (b0 = 224 ∧ lo = 160) ∨ (b0 ≠ 224 ∧ lo = 128) := by split at hlo <;> omega
  have hhi' : (b0 = 237 ∧ hi = 159) ∨ (b0 ≠ 237 ∧ hi = 191) := by split at hhi <;> omega
  clear hlo hhi hl
  by_cases g : 1 < N ∧ lo ≤ b1 ∧ b1 ≤ hi ∧ 2 < N ∧ 128 ≤ b2 ∧ b2 ≤ 191
  · refine .inr ⟨3, by omega, by omega, by omega, rfl, ?_, ?_, ?_⟩
    · unfold bgT; simp only [inB_iff]; rw [if_pos (by omega), if_pos (by omega), if_neg (by omega)]; rfl
    · unfold decodeN; rw [if_neg (by omega), if_neg (by omega), if_pos (by omega), if_pos (by omega)]
    · unfold decodeN; rw [if_neg (by omega), if_neg (by omega), if_pos (by omega), if_pos (by omega)]; simp [numT]; omega
  · refine .inl ⟨.inr ?_, ?_⟩
    · unfold bgT; simp only [inB_iff]
      split
      · rw [if_neg (by omega)]; simp
      · simp
    · unfold decodeN; rw [if_neg (by omega), if_neg (by omega)]
      split
      · rw [if_neg (by omega)]
      · rw [if_neg (by omega)]
theorem agree_4 (N b0 b1 b2 b3 lo hi : Nat) (h : 240 ≤ b0 ∧ b0 < 245) (hl : leadI b0 = (4, (lo : Int), (hi : Int))) (hlo : (lo = if b0 = 240 then 144 else 128)) (hhi : hi = if b0 = 244 then 143 else 191) (c1 : b1 < 256) (c2 : b2 < 256) (c3 : b3 < 256) : Agree N b0 b1 b2 b3 := by
  unfold Agree; rw [hl]
  have hlo' : (b0 = 240 ∧ lo = 144) ∨ (b0 ≠ 240 ∧ lo = 128) := by split at hlo <;> omega
  have hhi' : (b0 = 244 ∧ hi = 143) ∨ (b0 ≠ 244 ∧ hi = 191) := by split at hhi <;> omega
  clear hlo hhi hl
  by_cases g : 1 < N ∧ lo ≤ b1 ∧ b1 ≤ hi ∧ 2 < N ∧ 128 ≤ b2 ∧ b2 ≤ 191 ∧ 3 < N ∧ 128 ≤ b3 ∧ b3 ≤ 191
  · refine .inr ⟨4, by omega, by omega, by omega, rfl, ?_, ?_, ?_⟩
    · unfold bgT; simp only [inB_iff]; rw [if_pos (by omega), if_pos (by omega), if_pos (by omega)]; rfl
    · unfold decodeN; rw [if_neg (by omega), if_neg (by omega), if_neg (by omega), if_pos (by omega), if_pos (by omega)]
    · unfold decodeN; rw [if_neg (by omega), if_neg (by omega), if_neg (by omega), if_pos (by omega), if_pos (by omega)]; simp [numT]; omega
  · refine .inl ⟨.inr ?_, ?_⟩
    · unfold bgT; simp only [inB_iff]
      split
      · split
        · rw [if_neg (by omega)]; simp
        · simp
      · simp
    · unfold decodeN; rw [if_neg (by omega), if_neg (by omega), if_neg (by omega)]
      split
      · rw [if_neg (by omega)]
      · rfl
theorem lead_3 (b0 : Nat) (h : 224 ≤ b0 ∧ b0 < 240) : leadI b0 = (3, ((if b0 = 224 then 160 else 128 : Nat) : Int), ((if b0 = 237 then 159 else 191 : Nat) : Int)) := by
  unfold leadI
  simp only [inB_iff, beq_iff_eq]
  repeat' split
  all_goals first | rfl | (exfalso; omega)
theorem lead_4 (b0 : Nat) (h : 240 ≤ b0 ∧ b0 < 245) : leadI b0 = (4, ((if b0 = 240 then 144 else 128 : Nat) : Int), ((if b0 = 244 then 143 else 191 : Nat) : Int)) := by
  unfold leadI
  simp only [inB_iff, beq_iff_eq]
  repeat' split
  all_goals first | rfl | (exfalso; omega)
theorem agree_all (N b0 b1 b2 b3 : Nat) (hN : 1 ≤ N) (c0 : b0 < 256) (c1 : b1 < 256) (c2 : b2 < 256) (c3 : b3 < 256) : Agree N b0 b1 b2 b3 := by
  by_cases h0 : b0 < 128
  · exact agree_0 N b0 b1 b2 b3 hN h0
  by_cases h1 : (128 ≤ b0 ∧ b0 < 194) ∨ 245 ≤ b0
  · exact agree_bad N b0 b1 b2 b3 h1 c0 c1 c2 c3
  by_cases h2 : b0 < 224
  · exact agree_2 N b0 b1 b2 b3 (by omega) c1
  by_cases h3 : b0 < 240
  · exact agree_3 N b0 b1 b2 b3 _ _ (by omega) (lead_3 b0 (by omega)) rfl rfl c1 c2
  · exact agree_4 N b0 b1 b2 b3 _ _ (by omega) (lead_4 b0 (by omega)) rfl rfl c1 c2 c3

def B (s : ByteArray) (i : Nat) : Nat := (s.data.toList.getD i 0).toNat
theorem bAt_B (s : ByteArray) (i : Nat) : bAt s i = (B s i : Int) := rfl
theorem B_lt (s : ByteArray) (i : Nat) : B s i < 256 := by unfold B; have := (s.data.toList.getD i 0).toNat_lt; omega
theorem get_B (s : ByteArray) (i : Nat) : (s.get! i).toNat = B s i := by
  unfold B
  by_cases h : i < s.size
  · have h1 : s.get! i = s[i]'h := by
      show s.data[i]! = s.data[i]
      rw [getElem!_pos s.data i (by exact h)]
    have h2 : s.data.toList.getD i 0 = s[i]'h := by
      have h' : i < s.data.toList.length := by simpa using h
      rw [List.getD_eq_getElem?_getD, List.getElem?_eq_getElem h']; rfl
    rw [h1, h2]
  · have h1 : s.get! i = default := by
      show s.data[i]! = _
      rw [getElem!_neg s.data i (by exact h)]
    have h2 : s.data.toList.getD i 0 = 0 := by
      rw [List.getD_eq_getElem?_getD, List.getElem?_eq_none (by simpa using h)]; rfl
    rw [h1, h2]; rfl
theorem decode_B (s : ByteArray) (i : Nat) : Utf8.decode s i = decodeN (s.size - i) (B s i) (B s (i + 1)) (B s (i + 2)) (B s (i + 3)) := by
  rw [decode_at, get_B, get_B, get_B, get_B]

theorem begunK_bg (s : ByteArray) (i : Nat) (n lo hi : Int) (h4 : n ≤ 4) : (begunK s i n lo hi 4 1 : Int) = bgT (n, lo, hi) (s.size - i) (B s (i + 1)) (B s (i + 2)) (B s (i + 3)) := by
  have e1 : ∀ k : Nat, (i + k < s.size) = (k < s.size - i) := fun k => propext ⟨fun h => by omega, fun h => by omega⟩
  have st : ∀ f k, begunK s i n lo hi (f + 1) k = if (k : Int) < n ∧ k < s.size - i ∧ begunC s i lo hi k = true then begunK s i n lo hi f (k + 1) else k := fun f k => by simp only [← e1]; rfl
  have c1 : begunC s i lo hi 1 = inB (B s (i + 1)) lo hi := rfl
  have c2 : begunC s i lo hi 2 = inB (B s (i + 2)) 128 191 := rfl
  have c3 : begunC s i lo hi 3 = inB (B s (i + 3)) 128 191 := rfl
  unfold bgT
  rw [st 3 1, c1]
  by_cases h1 : (1 : Int) < n ∧ 1 < s.size - i ∧ inB (B s (i + 1)) lo hi = true
  · rw [if_pos (by exact h1), if_pos h1, st 2 2, c2]
    by_cases h2 : (2 : Int) < n ∧ 2 < s.size - i ∧ inB (B s (i + 2)) 128 191 = true
    · rw [if_pos (by exact h2), if_pos h2, st 1 3, c3]
      by_cases h3 : (3 : Int) < n ∧ 3 < s.size - i ∧ inB (B s (i + 3)) 128 191 = true
      · rw [if_pos (by exact h3), if_pos h3, st 0 4, if_neg (by omega)]; rfl
      · rw [if_neg (by exact h3), if_neg h3]; rfl
    · rw [if_neg (by exact h2), if_neg h2]; rfl
  · rw [if_neg (by exact h1), if_neg h1]; rfl

theorem begunI_eq (s : ByteArray) (i : Nat) : begunI s i = if (leadI (B s i)).1 = 0 then ((0 : Int), (0 : Int)) else (bgT (leadI (B s i)) (s.size - i) (B s (i + 1)) (B s (i + 2)) (B s (i + 3)), (leadI (B s i)).1) := by
  unfold begunI
  rw [begunK_bg _ _ _ _ _ (leadI_bd _).2]
  simp [bAt_B]

theorem unit_at (s : ByteArray) (i : Nat) (h : i < s.size) :
    (wideI s i = 0 ∧ Utf8.decode s i = (65533, 1)) ∨
    (∃ w : Nat, 1 ≤ w ∧ w ≤ 4 ∧ i + w ≤ s.size ∧ wideI s i = w ∧ (Utf8.decode s i).2 = w ∧ ((Utf8.decode s i).1 : Int) = numT w (B s i) (B s (i + 1)) (B s (i + 2)) (B s (i + 3))) := by
  have ha := agree_all (s.size - i) (B s i) (B s (i + 1)) (B s (i + 2)) (B s (i + 3)) (by omega) (B_lt _ _) (B_lt _ _) (B_lt _ _) (B_lt _ _)
  unfold Agree at ha
  rw [← decode_B] at ha
  unfold wideI
  rw [begunI_eq]
  rcases ha with ⟨h1, h2⟩ | ⟨w, w1, w4, wN, hl, hb, hd, hn⟩
  · refine .inl ⟨?_, h2⟩
    by_cases hz : (leadI (B s i)).1 = 0
    · rw [if_pos hz]; rfl
    · rw [if_neg hz]
      have hne := h1.resolve_left hz
      simp [hne]
  · refine .inr ⟨w, w1, w4, by omega, ?_, hd, hn⟩
    have hw0 : w ≠ 0 := by omega
    simp [hl, hb, hw0]

theorem bAt_extract (s : ByteArray) (i w j : Nat) (hj : j < w) (hw : i + w ≤ s.size) : bAt (s.extract i (i + w)) j = B s (i + j) := by
  have hz : (s.extract i (i + w)).size = w := by rw [ByteArray.size_extract]; omega
  have h1 := bAt_eq (s.extract i (i + w)) j (by omega)
  have h2 := bAt_eq s (i + j) (by omega)
  rw [h1, ← bAt_B, h2, ByteArray.getElem_extract]
end Go.Proofs.YtcfhblbmpbfoaaaGreatDoor
namespace Go.Proofs.YtcfhblbmpbfoaaaGreatDoor
open Go Go.RowKit Go.Lib

def ptN (N b0 b1 b2 b3 : Nat) : Nat × Nat := if decodeN N b0 b1 b2 b3 = (65533, 1) then (1114112 + b0, 1) else decodeN N b0 b1 b2 b3
def ptU (s : ByteArray) (i : Nat) : Nat × Nat := if Utf8.decode s i = (65533, 1) then (1114112 + B s i, 1) else Utf8.decode s i
def ptP (s : ByteArray) (a : Int) : Int × Int := if 0 ≤ a ∧ a < s.size then (((ptU s a.toNat).1 : Int), ((ptU s a.toNat).2 : Int)) else (0, 0)
theorem ptP_in (s : ByteArray) (i : Nat) (h : i < s.size) : ptP s i = (((ptU s i).1 : Int), ((ptU s i).2 : Int)) := by
  unfold ptP; rw [if_pos (by omega)]; simp
theorem ptP_out (s : ByteArray) (a : Int) (h : a < 0 ∨ s.size ≤ a) : ptP s a = (0, 0) := by
  unfold ptP; rw [if_neg (by omega)]

def longI (c : Int) : Int × Int :=
  if c < 128 then (1, c) else if 192 ≤ c ∧ c < 224 then (2, c - 192) else if 224 ≤ c ∧ c < 240 then (3, c - 224) else if 240 ≤ c ∧ c < 248 then (4, c - 240) else (0, 0)
def charB (c : Int) : Bool := decide (0 ≤ c ∧ c < 55296) || decide (57343 < c ∧ c ≤ 1114111)
def leastI (n : Int) : Int := if n = 1 then 0 else if n = 2 then 128 else if n = 3 then 2048 else 65536

def nextN (N b0 b1 b2 b3 : Int) : Int × Int :=
  if b0 < 128 then (b0, 1)
  else if 192 ≤ b0 ∧ b0 < 224 then
    if 2 ≤ N ∧ (128 ≤ b1 ∧ b1 < 192) ∧ 128 ≤ (b0 - 192) * 64 + b1 - 128 then ((b0 - 192) * 64 + b1 - 128, 2) else (1114112 + b0, 1)
  else if 224 ≤ b0 ∧ b0 < 240 then
    if 3 ≤ N ∧ (128 ≤ b1 ∧ b1 < 192) ∧ (128 ≤ b2 ∧ b2 < 192) ∧ 2048 ≤ ((b0 - 224) * 64 + b1 - 128) * 64 + b2 - 128 ∧ charB (((b0 - 224) * 64 + b1 - 128) * 64 + b2 - 128) = true
    then (((b0 - 224) * 64 + b1 - 128) * 64 + b2 - 128, 3) else (1114112 + b0, 1)
  else if 240 ≤ b0 ∧ b0 < 248 then
    if 4 ≤ N ∧ (128 ≤ b1 ∧ b1 < 192) ∧ (128 ≤ b2 ∧ b2 < 192) ∧ (128 ≤ b3 ∧ b3 < 192) ∧ 65536 ≤ (((b0 - 240) * 64 + b1 - 128) * 64 + b2 - 128) * 64 + b3 - 128 ∧ charB ((((b0 - 240) * 64 + b1 - 128) * 64 + b2 - 128) * 64 + b3 - 128) = true
    then ((((b0 - 240) * 64 + b1 - 128) * 64 + b2 - 128) * 64 + b3 - 128, 4) else (1114112 + b0, 1)
  else (1114112 + b0, 1)

theorem charB_iff (c : Int) : charB c = true ↔ (0 ≤ c ∧ c < 55296) ∨ (57343 < c ∧ c ≤ 1114111) := by simp [charB]

theorem ptU_wide (s : ByteArray) (i : Nat) (h : i < s.size) : 1 ≤ (ptU s i).2 ∧ (ptU s i).2 ≤ 4 ∧ i + (ptU s i).2 ≤ s.size := by
  rcases unit_at s i h with ⟨_, e⟩ | ⟨w, h1, h4, hw, _, e, _⟩
  · unfold ptU; rw [if_pos e]; simp; omega
  · unfold ptU; split
    · simp; omega
    · omega
theorem ptU_wide_eq (s : ByteArray) (i : Nat) : (ptU s i).2 = (Utf8.decode s i).2 := by
  unfold ptU; split
  · rename_i h; rw [h]
  · rfl
end Go.Proofs.YtcfhblbmpbfoaaaGreatDoor
namespace Go.Proofs.YtcfhblbmpbfoaaaGreatDoor
open Go Go.RowKit Go.Lib

def decP (s : ByteArray) (a : Int) : Int × Int :=
  if 0 ≤ a ∧ a < s.size then (((Utf8.decode s a.toNat).1 : Int), ((Utf8.decode s a.toNat).2 : Int)) else (65533, 0)
theorem decP_in (s : ByteArray) (i : Nat) (h : i < s.size) : decP s i = (((Utf8.decode s i).1 : Int), ((Utf8.decode s i).2 : Int)) := by
  unfold decP; rw [if_pos (by omega)]; simp
theorem decP_out (s : ByteArray) (a : Int) (h : a < 0 ∨ s.size ≤ a) : decP s a = (65533, 0) := by
  unfold decP; rw [if_neg (by omega)]
theorem B_extract (s : ByteArray) (i n k : Nat) (hn : i + n ≤ s.size) (h : k < n) : B (s.extract i (i + n)) k = B s (i + k) := by
  have := bAt_extract s i n k h hn
  rw [bAt_B] at this
  exact_mod_cast this
theorem B_out (s : ByteArray) (k : Nat) (h : s.size ≤ k) : B s k = 0 := by
  unfold B
  rw [List.getD_eq_getElem?_getD, List.getElem?_eq_none (by simpa using h)]; rfl
theorem B_tail (s : ByteArray) (i k : Nat) (hi : i ≤ s.size) : B (s.extract i s.size) k = B s (i + k) := by
  have hz : (s.extract i s.size).size = s.size - i := by rw [ByteArray.size_extract]; omega
  by_cases h : k < s.size - i
  · have := B_extract s i (s.size - i) k (by omega) h
    rw [show i + (s.size - i) = s.size by omega] at this
    exact this
  · rw [B_out _ _ (by omega), B_out _ _ (by omega)]
theorem decode_tail (s : ByteArray) (i : Nat) (hi : i < s.size) : decodeGo (s.extract i s.size) = Utf8.decode s i := by
  have hz : (s.extract i s.size).size = s.size - i := by rw [ByteArray.size_extract]; omega
  unfold decodeGo
  rw [if_neg (by omega), decode_B, decode_B, hz]
  simp only [B_tail s i _ (by omega), Nat.sub_zero, Nat.zero_add, Nat.add_zero]

theorem tabs_below {w w' : World} {n : Nat} (hT : Utf8Tabs 3 4 w) (hn : 5 ≤ n) (hb : Below n w w') : Utf8Tabs 3 4 w' :=
  ⟨fun c hc => (hb.cell (p := ⟨3, c, none⟩) (by show 3 < n; omega)).trans (hT.1 c hc), fun i hi => ⟨(hb.cell (p := ⟨4, 2 * i, none⟩) (by show 4 < n; omega)).trans (hT.2 i hi).1, (hb.cell (p := ⟨4, 2 * i + 1, none⟩) (by show 4 < n; omega)).trans (hT.2 i hi).2⟩⟩

theorem utfDecode_any (s : ByteArray) (a : Int) (w : World) (hT : Utf8Tabs 3 4 w) (_hs : s.size ≤ 4611686018427387904) :
    Calls Tryz.prog 114 #[.string s, .int .i64 a] w fun e w' => e = .returned (.tuple #[.int .i32 (decP s a).1, .int .i64 (decP s a).2]) ∧ Below w.heap.size w w' := by
  have HT := Lib.hid hT; clear hT
  by_cases hin : 0 ≤ a ∧ a < s.size
  · obtain ⟨i, rfl⟩ := Int.eq_ofNat_of_zero_le hin.1
    have hi : i < s.size := by omega
    have H := Lib.hid (decP_in s i hi)
    generalize decP s i = R at H ⊢
    have HD : Hid (∀ w, Utf8Tabs 3 4 w → Calls Tryz.prog 155 #[.string (s.extract i s.size)] w fun e w' => e = .returned (.tuple #[.int .i32 R.1, .int .i64 R.2]) ∧ Below w.heap.size w w') := Lib.hid fun w hT => by
      have := Tryz.utf8_DecodeRuneInString (s.extract i s.size) w hT
      rw [decode_tail s i hi] at this
      rw [H.out]; exact this
    clear H
    go_enter Tryz.func114, Tryz.ntmps114
    go_wp2_with (go_at_call 155; refine (HD.out _ HT.out).mono ?_; rintro e w' ⟨rfl, hb⟩)
    go_ret2
    exact ⟨rfl, hb⟩
  · have H := Lib.hid (decP_out s a (by omega))
    generalize decP s a = R at H ⊢
    by_cases h0 : a < 0
    · go_enter Tryz.func114, Tryz.ntmps114
      go_wp2
      go_ret2
      rw [H.out]; exact ⟨rfl, Below.refl _ _⟩
    · go_enter Tryz.func114, Tryz.ntmps114
      go_wp2
      go_ret2
      rw [H.out]; exact ⟨rfl, Below.refl _ _⟩
end Go.Proofs.YtcfhblbmpbfoaaaGreatDoor
namespace Go.Proofs.YtcfhblbmpbfoaaaGreatDoor
open Go Go.RowKit Go.Lib

def CharAt (w b0 b1 b2 b3 : Nat) : Prop :=
  (w = 1 ∧ b0 < 128) ∨ (w = 2 ∧ 194 ≤ b0 ∧ b0 < 224 ∧ 128 ≤ b1 ∧ b1 ≤ 191) ∨
  (w = 3 ∧ 224 ≤ b0 ∧ b0 < 240 ∧ 128 ≤ b1 ∧ b1 ≤ 191 ∧ (b0 = 224 → 160 ≤ b1) ∧ (b0 = 237 → b1 ≤ 159) ∧ 128 ≤ b2 ∧ b2 ≤ 191) ∨
  (w = 4 ∧ 240 ≤ b0 ∧ b0 < 245 ∧ 128 ≤ b1 ∧ b1 ≤ 191 ∧ (b0 = 240 → 144 ≤ b1) ∧ (b0 = 244 → b1 ≤ 143) ∧ 128 ≤ b2 ∧ b2 ≤ 191 ∧ 128 ≤ b3 ∧ b3 ≤ 191)

theorem lead_1 (b0 : Nat) (h : b0 < 128) : leadI b0 = (1, 0, 0) := by unfold leadI; rw [if_pos (by omega)]

theorem bgT_char (N b0 b1 b2 b3 w : Nat) (hw1 : 1 ≤ w) (hw4 : w ≤ 4) (hN : 1 ≤ N) (c0 : b0 < 256) :
    ((leadI b0).1 = w ∧ bgT (leadI b0) N b1 b2 b3 = w) ↔ (w ≤ N ∧ CharAt w b0 b1 b2 b3) := by
  unfold CharAt
  by_cases h0 : b0 < 128
  · rw [lead_1 b0 h0]; simp only [bgT, inB_iff]; rw [if_neg (by omega)]; omega
  by_cases h1 : (128 ≤ b0 ∧ b0 < 194) ∨ 245 ≤ b0
  · rw [lead_bad b0 h1]; simp only; omega
  by_cases h2 : b0 < 224
  · rw [lead_2 b0 (by omega)]; simp only [bgT, inB_iff]
    split
    · rw [if_neg (by omega)]; omega
    · omega
  by_cases h3 : b0 < 240
  · rw [lead_3 b0 (by omega)]; simp only [bgT, inB_iff]
    have e1 : (if b0 = 224 then 160 else 128) = (if b0 = 224 then 160 else 128 : Nat) := rfl
    generalize hlo : (if b0 = 224 then 160 else 128 : Nat) = lo
    generalize hhi : (if b0 = 237 then 159 else 191 : Nat) = hi
    have hlo' : (b0 = 224 ∧ lo = 160) ∨ (b0 ≠ 224 ∧ lo = 128) := by split at hlo <;> omega
    have hhi' : (b0 = 237 ∧ hi = 159) ∨ (b0 ≠ 237 ∧ hi = 191) := by split at hhi <;> omega
    clear hlo hhi e1
    split
    · split
      · rw [if_neg (by omega)]; omega
      · omega
    · omega
  · rw [lead_4 b0 (by omega)]; simp only [bgT, inB_iff]
    generalize hlo : (if b0 = 240 then 144 else 128 : Nat) = lo
    generalize hhi : (if b0 = 244 then 143 else 191 : Nat) = hi
    have hlo' : (b0 = 240 ∧ lo = 144) ∨ (b0 ≠ 240 ∧ lo = 128) := by split at hlo <;> omega
    have hhi' : (b0 = 244 ∧ hi = 143) ∨ (b0 ≠ 244 ∧ hi = 191) := by split at hhi <;> omega
    clear hlo hhi
    split
    · split
      · split <;> omega
      · omega
    · omega

theorem wide_iff (s : ByteArray) (i w : Nat) (hi : i < s.size) (hw1 : 1 ≤ w) (hw4 : w ≤ 4) :
    wideI s i = w ↔ (i + w ≤ s.size ∧ CharAt w (B s i) (B s (i + 1)) (B s (i + 2)) (B s (i + 3))) := by
  have hb := bgT_char (s.size - i) (B s i) (B s (i + 1)) (B s (i + 2)) (B s (i + 3)) w hw1 hw4 (by omega) (B_lt _ _)
  have e : (i + w ≤ s.size) ↔ (w ≤ s.size - i) := by omega
  rw [e, ← hb]
  unfold wideI
  rw [begunI_eq]
  by_cases hz : (leadI (B s i)).1 = 0
  · rw [if_pos hz]; simp [hz]; omega
  · rw [if_neg hz]
    by_cases hq : bgT (leadI (B s i)) (s.size - i) (B s (i + 1)) (B s (i + 2)) (B s (i + 3)) = (leadI (B s i)).1
    · simp [hq]
    · simp only [bne_iff_ne, ne_eq, hq, not_false_eq_true, if_true]
      omega
theorem decode_wide (s : ByteArray) (i : Nat) (hi : i < s.size) :
    (wideI s i = 0 ∧ Utf8.decode s i = (65533, 1)) ∨ (∃ w : Nat, 1 ≤ w ∧ w ≤ 4 ∧ i + w ≤ s.size ∧ wideI s i = w ∧ (Utf8.decode s i).2 = w) := by
  rcases unit_at s i hi with h | ⟨w, h1, h2, h3, h4, h5, _⟩
  · exact .inl h
  · exact .inr ⟨w, h1, h2, h3, h4, h5⟩
end Go.Proofs.YtcfhblbmpbfoaaaGreatDoor
namespace Go.Proofs.YtcfhblbmpbfoaaaGreatDoor
open Go Go.RowKit Go.Lib

def befK (s : ByteArray) (n : Nat) : Nat → Nat → Int × Int
  | 0, _ => (65533, 1)
  | f + 1, k => if k ≤ 4 ∧ k ≤ n then (if wideI s (n - k) = k then (((Utf8.decode s (n - k)).1 : Int), (k : Int)) else befK s n f (k + 1)) else (65533, 1)
def befP (s : ByteArray) (a : Int) : Int × Int := if 1 ≤ a ∧ a ≤ s.size then befK s a.toNat 5 1 else (65533, 0)

end Go.Proofs.YtcfhblbmpbfoaaaGreatDoor
namespace Go.Proofs.YtcfhblbmpbfoaaaGreatDoor
open Go Go.RowKit Go.Kt

def Bld (b : Nat) (Y : Nat → Prop) (l : List UInt8) (W : World) : Prop :=
  ∃ p v, (p = .pointer none ∨ p = .pointer (some ⟨b, 0, none⟩)) ∧ W.heap[b]? = some (.cells #[p, v] 128 (0, 0)) ∧ W.ownsRowF 0 5 1 v l.length (Lib.byteCells l) ∧ v.ownBlock ≠ some b ∧ ∀ g, v.ownBlock = some g → Y g

theorem tinfo5 : (Tryz.prog.info? 5).map (fun i => (i.zero, i.size, i.bytes)) = some (some (.int .u8 0), 1, 1) := by kernel_rfl

theorem ownsF_keep {X : Nat → Prop} {e : TypeId} {n : Nat} {v : Value} {xs : List Value} {A B : World} (h : A.ownsRowF 0 e 1 v n xs) (hk : Keep X A B) (hX : ∀ g, v.ownBlock = some g → ¬ X g) : B.ownsRowF 0 e 1 v n xs := by
  refine ⟨h.1, ?_⟩
  rcases h.2 with h2 | ⟨g, cap, cur, fz, rfl, hb, hg, rest⟩
  · exact .inl h2
  · exact .inr ⟨g, cap, cur, fz, rfl, hb, hk.heap hg (hX g rfl), rest⟩
theorem copyCheck_x (b : Nat) (Y : Nat → Prop) (l : List UInt8) (W : World) (h : Bld b Y l W) :
    Calls Tryz.prog 129 #[.pointer (some ⟨b, 0, none⟩)] W fun e w' => e = .returned (.tuple #[]) ∧ ∃ v, w'.heap[b]? = some (.cells #[.pointer (some ⟨b, 0, none⟩), v] 128 (0, 0)) ∧ w'.ownsRowF 0 5 1 v l.length (Lib.byteCells l) ∧ v.ownBlock ≠ some b ∧ (∀ g, v.ownBlock = some g → Y g) ∧ Keep (fun c => c = b) W w' ∧ w'.heap.size = W.heap.size := by
  obtain ⟨p, v, hp, hh, ho, hne, hy⟩ := h
  rcases hp with rfl | rfl
  · refine (Any.Builder_copyCheck_fresh { Tryz.lays166 with } Tryz.Builder_Extra_166.toX72 b W (by rw [Lib.cell_of_heap hh]; rfl) (by simp [World.shape?, hh]; rfl) (Lib.frozen_of_heap hh 0)).mono ?_
    rintro e w' ⟨rfl, rfl⟩
    have hk : Keep (fun c => c = b) W (W.setCell ⟨b, 0, none⟩ (.pointer (some ⟨b, 0, none⟩))) := (Keep.refl (fun c => c = b) W).setCell (p := ⟨b, 0, none⟩) rfl _
    refine ⟨rfl, v, ?_, ownsF_keep ho hk (fun g hg e => hne (e ▸ hg)), hne, hy, hk, by simp⟩
    simp [World.setCell, Array.getElem?_modify, hh]
  · refine (Any.Builder_copyCheck_used { Tryz.lays166 with } Tryz.Builder_Extra_166.toX72 b W (by rw [Lib.cell_of_heap hh]; rfl)).mono ?_
    rintro e w' ⟨rfl, rfl⟩
    exact ⟨rfl, v, hh, ho, hne, hy, Keep.refl _ _, rfl⟩

set_option maxRecDepth 100000 in
theorem writeString_x (b : Nat) (Y : Nat → Prop) (l : List UInt8) (s : ByteArray) (W : World) (h : Bld b Y l W) (hlen : l.length + s.size ≤ 140737488355328) :
    Calls Tryz.prog 83 #[.pointer (some ⟨b, 0, none⟩), .string s] W fun e w' => e = .returned (.tuple #[.int .i64 s.size, .nilIface]) ∧
      ∃ Y', Bld b Y' (l ++ s.data.toList) w' ∧ Keep (fun c => c = b ∨ Y c) W w' ∧ (∀ c, Y' c → Y c ∨ W.heap.size ≤ c) := by
  have hc := Lib.hid (copyCheck_x b Y l W h)
  clear h
  go_enter Tryz.func83, Tryz.ntmps83
  go_wp2_with fail
  refine hc.out.mono ?_
  rintro e w1 ⟨rfl, v, hh, ho, hne, hy, hk, hsz⟩
  obtain ⟨a0, k0, p0, rfl⟩ : ∃ ao n' cap, v = .slice ao n' cap := by
    rcases ho.2 with ⟨hv, _⟩ | ⟨g, cap, cur, fz, hv, _⟩
    · exact ⟨_, _, _, hv⟩
    · exact ⟨_, _, _, hv⟩
  obtain ⟨v', w2, hrun, ho2, hk2, hfr⟩ := append_str (P := Tryz.prog) w1 124 9 5 Tryz.underlying124 Tryz.underlying9 tinfo5 ho s hlen
  have c1 : w1.cell? ⟨b, 1, none⟩ = some (.slice a0 k0 p0) := by rw [Lib.cell_of_heap hh]; rfl
  have hb2 : w2.heap[b]? = some (.cells #[.pointer (some ⟨b, 0, none⟩), .slice a0 k0 p0] 128 (0, 0)) := hk2.heap hh hne
  have c2 : w2.cell? ⟨b, 1, none⟩ = some (.slice a0 k0 p0) := by rw [Lib.cell_of_heap hb2]; rfl
  have f2 : w2.frozen? ⟨b, 1, none⟩ = false := Lib.frozen_of_heap hb2 1
  have hfacts := Lib.hid (And.intro hh (And.intro ho (And.intro hne (And.intro hy (And.intro hb2 (And.intro hsz hfr))))))
  clear hh hb2 hsz hfr hy
  obtain ⟨ao, n', cap, rfl⟩ : ∃ ao n' cap, v' = .slice ao n' cap := by
    rcases ho2.2 with ⟨hv, _⟩ | ⟨g, cap, cur, fz, hv, _⟩
    · exact ⟨_, _, _, hv⟩
    · exact ⟨_, _, _, hv⟩
  have HO2 := Lib.hid ho2
  clear ho2 hne ho
  have HR := Lib.hid hrun
  clear hrun
  go_wp2_with (at_builtin; refine wpList_append_eq rfl rfl rfl rfl HR.out ?_)
  go_ret2
  obtain ⟨hh, ho, hne, hy, hb2, hsz, hfr⟩ := hfacts.out
  have hk3 : Keep (fun c => c = b) w2 (w2.setCell ⟨b, 1, none⟩ (.slice ao n' cap)) := (Keep.refl (fun c => c = b) w2).setCell (p := ⟨b, 1, none⟩) rfl _
  have hbs : b < w1.heap.size := (Array.getElem?_eq_some_iff.1 hh).1
  have hne' : (Value.slice ao n' cap).ownBlock ≠ some b := fun e => by
    rcases hfr b e with h | h
    · exact hne h
    · omega
  refine ⟨rfl, fun c => (Value.slice ao n' cap).ownBlock = some c, ⟨_, _, .inr rfl, ?_, ?_, hne', fun g hg => hg⟩, ?_, ?_⟩
  · simp [World.setCell, Array.getElem?_modify, hb2]
  · have := ownsF_keep HO2.out hk3 (fun g hg e => hne' (e ▸ hg))
    have e1 : (l ++ s.data.toList).length = l.length + s.size := by simp
    rw [e1, show Lib.byteCells (l ++ s.data.toList) = Lib.byteCells l ++ Lib.strCells s by simp [Lib.byteCells, Lib.strCells]]
    exact this
  · exact ((hk.weaken (fun _ _ h => .inl h)).trans (hk2.weaken (fun _ _ h => .inr (hy _ h)))).trans (hk3.weaken (fun _ _ h => .inl h))
  · intro c hc
    rcases hfr c hc with h | h
    · exact .inl (hy c h)
    · exact .inr (by omega)

theorem string_x (b : Nat) (Y : Nat → Prop) (l : List UInt8) (W : World) (h : Bld b Y l W) (n0 : Nat) (hn : n0 ≤ W.heap.size) (hb : n0 ≤ b) (hY : ∀ g, Y g → n0 ≤ g) :
    Calls Tryz.prog 87 #[.pointer (some ⟨b, 0, none⟩)] W fun e w' => e = .returned (.string ⟨l.toArray⟩) ∧ Below n0 W w' ∧ Lib.OthersKept 5 (some b) W w' := by
  obtain ⟨p, v, hp, hh, ho, hne, hy⟩ := h
  have hA : ∀ q, q = p → Lib.BuilderAtF 128 5 n0 b q (Lib.byteCells l) W := fun q hq => by
    subst hq
    have h1 := ho.1
    refine ⟨hb, v, hh, ⟨by rw [Lib.byteCells_length]; rw [Lib.byteCells_length] at h1; exact h1, ?_⟩, hne⟩
    rw [Lib.byteCells_length]
    rcases ho.2 with h2 | ⟨g, cap, cur, fz, rfl, _, rest⟩
    · exact .inl h2
    · exact .inr ⟨g, cap, cur, fz, rfl, hY g (hy g rfl), rest⟩
  have hB : Lib.IsBuilderF 128 5 n0 b (Lib.byteCells l) W := by
    rcases hp with rfl | rfl
    · exact .inl (hA _ rfl)
    · exact .inr (hA _ rfl)
  exact (Tryz.Builder_String_any_k n0 b l W hB hn).mono fun e w' ⟨h1, _, h2, h3⟩ => ⟨h1, h2, h3⟩
end Go.Proofs.YtcfhblbmpbfoaaaGreatDoor
