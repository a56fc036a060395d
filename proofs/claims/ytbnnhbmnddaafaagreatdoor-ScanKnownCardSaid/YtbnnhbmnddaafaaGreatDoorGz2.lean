/- Parts of the proof of what the last text says. -/
import Derived.Test.YtbnnhbmnddaafaaGreatDoorGz1
import Derived.Lib.Hide
import Derived.WalkSpells
import Derived.WalkLawsBesides
import Derived.Laws.IdiomStrings
import Derived.Laws.Cover4
import Derived.Shelf.Strings.Builder2
import Derived.Laws.OwnMore
import Derived.Lib.AppendStr
import Derived.Test.YtbnnhbmnddaafaaGreatDoorProg
import Derived.WalkKit
import Derived.LaidEql
import Derived.Stop.Asserts
import Derived.RowKitTokens

namespace Go.Proofs.YtbnnhbmnddaafaaGreatDoor
open Go Go.RowKit Go.Kt Go.Shelf
attribute [local go_sem] Oper.semAt_some

abbrev encP (p : Nat × Nat) : Array Value := #[.int .i64 p.1, .int .i64 p.2]

end Go.Proofs.YtbnnhbmnddaafaaGreatDoor

namespace Go.Proofs.YtbnnhbmnddaafaaGreatDoor
open Go Go.RowKit Go.Kt

def Bld (b : Nat) (Y : Nat → Prop) (l : List UInt8) (W : World) : Prop :=
  ∃ p v, (p = .pointer none ∨ p = .pointer (some ⟨b, 0, none⟩)) ∧ W.heap[b]? = some (.cells #[p, v] 49 (0, 0)) ∧ W.ownsRowF 0 5 1 v l.length (Lib.byteCells l) ∧ v.ownBlock ≠ some b ∧ ∀ g, v.ownBlock = some g → Y g

theorem tinfo5 : (Tryz.prog.info? 5).map (fun i => (i.zero, i.size, i.bytes)) = some (some (.int .u8 0), 1, 1) := by kernel_rfl

theorem ownsF_keep {X : Nat → Prop} {e : TypeId} {n : Nat} {v : Value} {xs : List Value} {A B : World} (h : A.ownsRowF 0 e 1 v n xs) (hk : Keep X A B) (hX : ∀ g, v.ownBlock = some g → ¬ X g) : B.ownsRowF 0 e 1 v n xs := by
  refine ⟨h.1, ?_⟩
  rcases h.2 with h2 | ⟨g, cap, cur, fz, rfl, hb, hg, rest⟩
  · exact .inl h2
  · exact .inr ⟨g, cap, cur, fz, rfl, hb, hk.heap hg (hX g rfl), rest⟩
theorem Bld.keep {b : Nat} {Y X : Nat → Prop} {l : List UInt8} {A B : World} (h : Bld b Y l A) (hk : Keep X A B) (hb : ¬ X b) (hY : ∀ g, Y g → ¬ X g) : Bld b Y l B := by
  obtain ⟨p, v, hp, hh, ho, hne, hy⟩ := h
  exact ⟨p, v, hp, hk.heap hh hb, ownsF_keep ho hk (fun g hg => hY g (hy g hg)), hne, hy⟩

theorem copyCheck_x (b : Nat) (Y : Nat → Prop) (l : List UInt8) (W : World) (h : Bld b Y l W) :
    Calls Tryz.prog 46 #[.pointer (some ⟨b, 0, none⟩)] W fun e w' => e = .returned (.tuple #[]) ∧ ∃ v, w'.heap[b]? = some (.cells #[.pointer (some ⟨b, 0, none⟩), v] 49 (0, 0)) ∧ w'.ownsRowF 0 5 1 v l.length (Lib.byteCells l) ∧ v.ownBlock ≠ some b ∧ (∀ g, v.ownBlock = some g → Y g) ∧ Keep (fun c => c = b) W w' ∧ w'.heap.size = W.heap.size := by
  obtain ⟨p, v, hp, hh, ho, hne, hy⟩ := h
  rcases hp with rfl | rfl
  · refine (Any.Builder_copyCheck_fresh { Tryz.lays166 with } Tryz.Builder_Extra_166.toX72 b W (by rw [Lib.cell_of_heap hh]; rfl) (by simp [World.shape?, hh]; rfl) (Lib.frozen_of_heap hh 0)).mono ?_
    rintro e w' ⟨rfl, rfl⟩
    have hk : Keep (fun c => c = b) W (W.setCell ⟨b, 0, none⟩ (.pointer (some ⟨b, 0, none⟩))) := (Keep.refl (fun c => c = b) W).setCell (p := ⟨b, 0, none⟩) rfl _
    refine ⟨rfl, v, ?_, ownsF_keep ho hk (fun g hg e => hne (e ▸ hg)), hne, hy, hk, by simp⟩
    simp [World.setCell, Array.getElem?_modify, hh]
  · refine (Any.Builder_copyCheck_used { Tryz.lays166 with } Tryz.Builder_Extra_166.toX72 b W (by rw [Lib.cell_of_heap hh]; rfl)).mono ?_
    rintro e w' ⟨rfl, rfl⟩
    exact ⟨rfl, v, hh, ho, hne, hy, Keep.refl _ _, rfl⟩

set_option maxRecDepth 100000 in
theorem writeString_x (b : Nat) (Y : Nat → Prop) (l : List UInt8) (s : ByteArray) (W : World) (h : Bld b Y l W) (hlen : l.length + s.size ≤ 140737488355328) :
    Calls Tryz.prog 22 #[.pointer (some ⟨b, 0, none⟩), .string s] W fun e w' => e = .returned (.tuple #[.int .i64 s.size, .nilIface]) ∧
      ∃ Y', Bld b Y' (l ++ s.data.toList) w' ∧ Keep (fun c => c = b ∨ Y c) W w' ∧ (∀ c, Y' c → Y c ∨ W.heap.size ≤ c) := by
  have hc := Lib.hid (copyCheck_x b Y l W h)
  clear h
  go_enter Tryz.func22, Tryz.ntmps22
  go_wp2_with fail
  refine hc.out.mono ?_
  rintro e w1 ⟨rfl, v, hh, ho, hne, hy, hk, hsz⟩
  obtain ⟨a0, k0, p0, rfl⟩ : ∃ ao n' cap, v = .slice ao n' cap := by
    rcases ho.2 with ⟨hv, _⟩ | ⟨g, cap, cur, fz, hv, _⟩
    · exact ⟨_, _, _, hv⟩
    · exact ⟨_, _, _, hv⟩
  obtain ⟨v', w2, hrun, ho2, hk2, hfr⟩ := append_str (P := Tryz.prog) w1 35 9 5 Tryz.underlying35 Tryz.underlying9 tinfo5 ho s hlen
  have c1 : w1.cell? ⟨b, 1, none⟩ = some (.slice a0 k0 p0) := by rw [Lib.cell_of_heap hh]; rfl
  have hb2 : w2.heap[b]? = some (.cells #[.pointer (some ⟨b, 0, none⟩), .slice a0 k0 p0] 49 (0, 0)) := hk2.heap hh hne
  have c2 : w2.cell? ⟨b, 1, none⟩ = some (.slice a0 k0 p0) := by rw [Lib.cell_of_heap hb2]; rfl
  have f2 : w2.frozen? ⟨b, 1, none⟩ = false := Lib.frozen_of_heap hb2 1
  have hfacts := Lib.hid (And.intro hh (And.intro ho (And.intro hne (And.intro hy (And.intro hb2 (And.intro hsz hfr))))))
  clear hh hb2 hsz hfr hy
  obtain ⟨ao, n', cap, rfl⟩ : ∃ ao n' cap, v' = .slice ao n' cap := by
    rcases ho2.2 with ⟨hv, _⟩ | ⟨g, cap, cur, fz, hv, _⟩
    · exact ⟨_, _, _, hv⟩
    · exact ⟨_, _, _, hv⟩
  have HO2 := Lib.hid ho2
  clear ho2 hne ho
  have HR := Lib.hid hrun
  clear hrun
  go_wp2_with (at_builtin; refine wpList_append_eq rfl rfl rfl rfl HR.out ?_)
  go_ret2
  obtain ⟨hh, ho, hne, hy, hb2, hsz, hfr⟩ := hfacts.out
  have hk3 : Keep (fun c => c = b) w2 (w2.setCell ⟨b, 1, none⟩ (.slice ao n' cap)) := (Keep.refl (fun c => c = b) w2).setCell (p := ⟨b, 1, none⟩) rfl _
  have hbs : b < w1.heap.size := (Array.getElem?_eq_some_iff.1 hh).1
  have hne' : (Value.slice ao n' cap).ownBlock ≠ some b := fun e => by
    rcases hfr b e with h | h
    · exact hne h
    · omega
  refine ⟨rfl, fun c => (Value.slice ao n' cap).ownBlock = some c, ⟨_, _, .inr rfl, ?_, ?_, hne', fun g hg => hg⟩, ?_, ?_⟩
  · simp [World.setCell, Array.getElem?_modify, hb2]
  · have := ownsF_keep HO2.out hk3 (fun g hg e => hne' (e ▸ hg))
    have e1 : (l ++ s.data.toList).length = l.length + s.size := by simp
    rw [e1, show Lib.byteCells (l ++ s.data.toList) = Lib.byteCells l ++ Lib.strCells s by simp [Lib.byteCells, Lib.strCells]]
    exact this
  · exact ((hk.weaken (fun _ _ h => .inl h)).trans (hk2.weaken (fun _ _ h => .inr (hy _ h)))).trans (hk3.weaken (fun _ _ h => .inl h))
  · intro c hc
    rcases hfr c hc with h | h
    · exact .inl (hy c h)
    · exact .inr (by omega)

theorem string_x (b : Nat) (Y : Nat → Prop) (l : List UInt8) (W : World) (h : Bld b Y l W) (n0 : Nat) (hn : n0 ≤ W.heap.size) (hb : n0 ≤ b) (hY : ∀ g, Y g → n0 ≤ g) :
    Calls Tryz.prog 24 #[.pointer (some ⟨b, 0, none⟩)] W fun e w' => e = .returned (.string ⟨l.toArray⟩) ∧ Below n0 W w' ∧ Lib.OthersKept 5 (some b) W w' := by
  obtain ⟨p, v, hp, hh, ho, hne, hy⟩ := h
  have hA : ∀ q, q = p → Lib.BuilderAtF 49 5 n0 b q (Lib.byteCells l) W := fun q hq => by
    subst hq
    have h1 := ho.1
    refine ⟨hb, v, hh, ⟨by rw [Lib.byteCells_length]; rw [Lib.byteCells_length] at h1; exact h1, ?_⟩, hne⟩
    rw [Lib.byteCells_length]
    rcases ho.2 with h2 | ⟨g, cap, cur, fz, rfl, _, rest⟩
    · exact .inl h2
    · exact .inr ⟨g, cap, cur, fz, rfl, hY g (hy g rfl), rest⟩
  have hB : Lib.IsBuilderF 49 5 n0 b (Lib.byteCells l) W := by
    rcases hp with rfl | rfl
    · exact .inl (hA _ rfl)
    · exact .inr (hA _ rfl)
  exact (Tryz.Builder_String_any_k n0 b l W hB hn).mono fun e w' ⟨h1, _, h2, h3⟩ => ⟨h1, h2, h3⟩
end Go.Proofs.YtbnnhbmnddaafaaGreatDoor

namespace Go.Proofs.YtbnnhbmnddaafaaGreatDoor
open Go Go.RowKit Go.Kt Go.Shelf
attribute [local go_sem] Oper.semAt_some

/-! what Mend writes -/
def rep (l : List UInt8) : Nat → List UInt8
  | 0 => []
  | n + 1 => rep l n ++ l
def mendStep (s by' : ByteArray) (whole : Bool) (st : List UInt8 × Nat) (p : Nat × Nat) : List UInt8 × Nat :=
  (st.1 ++ (s.extract st.2 p.1).data.toList ++ rep by'.data.toList (if whole then 1 else p.2), p.1 + p.2)
def mendF (s by' : ByteArray) (whole : Bool) (l : List (Nat × Nat)) : List UInt8 × Nat := l.foldl (mendStep s by' whole) ([], 0)
def mendL (s by' : ByteArray) (whole : Bool) : List UInt8 :=
  (mendF s by' whole (bads s)).1 ++ (s.extract (mendF s by' whole (bads s)).2 s.size).data.toList
def Chain (n : Nat) : Nat → List (Nat × Nat) → Prop
  | _, [] => True
  | lo, (a, k) :: r => lo ≤ a ∧ 1 ≤ k ∧ a + k ≤ n ∧ Chain n (a + k) r
theorem Chain.mono {n : Nat} : ∀ {lo lo' : Nat} {l : List (Nat × Nat)}, lo' ≤ lo → Chain n lo l → Chain n lo' l
  | _, _, [], _, _ => trivial
  | _, _, (a, k) :: r, h, ⟨h1, h2, h3, h4⟩ => ⟨by omega, h2, h3, h4⟩
end Go.Proofs.YtbnnhbmnddaafaaGreatDoor

namespace Go.Proofs.YtbnnhbmnddaafaaGreatDoor
open Go Go.RowKit Go.Kt Go.Shelf
attribute [local go_sem] Oper.semAt_some

end Go.Proofs.YtbnnhbmnddaafaaGreatDoor
/- The document's lists of what is ill-formed, and its mended text. -/
namespace Go.Proofs.YtbnnhbmnddaafaaGreatDoor
open Go Go.RowKit Go.Kt Go.Shelf

def pieceCells (l : List (Nat × Nat)) : List Value := l.flatMap fun p => [.int .i64 p.1, .int .i64 p.2]
def OwnB (Y : Nat → Prop) (v : Value) (l : List UInt8) (W : World) : Prop := W.ownsRowF 0 5 1 v l.length (Lib.byteCells l) ∧ ∀ g, v.ownBlock = some g → Y g
theorem OwnB.nil (Y : Nat → Prop) (W : World) : OwnB Y (.slice none 0 0) [] W := ⟨World.ownsRowF_nil W 0 5 1, fun _ h => by cases h⟩
theorem OwnB.slice {Y : Nat → Prop} {v : Value} {l : List UInt8} {W : World} (h : OwnB Y v l W) : ∃ ao cap, v = .slice ao l.length cap := by
  rcases h.1.2 with ⟨hv, hn⟩ | ⟨g, cap, cur, fz, hv, _⟩
  · exact ⟨none, 0, by rw [hv, hn]⟩
  · exact ⟨_, _, hv⟩
theorem OwnB.append {Y : Nat → Prop} {v : Value} {l : List UInt8} {W : World} (h : OwnB Y v l W) (n0 : Nat) (hn : n0 ≤ W.heap.size) (hY : ∀ g, Y g → n0 ≤ g) (s : ByteArray) (hl : l.length + s.size ≤ 140737488355328) :
    ∃ ao cap W', (∀ ty, (Builtin.append_ #[35, 9] ty #[v, .string s]).run Tryz.prog W = .ok (.slice ao (l.length + s.size) cap) W') ∧ OwnB (fun b => n0 ≤ b) (.slice ao (l.length + s.size) cap) (l ++ s.data.toList) W' ∧ Below n0 W W' := by
  obtain ⟨v', w', hrun, h1, hk, hf⟩ := append_str (P := Tryz.prog) W 35 9 5 Tryz.underlying35 Tryz.underlying9 tinfo5 h.1 s hl
  have e1 : (l ++ s.data.toList).length = l.length + s.size := by simp
  have hO : OwnB (fun b => n0 ≤ b) v' (l ++ s.data.toList) w' := ⟨by
    rw [e1, show Lib.byteCells (l ++ s.data.toList) = Lib.byteCells l ++ Lib.strCells s by simp [Lib.byteCells, Lib.strCells]]
    exact h1, fun g hg => by
      rcases hf g hg with q | q
      · exact hY g (h.2 g q)
      · omega⟩
  obtain ⟨ao, cap, rfl⟩ := hO.slice
  rw [e1] at hrun hO
  exact ⟨ao, cap, w', hrun, hO, hk.below hn fun b hb => hY b (h.2 b hb)⟩
theorem OwnB.text {Y : Nat → Prop} {v : Value} {l : List UInt8} {W : World} (h : OwnB Y v l W) : (convert 35 9 v).run Tryz.prog W = .ok (.string ⟨l.toArray⟩) W := by
  rcases h.1.2 with ⟨hv, hn⟩ | ⟨g, cap, cur, fz, hv, _⟩
  · have : l = [] := List.eq_nil_of_length_eq_zero hn
    subst this; subst hv
    simp [convert, Conv.bytesToString, run_underlying Tryz.underlying35, run_underlying Tryz.underlying9, run_underlying Tryz.underlying5]
    rfl
  · subst hv
    refine run_convert_bytes_back W 35 9 5 ⟨g, 0, none⟩ cap l Tryz.underlying35 Tryz.underlying5 Tryz.underlying9 fun j hj => ?_
    refine h.1.cells rfl j _ ?_
    simp [Lib.byteCells, hj]

end Go.Proofs.YtbnnhbmnddaafaaGreatDoor

namespace Go.Proofs.YtbnnhbmnddaafaaGreatDoor
open Go Go.RowKit Go.Kt Go.Shelf

def runeCells (s : ByteArray) : List Value := (units s).map fun p => Value.int .i32 p.2
theorem unitsF_len (s : ByteArray) : ∀ f i, (unitsF s f i).length ≤ f
  | 0, i => by simp [unitsF]
  | f + 1, i => by
    unfold unitsF
    split
    · have := unitsF_len s f (i + (Utf8.decode s i).2)
      simp; omega
    · simp
theorem units_len (s : ByteArray) : (units s).length ≤ s.size := unitsF_len s s.size 0

end Go.Proofs.YtbnnhbmnddaafaaGreatDoor

namespace Go.Proofs.YtbnnhbmnddaafaaGreatDoor
open Go Go.RowKit Go.Kt Go.Shelf

theorem utfEncode_any (r : Int) (w : World) :
    Calls Tryz.prog 123 #[.int .i32 r] w fun e w' => e = .returned (.string (Utf8.encode r)) ∧ w = w' := by
  go_enter Tryz.func123, Tryz.ntmps123
  go_wp2
  go_ret
  exact ⟨rfl, rfl⟩

abbrev s1 : ByteArray := ⟨#[97, 195, 169]⟩
abbrev s2 : ByteArray := ⟨#[195]⟩
abbrev s3 : ByteArray := ⟨#[255, 98]⟩
theorem d1 : decP s1 1 = (233, 2) := by kernel_rfl
theorem d2 : decP s2 0 = (65533, 1) := by kernel_rfl
theorem d3 : runeCells s3 = [.int .i32 65533, .int .i32 98] := by kernel_rfl
theorem d4 : Utf8.encode 233 = ⟨#[195, 169]⟩ := by kernel_rfl
end Go.Proofs.YtbnnhbmnddaafaaGreatDoor
/- Whether a text is right; the text of numbers; one unit held; the ill-formed pieces held. -/
namespace Go.Proofs.YtbnnhbmnddaafaaGreatDoor
open Go Go.RowKit Go.Kt Go.Shelf

def okF (s : ByteArray) : Nat → Nat → Bool
  | 0, _ => true
  | f + 1, i => if i < s.size then (if illB s i then false else okF s f (i + (Utf8.decode s i).2)) else true
def okB (s : ByteArray) : Bool := okF s s.size 0

end Go.Proofs.YtbnnhbmnddaafaaGreatDoor
/- The document's text of numbers. -/
namespace Go.Proofs.YtbnnhbmnddaafaaGreatDoor
open Go Go.RowKit Go.Kt Go.Shelf

def encC (c : Int) : ByteArray :=
  if c < 128 then ⟨#[UInt8.ofNat c.toNat]⟩
  else if c < 2048 then ⟨#[UInt8.ofNat (192 + c / 64).toNat, UInt8.ofNat (128 + c % 64).toNat]⟩
  else if c < 65536 then ⟨#[UInt8.ofNat (224 + c / 4096).toNat, UInt8.ofNat (128 + c / 64 % 64).toNat, UInt8.ofNat (128 + c % 64).toNat]⟩
  else ⟨#[UInt8.ofNat (240 + c / 262144).toNat, UInt8.ofNat (128 + c / 4096 % 64).toNat, UInt8.ofNat (128 + c / 64 % 64).toNat, UInt8.ofNat (128 + c % 64).toNat]⟩
theorem encode_C (r : Int) : Utf8.encode r = encC (if Utf8.valid r then r else 65533) := by
  unfold Utf8.encode encC
  have hr : Utf8.valid r = true → 0 ≤ r ∧ r ≤ 1114111 := by unfold Utf8.valid; simp; omega
  by_cases h : Utf8.valid r = true
  · obtain ⟨h0, h1⟩ := hr h
    obtain ⟨c, rfl⟩ := Int.eq_ofNat_of_zero_le h0
    simp only [h, if_true, Int.toNat_natCast]
    by_cases a1 : c < 128
    · rw [if_pos a1, if_pos (show (c : Int) < 128 by omega)]
    · rw [if_neg a1, if_neg (show ¬ (c : Int) < 128 by omega)]
      by_cases a2 : c < 2048
      · rw [if_pos a2, if_pos (show (c : Int) < 2048 by omega)]
        congr 5
      · rw [if_neg a2, if_neg (show ¬ (c : Int) < 2048 by omega)]
        by_cases a3 : c < 65536
        · rw [if_pos a3, if_pos (show (c : Int) < 65536 by omega)]
          congr 5
        · rw [if_neg a3, if_neg (show ¬ (c : Int) < 65536 by omega)]
          congr 5
  · simp only [h, if_false, Bool.false_eq_true]
    rfl

end Go.Proofs.YtbnnhbmnddaafaaGreatDoor
/- The contracts of the library functions that layer 2 calls besides (strings.Builder.Grow, unicode/utf8.ValidRune), laid over this translation. -/
namespace Go.Proofs
open Go.Shelf
def Tryz.lays241_ren : Go.Shelf.Ren := ⟨fun | 241 => 109 | 277 => 124 | n => n, fun | 70 => 47 | 3 => 3 | 0 => 0 | 72 => 49 | 37 => 35 | 5 => 5 | n => n, fun | n => n⟩
def Tryz.lays165_ren : Go.Shelf.Ren := ⟨fun | 165 => 89 | 240 => 46 | 241 => 109 | 276 => 69 | 277 => 124 | n => n, fun | 70 => 47 | 3 => 3 | 0 => 0 | 4 => 4 | 9 => 9 | 20 => 20 | 72 => 49 | 37 => 35 | 164 => 98 | 5 => 5 | n => n, fun | n => n⟩
def Tryz.lays119_ren : Go.Shelf.Ren := ⟨fun | 119 => 116 | n => n, fun | 21 => 21 | 4 => 4 | n => n, fun | n => n⟩
theorem Tryz.lays119 : Go.Proofs.Lays.n119 Tryz.prog Tryz.lays119_ren := {
  mixed := by kernel_rfl
  f119 := Tryz.func116.trans (congrArg some (by kernel_rfl))
  t4 := Tryz.underlying4
  a4 := Tryz.isAgg4
  z4 := Tryz.sizeOf4
  v4 := Tryz.zeroValue4
  t21 := Tryz.underlying21
  a21 := Tryz.isAgg21
  z21 := Tryz.sizeOf21
  v21 := Tryz.zeroValue21 }
theorem Tryz.utf8_ValidRune (r : Int) (w : World) :
    Calls Tryz.prog 116 #[.int .i32 r] w fun e w' => e = .returned (.bool (Lib.validRune r)) ∧ w' = w := Any.utf8_ValidRune Tryz.lays119 r w
end Go.Proofs
/- Scan's small questions: isBlank, isSigns, isSign; strings.IndexRune at runes that no ASCII byte is; strings.Clone. -/
namespace Go.Proofs.YtbnnhbmnddaafaaGreatDoor
open Go Go.RowKit Go.Kt Go.Shelf
attribute [local go_sem] Oper.semAt_some

def isBlk (r : Int) : Bool := r == 32 || r == 9 || r == 13 || r == 10
def sgsL : List UInt8 := [38, 60, 61, 47, 45, 91, 93, 35, 42, 39, 92]
def sgsI : List Int := [38, 60, 61, 47, 45, 91, 93, 35, 42, 39, 92]
def isSgs (r : Int) : Bool := sgsI.contains r
def sgnL : List (List UInt8) := [[38], [60], [60, 60], [60, 60, 60], [61], [47], [45], [60, 42], [60, 60, 42], [60, 60, 60, 42], [61, 42]]
def isSgn (l : List UInt8) : Bool := sgnL.contains l

set_option maxRecDepth 100000 in
theorem isBlank_any (r : Int) (w : World) :
    Calls Tryz.prog 40 #[.int .i32 r] w fun e w' => e = .returned (.bool (isBlk r)) ∧ w = w' := by
  go_enter Tryz.func40, Tryz.ntmps40
  go_wp2
  all_goals go_ret
  all_goals (unfold isBlk; simp [*])

theorem clone_any (s : ByteArray) (w : World) (hs : s.size ≤ 140737488351232) :
    Calls Tryz.prog 65 #[.string s] w fun e w' => e = .returned (.string s) ∧ Below w.heap.size w w' := by
  go_enter Tryz.func65, Tryz.ntmps65
  go_wp2_with (go_at_call 88; refine (Tryz.stringslite_Clone _ _ (by omega)).mono ?_; rintro e w' ⟨rfl, hb⟩)
  go_ret
  exact ⟨rfl, hb⟩

set_option maxRecDepth 100000 in
theorem isSign_any (s : ByteArray) (w : World) :
    Calls Tryz.prog 41 #[.string s] w fun e w' => e = .returned (.bool (isSgn s.data.toList)) ∧ w = w' := by
  go_enter Tryz.func41, Tryz.ntmps41
  go_wp2
  all_goals go_ret
  all_goals (try (exfalso; simp_all; done))
  all_goals (refine ⟨?_, rfl⟩; unfold isSgn sgnL; rw [← ByteArray.toList_eq])
  all_goals simp_all

theorem enc_hi (r : Int) (h0 : 128 ≤ r) (hv : Utf8.valid r = true) : 2 ≤ (Utf8.encode r).size ∧ (Utf8.encode r).size ≤ 4 ∧ ∀ c ∈ (Utf8.encode r).data.toList, 128 ≤ c.toNat := by
  have h1 : r ≤ 1114111 := by unfold Utf8.valid at hv; simp at hv; omega
  rw [encode_C, if_pos hv]
  unfold encC
  rw [if_neg (by omega)]
  split
  · refine ⟨by simp [ByteArray.size], by simp [ByteArray.size], ?_⟩
    intro c hc
    simp at hc
    rcases hc with rfl | rfl <;> simp [UInt8.toNat_ofNat'] <;> omega
  · split
    · refine ⟨by simp [ByteArray.size], by simp [ByteArray.size], ?_⟩
      intro c hc
      simp at hc
      rcases hc with rfl | rfl | rfl <;> simp [UInt8.toNat_ofNat'] <;> omega
    · refine ⟨by simp [ByteArray.size], by simp [ByteArray.size], ?_⟩
      intro c hc
      simp at hc
      rcases hc with rfl | rfl | rfl | rfl <;> simp [UInt8.toNat_ofNat'] <;> omega
abbrev sgsB : ByteArray := ⟨#[38, 60, 61, 47, 45, 91, 93, 35, 42, 39, 92]⟩
theorem sgs_lo : ∀ c ∈ sgsB.data.toList, c.toNat < 128 := by decide
theorem indexByte_miss : ∀ (l : List UInt8) (c : UInt8), c ∉ l → Lib.indexByte l c = -1
  | [], _, _ => rfl
  | b :: l, c, h => by
    have h1 : (b == c) = false := by simp; rintro rfl; exact h (by simp)
    have h2 := indexByte_miss l c (fun hc => h (by simp [hc]))
    show (if (b == c) = true then (0 : Int) else if (Lib.indexByte l c == -1) = true then -1 else Lib.indexByte l c + 1) = -1
    rw [h1, h2]; rfl
theorem sgs_ix : ∀ n, n < 128 → decide (0 ≤ Lib.indexByte sgsB.data.toList ((n : Nat) : Int).toNat.toUInt8) = sgsI.contains ((n : Nat) : Int) := by decide +kernel

set_option maxRecDepth 100000 in
theorem indexRune_ill (S : ByteArray) (r : Int) (h0 : 128 ≤ r) (hn : (r == 65533) = false) (hv : Lib.validRune r = false) (w : World) :
    Calls Tryz.prog 94 #[.string S, .int .i32 r] w fun e w' => e = .returned (.int .i64 (-1)) ∧ w = w' := by
  have a1 : ¬ r < 128 := by omega
  have CV := Lib.hid (fun w => Tryz.utf8_ValidRune r w)
  rw [hv] at CV
  clear hv
  go_enter Tryz.func94, Tryz.ntmps94
  go_wp2_with (go_at_call 116; refine (CV.out _).mono ?_; rintro e w' ⟨rfl, rfl⟩)
  go_ret
  exact ⟨rfl, rfl⟩

set_option maxRecDepth 100000 in
theorem indexRune_hi (S : ByteArray) (hSl : ∀ c ∈ S.data.toList, c.toNat < 128) (hSz : 4 ≤ S.size) (hSm : S.size ≤ 1000) (r : Int) (h0 : 128 ≤ r) (hn : (r == 65533) = false) (hv : Lib.validRune r = true) (hv2 : Utf8.valid r = true) (w : World) :
    Calls Tryz.prog 94 #[.string S, .int .i32 r] w fun e w' => e = .returned (.int .i64 (-1)) ∧ Below w.heap.size w w' := by
  have a1 : ¬ r < 128 := by omega
  have CV := Lib.hid (fun w => Tryz.utf8_ValidRune r w)
  rw [hv] at CV
  obtain ⟨b2, b4, hb⟩ := enc_hi r h0 hv2
  have b6 := encode_facts r hv2 h0
  clear hv hv2
  obtain ⟨E, hE⟩ : ∃ E, Utf8.encode r = E := ⟨_, rfl⟩
  rw [hE] at b2 b4 hb b6
  obtain ⟨n, hn1⟩ : ∃ n, E.size = n + 1 := ⟨E.size - 1, by omega⟩
  have HC : ∀ w, (convert 21 9 (.int .i32 r)).run Tryz.prog w = .ok (.string E) w := fun w => by rw [run_convert_int_string (hs := by rw [Tryz.underlying21]; rfl) (hd := Tryz.underlying9), hE]
  have HI1 : ∀ w, (Instr.index 9 (.string S) (.int .i64 (n : Nat))).run Tryz.prog w = .ok (.int .u8 (bAt S n)) w := fun w => run_bAt S n (by omega) w
  have HI2 : ∀ w, (Instr.index 9 (.string E) (.int .i64 (n : Nat))).run Tryz.prog w = .ok (.int .u8 (bAt E n)) w := fun w => run_bAt E n (by omega) w
  have hx : bAt S n < 128 := by
    rw [bAt_eq S n (by omega)]
    have := hSl (S[n]'(by omega)) (by rw [show S[n]'(by omega) = S.data.toList[n]'(by simp; omega) from rfl]; exact List.getElem_mem _)
    omega
  have hy : 128 ≤ bAt E n := by
    rw [bAt_eq E n (by omega)]
    have := b6.2.2 (by omega)
    simp only [hn1, Nat.add_sub_cancel] at this
    exact_mod_cast this
  have hy2 := bAt_hi E n
  generalize bAt E n = y at *
  generalize bAt S n = x at *
  have hxy : (x == y) = false := by simp; omega
  obtain ⟨m, rfl⟩ := Int.eq_ofNat_of_zero_le (show 0 ≤ y by omega)
  have HSi : Hid (∀ k : Nat, Lib.indexByte (S.extract k S.size).data.toList ((m : Nat) : Int).toNat.toUInt8 = -1) := Lib.hid fun k => indexByte_miss _ _ (by
    intro hc
    have : m.toUInt8 ∈ S.data.toList := by
      have h2 : (S.extract k S.size).data.toList = (S.data.toList.drop k).take (S.size - k) := by simp [ByteArray.data_extract, Array.toList_extract, List.extract_eq_take_drop]
      rw [h2] at hc
      exact List.mem_of_mem_drop (List.mem_of_mem_take hc)
    have h3 := hSl _ this
    have h4 : m.toUInt8.toNat = m := by simp; omega
    omega)
  have CI : Hid (∀ w, Calls Tryz.prog 115 #[.string (S.extract (n + 1) S.size), .int .u8 (m : Nat)] w fun e w' => e = .returned (.int .i64 (-1)) ∧ w' = w) := Lib.hid fun w => by
    have := Tryz.strings_IndexByte (S.extract (n + 1) S.size) (m : Nat) w
    rw [HSi.out] at this
    exact this
  have HZ : ((E.size : Nat) : Int) - 1 = (n : Nat) := by omega
  have HN3 : n ≤ 3 := by omega
  have HS1 : ∀ w, (Instr.slice 9 (.string S) (some (.int .i64 ((n : Nat) + 1 : Int))) none none).run Tryz.prog w = .ok (.string (S.extract (n + 1) S.size)) w := fun w => by
    rw [run_slice_string_l (ht := Tryz.underlying9) (h0 := by omega) (h1 := by omega)]
    congr 2
  have HS2 : ∀ w, (Instr.sliceAt 9 (.string S) (some (.int .i64 ((n : Nat) + 1 : Int))) none none).run Tryz.prog w = .ok (.string (S.extract (n + 1) S.size)) w := fun w => by
    rw [run_sliceAt_string (h := Tryz.underlying9), HS1]
  have HW : IntKind.i64.wrap ((n : Nat) + 1 : Int) = (n : Nat) + 1 := IntWalk.i64_in _ (by omega)
  have HN4 : ((n : Nat) : Int) + 1 ≤ S.size := by omega
  clear hE b2 b4 hb b6 hx hy hy2 hn1 hSl
  go_enter Tryz.func94, Tryz.ntmps94
  go_wp2_with (go_at_call 116; refine (CV.out _).mono ?_; rintro e w' ⟨rfl, rfl⟩)
  go_step3
  go_wp2
  go_loop [9] (fun v => v = .int .i64 (n : Nat)) (fun _ => 0)
  case atStart => exact rfl
  case round =>
    obtain rfl := hrel
    go_wp2
    try go_step3
    go_wp2
    go_region
    go_wp2
    go_region_with (first | (go_at_call 115; refine (CI.out _).mono ?_; rintro e w4 ⟨rfl, rfl⟩))
    go_wp2
    simp (config := { zetaDelta := true }) only [Exit.noGoto_ret, Exit.inBlock, Exit.then]
    go_ret
    exact ⟨rfl, ((Below.refl _ _).drew).drew⟩

set_option maxRecDepth 100000 in
theorem indexRune_fffd (S : ByteArray) (hSl : ∀ c ∈ S.data.toList, c.toNat < 128) (w : World) :
    Calls Tryz.prog 94 #[.string S, .int .i32 65533] w fun e w' => e = .returned (.int .i64 (-1)) ∧ Below w.heap.size w w' := by
  have HL : Hid (∀ pos (h : pos < S.size), (S[pos]'h).toNat < 128) := Lib.hid fun pos h => hSl _ (by rw [show S[pos]'h = S.data.toList[pos]'(by simpa using h) from rfl]; exact List.getElem_mem _)
  clear hSl
  go_enter Tryz.func94, Tryz.ntmps94
  go_wp2
  go_loopw [] (fun wr => ∃ pos : Nat, Below w.heap.size w wr ∧ w.heap.size < wr.heap.size ∧ wr.heap[w.heap.size]? = some (.stringIter S pos))
    (fun wr => S.size - iterPos wr w.heap.size)
  case atStart => exact ⟨0, (Below.refl _ w).alloc (Nat.le_refl _) (.stringIter S 0), by show w.heap.size < (w.alloc (.stringIter S 0)).heap.size; rw [World.size_alloc]; omega, World.alloc_heap_new w _⟩
  case round =>
    obtain ⟨pos, hb, hlt, hit⟩ := hrel
    by_cases hpos : pos < S.size
    · have hd := decode_ascii S pos hpos (HL.out pos hpos)
      have hr := HL.out pos hpos
      obtain ⟨W1, hW1⟩ : ∃ W1, wr.putObj w.heap.size (.stringIter S (pos + (Utf8.decode S pos).2)) = W1 := ⟨_, rfl⟩
      have hb1 : Below w.heap.size w W1 := by rw [← hW1]; exact hb.trans (below_putObj (Nat.le_refl _) _)
      have hit1 : W1.heap[w.heap.size]? = some (.stringIter S (pos + (Utf8.decode S pos).2)) := by rw [← hW1]; exact World.putObj_heap_same hlt
      have hnx : ∀ ty, (Instr.next (.pointer (some ⟨w.heap.size, 0, none⟩)) true ty).run Tryz.prog wr = .ok (.tuple #[.bool true, .int .i64 pos, .int .i32 (Utf8.decode S pos).1]) W1 := fun ty => by
        rw [← hW1]; exact run_next_str wr w.heap.size S pos ty hit hpos
      rw [hd] at hnx hit1
      generalize (S[pos]'hpos).toNat = b at *
      have hne : (((b : Nat) : Int) == 65533) = false := by simp; omega
      have Hdat := Lib.hid (And.intro hit hit1)
      clear hit hit1 hW1 hd hr
      go_wp2
      obtain ⟨hit, hit1⟩ := Hdat.out
      go_roundw
      case rel => exact ⟨pos + 1, hb1, (Array.getElem?_eq_some_iff.1 hit1).1, hit1⟩
      case measure => rw [iterPos_eq hit1, iterPos_eq hit]; omega
    · have hnx : ∀ ty, (Instr.next (.pointer (some ⟨w.heap.size, 0, none⟩)) true ty).run Tryz.prog wr = .ok (.tuple #[.bool false]) wr := fun ty => run_next_str_end wr w.heap.size S pos ty hit hpos
      go_wp2
      go_ret
      exact ⟨rfl, hb⟩

theorem valid_eq (r : Int) (h : 0 ≤ r) : Lib.validRune r = Utf8.valid r := by
  rw [Bool.eq_iff_iff]; unfold Lib.validRune Utf8.valid; simp; omega
theorem indexRune_non (S : ByteArray) (hSl : ∀ c ∈ S.data.toList, c.toNat < 128) (hSz : 4 ≤ S.size) (hSm : S.size ≤ 1000) (r : Int) (h0 : 128 ≤ r) (w : World) :
    Calls Tryz.prog 94 #[.string S, .int .i32 r] w fun e w' => e = .returned (.int .i64 (-1)) ∧ Below w.heap.size w w' := by
  by_cases h : r = 65533
  · subst h; exact indexRune_fffd S hSl w
  · have hn : (r == 65533) = false := by simpa using h
    cases hv : Lib.validRune r with
    | false => exact (indexRune_ill S r h0 hn hv w).mono fun e w' ⟨h1, h2⟩ => ⟨h1, h2 ▸ Below.refl _ _⟩
    | true => exact indexRune_hi S hSl hSz hSm r h0 hn hv (by rw [← valid_eq r (by omega)]; exact hv) w
theorem isSgs_hi (r : Int) (h : 128 ≤ r) : isSgs r = false := by
  unfold isSgs sgsI; simp; omega
theorem isSgs_lo (r : Int) (h0 : 0 ≤ r) (h : r < 128) : decide (0 ≤ Lib.indexByte sgsB.data.toList r.toNat.toUInt8) = isSgs r := by
  obtain ⟨n, rfl⟩ := Int.eq_ofNat_of_zero_le h0
  exact sgs_ix n (by omega)
theorem containsRune_any (r : Int) (h0 : 0 ≤ r) (w : World) :
    Calls Tryz.prog 71 #[.string sgsB, .int .i32 r] w fun e w' => e = .returned (.bool (isSgs r)) ∧ Below w.heap.size w w' := by
  by_cases h : r < 128
  · rw [← isSgs_lo r h0 h]
    exact (Tryz.strings_ContainsRune_ascii sgsB r w h0 h).mono fun e w' ⟨h1, h2⟩ => ⟨h1, h2 ▸ Below.refl _ _⟩
  · rw [isSgs_hi r (by omega)]
    have C := Lib.hid (fun w => indexRune_non sgsB sgs_lo (by decide) (by decide) r (by omega) w)
    go_enter Tryz.func71, Tryz.ntmps71
    go_wp2_with (go_at_call 94; refine (C.out _).mono ?_; rintro e w' ⟨rfl, hb⟩)
    go_ret
    exact ⟨rfl, hb⟩
theorem isSigns_any (r : Int) (h0 : 0 ≤ r) (w : World) :
    Calls Tryz.prog 48 #[.int .i32 r] w fun e w' => e = .returned (.bool (isSgs r)) ∧ Below w.heap.size w w' := by
  have C := Lib.hid (fun w => containsRune_any r h0 w)
  go_enter Tryz.func48, Tryz.ntmps48
  go_wp2_with (go_at_call 71; refine (C.out _).mono ?_; rintro e w' ⟨rfl, hb⟩)
  go_ret
  exact ⟨rfl, hb⟩
end Go.Proofs.YtbnnhbmnddaafaaGreatDoor
/- What is the same of any program: more on rows of one's own, and on worlds that keep their blocks. -/
namespace Go.Kt
open Go Go.RowKit

theorem Keep.plus {X Z : Nat → Prop} {A B C : World} (h : Keep X A B) (k : Keep Z B C) (hz : ∀ b, b < A.heap.size → Z b → X b) : Keep X A C :=
  ⟨k.os.trans h.os, k.tape.trans h.tape, k.output.trans h.output, Nat.le_trans h.size k.size, fun b hb hX => (k.same b (Nat.lt_of_lt_of_le hb h.size) (fun e => hX (hz b hb e))).trans (h.same b hb hX)⟩

theorem OwnS.shape {Y : Nat → Prop} {e : TypeId} {size n : Nat} {v : Value} {xs : List Value} {W : World} (h : OwnS Y e size v n xs W) :
    (v = .slice none 0 0 ∧ n = 0) ∨ ∃ g cap, v = .slice (some ⟨g, 0, none⟩) n cap ∧ Y g ∧ g < W.heap.size := by
  rcases h.1.2 with h1 | ⟨g, cap, cur, rfl, _, hg, _⟩
  · exact .inl h1
  · exact .inr ⟨g, cap, rfl, h.2 g rfl, (Array.getElem?_eq_some_iff.1 hg).1⟩
theorem OwnS.at0 {Y : Nat → Prop} {e : TypeId} {n g cap : Nat} {xs : List Value} {W : World} (h : OwnS Y e 1 (.slice (some ⟨g, 0, none⟩) n cap) n xs W) {i : Nat} {u : Value} (hi : xs[i]? = some u) : W.cell? ⟨g, i, none⟩ = some u := by
  have := h.1.cells (g := g) rfl i u hi
  rwa [Addr.add_lit, Nat.zero_add] at this
theorem OwnS.frozen {Y : Nat → Prop} {e : TypeId} {n g cap : Nat} {xs : List Value} {W : World} (h : OwnS Y e 1 (.slice (some ⟨g, 0, none⟩) n cap) n xs W) (i : Nat) : W.frozen? ⟨g, i, none⟩ = false := by
  rcases h.1.2 with ⟨h1, _⟩ | ⟨g', cap', cur, h1, _, hg, _⟩
  · cases h1
  · injection h1 with e1 _ _
    injection e1 with e1
    injection e1 with e1
    subst e1
    exact Lib.frozen_of_heap hg i

theorem OwnS.self {Y : Nat → Prop} {e : TypeId} {size n : Nat} {v : Value} {xs : List Value} {A : World} (h : OwnS Y e size v n xs A) : OwnS (fun b => v.ownBlock = some b) e size v n xs A := ⟨h.1, fun _ hg => hg⟩
theorem OwnS.keepX {X Y : Nat → Prop} {e : TypeId} {size n : Nat} {v : Value} {xs : List Value} {A B : World} (h : OwnS Y e size v n xs A) (hk : Keep X A B) (hX : ∀ b, X b → v.ownBlock ≠ some b) : OwnS Y e size v n xs B :=
  ⟨(h.self.keep hk (fun b hb hy => hX b hb hy)).1, h.2⟩

end Go.Kt
/- Scan's places: place.next, place.fault. -/
namespace Go.Proofs.YtbnnhbmnddaafaaGreatDoor
open Go Go.RowKit Go.Kt Go.Shelf
attribute [local go_sem] Oper.semAt_some

abbrev Pl := Nat × Nat × Nat
def plV (p : Pl) : Value := .agg #[.int .i64 (p.1 : Nat), .int .i64 (p.2.1 : Nat), .int .i64 (p.2.2 : Nat)]
def plNext (s : ByteArray) (p : Pl) (i : Nat) : Pl := if 0 < i ∧ B s (i - 1) = 10 then (p.1 + 1, 1, i) else (p.1, p.2.1 + 1, i)
abbrev fltV (no line col : Int) : Value := .iface 69 (.agg #[.int .i64 no, .int .i64 line, .int .i64 col])

set_option maxRecDepth 100000 in
theorem plFault_any (p : Pl) (no : Int) (w : World) :
    Calls Tryz.prog 42 #[plV p, .int .i64 no] w fun e w' => e = .returned (fltV no (p.1 : Nat) (p.2.1 : Nat)) ∧ Below w.heap.size w w' := by
  obtain ⟨l, c, i⟩ := p
  unfold plV
  go_enter Tryz.func42, Tryz.ntmps42
  go_wp2
  go_ret
  exact ⟨rfl, (Below.refl _ w).alloc (Nat.le_refl _) _⟩

set_option maxRecDepth 100000 in
theorem plNext_any (s : ByteArray) (p : Pl) (i : Nat) (w : World) (hi : i ≤ s.size) (h1 : p.1 ≤ 4611686018427387904) (h2 : p.2.1 ≤ 4611686018427387904) (hs : s.size ≤ 4611686018427387904) :
    Calls Tryz.prog 18 #[plV p, .string s, .int .i64 i] w fun e w' => e = .returned (plV (plNext s p i)) ∧ Below w.heap.size w w' := by
  obtain ⟨l, c, a⟩ := p
  unfold plV plNext
  simp only at h1 h2 ⊢
  by_cases h0 : 0 < i
  · obtain ⟨j, rfl⟩ : ∃ j, i = j + 1 := ⟨i - 1, by omega⟩
    have HI : ∀ w, (Instr.index 9 (.string s) (.int .i64 (j : Nat))).run Tryz.prog w = .ok (.int .u8 (bAt s j)) w := fun w => run_bAt s j (by omega) w
    have hB : bAt s j = (B s j : Nat) := rfl
    simp only [Nat.add_sub_cancel]
    generalize bAt s j = b at *
    generalize B s j = b2 at *
    subst hB
    go_enter Tryz.func18, Tryz.ntmps18
    go_wp2
    all_goals first
      | (exfalso; simp_all; done)
      | (exfalso; simp at *; omega; done)
      | (refine bodyPost_ret (results_cell_row rfl _ _ (w.heap.size + 1) 41 _ (0, 0) _ rfl (alloc_at (by simp)) Tryz.underlying41 rfl (by kernel_rfl)) rfl ?_
         exact ⟨rfl, ((Below.refl _ w).alloc (Nat.le_refl _) _).alloc (by simp) _⟩)
  · go_enter Tryz.func18, Tryz.ntmps18
    go_wp2
    all_goals first
      | (exfalso; simp_all; done)
      | (exfalso; simp at *; omega; done)
      | (refine bodyPost_ret (results_cell_row rfl _ _ (w.heap.size + 1) 41 _ (0, 0) _ rfl (alloc_at (by simp)) Tryz.underlying41 rfl (by kernel_rfl)) rfl ?_
         exact ⟨rfl, ((Below.refl _ w).alloc (Nat.le_refl _) _).alloc (by simp) _⟩)
end Go.Proofs.YtbnnhbmnddaafaaGreatDoor
/- What is the same of any program: 'append(v, s...)' of a text's bytes to a row of one's own. -/
namespace Go.Kt
open Go Go.RowKit Go.Lib
variable {P : Program}

theorem append_st (W : World) (t u e : TypeId) (ht : P.underlying t = some (.slice e)) (hu : P.underlying u = some .string) (hinfo : (P.info? e).map (fun i => (i.zero, i.size, i.bytes)) = some (some (.int .u8 0), 1, 1))
    {Y : Nat → Prop} {v : Value} {n : Nat} {xs : List Value} (hown : OwnS Y e 1 v n xs W) (s : ByteArray) (h63 : n + s.size ≤ 140737488355328) :
    ∃ v' w', (∀ ty, (Builtin.append_ #[t, u] ty #[v, .string s]).run P W = .ok v' w') ∧ OwnS (fun b => v.ownBlock = some b ∨ W.heap.size ≤ b) e 1 v' (n + s.size) (xs ++ Lib.strCells s) w' ∧
      Keep (fun b => v.ownBlock = some b) W w' := by
  obtain ⟨i, hi, hz, hs1, hb1⟩ := info_parts hinfo
  have hm : n + s.size ≤ maxLen := by unfold maxLen; omega
  obtain ⟨v', w', hrun, r1, r2, r3⟩ := Lib.run_append_own_string (P := P) W 0 t u 0 e i ht hu hi hz hs1 hb1 v n xs hown.1 s hm h63 (Nat.zero_le _)
  refine ⟨v', w', fun ty => hrun, ⟨r1, ?_⟩, keep_grown r2⟩
  intro g hg
  rcases hown.1.2 with ⟨hv, hn⟩ | ⟨g0, cap0, cur0, hv, hb0, hg0, hnc, hcm, hcs, htk⟩
  · right
    obtain ⟨v2, w2, hrun2, q1, _⟩ := Lib.run_append_own_string (P := P) W W.heap.size t u 0 e i ht hu hi hz hs1 hb1 v n xs ⟨hown.1.1, .inl ⟨hv, hn⟩⟩ s hm h63 (Nat.le_refl _)
    rw [hrun] at hrun2
    injection hrun2 with e1 e2
    subst e1; subst e2
    rcases q1.2 with ⟨h, _⟩ | ⟨g', _, _, h, hb', _⟩
    · rw [h] at hg; cases hg
    · rw [h] at hg; cases hg; exact hb'
  · subst hv
    have hcs' : cur0.size = cap0 := by simpa using hcs
    by_cases hroom : n + s.size ≤ cap0
    · left
      have hr := Lib.run_append_room_string (P := P) W t u 0 e i ht hu hi hs1 g0 n cap0 cur0 hg0 s hroom (by omega)
      rw [hrun] at hr
      injection hr with e1 e2
      subst e1
      exact hg
    · right
      have holds : ∀ j x, xs[j]? = some x → W.cell? ((⟨g0, 0, none⟩ : Addr).add j) = some x := hown.1.cells (g := g0) rfl
      have hr := Lib.run_append_grow_string (P := P) W t u 0 e i (.int .u8 0) ht hu hi hz ⟨g0, 0, none⟩ n cap0 xs (by rw [hs1]; exact hown.1.1) holds s (by omega) (by omega) (by rw [hb1]; exact growslice_fits (by omega) (by omega))
      rw [hrun] at hr
      injection hr with e1 e2
      subst e1
      cases hg
      exact Nat.le_refl _
end Go.Kt
/- Errors of package api: errors.Is at a fault and at a number; errors.As at a fault. -/
namespace Go.Proofs.YtbnnhbmnddaafaaGreatDoor
open Go Go.RowKit Go.Kt Go.Extern.Stop Go.Stop Go.Extern

abbrev fv (k l a : Int) : Value := .agg #[.int .i64 k, .int .i64 l, .int .i64 a]

theorem errno_eq (a b : Int) (w : World) : (binOp .eql 25 (.iface 67 (.int .i64 a)) (.iface 67 (.int .i64 b))).run Tryz.prog w = .ok (.bool (a == b)) w := by
  obtain ⟨i, hi, hc⟩ := Option.map_eq_some_iff.1 (show (Tryz.prog.info? 67).map (·.comparable) = some true by kernel_rfl)
  have h1 : ∀ d, (Op.equalIn (d + 2) 25 (.iface 67 (.int .i64 a)) (.iface 67 (.int .i64 b))).run Tryz.prog w = .ok (a == b) w := fun d => by
    simp [Op.equalIn, run_underlying Tryz.underlying25, run_underlying Tryz.underlying67, typeInfo, hi, hc]
  simp only [binOp]
  simp [Op.equal, Op.maxDepth, h1 9998]

def xComparable : Array Value → Sem Value := ReflectliteType.method fun t => do Rtype.noPackHeld "Comparable" t; pure (.bool (← typeInfo t).comparable)
theorem errTypeOf (v : Value) (w : World) : (ReflectliteType.typeOf #[.iface 67 v]).run Tryz.prog w = .ok (.iface 138 (.agg #[.pointer (some ⟨9, 67, none⟩)])) w := by kernel_rfl
theorem errComparable (w : World) : (xComparable #[.agg #[.pointer (some ⟨9, 67, none⟩)]]).run Tryz.prog w = .ok (.bool true) w := by kernel_rfl
theorem errMethodComparable (v : Value) (w : World) : (Go.method 316 138 v "Comparable").run Tryz.prog w = .ok (168, v) w := by kernel_rfl
theorem errNoIsF (v : Value) (xT : TypeId) (w : World) : (Instr.typeAssert (.iface 69 v) xT 149 true).run Tryz.prog w = .ok (.tuple #[.nilIface, .bool false]) w := run_typeAssert_lacksB Tryz.underlying149 (by kernel_rfl) (by kernel_rfl) v xT w
theorem errNoIsE (v : Value) (xT : TypeId) (w : World) : (Instr.typeAssert (.iface 67 v) xT 149 true).run Tryz.prog w = .ok (.tuple #[.nilIface, .bool false]) w := run_typeAssert_lacksB Tryz.underlying149 (by kernel_rfl) (by kernel_rfl) v xT w
theorem errNoUnwrapE (v : Value) (xT : TypeId) (w : World) : (Instr.typeAssert (.iface 67 v) xT 145 true).run Tryz.prog w = .ok (.tuple #[.nilIface, .bool false]) w := run_typeAssert_lacksB Tryz.underlying145 (by kernel_rfl) (by kernel_rfl) v xT w
theorem errNoUnwrapsE (v : Value) (xT : TypeId) (w : World) : (Instr.typeAssert (.iface 67 v) xT 146 true).run Tryz.prog w = .ok (.tuple #[.nilIface, .bool false]) w := run_typeAssert_lacksB Tryz.underlying146 (by kernel_rfl) (by kernel_rfl) v xT w
theorem errHasUnwrapF (v : Value) (xT : TypeId) (w : World) : (Instr.typeAssert (.iface 69 v) xT 145 true).run Tryz.prog w = .ok (.tuple #[.iface 69 v, .bool true]) w := run_typeAssert_hasB Tryz.underlying145 (by kernel_rfl) v xT w
theorem errMethodUnwrap (v : Value) (w : World) : (Go.method 316 69 v "Unwrap").run Tryz.prog w = .ok (162, v) w := by kernel_rfl

set_option maxRecDepth 100000 in
theorem is_fault (k l a n : Int) (w : World) :
    Calls Tryz.prog 50 #[.iface 69 (fv k l a), .iface 67 (.int .i64 n)] w fun e w' => e = .returned (.bool (k == n)) ∧ Below w.heap.size w w' := by
  have h8 := @run_callFunc_extern Tryz.prog 76 _ ReflectliteType.typeOf Tryz.func76 (by kernel_rfl) (by kernel_rfl) (by kernel_rfl) (by kernel_rfl)
  have h32 := @run_callFunc_extern Tryz.prog 168 _ xComparable Tryz.func168 (by kernel_rfl) (by kernel_rfl) (by kernel_rfl) (by kernel_rfl)
  have tT := errTypeOf
  have cT := errComparable
  have mR := errMethodComparable
  have nF := errNoIsF
  have nE := errNoIsE
  have uE := errNoUnwrapE
  have vE := errNoUnwrapsE
  have uF := errHasUnwrapF
  have mU := errMethodUnwrap
  have hty := run_eql_iface_types (P := Tryz.prog) 69 67 (fv k l a) (.int .i64 n) Tryz.underlying25 (by decide)
  have heq := errno_eq k n
  by_cases hkn : k = n
  · subst hkn
    have hb : (k == k) = true := by simp
    rw [hb] at heq ⊢
    clear hb
    go_enter Tryz.func50, Tryz.ntmps50
    go_wp2
    refine wp_loop_rounds 2 ?_
    rw [rounds_succ]
    go_wp2
    rw [rounds_succ]
    go_wp2
    go_ret
    exact ⟨rfl, (Below.refl _ _).alloc (Nat.le_refl _) _⟩
  · have hb : (k == n) = false := by simp [hkn]
    rw [hb] at heq ⊢
    clear hb
    go_enter Tryz.func50, Tryz.ntmps50
    go_wp2
    refine wp_loop_rounds 2 ?_
    rw [rounds_succ]
    go_wp2
    rw [rounds_succ]
    go_wp2
    go_ret
    exact ⟨rfl, (Below.refl _ _).alloc (Nat.le_refl _) _⟩

end Go.Proofs.YtbnnhbmnddaafaaGreatDoor
/- errors.As of a fault, at a fault's variable. -/
namespace Go.Proofs.YtbnnhbmnddaafaaGreatDoor
open Go Go.RowKit Go.Kt Go.Extern.Stop Go.Stop Go.Extern

def xValueOf (args : Array Value) : Sem Value := ReflectliteValue.unpack (args.getD 0 (.tuple #[]))
def xType : Array Value → Sem Value := ReflectliteValue.methodAny (ReflectliteValue.valueError "reflectlite.Value.Type" 0) fun t _ _ _ => ReflectliteType.toType t
def xKind : Array Value → Sem Value := ReflectliteType.abiMethod fun t => do pure (.int .u8 (← Rtype.kind t))
def xIsNil : Array Value → Sem Value := ReflectliteValue.method (ReflectliteValue.valueError "reflectlite.Value.IsNil" 0) ReflectliteValue.isNil
def xElemT : Array Value → Sem Value := ReflectliteType.method ReflectliteType.elem
def xImplements : Array Value → Sem Value := ReflectliteType.relation "Implements" ReflectliteType.implements_
def xAssignable : Array Value → Sem Value := ReflectliteType.relation "AssignableTo" ReflectliteType.assignableTo
def xElemV : Array Value → Sem Value := ReflectliteValue.method (ReflectliteValue.valueError "reflectlite.Value.Elem" 0) ReflectliteValue.elem
def xSet : Array Value → Sem Value := ReflectliteValue.set

abbrev tyH (t : Nat) : Value := .pointer (some ⟨9, t, none⟩)
abbrev vagg (t : Nat) (a : Addr) (f : Int) : Value := .agg #[tyH t, .pointer (some a), .int .u64 f]

theorem asValueOfP (t : Addr) (w : World) : (xValueOf #[.iface 82 (.pointer (some t))]).run Tryz.prog w
    = .ok (vagg 82 ⟨w.heap.size, 0, none⟩ 150) (w.alloc (.cells #[.pointer (some t)] 82)) := by kernel_rfl
theorem asTypeP (a : Addr) (w : World) : (xType #[vagg 82 a 150]).run Tryz.prog w = .ok (.iface 138 (.agg #[tyH 82])) w := by kernel_rfl
theorem asMethodKind (h : Value) (w : World) : (Go.method 316 138 (.agg #[h]) "Kind").run Tryz.prog w = .ok (156, h) w := by kernel_rfl
theorem asKindP (w : World) : (xKind #[tyH 82]).run Tryz.prog w = .ok (.int .u8 22) w := by kernel_rfl
theorem asKindF (w : World) : (xKind #[tyH 69]).run Tryz.prog w = .ok (.int .u8 25) w := by kernel_rfl

theorem rlm (z : Sem Value) (f : TypeId → Addr → Nat → Nat → Sem Value) (v : Value) :
    ReflectliteValue.method z f #[v] = (do match ← ReflectliteValue.parts v with | none => z | some (t, a, fl) => f t a fl (fl % 32)) := rfl
theorem asPartsP (a : Addr) (w : World) : (ReflectliteValue.parts (vagg 82 a 150)).run Tryz.prog w = .ok (some (82, a, 150)) w := by kernel_rfl
theorem asIsNil (a p : Addr) (W : World) (ha : W.cell? a = some (.pointer (some p))) : (xIsNil #[vagg 82 a 150]).run Tryz.prog W = .ok (.bool false) W := by
  unfold xIsNil
  rw [rlm]
  simp only [Sem.run_bind, asPartsP, Result.andThen]
  simp [ReflectliteValue.isNil, loadVar, isAgg, underlying, Tryz.underlying82, ha, Result.andThen]
theorem asMethodElem (h : Value) (w : World) : (Go.method 316 138 (.agg #[h]) "Elem").run Tryz.prog w = .ok (169, .agg #[h]) w := by kernel_rfl
theorem asMethodImplements (h : Value) (w : World) : (Go.method 316 138 (.agg #[h]) "Implements").run Tryz.prog w = .ok (170, .agg #[h]) w := by kernel_rfl
theorem asMethodAssignable (h : Value) (w : World) : (Go.method 316 138 (.agg #[h]) "AssignableTo").run Tryz.prog w = .ok (167, .agg #[h]) w := by kernel_rfl
theorem asElemT (w : World) : (xElemT #[.agg #[tyH 82]]).run Tryz.prog w = .ok (.iface 138 (.agg #[tyH 69])) w := by kernel_rfl
theorem asImplements (w : World) : (xImplements #[.agg #[tyH 69], .iface 138 (.agg #[tyH 25])]).run Tryz.prog w = .ok (.bool true) w := by kernel_rfl
theorem asTypeOfF (v : Value) (w : World) : (ReflectliteType.typeOf #[.iface 69 v]).run Tryz.prog w = .ok (.iface 138 (.agg #[tyH 69])) w := by kernel_rfl
theorem asAssignable (w : World) : (xAssignable #[.agg #[tyH 69], .iface 138 (.agg #[tyH 69])]).run Tryz.prog w = .ok (.bool true) w := by kernel_rfl
theorem asValueOfF (k l a : Int) (w : World) : (xValueOf #[.iface 69 (fv k l a)]).run Tryz.prog w
    = .ok (vagg 69 ⟨w.heap.size, 0, none⟩ 153) (w.alloc (.cells #[.int .i64 k, .int .i64 l, .int .i64 a] 69)) := by kernel_rfl
theorem asElemOfP (w : World) : (Rtype.elem? 82).run Tryz.prog w = .ok (some 69) w := by kernel_rfl
theorem asMkF (p : Addr) (w : World) : (ReflectliteValue.mk 69 p ReflectliteValue.flagAddr).run Tryz.prog w = .ok (vagg 69 p 409) w := by kernel_rfl
theorem asElemV (a p : Addr) (W : World) (ha : W.cell? a = some (.pointer (some p))) : (xElemV #[vagg 82 a 150]).run Tryz.prog W = .ok (vagg 69 p 409) W := by
  unfold xElemV
  rw [rlm]
  simp only [Sem.run_bind, asPartsP, Result.andThen]
  simp [ReflectliteValue.elem, loadVar, isAgg, underlying, Tryz.underlying82, ha, Result.andThen, asElemOfP, asMkF]
theorem rls (v x : Value) : ReflectliteValue.set #[v, x] = (do
    let (some (dst, a, fl), some (src, b, _)) := (← ReflectliteValue.parts v, ← ReflectliteValue.parts x)
      | unsupported (.noEntry "extern/(internal/reflectlite.Value).Set.zeroValue")
    if fl / ReflectliteValue.flagAddr % 2 == 0 then unsupported (.noEntry "extern/(internal/reflectlite.Value).Set.unaddressable")
    let val ← loadVar src b
    if ← Rtype.directlyAssignable dst src then storeVar dst a val
    else if ← Rtype.implements dst src then
      if (← Rtype.kind src) == 20 then
        match val with
        | .nilIface => unsupported (.noEntry "extern/reflectlite: a nil value of one interface type handed on as a value of another")
        | _ => storeVar dst a val
      else storeVar dst a (.iface src val)
    else panicString ("reflectlite.Set: value of type " ++ (← Rtype.spelt src) ++ " is not assignable to type " ++ (← Rtype.spelt dst))
    pure (.tuple #[])) := rfl
theorem asPartsFa (a : Addr) (w : World) : (ReflectliteValue.parts (vagg 69 a 409)).run Tryz.prog w = .ok (some (69, a, 409)) w := by kernel_rfl
theorem asPartsF (a : Addr) (w : World) : (ReflectliteValue.parts (vagg 69 a 153)).run Tryz.prog w = .ok (some (69, a, 153)) w := by kernel_rfl
theorem asDirect (w : World) : (Rtype.directlyAssignable 69 69).run Tryz.prog w = .ok true w := by kernel_rfl
theorem asLoad (b : Nat) (x y z : Value) (t : TypeId) (fr : Nat × Nat) (W : World) (hb : W.heap[b]? = some (.cells #[x, y, z] t fr)) : (loadVar 69 ⟨b, 0, none⟩).run Tryz.prog W = .ok (.agg #[x, y, z]) W := by
  have h0 : W.cell? ⟨b, 0, none⟩ = some x := by rw [World.cell?, hb]; rfl
  have h1 : W.cell? ⟨b, 1, none⟩ = some y := by rw [World.cell?, hb]; rfl
  have h2 : W.cell? ⟨b, 2, none⟩ = some z := by rw [World.cell?, hb]; rfl
  simp [loadVar, isAgg, underlying, Tryz.underlying69, Result.andThen, loadCells, loadCellsFrom, Addr.add, h0, h1, h2]
theorem asStore (g : Nat) (x y z x' y' z' : Value) (t : TypeId) (W : World) (hg : W.heap[g]? = some (.cells #[x, y, z] t (0, 0))) (k1 : x'.oneCell' = true) (k2 : y'.oneCell' = true) (k3 : z'.oneCell' = true) : (storeVar 69 ⟨g, 0, none⟩ (.agg #[x', y', z'])).run Tryz.prog W = .ok () (((W.setCell ⟨g, 0, none⟩ x').setCell ⟨g, 1, none⟩ y').setCell ⟨g, 2, none⟩ z') := by
  have e1 : (W.setCell ⟨g, 0, none⟩ x').heap[g]? = some (.cells #[x', y, z] t (0, 0)) := by simp [World.setCell, Array.getElem?_modify, hg]
  have e2 : ((W.setCell ⟨g, 0, none⟩ x').setCell ⟨g, 1, none⟩ y').heap[g]? = some (.cells #[x', y', z] t (0, 0)) := by
    rw [World.setCell, Array.getElem?_modify]; simp [e1]
  have h0 : W.cell? ⟨g, 0, none⟩ = some x := by rw [World.cell?, hg]; rfl
  have h1 : (W.setCell ⟨g, 0, none⟩ x').cell? ⟨g, 1, none⟩ = some y := by rw [World.cell?, e1]; rfl
  have h2 : ((W.setCell ⟨g, 0, none⟩ x').setCell ⟨g, 1, none⟩ y').cell? ⟨g, 2, none⟩ = some z := by rw [World.cell?, e2]; rfl
  have f0 : W.frozen? ⟨g, 0, none⟩ = false := by simp [World.frozen?, hg]
  have f1 : (W.setCell ⟨g, 0, none⟩ x').frozen? ⟨g, 1, none⟩ = false := by simp [World.frozen?, e1]
  have f2 : ((W.setCell ⟨g, 0, none⟩ x').setCell ⟨g, 1, none⟩ y').frozen? ⟨g, 2, none⟩ = false := by simp [World.frozen?, e2]
  have c : (Value.agg #[x', y', z']).cells = #[x', y', z'] := rfl
  simp [storeVar, c, storeCells, Addr.add, Result.andThen]
  simp [run_store Tryz.prog _ _ _ _ k1, run_store Tryz.prog _ _ _ _ k2, run_store Tryz.prog _ _ _ _ k3, h0, f0, h1, f1, h2, f2]
theorem asSet (g b : Nat) (x y z x' y' z' : Value) (t tb : TypeId) (fr : Nat × Nat) (W : World) (hb : W.heap[b]? = some (.cells #[x', y', z'] tb fr)) (hg : W.heap[g]? = some (.cells #[x, y, z] t (0, 0))) (k1 : x'.oneCell' = true) (k2 : y'.oneCell' = true) (k3 : z'.oneCell' = true) :
    (xSet #[vagg 69 ⟨g, 0, none⟩ 409, vagg 69 ⟨b, 0, none⟩ 153]).run Tryz.prog W = .ok (.tuple #[]) (((W.setCell ⟨g, 0, none⟩ x').setCell ⟨g, 1, none⟩ y').setCell ⟨g, 2, none⟩ z') := by
  unfold xSet
  rw [rls]
  simp only [Sem.run_bind, asPartsFa, asPartsF, Result.andThen]
  simp [ReflectliteValue.flagAddr, asLoad b x' y' z' tb fr W hb, Result.andThen, asDirect, asStore g x y z x' y' z' t W hg k1 k2 k3]

end Go.Proofs.YtbnnhbmnddaafaaGreatDoor
/- errors.As of a fault, at a fault's variable: the walk. -/
namespace Go.Proofs.YtbnnhbmnddaafaaGreatDoor
open Go Go.RowKit Go.Kt Go.Extern.Stop Go.Stop Go.Extern

def AsOut (g : Nat) (k l a : Int) (w : World) (e : Ending) (w' : World) : Prop :=
  e = .returned (.bool true) ∧ w'.heap[g]? = some (.cells #[.int .i64 k, .int .i64 l, .int .i64 a] 69 (0, 0)) ∧ Keep (fun b => b = g) w w'

set_option maxRecDepth 100000 in
set_option maxHeartbeats 4000000 in
theorem as_fault (k l a x y z : Int) (g : Nat) (w : World) (hE : w.cell? ⟨0, 0, none⟩ = some (.iface 138 (.agg #[tyH 25]))) (hg : w.heap[g]? = some (.cells #[.int .i64 x, .int .i64 y, .int .i64 z] 69 (0, 0))) :
    Calls Tryz.prog 49 #[.iface 69 (fv k l a), .iface 82 (.pointer (some ⟨g, 0, none⟩))] w (AsOut g k l a w) := by
  have h6 := @run_callFunc_extern Tryz.prog 72 _ xValueOf Tryz.func72 (by kernel_rfl) (by kernel_rfl) (by kernel_rfl) (by kernel_rfl)
  have h7 := @run_callFunc_extern Tryz.prog 73 _ xType Tryz.func73 (by kernel_rfl) (by kernel_rfl) (by kernel_rfl) (by kernel_rfl)
  have h8 := @run_callFunc_extern Tryz.prog 74 _ xIsNil Tryz.func74 (by kernel_rfl) (by kernel_rfl) (by kernel_rfl) (by kernel_rfl)
  have h27 := @run_callFunc_extern Tryz.prog 156 _ xKind Tryz.func156 (by kernel_rfl) (by kernel_rfl) (by kernel_rfl) (by kernel_rfl)
  have h37 := @run_callFunc_extern Tryz.prog 169 _ xElemT Tryz.func169 (by kernel_rfl) (by kernel_rfl) (by kernel_rfl) (by kernel_rfl)
  have h38 := @run_callFunc_extern Tryz.prog 170 _ xImplements Tryz.func170 (by kernel_rfl) (by kernel_rfl) (by kernel_rfl) (by kernel_rfl)
  have h10 := @run_callFunc_extern Tryz.prog 76 _ ReflectliteType.typeOf Tryz.func76 (by kernel_rfl) (by kernel_rfl) (by kernel_rfl) (by kernel_rfl)
  have h35 := @run_callFunc_extern Tryz.prog 167 _ xAssignable Tryz.func167 (by kernel_rfl) (by kernel_rfl) (by kernel_rfl) (by kernel_rfl)
  have h11 := @run_callFunc_extern Tryz.prog 95 _ xElemV Tryz.func95 (by kernel_rfl) (by kernel_rfl) (by kernel_rfl) (by kernel_rfl)
  have h12 := @run_callFunc_extern Tryz.prog 96 _ xSet Tryz.func96 (by kernel_rfl) (by kernel_rfl) (by kernel_rfl) (by kernel_rfl)
  have tO := asTypeOfF
  have mA := asMethodAssignable
  have aF := asAssignable
  have vF := asValueOfF
  have f6 := asValueOfP
  have f7 := asTypeP
  have mK := asMethodKind
  have mE := asMethodElem
  have mI := asMethodImplements
  have kP := asKindP
  have kF := asKindF
  have eT := asElemT
  have iF := asImplements
  have hlt : 0 < w.heap.size := lt_of_cell hE
  have hgl : g < w.heap.size := (Array.getElem?_eq_some_iff.1 hg).1
  have n8 := asIsNil ⟨w.heap.size, 0, none⟩ ⟨g, 0, none⟩ ((w.alloc (.cells #[.pointer (some ⟨g, 0, none⟩)] 82)).alloc (.cells #[tyH 82, .pointer (some ⟨w.heap.size, 0, none⟩), .int .u64 150] 103)) (by simp)
  have hg2 : ((w.alloc (.cells #[.pointer (some ⟨g, 0, none⟩)] 82)).alloc (.cells #[tyH 82, .pointer (some ⟨w.heap.size, 0, none⟩), .int .u64 150] 103)).cell? ⟨0, 0, none⟩ = some (.iface 138 (.agg #[tyH 25])) := by
    rw [World.cell?_alloc_lt _ _ ⟨0, 0, none⟩ (by simp <;> omega), World.cell?_alloc_lt _ _ ⟨0, 0, none⟩ hlt]; exact hE
  have el := asElemV ⟨w.heap.size, 0, none⟩ ⟨g, 0, none⟩ (((w.alloc (.cells #[.pointer (some ⟨g, 0, none⟩)] 82)).alloc (.cells #[tyH 82, .pointer (some ⟨w.heap.size, 0, none⟩), .int .u64 150] 103)).alloc (.cells #[tyH 82, .pointer (some ⟨w.heap.size, 0, none⟩), .int .u64 150] 103)) (by rw [World.cell?_alloc_lt _ _ ⟨w.heap.size, 0, none⟩ (by simp; omega)]; simp)
  have hg4 : ((((w.alloc (.cells #[.pointer (some ⟨g, 0, none⟩)] 82)).alloc (.cells #[tyH 82, .pointer (some ⟨w.heap.size, 0, none⟩), .int .u64 150] 103)).alloc (.cells #[tyH 82, .pointer (some ⟨w.heap.size, 0, none⟩), .int .u64 150] 103)).alloc (.cells #[.int .i64 k, .int .i64 l, .int .i64 a] 69)).heap[g]? = some (.cells #[.int .i64 x, .int .i64 y, .int .i64 z] 69 (0, 0)) :=
    alloc_old (alloc_old (alloc_old (alloc_old hg)))
  have hb4 : ((((w.alloc (.cells #[.pointer (some ⟨g, 0, none⟩)] 82)).alloc (.cells #[tyH 82, .pointer (some ⟨w.heap.size, 0, none⟩), .int .u64 150] 103)).alloc (.cells #[tyH 82, .pointer (some ⟨w.heap.size, 0, none⟩), .int .u64 150] 103)).alloc (.cells #[.int .i64 k, .int .i64 l, .int .i64 a] 69)).heap[w.heap.size + 1 + 1 + 1]? = some (.cells #[.int .i64 k, .int .i64 l, .int .i64 a] 69 (0, 0)) := by
    exact alloc_at (by simp)
  have st := asSet g (w.heap.size + 1 + 1 + 1) _ _ _ _ _ _ _ _ _ ((((w.alloc (.cells #[.pointer (some ⟨g, 0, none⟩)] 82)).alloc (.cells #[tyH 82, .pointer (some ⟨w.heap.size, 0, none⟩), .int .u64 150] 103)).alloc (.cells #[tyH 82, .pointer (some ⟨w.heap.size, 0, none⟩), .int .u64 150] 103)).alloc (.cells #[.int .i64 k, .int .i64 l, .int .i64 a] 69)) hb4 hg4 rfl rfl rfl
  have fin : AsOut g k l a w (.returned (.bool true)) (((((((w.alloc (.cells #[.pointer (some ⟨g, 0, none⟩)] 82)).alloc (.cells #[tyH 82, .pointer (some ⟨w.heap.size, 0, none⟩), .int .u64 150] 103)).alloc (.cells #[tyH 82, .pointer (some ⟨w.heap.size, 0, none⟩), .int .u64 150] 103)).alloc (.cells #[.int .i64 k, .int .i64 l, .int .i64 a] 69)).setCell ⟨g, 0, none⟩ (.int .i64 k)).setCell ⟨g, 1, none⟩ (.int .i64 l)).setCell ⟨g, 2, none⟩ (.int .i64 a)) := by
    refine ⟨rfl, ?_, ?_⟩
    · simp only [World.setCell, Array.getElem?_modify, hg4]
      simp
    · exact ((Keep.setCell (X := fun b => b = g) (Keep.alloc (Keep.alloc (Keep.alloc (Keep.alloc (Keep.refl _ _) _) _) _) _) (p := ⟨g, 0, none⟩) rfl _).setCell (p := ⟨g, 1, none⟩) rfl _).setCell (p := ⟨g, 2, none⟩) rfl _
  have Fin := Lib.hid fin
  clear fin hg4 hb4 hg
  go_enter Tryz.func49, Tryz.ntmps49
  go_wp2
  refine wp_loop_rounds 1 ?_
  rw [rounds_succ]
  go_wp2
  go_ret
  exact Fin.out
end Go.Proofs.YtbnnhbmnddaafaaGreatDoor
