/- Parts of the proof of what the last text says. -/
import Derived.Test.YtjbkpcdpdifpnaaGreatDoorCk1
import Derived.Laws.IdiomStrings
import Derived.Laws.Cover4
import Derived.Laws.MakeOwn
import Derived.Sort.QuietIn
import Derived.Sort.QuietTacIn
import Derived.Lib.FrozenHead2
import Derived.Shelf.Strings.Builder2
import Derived.Test.YtjbkpcdpdifpnaaGreatDoorProg
import Derived.WalkKit
import Derived.LaidEql
import Derived.Stop.Asserts
import Derived.RowKitTokens
import Derived.Lib.Hide
import Derived.Deep.RegionHeldLaw
import Derived.LaidHandle

namespace Go.Proofs.YtjbkpcdpdifpnaaGreatDoor
open Go Go.RowKit Go.Kt Go.Shelf
attribute [local go_sem] Oper.semAt_some

/-! what Mend writes -/
def rep (l : List UInt8) : Nat → List UInt8
  | 0 => []
  | n + 1 => rep l n ++ l
def mendStep (s by' : ByteArray) (whole : Bool) (st : List UInt8 × Nat) (p : Nat × Nat) : List UInt8 × Nat :=
  (st.1 ++ (s.extract st.2 p.1).data.toList ++ rep by'.data.toList (if whole then 1 else p.2), p.1 + p.2)
def mendF (s by' : ByteArray) (whole : Bool) (l : List (Nat × Nat)) : List UInt8 × Nat := l.foldl (mendStep s by' whole) ([], 0)
def mendL (s by' : ByteArray) (whole : Bool) : List UInt8 :=
  (mendF s by' whole (bads s)).1 ++ (s.extract (mendF s by' whole (bads s)).2 s.size).data.toList
def Chain (n : Nat) : Nat → List (Nat × Nat) → Prop
  | _, [] => True
  | lo, (a, k) :: r => lo ≤ a ∧ 1 ≤ k ∧ a + k ≤ n ∧ Chain n (a + k) r
theorem Chain.mono {n : Nat} : ∀ {lo lo' : Nat} {l : List (Nat × Nat)}, lo' ≤ lo → Chain n lo l → Chain n lo' l
  | _, _, [], _, _ => trivial
  | _, _, (a, k) :: r, h, ⟨h1, h2, h3, h4⟩ => ⟨by omega, h2, h3, h4⟩
end Go.Proofs.YtjbkpcdpdifpnaaGreatDoor

namespace Go.Proofs.YtjbkpcdpdifpnaaGreatDoor
open Go Go.RowKit Go.Kt Go.Shelf
attribute [local go_sem] Oper.semAt_some

end Go.Proofs.YtjbkpcdpdifpnaaGreatDoor
/- The document's lists of what is ill-formed, and its mended text. -/
namespace Go.Proofs.YtjbkpcdpdifpnaaGreatDoor
open Go Go.RowKit Go.Kt Go.Shelf

def pieceCells (l : List (Nat × Nat)) : List Value := l.flatMap fun p => [.int .i64 p.1, .int .i64 p.2]
def OwnB (Y : Nat → Prop) (v : Value) (l : List UInt8) (W : World) : Prop := W.ownsRowF 0 5 1 v l.length (Lib.byteCells l) ∧ ∀ g, v.ownBlock = some g → Y g
theorem OwnB.nil (Y : Nat → Prop) (W : World) : OwnB Y (.slice none 0 0) [] W := ⟨World.ownsRowF_nil W 0 5 1, fun _ h => by cases h⟩
theorem OwnB.slice {Y : Nat → Prop} {v : Value} {l : List UInt8} {W : World} (h : OwnB Y v l W) : ∃ ao cap, v = .slice ao l.length cap := by
  rcases h.1.2 with ⟨hv, hn⟩ | ⟨g, cap, cur, fz, hv, _⟩
  · exact ⟨none, 0, by rw [hv, hn]⟩
  · exact ⟨_, _, hv⟩
theorem OwnB.append {Y : Nat → Prop} {v : Value} {l : List UInt8} {W : World} (h : OwnB Y v l W) (n0 : Nat) (hn : n0 ≤ W.heap.size) (hY : ∀ g, Y g → n0 ≤ g) (s : ByteArray) (hl : l.length + s.size ≤ 140737488355328) :
    ∃ ao cap W', (∀ ty, (Builtin.append_ #[34, 9] ty #[v, .string s]).run Tryz.prog W = .ok (.slice ao (l.length + s.size) cap) W') ∧ OwnB (fun b => n0 ≤ b) (.slice ao (l.length + s.size) cap) (l ++ s.data.toList) W' ∧ Below n0 W W' := by
  obtain ⟨v', w', hrun, h1, hk, hf⟩ := append_str (P := Tryz.prog) W 34 9 5 Tryz.underlying34 Tryz.underlying9 tinfo5 h.1 s hl
  have e1 : (l ++ s.data.toList).length = l.length + s.size := by simp
  have hO : OwnB (fun b => n0 ≤ b) v' (l ++ s.data.toList) w' := ⟨by
    rw [e1, show Lib.byteCells (l ++ s.data.toList) = Lib.byteCells l ++ Lib.strCells s by simp [Lib.byteCells, Lib.strCells]]
    exact h1, fun g hg => by
      rcases hf g hg with q | q
      · exact hY g (h.2 g q)
      · omega⟩
  obtain ⟨ao, cap, rfl⟩ := hO.slice
  rw [e1] at hrun hO
  exact ⟨ao, cap, w', hrun, hO, hk.below hn fun b hb => hY b (h.2 b hb)⟩
theorem OwnB.text {Y : Nat → Prop} {v : Value} {l : List UInt8} {W : World} (h : OwnB Y v l W) : (convert 34 9 v).run Tryz.prog W = .ok (.string ⟨l.toArray⟩) W := by
  rcases h.1.2 with ⟨hv, hn⟩ | ⟨g, cap, cur, fz, hv, _⟩
  · have : l = [] := List.eq_nil_of_length_eq_zero hn
    subst this; subst hv
    simp [convert, Conv.bytesToString, run_underlying Tryz.underlying34, run_underlying Tryz.underlying9, run_underlying Tryz.underlying5]
    rfl
  · subst hv
    refine run_convert_bytes_back W 34 9 5 ⟨g, 0, none⟩ cap l Tryz.underlying34 Tryz.underlying5 Tryz.underlying9 fun j hj => ?_
    refine h.1.cells rfl j _ ?_
    simp [Lib.byteCells, hj]

end Go.Proofs.YtjbkpcdpdifpnaaGreatDoor

namespace Go.Proofs.YtjbkpcdpdifpnaaGreatDoor
open Go Go.RowKit Go.Kt Go.Shelf

def runeCells (s : ByteArray) : List Value := (units s).map fun p => Value.int .i32 p.2
end Go.Proofs.YtjbkpcdpdifpnaaGreatDoor

namespace Go.Proofs.YtjbkpcdpdifpnaaGreatDoor
open Go Go.RowKit Go.Kt Go.Shelf

abbrev s1 : ByteArray := ⟨#[97, 195, 169]⟩
abbrev s2 : ByteArray := ⟨#[195]⟩
abbrev s3 : ByteArray := ⟨#[255, 98]⟩
theorem d1 : decP s1 1 = (233, 2) := by kernel_rfl
theorem d2 : decP s2 0 = (65533, 1) := by kernel_rfl
theorem d3 : runeCells s3 = [.int .i32 65533, .int .i32 98] := by kernel_rfl
theorem d4 : Utf8.encode 233 = ⟨#[195, 169]⟩ := by kernel_rfl
theorem d5 : mendL ⟨#[255]⟩ ⟨#[63]⟩ true = [63] := by kernel_rfl
theorem d6 : fullB ⟨#[97]⟩ = true := by kernel_rfl

end Go.Proofs.YtjbkpcdpdifpnaaGreatDoor
/- Whether a text is right; the text of numbers; one unit held; the ill-formed pieces held. -/
namespace Go.Proofs.YtjbkpcdpdifpnaaGreatDoor
open Go Go.RowKit Go.Kt Go.Shelf

def okF (s : ByteArray) : Nat → Nat → Bool
  | 0, _ => true
  | f + 1, i => if i < s.size then (if illB s i then false else okF s f (i + (Utf8.decode s i).2)) else true
def okB (s : ByteArray) : Bool := okF s s.size 0

theorem sl_of_own {k : IntKind} {Y : Nat → Prop} {e : TypeId} {v : Value} {n : Nat} {l : List Int} {W : World} (h : OwnS Y e 1 v n (l.map fun x => .int k x) W) (hl : l.length = n) : Sl k W v l := by
  subst hl
  rcases h.1.2 with ⟨hv, hn⟩ | ⟨g, cap, cur, hv, rest⟩
  · exact ⟨none, 0, by rw [hv, hn], .inl (List.eq_nil_of_length_eq_zero hn)⟩
  · refine ⟨_, cap, hv, .inr ⟨g, 0, rfl, fun i x hx => ?_⟩⟩
    have hc := h.1.cells (g := g) (by rw [hv]; rfl)
    have c1 := hc i (.int k x) (by simp [hx])
    rw [Addr.add_lit] at c1
    exact c1
end Go.Proofs.YtjbkpcdpdifpnaaGreatDoor
/- A text that is cut: the numbers of its two pieces are its own just where it is cut between two units. -/
namespace Go.Proofs.YtjbkpcdpdifpnaaGreatDoor
open Go

def numsF (s : ByteArray) (f i : Nat) : List Nat := (unitsF s f i).map (·.2)
def placesF (s : ByteArray) (f i : Nat) : List Nat := (unitsF s f i).map (·.1)
def nums (s : ByteArray) : List Nat := numsF s s.size 0
end Go.Proofs.YtjbkpcdpdifpnaaGreatDoor
/- The walk of UtfCuts. -/
namespace Go.Proofs.YtjbkpcdpdifpnaaGreatDoor
open Go Go.RowKit Go.Kt Go.Shelf
attribute [local go_sem] Oper.semAt_some

theorem tinfo21 : (Tryz.prog.info? 21).map (fun i => (i.zero, i.size, i.bytes)) = some (some (.int .i32 0), 1, 4) := by kernel_rfl

def Plc (m : Nat) (s : ByteArray) (p : Nat → Bool) (W : World) : Prop :=
  ∃ c : Array Value, W.heap[m]? = some (.cells c 4 (0, 0)) ∧ ∀ i, i ≤ s.size → c[i]? = some (.bool (p i))
theorem Plc.keep {m : Nat} {s : ByteArray} {p : Nat → Bool} {X : Nat → Prop} {A B : World} (h : Plc m s p A) (hk : Keep X A B) (hX : ¬ X m) : Plc m s p B := by
  obtain ⟨c, h1, h2⟩ := h
  exact ⟨c, hk.heap h1 hX, h2⟩
theorem Plc.cell {m : Nat} {s : ByteArray} {p : Nat → Bool} {W : World} (h : Plc m s p W) {i : Nat} (hi : i ≤ s.size) : W.cell? ⟨m, i, none⟩ = some (.bool (p i)) := by
  obtain ⟨c, h1, h2⟩ := h
  rw [Lib.cell_of_heap h1]; exact h2 i hi
theorem Plc.frozen {m : Nat} {s : ByteArray} {p : Nat → Bool} {W : World} (h : Plc m s p W) (i : Nat) : W.frozen? ⟨m, i, none⟩ = false := by
  obtain ⟨c, h1, h2⟩ := h
  exact Lib.frozen_of_heap h1 i
theorem Plc.set {m : Nat} {s : ByteArray} {p : Nat → Bool} {W : World} (h : Plc m s p W) {j : Nat} (_ : j ≤ s.size) : Plc m s (fun i => p i || i == j) (W.setCell ⟨m, j, none⟩ (.bool true)) := by
  obtain ⟨c, h1, h2⟩ := h
  refine ⟨c.setIfInBounds j (.bool true), by simp [World.setCell, Array.getElem?_modify, h1], fun i hi => ?_⟩
  rw [Array.getElem?_setIfInBounds]
  have := h2 i hi
  have hlt := (Array.getElem?_eq_some_iff.1 this).1
  by_cases e : j = i
  · subst e; rw [if_pos rfl, if_pos hlt]; simp
  · rw [if_neg e, this]
    have : (i == j) = false := by simp; omega
    simp [this]
theorem Plc.congr {m : Nat} {s : ByteArray} {p q : Nat → Bool} {W : World} (h : Plc m s p W) (e : ∀ i, i ≤ s.size → p i = q i) : Plc m s q W := by
  obtain ⟨c, h1, h2⟩ := h
  exact ⟨c, h1, fun i hi => by rw [← e i hi]; exact h2 i hi⟩

def pcs (s : ByteArray) (pre : List (Nat × Nat)) (i : Nat) : Bool := (pre.map fun p => p.1).contains i || (i == s.size || i == 0)
def numsI (s : ByteArray) : List Int := (nums s).map fun x : Nat => (x : Int)
theorem own_base {Y : Nat → Prop} {e : TypeId} {size n base : Nat} {v : Value} {xs : List Value} {W : World} (h : OwnS Y e size v n xs W) (hY : ∀ b, Y b → base ≤ b) : W.ownsRow base e size v n xs := by
  obtain ⟨⟨hl, h2⟩, hY'⟩ := h
  refine ⟨hl, ?_⟩
  rcases h2 with h2 | ⟨g, cap, cur, rfl, hb, hg, rest⟩
  · exact .inl h2
  · exact .inr ⟨g, cap, cur, rfl, hY g (hY' g rfl), hg, rest⟩
theorem _root_.Go.Kt.Keep.drewN {X : Nat → Prop} {A B : World} (h : Keep X A B) (j : Nat) : Keep X A (B.drewN j) := h.trans ⟨rfl, rfl, rfl, Nat.le_refl _, fun _ _ _ => rfl⟩
theorem Sl.drewN {k : IntKind} {W : World} {v : Value} {l : List Int} (h : Sl k W v l) (j : Nat) : Sl k (W.drewN j) v l := h

end Go.Proofs.YtjbkpcdpdifpnaaGreatDoor
/- The document's text of numbers. -/
namespace Go.Proofs.YtjbkpcdpdifpnaaGreatDoor
open Go Go.RowKit Go.Kt Go.Shelf

def encC (c : Int) : ByteArray :=
  if c < 128 then ⟨#[UInt8.ofNat c.toNat]⟩
  else if c < 2048 then ⟨#[UInt8.ofNat (192 + c / 64).toNat, UInt8.ofNat (128 + c % 64).toNat]⟩
  else if c < 65536 then ⟨#[UInt8.ofNat (224 + c / 4096).toNat, UInt8.ofNat (128 + c / 64 % 64).toNat, UInt8.ofNat (128 + c % 64).toNat]⟩
  else ⟨#[UInt8.ofNat (240 + c / 262144).toNat, UInt8.ofNat (128 + c / 4096 % 64).toNat, UInt8.ofNat (128 + c / 64 % 64).toNat, UInt8.ofNat (128 + c % 64).toNat]⟩
end Go.Proofs.YtjbkpcdpdifpnaaGreatDoor
/- What is read and made again: the bytes of a character; the text of a text's numbers; mended texts. -/
namespace Go.Proofs.YtjbkpcdpdifpnaaGreatDoor
open Go

def seg (s : ByteArray) (i j : Nat) : List UInt8 := (s.extract i j).data.toList
def fixF (s : ByteArray) : Nat → Nat → List UInt8
  | 0, _ => []
  | f + 1, i => if i < s.size then (Utf8.encode (Utf8.decode s i).1).data.toList ++ fixF s f (i + (Utf8.decode s i).2) else []
def fffd : List UInt8 := [239, 191, 189]
end Go.Proofs.YtjbkpcdpdifpnaaGreatDoor
/- Mended texts: how long they are; that they are right; U+FFFD byte by byte. -/
namespace Go.Proofs.YtjbkpcdpdifpnaaGreatDoor
open Go

def mendR (s by' : ByteArray) (whole : Bool) : Nat → Nat → List UInt8
  | 0, _ => []
  | f + 1, i => if i < s.size then (if wideI s i = 0 then rep by'.data.toList (if whole then 1 else badK s i) ++ mendR s by' whole f (i + badK s i) else seg s i (i + (wideI s i).toNat) ++ mendR s by' whole f (i + (wideI s i).toNat)) else []
def sumK (l : List (Nat × Nat)) : Nat := (l.map (·.2)).sum
end Go.Proofs.YtjbkpcdpdifpnaaGreatDoor
/- Texts that are right: made of characters; one behind the other; mended ones. -/
namespace Go.Proofs.YtjbkpcdpdifpnaaGreatDoor
open Go

def bt (l : List UInt8) (i : Nat) : Nat := (l.getD i 0).toNat
def Chr (c : List UInt8) : Prop := 1 ≤ c.length ∧ c.length ≤ 4 ∧ CharAt c.length (bt c 0) (bt c 1) (bt c 2) (bt c 3)
inductive Vd : List UInt8 → Prop
  | nil : Vd []
  | cons (c l : List UInt8) : Chr c → Vd l → Vd (c ++ l)
theorem Vd.append {a b : List UInt8} (ha : Vd a) (hb : Vd b) : Vd (a ++ b) := by
  induction ha with
  | nil => exact hb
  | cons c l hc _ ih => rw [List.append_assoc]; exact .cons c _ hc ih
theorem Vd.rep {a : List UInt8} (ha : Vd a) : ∀ n, Vd (rep a n)
  | 0 => .nil
  | n + 1 => (Vd.rep ha n).append ha

end Go.Proofs.YtjbkpcdpdifpnaaGreatDoor
/- Units there and back; the numbers of a text made of numbers. -/
namespace Go.Proofs.YtjbkpcdpdifpnaaGreatDoor
open Go

def fixR (x : Int) : Int := if Utf8.valid x then x else 65533
end Go.Proofs.YtjbkpcdpdifpnaaGreatDoor
/- Lists that were handed in; the kit's lent and kept lists of numbers; the document's text of numbers. -/
namespace Go.Proofs.YtjbkpcdpdifpnaaGreatDoor
open Go Go.RowKit Go.Kt Go.Shelf

def Slg (k : IntKind) (W : World) (v : Value) (l : List Int) : Prop :=
  ∃ ao cap, v = .slice ao l.length cap ∧ (l = [] ∨ ∃ a : Addr, ao = some a ∧ ∀ i x, l[i]? = some x → W.cell? (a.add i) = some (.int k x))
theorem Slg.below {k : IntKind} {A B : World} {v : Value} {l : List Int} (h : Slg k A v l) (hb : Below A.heap.size A B) : Slg k B v l := by
  obtain ⟨ao, cap, rfl, h⟩ := h
  refine ⟨ao, cap, rfl, ?_⟩
  rcases h with h | ⟨a, rfl, h⟩
  · exact .inl h
  · exact .inr ⟨a, rfl, fun i x hx => (hb.cell (lt_of_cell (h i x hx))).trans (h i x hx)⟩
def marks (n : Nat) : List Int := (List.range n).map fun i : Nat => (-91000 - i : Int)
abbrev i32s (l : List Int) : List Value := l.map fun x => .int .i32 x

end Go.Proofs.YtjbkpcdpdifpnaaGreatDoor
/- How many units; are all numbers characters; a list handed in held against one read. -/
namespace Go.Proofs.YtjbkpcdpdifpnaaGreatDoor
open Go Go.RowKit Go.Kt Go.Shelf

def CharsOut (l : List Int) (w : World) (e : Ending) (w' : World) : Prop := e = .returned (.bool (l.all Utf8.valid)) ∧ Drawn w w'
end Go.Proofs.YtjbkpcdpdifpnaaGreatDoor
/- The points of a text: the document's Of, and points.Of. -/
namespace Go.Proofs.YtjbkpcdpdifpnaaGreatDoor
open Go Go.RowKit Go.Kt Go.Shelf
attribute [local go_sem] Oper.semAt_some

def ptL (s : ByteArray) (l : List (Nat × Nat)) : List Int := l.map fun p => ((ptU s p.1).1 : Int)
def pts (s : ByteArray) : List Int := ptL s (units s)
def Made (B : Nat) (l : List Int) (w : World) (e : Ending) (w' : World) : Prop :=
  ∃ ao cap, e = .returned (.slice ao l.length cap) ∧ OwnS (fun b => B ≤ b) 21 1 (.slice ao l.length cap) l.length (i32s l) w' ∧ Below B w w'

end Go.Proofs.YtjbkpcdpdifpnaaGreatDoor
/- The document's text of numbers; the kit's look at a lent list. -/
namespace Go.Proofs.YtjbkpcdpdifpnaaGreatDoor
open Go Go.RowKit Go.Kt Go.Shelf

theorem OwnB.below {Y : Nat → Prop} {v : Value} {l : List UInt8} {A B : World} (h : OwnB Y v l A) (hb : Below A.heap.size A B) : OwnB Y v l B :=
  ⟨ownsF_keep h.1 (X := fun _ => False) (.of_all hb) (fun _ _ h => h), h.2⟩
end Go.Proofs.YtjbkpcdpdifpnaaGreatDoor
/- What is the same of any program: one element more behind a row whose head may be frozen. -/
namespace Go.Kt
open Go Go.RowKit
variable {P : Program}

theorem append_b (W : World) (t e : TypeId) (ht : P.underlying t = some (.slice e)) (hinfo : (P.info? e).map (fun i => (i.zero, i.size, i.bytes)) = some (some (.int .u8 0), 1, 1))
    {v : Value} {n : Nat} {xs : List Value} (hown : W.ownsRowF 0 e 1 v n xs) (x : Value) (hx1 : x.oneCell' = true) (h63 : n + 1 ≤ 140737488355328) :
    ∃ g cap w', (∀ ty, (Builtin.append_ #[t, t] ty #[v, .slice (some ⟨W.heap.size, 0, none⟩) 1 1]).run P (W.alloc (.cells #[x] e)) = .ok (.slice (some ⟨g, 0, none⟩) (n + 1) cap) w') ∧ w'.ownsRowF 0 e 1 (.slice (some ⟨g, 0, none⟩) (n + 1) cap) (n + 1) (xs ++ [x]) ∧
      Keep (fun b => v.ownBlock = some b) W w' ∧ (v.ownBlock = some g ∨ W.heap.size < g) ∧ W.heap.size < w'.heap.size := by
  obtain ⟨i, hi, hz, hs1, hb1⟩ := info_parts hinfo
  have hc : ∀ j u, [x][j]? = some u → (W.alloc (.cells #[x] e)).cell? ((⟨W.heap.size, 0, none⟩ : Addr).add j) = some u := fun j u hj => by
    have hh := World.alloc_heap_new W (.cells #[x] e)
    rw [Addr.add_lit, Lib.cell_of_heap hh]
    simpa using hj
  have h1 : ∀ u ∈ [x], u.oneCell' = true := by intro u hu; simp at hu; subst hu; exact hx1
  have hm : n + 1 ≤ maxLen := by unfold maxLen; omega
  have hown' : (W.alloc (.cells #[x] e)).ownsRowF 0 e 1 v n xs := by
    refine ⟨hown.1, ?_⟩
    rcases hown.2 with h2 | ⟨g, cap, cur, fz, rfl, hb, hg, rest⟩
    · exact .inl h2
    · exact .inr ⟨g, cap, cur, fz, rfl, hb, ((Keep.refl (fun _ => False) W).alloc _).heap hg (fun h => h), rest⟩
  obtain ⟨v', w', hrun, r1, r2, r3⟩ := run_append_ownF (P := P) (W.alloc (.cells #[x] e)) 0 t 0 e i (.int .u8 0) 1 1 ht hi hz hs1 hb1 rfl (by omega) v n xs hown' ⟨W.heap.size, 0, none⟩ 1 1 [x] rfl hc h1 hm (by omega) (Nat.zero_le _)
  have hrun' : ∀ ty, (Builtin.append_ #[t, t] ty #[v, .slice (some ⟨W.heap.size, 0, none⟩) 1 1]).run P (W.alloc (.cells #[x] e)) = .ok v' w' := fun ty => hrun
  have hK : Keep (fun b => v.ownBlock = some b) W w' := ((Keep.refl _ W).alloc _).trans (keep_grown r2)
  have hsz' : W.heap.size < w'.heap.size := by have := r2.size; simp at this; omega
  rcases r1.2 with ⟨_, h⟩ | ⟨g, cap, cur, fz, rfl, hb, hg, rest⟩
  · omega
  refine ⟨g, cap, w', hrun', r1, hK, ?_, hsz'⟩
  rcases hown'.2 with ⟨hv, hn⟩ | ⟨g0, cap0, cur0, fz0, hv, hb0, hg0, hfz, hnc, hcm, hcs, _⟩
  · right
    obtain ⟨v2, w2, hrun2, q1, _⟩ := run_append_ownF (P := P) (W.alloc (.cells #[x] e)) (W.heap.size + 1) t 0 e i (.int .u8 0) 1 1 ht hi hz hs1 hb1 rfl (by omega) v n xs ⟨hown'.1, .inl ⟨hv, hn⟩⟩ ⟨W.heap.size, 0, none⟩ 1 1 [x] rfl hc h1 hm (by omega) (by simp)
    rw [hrun] at hrun2
    injection hrun2 with e1 e2
    subst e1; subst e2
    exact (q1.lt g rfl).1
  · subst hv
    by_cases hroom : n + 1 ≤ cap0
    · left
      have hr := run_append_roomF (P := P) (W.alloc (.cells #[x] e)) t 0 e i ht hi g0 n cap0 cur0 fz0 hg0 (by rw [hs1]; omega) ⟨W.heap.size, 0, none⟩ 1 1 [x] (by rw [hs1]; rfl) hc h1 hroom (by rw [hs1, hcs]; simp; omega)
      rw [hrun] at hr
      injection hr with e1 e2
      injection e1 with e1 _ _
      injection e1 with e1
      injection e1 with e1
      subst e1
      rfl
    · right
      have holds : ∀ j u, xs[j]? = some u → (W.alloc (.cells #[x] e)).cell? ((⟨g0, 0, none⟩ : Addr).add j) = some u := hown'.cells (g := g0) rfl
      have hr := run_append_grow (P := P) (W.alloc (.cells #[x] e)) t 0 e i (.int .u8 0) ht hi hz ⟨g0, 0, none⟩ n cap0 xs (by rw [hs1]; exact hown'.1) holds ⟨W.heap.size, 0, none⟩ 1 1 [x] (by rw [hs1]; rfl) hc (by omega) (by omega) (by rw [hb1]; exact growslice_fits (by omega) (by omega))
      rw [hrun] at hr
      injection hr with e1 e2
      injection e1 with e1 _ _
      injection e1 with e1
      injection e1 with e1
      subst e1
      simp
end Go.Kt
/- The text of points: the document's Bytes, Point. -/
namespace Go.Proofs.YtjbkpcdpdifpnaaGreatDoor
open Go Go.RowKit Go.Kt Go.Shelf

def pointB (c : Int) : Bool := charB c || decide (1114240 ≤ c ∧ c ≤ 1114367)
def bytesP (c : Int) : List UInt8 := if 1114112 < c then [UInt8.ofNat (c - 1114112).toNat] else (encC c).data.toList
def textP (l : List Int) : List UInt8 := l.flatMap bytesP
def NewB (l : List UInt8) (w : World) (e : Ending) (w' : World) : Prop :=
  e = .returned (.slice (some ⟨w.heap.size, 0, none⟩) l.length l.length) ∧ w' = w.alloc (.cells (Lib.byteCells l).toArray 5)

theorem ofNat_toNat (x : Int) (h0 : 0 ≤ x) (h1 : x < 256) : (((UInt8.ofNat x.toNat).toNat : Nat) : Int) = x := by
  simp; omega

end Go.Proofs.YtjbkpcdpdifpnaaGreatDoor
/- The text of points: the document's Text. -/
namespace Go.Proofs.YtjbkpcdpdifpnaaGreatDoor
open Go Go.RowKit Go.Kt Go.Shelf

structure FirstBad (l : List Int) (K : Nat) : Prop where
  le : K ≤ l.length
  good : ∀ i x, i < K → l[i]? = some x → pointB x = true
  bad : ∀ x, l[K]? = some x → pointB x = false
def TextAns (l : List Int) (K : Nat) (w : World) (e : Ending) (w' : World) : Prop :=
  (K = l.length ∧ e = .returned (.tuple #[.string ⟨(textP l).toArray⟩, .int .i64 (-1)]) ∨ K < l.length ∧ e = .returned (.tuple #[.string ⟨#[]⟩, .int .i64 K])) ∧ Below w.heap.size w w'

theorem OwnB.weaken {Y Z : Nat → Prop} {v : Value} {l : List UInt8} {A : World} (h : OwnB Y v l A) (hY : ∀ b, Y b → Z b) : OwnB Z v l A := ⟨h.1, fun g hg => hY g (h.2 g hg)⟩
theorem OwnB.keep {Y X : Nat → Prop} {v : Value} {l : List UInt8} {A B : World} (h : OwnB Y v l A) (hk : Keep X A B) (hX : ∀ b, X b → ¬ Y b) : OwnB Y v l B :=
  ⟨ownsF_keep h.1 hk (fun g hg hx => hX g hx (h.2 g hg)), h.2⟩
theorem OwnB.lt {Y : Nat → Prop} {v : Value} {l : List UInt8} {A : World} (h : OwnB Y v l A) : OwnB (fun b => Y b ∧ b < A.heap.size) v l A := ⟨h.1, fun g hg => ⟨h.2 g hg, (h.1.lt g hg).2⟩⟩

end Go.Proofs.YtjbkpcdpdifpnaaGreatDoor
/- The contracts of the library functions that layer 2 calls besides (strings.Builder.Grow, unicode/utf8.ValidRune), laid over this translation. -/
namespace Go.Proofs
open Go.Shelf
end Go.Proofs
/- Errors of package api: errors.Is at a fault and at a number; errors.As at a fault. -/
namespace Go.Proofs.YtjbkpcdpdifpnaaGreatDoor
open Go Go.RowKit Go.Kt Go.Extern.Stop Go.Stop Go.Extern

abbrev fv (k l a : Int) : Value := .agg #[.int .i64 k, .int .i64 l, .int .i64 a]

theorem errno_eq (a b : Int) (w : World) : (binOp .eql 38 (.iface 94 (.int .i64 a)) (.iface 94 (.int .i64 b))).run Tryz.prog w = .ok (.bool (a == b)) w := by
  obtain ⟨i, hi, hc⟩ := Option.map_eq_some_iff.1 (show (Tryz.prog.info? 94).map (·.comparable) = some true by kernel_rfl)
  have h1 : ∀ d, (Op.equalIn (d + 2) 38 (.iface 94 (.int .i64 a)) (.iface 94 (.int .i64 b))).run Tryz.prog w = .ok (a == b) w := fun d => by
    simp [Op.equalIn, run_underlying Tryz.underlying38, run_underlying Tryz.underlying94, typeInfo, hi, hc]
  simp only [binOp]
  simp [Op.equal, Op.maxDepth, h1 9998]

def xComparable : Array Value → Sem Value := ReflectliteType.method fun t => do Rtype.noPackHeld "Comparable" t; pure (.bool (← typeInfo t).comparable)
theorem errTypeOf (v : Value) (w : World) : (ReflectliteType.typeOf #[.iface 94 v]).run Tryz.prog w = .ok (.iface 300 (.agg #[.pointer (some ⟨8, 94, none⟩)])) w := by kernel_rfl
theorem errComparable (w : World) : (xComparable #[.agg #[.pointer (some ⟨8, 94, none⟩)]]).run Tryz.prog w = .ok (.bool true) w := by kernel_rfl
theorem errMethodComparable (v : Value) (w : World) : (Go.method 466 300 v "Comparable").run Tryz.prog w = .ok (227, v) w := by kernel_rfl
theorem errNoIsF (v : Value) (xT : TypeId) (w : World) : (Instr.typeAssert (.iface 96 v) xT 312 true).run Tryz.prog w = .ok (.tuple #[.nilIface, .bool false]) w := run_typeAssert_lacksB Tryz.underlying312 (by kernel_rfl) (by kernel_rfl) v xT w
theorem errNoIsE (v : Value) (xT : TypeId) (w : World) : (Instr.typeAssert (.iface 94 v) xT 312 true).run Tryz.prog w = .ok (.tuple #[.nilIface, .bool false]) w := run_typeAssert_lacksB Tryz.underlying312 (by kernel_rfl) (by kernel_rfl) v xT w
theorem errNoUnwrapE (v : Value) (xT : TypeId) (w : World) : (Instr.typeAssert (.iface 94 v) xT 307 true).run Tryz.prog w = .ok (.tuple #[.nilIface, .bool false]) w := run_typeAssert_lacksB Tryz.underlying307 (by kernel_rfl) (by kernel_rfl) v xT w
theorem errNoUnwrapsE (v : Value) (xT : TypeId) (w : World) : (Instr.typeAssert (.iface 94 v) xT 309 true).run Tryz.prog w = .ok (.tuple #[.nilIface, .bool false]) w := run_typeAssert_lacksB Tryz.underlying309 (by kernel_rfl) (by kernel_rfl) v xT w
theorem errHasUnwrapF (v : Value) (xT : TypeId) (w : World) : (Instr.typeAssert (.iface 96 v) xT 307 true).run Tryz.prog w = .ok (.tuple #[.iface 96 v, .bool true]) w := run_typeAssert_hasB Tryz.underlying307 (by kernel_rfl) v xT w
theorem errMethodUnwrap (v : Value) (w : World) : (Go.method 466 96 v "Unwrap").run Tryz.prog w = .ok (220, v) w := by kernel_rfl

set_option maxRecDepth 100000 in
theorem is_fault (k l a n : Int) (w : World) :
    Calls Tryz.prog 138 #[.iface 96 (fv k l a), .iface 94 (.int .i64 n)] w fun e w' => e = .returned (.bool (k == n)) ∧ Below w.heap.size w w' := by
  have h8 := @run_callFunc_extern Tryz.prog 157 _ ReflectliteType.typeOf Tryz.func157 (by kernel_rfl) (by kernel_rfl) (by kernel_rfl) (by kernel_rfl)
  have h32 := @run_callFunc_extern Tryz.prog 227 _ xComparable Tryz.func227 (by kernel_rfl) (by kernel_rfl) (by kernel_rfl) (by kernel_rfl)
  have tT := errTypeOf
  have cT := errComparable
  have mR := errMethodComparable
  have nF := errNoIsF
  have nE := errNoIsE
  have uE := errNoUnwrapE
  have vE := errNoUnwrapsE
  have uF := errHasUnwrapF
  have mU := errMethodUnwrap
  have hty := run_eql_iface_types (P := Tryz.prog) 96 94 (fv k l a) (.int .i64 n) Tryz.underlying38 (by decide)
  have heq := errno_eq k n
  by_cases hkn : k = n
  · subst hkn
    have hb : (k == k) = true := by simp
    rw [hb] at heq ⊢
    clear hb
    go_enter Tryz.func138, Tryz.ntmps138
    go_wp2
    refine wp_loop_rounds 2 ?_
    rw [rounds_succ]
    go_wp2
    rw [rounds_succ]
    go_wp2
    go_ret
    exact ⟨rfl, (Below.refl _ _).alloc (Nat.le_refl _) _⟩
  · have hb : (k == n) = false := by simp [hkn]
    rw [hb] at heq ⊢
    clear hb
    go_enter Tryz.func138, Tryz.ntmps138
    go_wp2
    refine wp_loop_rounds 2 ?_
    rw [rounds_succ]
    go_wp2
    rw [rounds_succ]
    go_wp2
    go_ret
    exact ⟨rfl, (Below.refl _ _).alloc (Nat.le_refl _) _⟩

end Go.Proofs.YtjbkpcdpdifpnaaGreatDoor
/- errors.As of a fault, at a fault's variable. -/
namespace Go.Proofs.YtjbkpcdpdifpnaaGreatDoor
open Go Go.RowKit Go.Kt Go.Extern.Stop Go.Stop Go.Extern

def xValueOf (args : Array Value) : Sem Value := ReflectliteValue.unpack (args.getD 0 (.tuple #[]))
def xType : Array Value → Sem Value := ReflectliteValue.methodAny (ReflectliteValue.valueError "reflectlite.Value.Type" 0) fun t _ _ _ => ReflectliteType.toType t
def xKind : Array Value → Sem Value := ReflectliteType.abiMethod fun t => do pure (.int .u8 (← Rtype.kind t))
def xIsNil : Array Value → Sem Value := ReflectliteValue.method (ReflectliteValue.valueError "reflectlite.Value.IsNil" 0) ReflectliteValue.isNil
def xElemT : Array Value → Sem Value := ReflectliteType.method ReflectliteType.elem
def xImplements : Array Value → Sem Value := ReflectliteType.relation "Implements" ReflectliteType.implements_
def xAssignable : Array Value → Sem Value := ReflectliteType.relation "AssignableTo" ReflectliteType.assignableTo
def xElemV : Array Value → Sem Value := ReflectliteValue.method (ReflectliteValue.valueError "reflectlite.Value.Elem" 0) ReflectliteValue.elem
def xSet : Array Value → Sem Value := ReflectliteValue.set

abbrev tyH (t : Nat) : Value := .pointer (some ⟨8, t, none⟩)
abbrev vagg (t : Nat) (a : Addr) (f : Int) : Value := .agg #[tyH t, .pointer (some a), .int .u64 f]

theorem asValueOfP (t : Addr) (w : World) : (xValueOf #[.iface 255 (.pointer (some t))]).run Tryz.prog w
    = .ok (vagg 255 ⟨w.heap.size, 0, none⟩ 150) (w.alloc (.cells #[.pointer (some t)] 255)) := by kernel_rfl
theorem asTypeP (a : Addr) (w : World) : (xType #[vagg 255 a 150]).run Tryz.prog w = .ok (.iface 300 (.agg #[tyH 255])) w := by kernel_rfl
theorem asMethodKind (h : Value) (w : World) : (Go.method 466 300 (.agg #[h]) "Kind").run Tryz.prog w = .ok (215, h) w := by kernel_rfl
theorem asKindP (w : World) : (xKind #[tyH 255]).run Tryz.prog w = .ok (.int .u8 22) w := by kernel_rfl
theorem asKindF (w : World) : (xKind #[tyH 96]).run Tryz.prog w = .ok (.int .u8 25) w := by kernel_rfl

theorem rlm (z : Sem Value) (f : TypeId → Addr → Nat → Nat → Sem Value) (v : Value) :
    ReflectliteValue.method z f #[v] = (do match ← ReflectliteValue.parts v with | none => z | some (t, a, fl) => f t a fl (fl % 32)) := rfl
theorem asPartsP (a : Addr) (w : World) : (ReflectliteValue.parts (vagg 255 a 150)).run Tryz.prog w = .ok (some (255, a, 150)) w := by kernel_rfl
theorem asIsNil (a p : Addr) (W : World) (ha : W.cell? a = some (.pointer (some p))) : (xIsNil #[vagg 255 a 150]).run Tryz.prog W = .ok (.bool false) W := by
  unfold xIsNil
  rw [rlm]
  simp only [Sem.run_bind, asPartsP, Result.andThen]
  simp [ReflectliteValue.isNil, loadVar, isAgg, underlying, Tryz.underlying255, ha, Result.andThen]
theorem asMethodElem (h : Value) (w : World) : (Go.method 466 300 (.agg #[h]) "Elem").run Tryz.prog w = .ok (228, .agg #[h]) w := by kernel_rfl
theorem asMethodImplements (h : Value) (w : World) : (Go.method 466 300 (.agg #[h]) "Implements").run Tryz.prog w = .ok (229, .agg #[h]) w := by kernel_rfl
theorem asMethodAssignable (h : Value) (w : World) : (Go.method 466 300 (.agg #[h]) "AssignableTo").run Tryz.prog w = .ok (226, .agg #[h]) w := by kernel_rfl
theorem asElemT (w : World) : (xElemT #[.agg #[tyH 255]]).run Tryz.prog w = .ok (.iface 300 (.agg #[tyH 96])) w := by kernel_rfl
theorem asImplements (w : World) : (xImplements #[.agg #[tyH 96], .iface 300 (.agg #[tyH 38])]).run Tryz.prog w = .ok (.bool true) w := by kernel_rfl
theorem asTypeOfF (v : Value) (w : World) : (ReflectliteType.typeOf #[.iface 96 v]).run Tryz.prog w = .ok (.iface 300 (.agg #[tyH 96])) w := by kernel_rfl
theorem asAssignable (w : World) : (xAssignable #[.agg #[tyH 96], .iface 300 (.agg #[tyH 96])]).run Tryz.prog w = .ok (.bool true) w := by kernel_rfl
theorem asValueOfF (k l a : Int) (w : World) : (xValueOf #[.iface 96 (fv k l a)]).run Tryz.prog w
    = .ok (vagg 96 ⟨w.heap.size, 0, none⟩ 153) (w.alloc (.cells #[.int .i64 k, .int .i64 l, .int .i64 a] 96)) := by kernel_rfl
theorem asElemOfP (w : World) : (Rtype.elem? 255).run Tryz.prog w = .ok (some 96) w := by kernel_rfl
theorem asMkF (p : Addr) (w : World) : (ReflectliteValue.mk 96 p ReflectliteValue.flagAddr).run Tryz.prog w = .ok (vagg 96 p 409) w := by kernel_rfl
theorem asElemV (a p : Addr) (W : World) (ha : W.cell? a = some (.pointer (some p))) : (xElemV #[vagg 255 a 150]).run Tryz.prog W = .ok (vagg 96 p 409) W := by
  unfold xElemV
  rw [rlm]
  simp only [Sem.run_bind, asPartsP, Result.andThen]
  simp [ReflectliteValue.elem, loadVar, isAgg, underlying, Tryz.underlying255, ha, Result.andThen, asElemOfP, asMkF]
theorem rls (v x : Value) : ReflectliteValue.set #[v, x] = (do
    let (some (dst, a, fl), some (src, b, _)) := (← ReflectliteValue.parts v, ← ReflectliteValue.parts x)
      | unsupported (.noEntry "extern/(internal/reflectlite.Value).Set.zeroValue")
    if fl / ReflectliteValue.flagAddr % 2 == 0 then unsupported (.noEntry "extern/(internal/reflectlite.Value).Set.unaddressable")
    let val ← loadVar src b
    if ← Rtype.directlyAssignable dst src then storeVar dst a val
    else if ← Rtype.implements dst src then
      if (← Rtype.kind src) == 20 then
        match val with
        | .nilIface => unsupported (.noEntry "extern/reflectlite: a nil value of one interface type handed on as a value of another")
        | _ => storeVar dst a val
      else storeVar dst a (.iface src val)
    else panicString ("reflectlite.Set: value of type " ++ (← Rtype.spelt src) ++ " is not assignable to type " ++ (← Rtype.spelt dst))
    pure (.tuple #[])) := rfl
theorem asPartsFa (a : Addr) (w : World) : (ReflectliteValue.parts (vagg 96 a 409)).run Tryz.prog w = .ok (some (96, a, 409)) w := by kernel_rfl
theorem asPartsF (a : Addr) (w : World) : (ReflectliteValue.parts (vagg 96 a 153)).run Tryz.prog w = .ok (some (96, a, 153)) w := by kernel_rfl
theorem asDirect (w : World) : (Rtype.directlyAssignable 96 96).run Tryz.prog w = .ok true w := by kernel_rfl
theorem asLoad (b : Nat) (x y z : Value) (t : TypeId) (fr : Nat × Nat) (W : World) (hb : W.heap[b]? = some (.cells #[x, y, z] t fr)) : (loadVar 96 ⟨b, 0, none⟩).run Tryz.prog W = .ok (.agg #[x, y, z]) W := by
  have h0 : W.cell? ⟨b, 0, none⟩ = some x := by rw [World.cell?, hb]; rfl
  have h1 : W.cell? ⟨b, 1, none⟩ = some y := by rw [World.cell?, hb]; rfl
  have h2 : W.cell? ⟨b, 2, none⟩ = some z := by rw [World.cell?, hb]; rfl
  simp [loadVar, isAgg, underlying, Tryz.underlying96, Result.andThen, loadCells, loadCellsFrom, Addr.add, h0, h1, h2]
theorem asStore (g : Nat) (x y z x' y' z' : Value) (t : TypeId) (W : World) (hg : W.heap[g]? = some (.cells #[x, y, z] t (0, 0))) (k1 : x'.oneCell' = true) (k2 : y'.oneCell' = true) (k3 : z'.oneCell' = true) : (storeVar 96 ⟨g, 0, none⟩ (.agg #[x', y', z'])).run Tryz.prog W = .ok () (((W.setCell ⟨g, 0, none⟩ x').setCell ⟨g, 1, none⟩ y').setCell ⟨g, 2, none⟩ z') := by
  have e1 : (W.setCell ⟨g, 0, none⟩ x').heap[g]? = some (.cells #[x', y, z] t (0, 0)) := by simp [World.setCell, Array.getElem?_modify, hg]
  have e2 : ((W.setCell ⟨g, 0, none⟩ x').setCell ⟨g, 1, none⟩ y').heap[g]? = some (.cells #[x', y', z] t (0, 0)) := by
    rw [World.setCell, Array.getElem?_modify]; simp [e1]
  have h0 : W.cell? ⟨g, 0, none⟩ = some x := by rw [World.cell?, hg]; rfl
  have h1 : (W.setCell ⟨g, 0, none⟩ x').cell? ⟨g, 1, none⟩ = some y := by rw [World.cell?, e1]; rfl
  have h2 : ((W.setCell ⟨g, 0, none⟩ x').setCell ⟨g, 1, none⟩ y').cell? ⟨g, 2, none⟩ = some z := by rw [World.cell?, e2]; rfl
  have f0 : W.frozen? ⟨g, 0, none⟩ = false := by simp [World.frozen?, hg]
  have f1 : (W.setCell ⟨g, 0, none⟩ x').frozen? ⟨g, 1, none⟩ = false := by simp [World.frozen?, e1]
  have f2 : ((W.setCell ⟨g, 0, none⟩ x').setCell ⟨g, 1, none⟩ y').frozen? ⟨g, 2, none⟩ = false := by simp [World.frozen?, e2]
  have c : (Value.agg #[x', y', z']).cells = #[x', y', z'] := rfl
  simp [storeVar, c, storeCells, Addr.add, Result.andThen]
  simp [run_store Tryz.prog _ _ _ _ k1, run_store Tryz.prog _ _ _ _ k2, run_store Tryz.prog _ _ _ _ k3, h0, f0, h1, f1, h2, f2]
theorem asSet (g b : Nat) (x y z x' y' z' : Value) (t tb : TypeId) (fr : Nat × Nat) (W : World) (hb : W.heap[b]? = some (.cells #[x', y', z'] tb fr)) (hg : W.heap[g]? = some (.cells #[x, y, z] t (0, 0))) (k1 : x'.oneCell' = true) (k2 : y'.oneCell' = true) (k3 : z'.oneCell' = true) :
    (xSet #[vagg 96 ⟨g, 0, none⟩ 409, vagg 96 ⟨b, 0, none⟩ 153]).run Tryz.prog W = .ok (.tuple #[]) (((W.setCell ⟨g, 0, none⟩ x').setCell ⟨g, 1, none⟩ y').setCell ⟨g, 2, none⟩ z') := by
  unfold xSet
  rw [rls]
  simp only [Sem.run_bind, asPartsFa, asPartsF, Result.andThen]
  simp [ReflectliteValue.flagAddr, asLoad b x' y' z' tb fr W hb, Result.andThen, asDirect, asStore g x y z x' y' z' t W hg k1 k2 k3]

end Go.Proofs.YtjbkpcdpdifpnaaGreatDoor
/- errors.As of a fault, at a fault's variable: the walk. -/
namespace Go.Proofs.YtjbkpcdpdifpnaaGreatDoor
open Go Go.RowKit Go.Kt Go.Extern.Stop Go.Stop Go.Extern

def AsOut (g : Nat) (k l a : Int) (w : World) (e : Ending) (w' : World) : Prop :=
  e = .returned (.bool true) ∧ w'.heap[g]? = some (.cells #[.int .i64 k, .int .i64 l, .int .i64 a] 96 (0, 0)) ∧ Keep (fun b => b = g) w w'

set_option maxRecDepth 100000 in
set_option maxHeartbeats 4000000 in
theorem as_fault (k l a x y z : Int) (g : Nat) (w : World) (hE : w.cell? ⟨1, 0, none⟩ = some (.iface 300 (.agg #[tyH 38]))) (hg : w.heap[g]? = some (.cells #[.int .i64 x, .int .i64 y, .int .i64 z] 96 (0, 0))) :
    Calls Tryz.prog 137 #[.iface 96 (fv k l a), .iface 255 (.pointer (some ⟨g, 0, none⟩))] w (AsOut g k l a w) := by
  have h6 := @run_callFunc_extern Tryz.prog 153 _ xValueOf Tryz.func153 (by kernel_rfl) (by kernel_rfl) (by kernel_rfl) (by kernel_rfl)
  have h7 := @run_callFunc_extern Tryz.prog 154 _ xType Tryz.func154 (by kernel_rfl) (by kernel_rfl) (by kernel_rfl) (by kernel_rfl)
  have h8 := @run_callFunc_extern Tryz.prog 155 _ xIsNil Tryz.func155 (by kernel_rfl) (by kernel_rfl) (by kernel_rfl) (by kernel_rfl)
  have h27 := @run_callFunc_extern Tryz.prog 215 _ xKind Tryz.func215 (by kernel_rfl) (by kernel_rfl) (by kernel_rfl) (by kernel_rfl)
  have h37 := @run_callFunc_extern Tryz.prog 228 _ xElemT Tryz.func228 (by kernel_rfl) (by kernel_rfl) (by kernel_rfl) (by kernel_rfl)
  have h38 := @run_callFunc_extern Tryz.prog 229 _ xImplements Tryz.func229 (by kernel_rfl) (by kernel_rfl) (by kernel_rfl) (by kernel_rfl)
  have h10 := @run_callFunc_extern Tryz.prog 157 _ ReflectliteType.typeOf Tryz.func157 (by kernel_rfl) (by kernel_rfl) (by kernel_rfl) (by kernel_rfl)
  have h35 := @run_callFunc_extern Tryz.prog 226 _ xAssignable Tryz.func226 (by kernel_rfl) (by kernel_rfl) (by kernel_rfl) (by kernel_rfl)
  have h11 := @run_callFunc_extern Tryz.prog 171 _ xElemV Tryz.func171 (by kernel_rfl) (by kernel_rfl) (by kernel_rfl) (by kernel_rfl)
  have h12 := @run_callFunc_extern Tryz.prog 172 _ xSet Tryz.func172 (by kernel_rfl) (by kernel_rfl) (by kernel_rfl) (by kernel_rfl)
  have tO := asTypeOfF
  have mA := asMethodAssignable
  have aF := asAssignable
  have vF := asValueOfF
  have f6 := asValueOfP
  have f7 := asTypeP
  have mK := asMethodKind
  have mE := asMethodElem
  have mI := asMethodImplements
  have kP := asKindP
  have kF := asKindF
  have eT := asElemT
  have iF := asImplements
  have hlt : 1 < w.heap.size := lt_of_cell hE
  have hgl : g < w.heap.size := (Array.getElem?_eq_some_iff.1 hg).1
  have n8 := asIsNil ⟨w.heap.size, 0, none⟩ ⟨g, 0, none⟩ ((w.alloc (.cells #[.pointer (some ⟨g, 0, none⟩)] 255)).alloc (.cells #[tyH 255, .pointer (some ⟨w.heap.size, 0, none⟩), .int .u64 150] 272)) (by simp)
  have hg2 : ((w.alloc (.cells #[.pointer (some ⟨g, 0, none⟩)] 255)).alloc (.cells #[tyH 255, .pointer (some ⟨w.heap.size, 0, none⟩), .int .u64 150] 272)).cell? ⟨1, 0, none⟩ = some (.iface 300 (.agg #[tyH 38])) := by
    rw [World.cell?_alloc_lt _ _ ⟨1, 0, none⟩ (by simp <;> omega), World.cell?_alloc_lt _ _ ⟨1, 0, none⟩ hlt]; exact hE
  have el := asElemV ⟨w.heap.size, 0, none⟩ ⟨g, 0, none⟩ (((w.alloc (.cells #[.pointer (some ⟨g, 0, none⟩)] 255)).alloc (.cells #[tyH 255, .pointer (some ⟨w.heap.size, 0, none⟩), .int .u64 150] 272)).alloc (.cells #[tyH 255, .pointer (some ⟨w.heap.size, 0, none⟩), .int .u64 150] 272)) (by rw [World.cell?_alloc_lt _ _ ⟨w.heap.size, 0, none⟩ (by simp; omega)]; simp)
  have hg4 : ((((w.alloc (.cells #[.pointer (some ⟨g, 0, none⟩)] 255)).alloc (.cells #[tyH 255, .pointer (some ⟨w.heap.size, 0, none⟩), .int .u64 150] 272)).alloc (.cells #[tyH 255, .pointer (some ⟨w.heap.size, 0, none⟩), .int .u64 150] 272)).alloc (.cells #[.int .i64 k, .int .i64 l, .int .i64 a] 96)).heap[g]? = some (.cells #[.int .i64 x, .int .i64 y, .int .i64 z] 96 (0, 0)) :=
    alloc_old (alloc_old (alloc_old (alloc_old hg)))
  have hb4 : ((((w.alloc (.cells #[.pointer (some ⟨g, 0, none⟩)] 255)).alloc (.cells #[tyH 255, .pointer (some ⟨w.heap.size, 0, none⟩), .int .u64 150] 272)).alloc (.cells #[tyH 255, .pointer (some ⟨w.heap.size, 0, none⟩), .int .u64 150] 272)).alloc (.cells #[.int .i64 k, .int .i64 l, .int .i64 a] 96)).heap[w.heap.size + 1 + 1 + 1]? = some (.cells #[.int .i64 k, .int .i64 l, .int .i64 a] 96 (0, 0)) := by
    exact alloc_at (by simp)
  have st := asSet g (w.heap.size + 1 + 1 + 1) _ _ _ _ _ _ _ _ _ ((((w.alloc (.cells #[.pointer (some ⟨g, 0, none⟩)] 255)).alloc (.cells #[tyH 255, .pointer (some ⟨w.heap.size, 0, none⟩), .int .u64 150] 272)).alloc (.cells #[tyH 255, .pointer (some ⟨w.heap.size, 0, none⟩), .int .u64 150] 272)).alloc (.cells #[.int .i64 k, .int .i64 l, .int .i64 a] 96)) hb4 hg4 rfl rfl rfl
  have fin : AsOut g k l a w (.returned (.bool true)) (((((((w.alloc (.cells #[.pointer (some ⟨g, 0, none⟩)] 255)).alloc (.cells #[tyH 255, .pointer (some ⟨w.heap.size, 0, none⟩), .int .u64 150] 272)).alloc (.cells #[tyH 255, .pointer (some ⟨w.heap.size, 0, none⟩), .int .u64 150] 272)).alloc (.cells #[.int .i64 k, .int .i64 l, .int .i64 a] 96)).setCell ⟨g, 0, none⟩ (.int .i64 k)).setCell ⟨g, 1, none⟩ (.int .i64 l)).setCell ⟨g, 2, none⟩ (.int .i64 a)) := by
    refine ⟨rfl, ?_, ?_⟩
    · simp only [World.setCell, Array.getElem?_modify, hg4]
      simp
    · exact ((Keep.setCell (X := fun b => b = g) (Keep.alloc (Keep.alloc (Keep.alloc (Keep.alloc (Keep.refl _ _) _) _) _) _) (p := ⟨g, 0, none⟩) rfl _).setCell (p := ⟨g, 1, none⟩) rfl _).setCell (p := ⟨g, 2, none⟩) rfl _
  have Fin := Lib.hid fin
  clear fin hg4 hb4 hg
  go_enter Tryz.func137, Tryz.ntmps137
  go_wp2
  refine wp_loop_rounds 1 ?_
  rw [rounds_succ]
  go_wp2
  go_ret
  exact Fin.out
end Go.Proofs.YtjbkpcdpdifpnaaGreatDoor
/- The kit's look at an error: its number, its place. -/
namespace Go.Proofs.YtjbkpcdpdifpnaaGreatDoor
open Go Go.RowKit Go.Kt

set_option maxRecDepth 100000 in
theorem num_fault (k l a : Int) (w : World) (h1 : 1 ≤ k) (h25 : k ≤ 25) :
    Calls Tryz.prog 100 #[.iface 96 (fv k l a)] w fun e w' => e = .returned (.int .i64 k) ∧ Below w.heap.size w w' := by
  go_enter Tryz.func100, Tryz.ntmps100
  go_wp2
  go_loopw [3, 4] (fun f v wr => ∃ (i : Nat) (c : Int), 1 ≤ i ∧ i ≤ 26 ∧ v = .int .i64 i ∧ f = .int .i64 c ∧ ((i : Int) ≤ k ∧ c = 0 ∨ k < i ∧ c = k) ∧ Below w.heap.size w wr) (fun _ v _ => 26 - (RowKit.intOf v).toNat)
  case atStart => exact ⟨1, 0, by omega, by omega, rfl, rfl, .inl ⟨by omega, rfl⟩, Below.refl _ _⟩
  case round =>
    obtain ⟨i, c, hi1, hi, rfl, rfl, hc, hb⟩ := hrel
    have hz := hb.size
    by_cases hlt : i ≤ 25
    · have C := Lib.hid (is_fault k l a i wr)
      have HC := Lib.hid hc
      by_cases hk : k = i
      · have hkb : (k == (i : Int)) = true := by simp [hk]
        have c0 : c = 0 := by rcases hc with h | h; exact h.2; omega
        have HK := Lib.hid hk
        subst c0
        rw [hkb] at C
        clear hkb hk hc
        go_wp2_with fail
        refine C.out.mono ?_
        rintro e w1 ⟨rfl, hb1⟩
        go_wp2
        go_roundw
        case rel => exact ⟨i + 1, i, by omega, by omega, by go_num, rfl, .inr ⟨by have := HK.out; omega, HK.out.symm⟩, hb.trans (hb1.mono hz)⟩
        case measure => simp [RowKit.intOf]; omega
      · have hkb : (k == (i : Int)) = false := by simp [hk]
        have HK := Lib.hid hk
        rw [hkb] at C
        clear hkb hk hc
        go_wp2_with fail
        refine C.out.mono ?_
        rintro e w1 ⟨rfl, hb1⟩
        go_wp2
        go_roundw
        case rel => exact ⟨i + 1, c, by omega, by omega, by go_num, rfl, by have := HK.out; have := HC.out; omega, hb.trans (hb1.mono hz)⟩
        case measure => simp [RowKit.intOf]; omega
    · have hck : c = k := by rcases hc with h | h; omega; exact h.2
      have C := Lib.hid (is_fault k l a 0 wr)
      have hkb : (k == (0 : Int)) = false := by simp; omega
      have C1 := C
      rw [hkb] at C1
      clear C hc
      subst hck
      go_wp2_with fail
      refine C1.out.mono ?_
      rintro e w1 ⟨rfl, hb1⟩
      go_wp2
      go_ret
      exact ⟨rfl, hb.trans (hb1.mono hz)⟩

abbrev ErrT (w : World) : Prop := w.cell? ⟨1, 0, none⟩ = some (.iface 300 (.agg #[tyH 38]))
theorem ErrT.below {w w' : World} (h : ErrT w) {n : Nat} (hn : 1 < n) (hb : Below n w w') : ErrT w' := (hb.cell (p := ⟨1, 0, none⟩) hn).trans h

theorem pl_step {A W W' : World} {c0 c1 c2 : Addr} {v0 v1 v2 : Value} (h : W.cell? c0 = some v0 ∧ W.cell? c1 = some v1 ∧ W.cell? c2 = some v2 ∧ Below A.heap.size A W) (k : Below W.heap.size W W') :
    W'.cell? c0 = some v0 ∧ W'.cell? c1 = some v1 ∧ W'.cell? c2 = some v2 ∧ Below A.heap.size A W' :=
  ⟨(k.cell (lt_of_cell h.1)).trans h.1, (k.cell (lt_of_cell h.2.1)).trans h.2.1, (k.cell (lt_of_cell h.2.2.1)).trans h.2.2.1, h.2.2.2.trans (k.mono h.2.2.2.size)⟩
theorem pl_drew {A W : World} {c0 c1 c2 : Addr} {v0 v1 v2 : Value} (h : W.cell? c0 = some v0 ∧ W.cell? c1 = some v1 ∧ W.cell? c2 = some v2 ∧ Below A.heap.size A W) :
    W.drew.cell? c0 = some v0 ∧ W.drew.cell? c1 = some v1 ∧ W.drew.cell? c2 = some v2 ∧ Below A.heap.size A W.drew := ⟨h.1, h.2.1, h.2.2.1, h.2.2.2.drew⟩

theorem pl_last {P Q R : Prop} {A W : World} (h : P ∧ Q ∧ R ∧ Below A.heap.size A W) : Below A.heap.size A W := h.2.2.2

set_option maxRecDepth 100000 in
theorem place_fault (k l a : Int) (w : World) (h1 : 1 ≤ k) (h25 : k ≤ 25) (hE : ErrT w) :
    Calls Tryz.prog 99 #[.iface 96 (fv k l a)] w fun e w' => e = .returned (.tuple #[.int .i64 l, .int .i64 a, .bool true]) ∧ Below w.heap.size w w' := by
  have hlt : 1 < w.heap.size := lt_of_cell hE
  obtain ⟨W, hW⟩ : ∃ W, w.alloc (.cells #[.int .i64 0, .int .i64 0, .int .i64 0] 96 (0, 0)) = W := ⟨_, rfl⟩
  have hbW : Below w.heap.size w W := by rw [← hW]; exact (Below.refl _ w).alloc (Nat.le_refl _) _
  have hgW : W.heap[w.heap.size]? = some (.cells #[.int .i64 0, .int .i64 0, .int .i64 0] 96 (0, 0)) := by rw [← hW]; exact World.alloc_heap_new w _
  have C := Lib.hid (as_fault k l a 0 0 0 w.heap.size W (hE.below hlt hbW) hgW)
  have hWe := Lib.hid hW
  clear hE hgW hW
  go_enter Tryz.func99, Tryz.ntmps99
  go_wp2_with fail
  rw [hWe.out]
  refine C.out.mono ?_
  rintro e w1 ⟨rfl, hg1, hk1⟩
  have hz1 := hk1.size
  have hzW : w.heap.size < W.heap.size := by have := hWe.out; rw [← this]; simp
  have hc0 : w1.cell? ⟨w.heap.size, 0, none⟩ = some (.int .i64 k) := by rw [World.cell?, hg1]; rfl
  have hc1 : w1.cell? ⟨w.heap.size, 1, none⟩ = some (.int .i64 l) := by rw [World.cell?, hg1]; rfl
  have hc2 : w1.cell? ⟨w.heap.size, 2, none⟩ = some (.int .i64 a) := by rw [World.cell?, hg1]; rfl
  have hb1 : Below w.heap.size w w1 := hbW.trans (hk1.below (by omega) (fun b hb => by omega))
  have HB := Lib.hid hb1
  have kk : (k == k) = true := by simp
  clear hg1 hk1 hbW hb1
  go_wp2
  have cN := Lib.hid (fun W => num_fault k l a W h1 h25)
  go_region_held_law (fun w' => w'.cell? ⟨w.heap.size, 0, none⟩ = some (.int .i64 k) ∧ w'.cell? ⟨w.heap.size, 1, none⟩ = some (.int .i64 l) ∧ w'.cell? ⟨w.heap.size, 2, none⟩ = some (.int .i64 a) ∧ Below w1.heap.size w1 w')
    (first | assumption | exact pl_drew ⟨hc0, hc1, hc2, Below.refl _ _⟩ | exact pl_drew (by assumption) | exact pl_step (by assumption) (by assumption))
    ((go_at_call 100; refine (cN.out _).mono ?_; rintro e w' ⟨rfl, hbn⟩))
  all_goals
    go_wp2
    go_ret3
    exact ⟨rfl, HB.out.trans (Below.mono (pl_last (by assumption)) HB.out.size)⟩

set_option maxRecDepth 100000 in
theorem at_fault (n l a : Int) (w : World) (h1 : 1 ≤ n) (h25 : n ≤ 25) (hE : ErrT w) :
    Calls Tryz.prog 45 #[.iface 96 (fv n l a), .int .i64 n, .int .i64 l, .int .i64 a] w fun e w' => e = .returned (.bool true) ∧ Below w.heap.size w w' := by
  have c1 := Lib.hid (place_fault n l a w h1 h25 hE)
  have c2 := Lib.hid (fun W => num_fault n l a W h1 h25)
  have n0 : (n == 0) = false := by simp; omega
  have e1 : (n == n) = true := by simp
  have e2 : (l == l) = true := by simp
  have e3 : (a == a) = true := by simp
  clear hE
  go_enter Tryz.func45, Tryz.ntmps45
  go_wp2_with fail
  refine c1.out.mono ?_
  rintro e w1 ⟨rfl, hb1⟩
  have hz1 := hb1.size
  go_wp2_with fail
  refine (c2.out _).mono ?_
  rintro e w2 ⟨rfl, hb2⟩
  go_wp2
  go_ret
  exact ⟨rfl, hb1.trans (hb2.mono hz1)⟩
end Go.Proofs.YtjbkpcdpdifpnaaGreatDoor
/- The text of points: points.Text. -/
namespace Go.Proofs.YtjbkpcdpdifpnaaGreatDoor
open Go Go.RowKit Go.Kt Go.Shelf

set_option maxRecDepth 100000 in
theorem writeByte_x (b : Nat) (Y : Nat → Prop) (l : List UInt8) (c : Int) (W : World) (h : Bld b Y l W) (h0 : 0 ≤ c) (h1 : c < 256) (hlen : l.length + 1 ≤ 140737488355328) :
    Calls Tryz.prog 82 #[.pointer (some ⟨b, 0, none⟩), .int .u8 c] W fun e w' => e = .returned .nilIface ∧
      ∃ Y', Bld b Y' (l ++ [UInt8.ofNat c.toNat]) w' ∧ Keep (fun c => c = b ∨ Y c) W w' ∧ (∀ c, Y' c → Y c ∨ W.heap.size ≤ c) := by
  have hc := Lib.hid (copyCheck_x b Y l W h)
  have hcc := Lib.hid (ofNat_toNat c h0 h1)
  clear h
  go_enter Tryz.func82, Tryz.ntmps82
  go_wp2_with fail
  refine hc.out.mono ?_
  rintro e w1 ⟨rfl, v, hh, ho, hne, hy, hk, hsz⟩
  obtain ⟨a0, k0, p0, rfl⟩ : ∃ ao n' cap, v = .slice ao n' cap := by
    rcases ho.2 with ⟨hv, _⟩ | ⟨g, cap, cur, fz, hv, _⟩
    · exact ⟨_, _, _, hv⟩
    · exact ⟨_, _, _, hv⟩
  obtain ⟨g, cap, w2, hrun, ho2, hk2, hfr, hz2⟩ := append_b (P := Tryz.prog) w1 34 5 Tryz.underlying34 tinfo5 ho (.int .u8 c) rfl hlen
  have c1 : w1.cell? ⟨b, 1, none⟩ = some (.slice a0 k0 p0) := by rw [Lib.cell_of_heap hh]; rfl
  have hb2 : w2.heap[b]? = some (.cells #[.pointer (some ⟨b, 0, none⟩), .slice a0 k0 p0] 143 (0, 0)) := hk2.heap hh hne
  have c2 : w2.cell? ⟨b, 1, none⟩ = some (.slice a0 k0 p0) := by rw [Lib.cell_of_heap hb2]; rfl
  have f2 : w2.frozen? ⟨b, 1, none⟩ = false := Lib.frozen_of_heap hb2 1
  have hfacts := Lib.hid (And.intro hh (And.intro ho (And.intro hne (And.intro hy (And.intro hb2 (And.intro hsz hfr))))))
  clear hh hb2 hsz hfr hy
  have HO2 := Lib.hid ho2
  clear ho2 hne ho
  have HR := Lib.hid hrun
  clear hrun
  go_wp2_with (at_builtin; refine wpList_append_eq rfl rfl rfl rfl HR.out ?_)
  go_ret
  obtain ⟨hh, ho, hne, hy, hb2, hsz, hfr⟩ := hfacts.out
  have hk3 : Keep (fun c => c = b) w2 (w2.setCell ⟨b, 1, none⟩ (.slice (some ⟨g, 0, none⟩) (l.length + 1) cap)) := (Keep.refl (fun c => c = b) w2).setCell (p := ⟨b, 1, none⟩) rfl _
  have hbs : b < w1.heap.size := (Array.getElem?_eq_some_iff.1 hh).1
  have hgb : g ≠ b := fun e => by
    subst e
    rcases hfr with h | h
    · exact hne h
    · omega
  refine ⟨rfl, fun c => g = c, ⟨_, .slice (some ⟨g, 0, none⟩) (l.length + 1) cap, .inr rfl, ?_, ?_, fun e => hgb (by simpa [Value.ownBlock] using e), fun c hc => by simpa [Value.ownBlock] using hc⟩, ?_, ?_⟩
  · simp [World.setCell, Array.getElem?_modify, hb2]
  · have := ownsF_keep HO2.out hk3 (fun g' hg e => hgb (by
      have : g = g' := by simpa [Value.ownBlock] using hg
      rw [this, e]))
    have e1 : (l ++ [UInt8.ofNat c.toNat]).length = l.length + 1 := by simp
    rw [e1, show Lib.byteCells (l ++ [UInt8.ofNat c.toNat]) = Lib.byteCells l ++ [.int .u8 c] by simp only [Lib.byteCells, List.map_append, List.map_cons, List.map_nil, hcc.out]]
    exact this
  · exact ((hk.weaken (fun _ _ h => .inl h)).trans (hk2.weaken (fun _ _ h => .inr (hy _ h)))).trans (hk3.weaken (fun _ _ h => .inl h))
  · intro c hc
    subst hc
    rcases hfr with h | h
    · exact .inl (hy g h)
    · exact .inr (by omega)

def PTextAns (l : List Int) (K : Nat) (w : World) (e : Ending) (w' : World) : Prop :=
  (K = l.length ∧ e = .returned (.tuple #[.string ⟨(textP l).toArray⟩, .nilIface]) ∨ K < l.length ∧ e = .returned (.tuple #[.string ⟨#[]⟩, .iface 96 (fv 8 0 K)])) ∧ Below w.heap.size w w'

end Go.Proofs.YtjbkpcdpdifpnaaGreatDoor
/- What each statement of layer 2 asks first; the walks of PointsNext, PointsText, PointsBack. -/
namespace Go.Proofs.YtjbkpcdpdifpnaaGreatDoor
open Go Go.RowKit Go.Kt Go.Shelf

abbrev sA : ByteArray := ⟨#[97, 255]⟩
def TwoOut (w : World) (e : Ending) (w' : World) : Prop :=
  ∃ g cap, e = .returned (.slice (some ⟨g, 0, none⟩) 2 cap) ∧ w'.cell? ⟨g, 0, none⟩ = some (.int .i32 97) ∧ w'.cell? ⟨g, 1, none⟩ = some (.int .i32 1114367) ∧ Below w.heap.size w w'
end Go.Proofs.YtjbkpcdpdifpnaaGreatDoor
/- What the listed variables of layer 2 give the walks, and the worlds that the witnesses start in. -/
namespace Go.Proofs.YtjbkpcdpdifpnaaGreatDoor
open Go.Lib Go.Shelf
set_option maxRecDepth 100000

noncomputable def errWorld (os : Os) : World :=
  let w0 := World.holding Tryz.prog os ⟨#[], #[], []⟩
  { w0 with heap := w0.heap.modify 1 fun
      | .cells _ t frozen => .cells #[.iface 300 (.agg #[tyH 38])] t frozen
      | o => o }
end Go.Proofs.YtjbkpcdpdifpnaaGreatDoor
