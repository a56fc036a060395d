/- Parts of the proof of what the last text says. -/
import Derived.Test.YtcfhblbmpbfoaaaGreatDoorFx
import Derived.Test.YtcfhblbmpbfoaaaGreatDoorKx
import Derived.RangeFuncBound
import Derived.Shelf.Abstract
import Derived.Shelf.RegionOpen
import Derived.OwnWalkIn
import Derived.TacticsInMore
import Derived.LoopNIn
import Derived.LoopIn
import Derived.Deep.Draws
import Derived.Test.YtcfhblbmpbfoaaaGreatDoorGv18
import Derived.Laws.IdiomStrings
import Derived.Test.YtcfhblbmpbfoaaaGreatDoorGv3
import Derived.Laws.Cover4
import Derived.Laws.MakeOwn
import Derived.Sort.QuietIn
import Derived.Sort.QuietTacIn
import Derived.Test.YtcfhblbmpbfoaaaGreatDoorGv2
import Derived.Lib.FrozenHead2
import Derived.Shelf.Strings.Builder2
import Derived.Test.YtcfhblbmpbfoaaaGreatDoorProg
import Derived.WalkKit
import Derived.LaidEql
import Derived.Stop.Asserts
import Derived.RowKitTokens
import Derived.Lib.Hide
import Derived.Deep.RegionHeldLaw
import Derived.Test.YtcfhblbmpbfoaaaGreatDoorGv11
namespace Go.Proofs.YtcfhblbmpbfoaaaGreatDoor
open Go Go.RowKit Go.Lib

end Go.Proofs.YtcfhblbmpbfoaaaGreatDoor
namespace Go.Proofs.YtcfhblbmpbfoaaaGreatDoor
open Go Go.RowKit Go.Kt Go.Shelf
attribute [local go_sem] Oper.semAt_some

theorem run_next_str {P : Program} (W : World) (k : Nat) (s : ByteArray) (pos : Nat) (ty : TypeId) (hb : W.heap[k]? = some (.stringIter s pos)) (h : pos < s.size) :
    (Instr.next (.pointer (some ⟨k, 0, none⟩)) true ty).run P W =
      .ok (.tuple #[.bool true, .int .i64 pos, .int .i32 (Utf8.decode s pos).1]) (W.putObj k (.stringIter s (pos + (Utf8.decode s pos).2))) := by
  simp only [Instr.next, getObj, setObj, Sem.run_bind, Sem.run, hb, Result.andThen, h, if_true]
  simp [goInt, World.putObj]
theorem run_next_str_end {P : Program} (W : World) (k : Nat) (s : ByteArray) (pos : Nat) (ty : TypeId) (hb : W.heap[k]? = some (.stringIter s pos)) (h : ¬ pos < s.size) :
    (Instr.next (.pointer (some ⟨k, 0, none⟩)) true ty).run P W = .ok (.tuple #[.bool false]) W := by
  simp [Instr.next, getObj, Sem.run, hb, h]

def unitsF (s : ByteArray) : Nat → Nat → List (Nat × Nat)
  | 0, _ => []
  | f + 1, pos => if pos < s.size then (pos, (Utf8.decode s pos).1) :: unitsF s f (pos + (Utf8.decode s pos).2) else []
def units (s : ByteArray) : List (Nat × Nat) := unitsF s s.size 0
abbrev enc2 (p : Nat × Nat) : Array Value := #[.int .i64 p.1, .int .i32 p.2]

theorem dec_width (s : ByteArray) (pos : Nat) (h : pos < s.size) : 1 ≤ (Utf8.decode s pos).2 ∧ (Utf8.decode s pos).2 ≤ 4 ∧ pos + (Utf8.decode s pos).2 ≤ s.size := by
  rcases decode_wide s pos h with ⟨_, e⟩ | ⟨w, h1, h4, hw, _, e⟩
  · rw [e]; simp; omega
  · omega
def iterPos (W : World) (k : Nat) : Nat := match W.heap[k]? with | some (.stringIter _ p) => p | _ => 0
theorem iterPos_eq {W : World} {k : Nat} {s : ByteArray} {p : Nat} (h : W.heap[k]? = some (.stringIter s p)) : iterPos W k = p := by simp [iterPos, h]

theorem all_iter (s : ByteArray) (bs : Nat) (w0 : World) (hc : w0.cell? ⟨bs, 0, none⟩ = some (.string s)) (_hs : s.size ≤ 4611686018427387904) :
    Iter Tryz.prog 113 #[.pointer (some ⟨bs, 0, none⟩)] enc2 (units s) (fun b => b = bs) w0 := by
  intro l X J Jx W hNd hX hsame hsz hJ hJx hY h0
  have hcW : W.cell? ⟨bs, 0, none⟩ = some (.string s) := (World.cell?_of_block (w := w0) (a := ⟨bs, 0, none⟩) (hsame bs rfl)).trans hc
  have hbs : bs < W.heap.size := lt_of_cell hcW
  have hX' : ¬ X bs := hNd bs rfl
  refine (callsIn_wide (n := 0)).1 ?_
  refine callsIn_of_wp Tryz.func113 rfl trivial ?_ rfl
  simp only [Tryz.ntmps113, List.size_toArray, List.length_cons, List.length_nil, Nat.reduceAdd, Nat.reduceSub, Array.replicate_succ, Array.replicate_zero, List.push_toArray, List.append_toArray, List.nil_append, List.cons_append]
  gi_wp2
  have HJ0 : J [] (fun _ => False) (W.alloc (.stringIter s 0)) := hJ _ _ _ _ ((Keep.refl _ W).alloc _) h0
  gi_loopw [3] (fun _ wr => ∃ (pre : List (Nat × Nat)) (Y : Nat → Prop) (pos f : Nat), (∀ b, Y b → W.heap.size + 1 ≤ b) ∧ pre ++ unitsF s f pos = units s ∧ s.size ≤ pos + f ∧ J pre Y wr ∧ Keep X W wr ∧ W.heap.size < wr.heap.size ∧ wr.heap[W.heap.size]? = some (.stringIter s pos))
    (fun _ wr => s.size - iterPos wr W.heap.size)
  case atStart =>
    exact ⟨[], _, 0, s.size, fun _ h => h.elim, rfl, by omega, HJ0, (Keep.refl X W).alloc _, (Array.getElem?_eq_some_iff.1 (World.alloc_heap_new W (.stringIter s 0))).1, World.alloc_heap_new W _⟩
  case round =>
    obtain ⟨pre, Y, pos, f, hYl, hp, hf, hJs, hk, hlt, hit⟩ := hrel
    by_cases hpos : pos < s.size
    · obtain ⟨d1, d2, d3⟩ := dec_width s pos hpos
      obtain ⟨f', rfl⟩ : ∃ f', f = f' + 1 := ⟨f - 1, by omega⟩
      have hun : unitsF s (f' + 1) pos = (pos, (Utf8.decode s pos).1) :: unitsF s f' (pos + (Utf8.decode s pos).2) := by rw [unitsF, if_pos hpos]
      rw [hun] at hp
      have hpre : pre ++ [(pos, (Utf8.decode s pos).1)] <+: units s := ⟨unitsF s f' (pos + (Utf8.decode s pos).2), by rw [← hp]; simp⟩
      obtain ⟨W1, hW1⟩ : ∃ W1, wr.putObj W.heap.size (.stringIter s (pos + (Utf8.decode s pos).2)) = W1 := ⟨_, rfl⟩
      have hb1 : Below W.heap.size wr W1 := by rw [← hW1]; exact below_putObj (Nat.le_refl _) _
      have hit1 : W1.heap[W.heap.size]? = some (.stringIter s (pos + (Utf8.decode s pos).2)) := by rw [← hW1]; exact World.putObj_heap_same hlt
      have hk1 : Keep X W W1 := hk.then hb1
      have hst : Keep (fun b => W.heap.size ≤ b ∧ ¬ Y b) wr W1 := by rw [← hW1]; exact (Keep.refl _ wr).putObj (.inl ⟨Nat.le_refl _, fun hy => by have := hYl _ hy; omega⟩) _
      have hlt1 : W.heap.size < W1.heap.size := (Array.getElem?_eq_some_iff.1 hit1).1
      obtain ⟨fn, tmps, assign, body, hy, hR⟩ := hY pre _ Y W1 hpre (hJ _ _ _ _ hst hJs) (by omega) (fun b hb => by have := hYl b hb; omega)
      have hnx : ∀ ty, (Instr.next (.pointer (some ⟨W.heap.size, 0, none⟩)) true ty).run Tryz.prog wr = .ok (.tuple #[.bool true, .int .i64 pos, .int .i32 (Utf8.decode s pos).1]) W1 := fun ty => by
        rw [← hW1]; exact run_next_str wr W.heap.size s pos ty hit hpos
      generalize Utf8.decode s pos = dd at *
      obtain ⟨r, wd⟩ := dd
      have Hdat := Lib.hid (And.intro hp (And.intro hf (And.intro hit (And.intro hit1 hpre))))
      clear hp hf hun hpre hit hit1 hW1
      gi_wp2
      refine ⟨rfl, hR.mono ?_⟩
      rintro e W2 ⟨Y', hk2, hY', (⟨rfl, hJ2⟩ | ⟨rfl, hJx2⟩)⟩
      · obtain ⟨hp, hf, hit, hit1, hpre⟩ := Hdat.out
        have hit2 := hk2.heap hit1 (fun h => by rcases h with h | h; have := hX _ h; omega; have := hYl _ h; omega)
        have hkW : Keep X W W2 := ⟨hk2.os.trans hk1.os, hk2.tape.trans hk1.tape, hk2.output.trans hk1.output, Nat.le_trans hk1.size hk2.size, fun b hb hx => (hk2.same b (Nat.lt_of_lt_of_le hb hk1.size) (fun h => by rcases h with h | h; exact hx h; have := hYl b h; omega)).trans (hk1.same b hb hx)⟩
        gi_wp2
        go_roundw
        case rel => exact ⟨pre ++ [(pos, r)], Y', pos + wd, f', fun b hb => by rcases hY' b hb with h | h; exact hYl b h; omega, by rw [List.append_assoc]; exact hp, by omega, hJ2, hkW, (Array.getElem?_eq_some_iff.1 hit2).1, hit2⟩
        case measure => rw [iterPos_eq hit2, iterPos_eq hit]; omega
      · obtain ⟨hp, hf, hit, hit1, hpre⟩ := Hdat.out
        gi_wp2
        refine bodyPost_ret (results_none rfl _ _ _) rfl ?_
        have hkW : Keep X W W2 := ⟨hk2.os.trans hk1.os, hk2.tape.trans hk1.tape, hk2.output.trans hk1.output, Nat.le_trans hk1.size hk2.size, fun b hb hx => (hk2.same b (Nat.lt_of_lt_of_le hb hk1.size) (fun h => by rcases h with h | h; exact hx h; have := hYl b h; omega)).trans (hk1.same b hb hx)⟩
        exact ⟨⟨_, rfl⟩, hkW, .inr ⟨_, Y', hpre, fun b hb => by rcases hY' b hb with h | h; have := hYl b h; omega; omega, hJx2⟩⟩
    · have hnx : ∀ ty, (Instr.next (.pointer (some ⟨W.heap.size, 0, none⟩)) true ty).run Tryz.prog wr = .ok (.tuple #[.bool false]) wr := fun ty => run_next_str_end wr W.heap.size s pos ty hit hpos
      have hun : unitsF s f pos = [] := by
        cases f with
        | zero => rfl
        | succ f => rw [unitsF, if_neg hpos]
      rw [hun, List.append_nil] at hp
      have Hp := Lib.hid hp
      clear hp hit hun
      gi_wp2
      go_end0
      exact ⟨⟨_, rfl⟩, hk, .inl ⟨Y, fun b hb => by have := hYl b hb; omega, Hp.out ▸ hJs⟩⟩
end Go.Proofs.YtcfhblbmpbfoaaaGreatDoor
namespace Go.Proofs.YtcfhblbmpbfoaaaGreatDoor
open Go Go.RowKit Go.Lib

theorem below_drewN {B : Nat} {a w : World} (h : Below B a w) (n : Nat) : Below B a (w.drewN n) := ⟨h.os, h.tape, h.output, h.size, h.block⟩
def fullK (k lo hi : Nat) (n b1 b2 : Nat) : Bool :=
  if k ≤ n then true else if 1 < n ∧ (b1 < lo ∨ hi < b1) then true else if 2 < n ∧ (b2 < 128 ∨ 191 < b2) then true else false

end Go.Proofs.YtcfhblbmpbfoaaaGreatDoor
namespace Go.Proofs.YtcfhblbmpbfoaaaGreatDoor
open Go Go.RowKit Go.Lib

def fullB (s : ByteArray) : Bool := if s.size = 0 then false else (((begunI s 0).1 == (begunI s 0).2) || decide ((begunI s 0).1 < s.size))

end Go.Proofs.YtcfhblbmpbfoaaaGreatDoor
namespace Go.Proofs.YtcfhblbmpbfoaaaGreatDoor
open Go Go.RowKit Go.Lib

def pieceK (s : ByteArray) : Nat → Nat → Nat
  | 0, n => n
  | f + 1, n => if n < s.size ∧ fullB (s.extract 0 (n + 1)) = false then pieceK s f (n + 1) else n

def illB (s : ByteArray) (i : Nat) : Bool := wideI s i == 0
end Go.Proofs.YtcfhblbmpbfoaaaGreatDoor
namespace Go.Proofs.YtcfhblbmpbfoaaaGreatDoor
open Go Go.RowKit Go.Lib

def badK (s : ByteArray) (i : Nat) : Nat := ((begunI s i).1).toNat.max 1
def badsF (s : ByteArray) : Nat → Nat → List (Nat × Nat)
  | 0, _ => []
  | f + 1, i => if i < s.size then (if wideI s i = 0 then (i, badK s i) :: badsF s f (i + badK s i) else badsF s f (i + (wideI s i).toNat)) else []
def bads (s : ByteArray) : List (Nat × Nat) := badsF s s.size 0

def badU (s : ByteArray) : Nat → Nat → Nat → List (Nat × Nat)
  | 0, _, _ => []
  | f + 1, p, e => if p < s.size then (if p < e ∨ wideI s p ≠ 0 then badU s f (p + (Utf8.decode s p).2) e else (p, badK s p) :: badU s f (p + (Utf8.decode s p).2) (p + badK s p)) else []
end Go.Proofs.YtcfhblbmpbfoaaaGreatDoor
namespace Go.Proofs.YtcfhblbmpbfoaaaGreatDoor
open Go Go.RowKit Go.Kt Go.Shelf
attribute [local go_sem] Oper.semAt_some

abbrev encP (p : Nat × Nat) : Array Value := #[.int .i64 p.1, .int .i64 p.2]

end Go.Proofs.YtcfhblbmpbfoaaaGreatDoor
namespace Go.Proofs.YtcfhblbmpbfoaaaGreatDoor
open Go Go.RowKit Go.Kt Go.Shelf
attribute [local go_sem] Oper.semAt_some

theorem utfAll_call (s : ByteArray) (w : World) :
    Calls Tryz.prog 62 #[.string s] w fun e w' => e = .returned (.func (.func 113) #[] #[.pointer (some ⟨w.heap.size, 0, none⟩)]) ∧ w.alloc (.cells #[.string s] 9) = w' := by
  go_enter Tryz.func62, Tryz.ntmps62
  go_wp2
  go_ret
  exact ⟨rfl, rfl⟩
/-! what Mend writes -/
def rep (l : List UInt8) : Nat → List UInt8
  | 0 => []
  | n + 1 => rep l n ++ l
def mendStep (s by' : ByteArray) (whole : Bool) (st : List UInt8 × Nat) (p : Nat × Nat) : List UInt8 × Nat :=
  (st.1 ++ (s.extract st.2 p.1).data.toList ++ rep by'.data.toList (if whole then 1 else p.2), p.1 + p.2)
def mendF (s by' : ByteArray) (whole : Bool) (l : List (Nat × Nat)) : List UInt8 × Nat := l.foldl (mendStep s by' whole) ([], 0)
def mendL (s by' : ByteArray) (whole : Bool) : List UInt8 :=
  (mendF s by' whole (bads s)).1 ++ (s.extract (mendF s by' whole (bads s)).2 s.size).data.toList
def Chain (n : Nat) : Nat → List (Nat × Nat) → Prop
  | _, [] => True
  | lo, (a, k) :: r => lo ≤ a ∧ 1 ≤ k ∧ a + k ≤ n ∧ Chain n (a + k) r
end Go.Proofs.YtcfhblbmpbfoaaaGreatDoor
namespace Go.Proofs.YtcfhblbmpbfoaaaGreatDoor
open Go Go.RowKit Go.Kt Go.Shelf
attribute [local go_sem] Oper.semAt_some

end Go.Proofs.YtcfhblbmpbfoaaaGreatDoor
namespace Go.Proofs.YtcfhblbmpbfoaaaGreatDoor
open Go Go.RowKit Go.Kt Go.Shelf

def pieceCells (l : List (Nat × Nat)) : List Value := l.flatMap fun p => [.int .i64 p.1, .int .i64 p.2]
def OwnB (Y : Nat → Prop) (v : Value) (l : List UInt8) (W : World) : Prop := W.ownsRowF 0 5 1 v l.length (Lib.byteCells l) ∧ ∀ g, v.ownBlock = some g → Y g
theorem OwnB.nil (Y : Nat → Prop) (W : World) : OwnB Y (.slice none 0 0) [] W := ⟨World.ownsRowF_nil W 0 5 1, fun _ h => by cases h⟩
end Go.Proofs.YtcfhblbmpbfoaaaGreatDoor
namespace Go.Proofs.YtcfhblbmpbfoaaaGreatDoor
open Go Go.RowKit Go.Kt Go.Shelf

def runeCells (s : ByteArray) : List Value := (units s).map fun p => Value.int .i32 p.2
theorem unitsF_len (s : ByteArray) : ∀ f i, (unitsF s f i).length ≤ f
  | 0, i => by simp [unitsF]
  | f + 1, i => by
    unfold unitsF
    split
    · have := unitsF_len s f (i + (Utf8.decode s i).2)
      simp; omega
    · simp
theorem units_len (s : ByteArray) : (units s).length ≤ s.size := unitsF_len s s.size 0

end Go.Proofs.YtcfhblbmpbfoaaaGreatDoor
namespace Go.Proofs.YtcfhblbmpbfoaaaGreatDoor
open Go Go.RowKit Go.Kt Go.Shelf

theorem utfEncode_any (r : Int) (w : World) :
    Calls Tryz.prog 84 #[.int .i32 r] w fun e w' => e = .returned (.string (Utf8.encode r)) ∧ w = w' := by
  go_enter Tryz.func84, Tryz.ntmps84
  go_wp2
  go_ret
  exact ⟨rfl, rfl⟩

abbrev s1 : ByteArray := ⟨#[97, 195, 169]⟩
abbrev s2 : ByteArray := ⟨#[195]⟩
abbrev s3 : ByteArray := ⟨#[255, 98]⟩
theorem d1 : decP s1 1 = (233, 2) := by kernel_rfl
theorem d2 : decP s2 0 = (65533, 1) := by kernel_rfl
theorem d3 : runeCells s3 = [.int .i32 65533, .int .i32 98] := by kernel_rfl
theorem d4 : Utf8.encode 233 = ⟨#[195, 169]⟩ := by kernel_rfl
theorem d5 : mendL ⟨#[255]⟩ ⟨#[63]⟩ true = [63] := by kernel_rfl
theorem d6 : fullB ⟨#[97]⟩ = true := by kernel_rfl

end Go.Proofs.YtcfhblbmpbfoaaaGreatDoor
namespace Go.Proofs.YtcfhblbmpbfoaaaGreatDoor
open Go Go.RowKit Go.Kt Go.Shelf

def okF (s : ByteArray) : Nat → Nat → Bool
  | 0, _ => true
  | f + 1, i => if i < s.size then (if illB s i then false else okF s f (i + (Utf8.decode s i).2)) else true
def okB (s : ByteArray) : Bool := okF s s.size 0

theorem sl_of_own {k : IntKind} {Y : Nat → Prop} {e : TypeId} {v : Value} {n : Nat} {l : List Int} {W : World} (h : OwnS Y e 1 v n (l.map fun x => .int k x) W) (hl : l.length = n) : Sl k W v l := by
  subst hl
  rcases h.1.2 with ⟨hv, hn⟩ | ⟨g, cap, cur, hv, rest⟩
  · exact ⟨none, 0, by rw [hv, hn], .inl (List.eq_nil_of_length_eq_zero hn)⟩
  · refine ⟨_, cap, hv, .inr ⟨g, 0, rfl, fun i x hx => ?_⟩⟩
    have hc := h.1.cells (g := g) (by rw [hv]; rfl)
    have c1 := hc i (.int k x) (by simp [hx])
    rw [Addr.add_lit] at c1
    exact c1
end Go.Proofs.YtcfhblbmpbfoaaaGreatDoor
namespace Go.Proofs.YtcfhblbmpbfoaaaGreatDoor
open Go Go.RowKit Go.Kt Go.Shelf

def encC (c : Int) : ByteArray :=
  if c < 128 then ⟨#[UInt8.ofNat c.toNat]⟩
  else if c < 2048 then ⟨#[UInt8.ofNat (192 + c / 64).toNat, UInt8.ofNat (128 + c % 64).toNat]⟩
  else if c < 65536 then ⟨#[UInt8.ofNat (224 + c / 4096).toNat, UInt8.ofNat (128 + c / 64 % 64).toNat, UInt8.ofNat (128 + c % 64).toNat]⟩
  else ⟨#[UInt8.ofNat (240 + c / 262144).toNat, UInt8.ofNat (128 + c / 4096 % 64).toNat, UInt8.ofNat (128 + c / 64 % 64).toNat, UInt8.ofNat (128 + c % 64).toNat]⟩
theorem encode_C (r : Int) : Utf8.encode r = encC (if Utf8.valid r then r else 65533) := by
  unfold Utf8.encode encC
  have hr : Utf8.valid r = true → 0 ≤ r ∧ r ≤ 1114111 := by unfold Utf8.valid; simp; omega
  by_cases h : Utf8.valid r = true
  · obtain ⟨h0, h1⟩ := hr h
    obtain ⟨c, rfl⟩ := Int.eq_ofNat_of_zero_le h0
    simp only [h, if_true, Int.toNat_natCast]
    by_cases a1 : c < 128
    · rw [if_pos a1, if_pos (show (c : Int) < 128 by omega)]
    · rw [if_neg a1, if_neg (show ¬ (c : Int) < 128 by omega)]
      by_cases a2 : c < 2048
      · rw [if_pos a2, if_pos (show (c : Int) < 2048 by omega)]
        congr 5
      · rw [if_neg a2, if_neg (show ¬ (c : Int) < 2048 by omega)]
        by_cases a3 : c < 65536
        · rw [if_pos a3, if_pos (show (c : Int) < 65536 by omega)]
          congr 5
        · rw [if_neg a3, if_neg (show ¬ (c : Int) < 65536 by omega)]
          congr 5
  · simp only [h, if_false, Bool.false_eq_true]
    rfl

end Go.Proofs.YtcfhblbmpbfoaaaGreatDoor
namespace Go.Proofs.YtcfhblbmpbfoaaaGreatDoor
open Go

def numsF (s : ByteArray) (f i : Nat) : List Nat := (unitsF s f i).map (·.2)
def placesF (s : ByteArray) (f i : Nat) : List Nat := (unitsF s f i).map (·.1)
def nums (s : ByteArray) : List Nat := numsF s s.size 0
end Go.Proofs.YtcfhblbmpbfoaaaGreatDoor
namespace Go.Proofs.YtcfhblbmpbfoaaaGreatDoor
open Go Go.RowKit Go.Kt Go.Shelf
attribute [local go_sem] Oper.semAt_some

theorem tinfo21 : (Tryz.prog.info? 21).map (fun i => (i.zero, i.size, i.bytes)) = some (some (.int .i32 0), 1, 4) := by kernel_rfl

def Plc (m : Nat) (s : ByteArray) (p : Nat → Bool) (W : World) : Prop :=
  ∃ c : Array Value, W.heap[m]? = some (.cells c 4 (0, 0)) ∧ ∀ i, i ≤ s.size → c[i]? = some (.bool (p i))
def pcs (s : ByteArray) (pre : List (Nat × Nat)) (i : Nat) : Bool := (pre.map fun p => p.1).contains i || (i == s.size || i == 0)
def numsI (s : ByteArray) : List Int := (nums s).map fun x : Nat => (x : Int)
theorem own_base {Y : Nat → Prop} {e : TypeId} {size n base : Nat} {v : Value} {xs : List Value} {W : World} (h : OwnS Y e size v n xs W) (hY : ∀ b, Y b → base ≤ b) : W.ownsRow base e size v n xs := by
  obtain ⟨⟨hl, h2⟩, hY'⟩ := h
  refine ⟨hl, ?_⟩
  rcases h2 with h2 | ⟨g, cap, cur, rfl, hb, hg, rest⟩
  · exact .inl h2
  · exact .inr ⟨g, cap, cur, rfl, hY g (hY' g rfl), hg, rest⟩
theorem own_of_base {e : TypeId} {size n base : Nat} {v : Value} {xs : List Value} {W : World} (h : W.ownsRow base e size v n xs) : OwnS (fun b => base ≤ b) e size v n xs W := by
  obtain ⟨hl, h2⟩ := h
  refine ⟨⟨hl, ?_⟩, fun g hg => ?_⟩
  · rcases h2 with h2 | ⟨g, cap, cur, rfl, hb, hg, rest⟩
    · exact .inl h2
    · exact .inr ⟨g, cap, cur, rfl, Nat.zero_le _, hg, rest⟩
  · rcases h2 with ⟨h2, _⟩ | ⟨g', cap, cur, h2, hb, _⟩
    · rw [h2] at hg; cases hg
    · rw [h2] at hg; cases hg; exact hb
end Go.Proofs.YtcfhblbmpbfoaaaGreatDoor
namespace Go.Proofs.YtcfhblbmpbfoaaaGreatDoor
open Go Go.RowKit Go.Kt Go.Shelf

def Slg (k : IntKind) (W : World) (v : Value) (l : List Int) : Prop :=
  ∃ ao cap, v = .slice ao l.length cap ∧ (l = [] ∨ ∃ a : Addr, ao = some a ∧ ∀ i x, l[i]? = some x → W.cell? (a.add i) = some (.int k x))
theorem Slg.below {k : IntKind} {A B : World} {v : Value} {l : List Int} (h : Slg k A v l) (hb : Below A.heap.size A B) : Slg k B v l := by
  obtain ⟨ao, cap, rfl, h⟩ := h
  refine ⟨ao, cap, rfl, ?_⟩
  rcases h with h | ⟨a, rfl, h⟩
  · exact .inl h
  · exact .inr ⟨a, rfl, fun i x hx => (hb.cell (lt_of_cell (h i x hx))).trans (h i x hx)⟩
theorem Sl.toG {k : IntKind} {W : World} {v : Value} {l : List Int} (h : Sl k W v l) : Slg k W v l := by
  obtain ⟨ao, cap, rfl, h⟩ := h
  refine ⟨ao, cap, rfl, ?_⟩
  rcases h with h | ⟨g, off, rfl, h⟩
  · exact .inl h
  · exact .inr ⟨_, rfl, fun i x hx => by rw [Addr.add_lit]; exact h i x hx⟩

def marks (n : Nat) : List Int := (List.range n).map fun i : Nat => (-91000 - i : Int)
abbrev i32s (l : List Int) : List Value := l.map fun x => .int .i32 x

end Go.Proofs.YtcfhblbmpbfoaaaGreatDoor
namespace Go.Kt
open Go Go.RowKit
variable {P : Program}

theorem append_b (W : World) (t e : TypeId) (ht : P.underlying t = some (.slice e)) (hinfo : (P.info? e).map (fun i => (i.zero, i.size, i.bytes)) = some (some (.int .u8 0), 1, 1))
    {v : Value} {n : Nat} {xs : List Value} (hown : W.ownsRowF 0 e 1 v n xs) (x : Value) (hx1 : x.oneCell' = true) (h63 : n + 1 ≤ 140737488355328) :
    ∃ g cap w', (∀ ty, (Builtin.append_ #[t, t] ty #[v, .slice (some ⟨W.heap.size, 0, none⟩) 1 1]).run P (W.alloc (.cells #[x] e)) = .ok (.slice (some ⟨g, 0, none⟩) (n + 1) cap) w') ∧ w'.ownsRowF 0 e 1 (.slice (some ⟨g, 0, none⟩) (n + 1) cap) (n + 1) (xs ++ [x]) ∧
      Keep (fun b => v.ownBlock = some b) W w' ∧ (v.ownBlock = some g ∨ W.heap.size < g) ∧ W.heap.size < w'.heap.size := by
  obtain ⟨i, hi, hz, hs1, hb1⟩ := info_parts hinfo
  have hc : ∀ j u, [x][j]? = some u → (W.alloc (.cells #[x] e)).cell? ((⟨W.heap.size, 0, none⟩ : Addr).add j) = some u := fun j u hj => by
    have hh := World.alloc_heap_new W (.cells #[x] e)
    rw [Addr.add_lit, Lib.cell_of_heap hh]
    simpa using hj
  have h1 : ∀ u ∈ [x], u.oneCell' = true := by intro u hu; simp at hu; subst hu; exact hx1
  have hm : n + 1 ≤ maxLen := by unfold maxLen; omega
  have hown' : (W.alloc (.cells #[x] e)).ownsRowF 0 e 1 v n xs := by
    refine ⟨hown.1, ?_⟩
    rcases hown.2 with h2 | ⟨g, cap, cur, fz, rfl, hb, hg, rest⟩
    · exact .inl h2
    · exact .inr ⟨g, cap, cur, fz, rfl, hb, ((Keep.refl (fun _ => False) W).alloc _).heap hg (fun h => h), rest⟩
  obtain ⟨v', w', hrun, r1, r2, r3⟩ := run_append_ownF (P := P) (W.alloc (.cells #[x] e)) 0 t 0 e i (.int .u8 0) 1 1 ht hi hz hs1 hb1 rfl (by omega) v n xs hown' ⟨W.heap.size, 0, none⟩ 1 1 [x] rfl hc h1 hm (by omega) (Nat.zero_le _)
  have hrun' : ∀ ty, (Builtin.append_ #[t, t] ty #[v, .slice (some ⟨W.heap.size, 0, none⟩) 1 1]).run P (W.alloc (.cells #[x] e)) = .ok v' w' := fun ty => hrun
  have hK : Keep (fun b => v.ownBlock = some b) W w' := ((Keep.refl _ W).alloc _).trans (keep_grown r2)
  have hsz' : W.heap.size < w'.heap.size := by have := r2.size; simp at this; omega
  rcases r1.2 with ⟨_, h⟩ | ⟨g, cap, cur, fz, rfl, hb, hg, rest⟩
  · omega
  refine ⟨g, cap, w', hrun', r1, hK, ?_, hsz'⟩
  rcases hown'.2 with ⟨hv, hn⟩ | ⟨g0, cap0, cur0, fz0, hv, hb0, hg0, hfz, hnc, hcm, hcs, _⟩
  · right
    obtain ⟨v2, w2, hrun2, q1, _⟩ := run_append_ownF (P := P) (W.alloc (.cells #[x] e)) (W.heap.size + 1) t 0 e i (.int .u8 0) 1 1 ht hi hz hs1 hb1 rfl (by omega) v n xs ⟨hown'.1, .inl ⟨hv, hn⟩⟩ ⟨W.heap.size, 0, none⟩ 1 1 [x] rfl hc h1 hm (by omega) (by simp)
    rw [hrun] at hrun2
    injection hrun2 with e1 e2
    subst e1; subst e2
    exact (q1.lt g rfl).1
  · subst hv
    by_cases hroom : n + 1 ≤ cap0
    · left
      have hr := run_append_roomF (P := P) (W.alloc (.cells #[x] e)) t 0 e i ht hi g0 n cap0 cur0 fz0 hg0 (by rw [hs1]; omega) ⟨W.heap.size, 0, none⟩ 1 1 [x] (by rw [hs1]; rfl) hc h1 hroom (by rw [hs1, hcs]; simp; omega)
      rw [hrun] at hr
      injection hr with e1 e2
      injection e1 with e1 _ _
      injection e1 with e1
      injection e1 with e1
      subst e1
      rfl
    · right
      have holds : ∀ j u, xs[j]? = some u → (W.alloc (.cells #[x] e)).cell? ((⟨g0, 0, none⟩ : Addr).add j) = some u := hown'.cells (g := g0) rfl
      have hr := run_append_grow (P := P) (W.alloc (.cells #[x] e)) t 0 e i (.int .u8 0) ht hi hz ⟨g0, 0, none⟩ n cap0 xs (by rw [hs1]; exact hown'.1) holds ⟨W.heap.size, 0, none⟩ 1 1 [x] (by rw [hs1]; rfl) hc (by omega) (by omega) (by rw [hb1]; exact growslice_fits (by omega) (by omega))
      rw [hrun] at hr
      injection hr with e1 e2
      injection e1 with e1 _ _
      injection e1 with e1
      injection e1 with e1
      subst e1
      simp
end Go.Kt
namespace Go.Proofs
open Go.Shelf
def Tryz.lays241_ren : Go.Shelf.Ren := ⟨fun | 241 => 130 | 277 => 163 | n => n, fun | 70 => 126 | 3 => 3 | 0 => 0 | 72 => 128 | 37 => 124 | 5 => 5 | n => n, fun | n => n⟩
def Tryz.lays165_ren : Go.Shelf.Ren := ⟨fun | 165 => 81 | 240 => 129 | 241 => 130 | 276 => 162 | 277 => 163 | n => n, fun | 70 => 126 | 3 => 3 | 0 => 0 | 4 => 4 | 9 => 9 | 20 => 20 | 72 => 128 | 37 => 124 | 164 => 210 | 5 => 5 | n => n, fun | n => n⟩
theorem Tryz.lays165 : Go.Proofs.Lays.n165 Tryz.prog Tryz.lays165_ren := {
  mixed := by kernel_rfl
  f165 := Tryz.func81.trans (congrArg some (by kernel_rfl))
  f240 := Tryz.func129.trans (congrArg some (by kernel_rfl))
  f241 := Tryz.func130.trans (congrArg some (by kernel_rfl))
  f276 := Tryz.func162.trans (congrArg some (by kernel_rfl))
  f277 := Tryz.func163.trans (congrArg some (by kernel_rfl))
  t0 := Tryz.underlying0
  a0 := Tryz.isAgg0
  z0 := Tryz.sizeOf0
  v0 := Tryz.zeroValue0
  t3 := Tryz.underlying3
  a3 := Tryz.isAgg3
  z3 := Tryz.sizeOf3
  v3 := Tryz.zeroValue3
  t4 := Tryz.underlying4
  a4 := Tryz.isAgg4
  z4 := Tryz.sizeOf4
  v4 := Tryz.zeroValue4
  t9 := Tryz.underlying9
  a9 := Tryz.isAgg9
  z9 := Tryz.sizeOf9
  v9 := Tryz.zeroValue9
  t20 := Tryz.underlying20
  a20 := Tryz.isAgg20
  z20 := Tryz.sizeOf20
  v20 := Tryz.zeroValue20
  t37 := Tryz.underlying124
  a37 := Tryz.isAgg124
  z37 := Tryz.sizeOf124
  v37 := Tryz.zeroValue124
  t70 := Tryz.underlying126
  a70 := Tryz.isAgg126
  z70 := Tryz.sizeOf126
  v70 := Tryz.zeroValue126
  t72 := Tryz.underlying128
  a72 := Tryz.isAgg128
  z72 := Tryz.sizeOf128
  v72 := Tryz.zeroValue128
  t164 := Tryz.underlying210
  a164 := Tryz.isAgg210
  z164 := Tryz.sizeOf210
  v164 := Tryz.zeroValue210 }
theorem Tryz.Builder_Extra_165 : Builder.Extra Tryz.prog Tryz.lays165_ren := {
  sizeBuilder := by kernel_rfl
  liesBuilder := by kernel_rfl
  t5 := Tryz.underlying5
  a5 := Tryz.isAgg5
  z5 := Tryz.sizeOf5
  v5 := Tryz.zeroValue5
  infoByte := by kernel_rfl
  cellsByte := by kernel_rfl
  sizeByte := by kernel_rfl
  neB5 := by decide }
open Go.RowKit in
theorem Tryz.Builder_Grow_fresh (B b n : Nat) (w : World) (hB : B ≤ b) (hbk : w.heap[b]? = some (.cells #[.pointer none, .slice none 0 0] 128 (0, 0))) (hBw : B ≤ w.heap.size) (hn : n ≤ 281474976710656) :
    Calls Tryz.prog 81 #[.pointer (some ⟨b, 0, none⟩), .int .i64 n] w fun e w' => e = .returned (.tuple #[]) ∧ (Lib.BuilderAt 128 5 B b (.pointer (some ⟨b, 0, none⟩)) [] w' ∧ Below B w w') := Any.Builder_Grow_fresh Tryz.lays165 Tryz.Builder_Extra_165 B b n w hB hbk hBw hn
end Go.Proofs
namespace Go.Proofs.YtcfhblbmpbfoaaaGreatDoor
open Go Go.RowKit Go.Kt Go.Extern.Stop Go.Stop Go.Extern

abbrev fv (k l a : Int) : Value := .agg #[.int .i64 k, .int .i64 l, .int .i64 a]

def xComparable : Array Value → Sem Value := ReflectliteType.method fun t => do Rtype.noPackHeld "Comparable" t; pure (.bool (← typeInfo t).comparable)
end Go.Proofs.YtcfhblbmpbfoaaaGreatDoor
namespace Go.Proofs.YtcfhblbmpbfoaaaGreatDoor
open Go Go.RowKit Go.Kt Go.Extern.Stop Go.Stop Go.Extern

def xValueOf (args : Array Value) : Sem Value := ReflectliteValue.unpack (args.getD 0 (.tuple #[]))
def xType : Array Value → Sem Value := ReflectliteValue.methodAny (ReflectliteValue.valueError "reflectlite.Value.Type" 0) fun t _ _ _ => ReflectliteType.toType t
def xKind : Array Value → Sem Value := ReflectliteType.abiMethod fun t => do pure (.int .u8 (← Rtype.kind t))
def xIsNil : Array Value → Sem Value := ReflectliteValue.method (ReflectliteValue.valueError "reflectlite.Value.IsNil" 0) ReflectliteValue.isNil
def xElemT : Array Value → Sem Value := ReflectliteType.method ReflectliteType.elem
def xImplements : Array Value → Sem Value := ReflectliteType.relation "Implements" ReflectliteType.implements_
def xAssignable : Array Value → Sem Value := ReflectliteType.relation "AssignableTo" ReflectliteType.assignableTo
def xElemV : Array Value → Sem Value := ReflectliteValue.method (ReflectliteValue.valueError "reflectlite.Value.Elem" 0) ReflectliteValue.elem
def xSet : Array Value → Sem Value := ReflectliteValue.set

abbrev tyH (t : Nat) : Value := .pointer (some ⟨10, t, none⟩)
abbrev vagg (t : Nat) (a : Addr) (f : Int) : Value := .agg #[tyH t, .pointer (some a), .int .u64 f]

end Go.Proofs.YtcfhblbmpbfoaaaGreatDoor
namespace Go.Proofs.YtcfhblbmpbfoaaaGreatDoor
open Go Go.RowKit Go.Kt Go.Extern.Stop Go.Stop Go.Extern

def AsOut (g : Nat) (k l a : Int) (w : World) (e : Ending) (w' : World) : Prop :=
  e = .returned (.bool true) ∧ w'.heap[g]? = some (.cells #[.int .i64 k, .int .i64 l, .int .i64 a] 136 (0, 0)) ∧ Keep (fun b => b = g) w w'

end Go.Proofs.YtcfhblbmpbfoaaaGreatDoor
namespace Go.Proofs.YtcfhblbmpbfoaaaGreatDoor
open Go Go.RowKit Go.Kt

end Go.Proofs.YtcfhblbmpbfoaaaGreatDoor
namespace Go.Kt
open Go Go.RowKit

section
variable {P : Program} {ops : Array Oper} {Q : Exit → Act → World → Prop}
theorem exec_asgN {o : Oper} {a : Act} {w : World} {x : Operand} {u : Value} (ho : o.op = .assign x) (hx : a.eval x = u) : (execOp a.eval o).run P w = .ok (.value u) w := by
  unfold execOp; rw [ho]; simp only [hx]; rfl
theorem exec_extract {o : Oper} {a : Act} {w : World} {x : Operand} {u : Value} {i : Nat} {v : Value} (ho : o.op = .extract x i) (hx : a.eval x = u) (h : (Instr.extract u i).run P w = .ok v w) : (execOp a.eval o).run P w = .ok (.value v) w := by
  unfold execOp; rw [ho]; simp only [hx]; exact run_val h
def MStep (P : Program) (ops : Array Oper) (Q : Exit → Act → World → Prop) (w0 : World) (p : Nat → Value → World → Prop) (a0 : Act) (i : Nat) (o : Oper) : Prop :=
  ∀ a X, Below w0.heap.size w0 X → Like ops a0 a → (∀ j k, waitsB .any o j = true → slotB ops j k = true → p j (a.tmps.getD k undef) X) →
    Region.wanted o (yielded ops a.tmps) = true ∧ o.wp P a X (fun a' w' => ∃ v, a' = a.put o.dst v ∧ Below X.heap.size X w' ∧ p i v w') Q
def MSteps (P : Program) (ops : Array Oper) (Q : Exit → Act → World → Prop) (w0 : World) (p : Nat → Value → World → Prop) (a0 : Act) : Nat → List Oper → Prop
  | _, [] => True
  | i, o :: r => MStep P ops Q w0 p a0 i o ∧ MSteps P ops Q w0 p a0 (i + 1) r
theorem MSteps.cons {w0 : World} {p : Nat → Value → World → Prop} {a0 : Act} {i : Nat} {o : Oper} {r : List Oper} (h : MStep P ops Q w0 p a0 i o) (hr : MSteps P ops Q w0 p a0 (i + 1) r) : MSteps P ops Q w0 p a0 i (o :: r) := ⟨h, hr⟩
theorem MSteps.nil {w0 : World} {p : Nat → Value → World → Prop} {a0 : Act} {i : Nat} : MSteps P ops Q w0 p a0 i [] := trivial
theorem MSteps.done {w0 : World} {p : Nat → Value → World → Prop} {a0 : Act} (hp : ∀ i v A B, Below A.heap.size A B → p i v A → p i v B) : ∀ (l : List Oper) (i : Nat), MSteps P ops Q w0 p a0 i l →
    DSteps P .any ops Q (fun _ X => Below w0.heap.size w0 X) p a0 i l
  | [], _, _ => trivial
  | o :: r, i, hs => by
    refine ⟨?_, MSteps.done hp r (i + 1) hs.2⟩
    intro D a X hDi hDa hDw hS hL hd
    obtain ⟨h1, h2⟩ := hs.1 a X hS hL hd
    refine ⟨h1, Oper.wp_mono ?_ h2⟩
    rintro a' w' ⟨v, e, hb, hv⟩
    exact ⟨v, e, hS.trans (hb.mono hS.size), fun j u _ hu => hp j u X w' hb hu, hv⟩
theorem wp_region_mem {id : Nat} {a0 : Act} {w1 : World} (w0 : World) (p : Nat → Value → World → Prop) (hm : P.follows .mixedOrders = true) (hap : apartB ops a0.tmps.size = true) (hfw : forwardB .any ops = true)
    (hp : ∀ i v A B, Below A.heap.size A B → p i v A → p i v B) (h0 : Below w0.heap.size w0 w1.drew) (hs : MSteps P ops Q w0 p a0 0 ops.toList)
    (hd : ∀ a X, Like ops a0 a → Below w0.heap.size w0 X → (∀ j k, slotB ops j k = true → p j (a.tmps.getD k undef) X) → Q .normal a X) : (Code.region id ops true).wp P Q a0 w1 :=
  wp_region_done (fun _ X => Below w0.heap.size w0 X) p hm hap hfw h0 (MSteps.done hp ops.toList 0 hs) fun _ a w _ hS hL hP _ => hd a w hL hS hP
end
end Go.Kt
