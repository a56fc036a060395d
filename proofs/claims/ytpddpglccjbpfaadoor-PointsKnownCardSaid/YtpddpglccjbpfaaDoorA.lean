import Derived.Test.YtpddpglccjbpfaaDoorProg
import Derived.WalkKit
import Derived.WalkLawsBesides
import Derived.WalkSpells
import Derived.Lib.Hide
import Derived.Deep.QuietTactic
import Derived.BigQuiet
namespace Go.Proofs.YtpddpglccjbpfaaDoor
open Go Go.RowKit

def inB (c lo hi : Int) : Bool := decide (lo ≤ c) && decide (c ≤ hi)

def leadI (c : Int) : Int × Int × Int :=
  if c < 128 then (1, 0, 0) else if inB c 194 223 then (2, 128, 191) else if c == 224 then (3, 160, 191) else if c == 237 then (3, 128, 159)
  else if inB c 225 239 then (3, 128, 191) else if c == 240 then (4, 144, 191) else if c == 244 then (4, 128, 143) else if inB c 241 243 then (4, 128, 191) else (0, 0, 0)

def bAt (s : ByteArray) (i : Nat) : Int := (s.data.toList.getD i 0).toNat
theorem bAt_lo (s : ByteArray) (i : Nat) : 0 ≤ bAt s i := by unfold bAt; omega
theorem bAt_hi (s : ByteArray) (i : Nat) : bAt s i < 256 := by unfold bAt; have := (s.data.toList.getD i 0).toNat_lt; omega
theorem bAt_eq (s : ByteArray) (i : Nat) (h : i < s.size) : bAt s i = (s[i]'h).toNat := by
  have h' : i < s.data.toList.length := by simpa using h
  unfold bAt
  rw [List.getD_eq_getElem?_getD, List.getElem?_eq_getElem h']; rfl
theorem run_bAt (s : ByteArray) (i : Nat) (h : i < s.size) (w : World) :
    (Instr.index 9 (.string s) (.int .i64 (i : Int))).run Tryd.prog w = .ok (.int .u8 (bAt s i)) w := by
  rw [run_index_string (h := Tryd.underlying9), dif_pos (by omega), bAt_eq s i h]; rfl
theorem run_bAt' (s : ByteArray) (i k : Nat) (h : i + k < s.size) (w : World) :
    (Instr.index 9 (.string s) (.int .i64 ((i : Int) + (k : Int)))).run Tryd.prog w = .ok (.int .u8 (bAt s (i + k))) w := by
  have := run_bAt s (i + k) h w
  simpa using this

def begunC (s : ByteArray) (i : Nat) (lo hi : Int) (k : Nat) : Bool := if k = 1 then inB (bAt s (i + k)) lo hi else inB (bAt s (i + k)) 128 191
def begunK (s : ByteArray) (i : Nat) (n lo hi : Int) : Nat → Nat → Nat
  | 0, k => k
  | f + 1, k => if (k : Int) < n ∧ i + k < s.size ∧ begunC s i lo hi k = true then begunK s i n lo hi f (k + 1) else k
def begunI (s : ByteArray) (i : Nat) : Int × Int :=
  if (leadI (bAt s i)).1 == 0 then (0, 0) else ((begunK s i (leadI (bAt s i)).1 (leadI (bAt s i)).2.1 (leadI (bAt s i)).2.2 4 1 : Nat), (leadI (bAt s i)).1)
theorem leadI_bd (c : Int) : 0 ≤ (leadI c).1 ∧ (leadI c).1 ≤ 4 := by
  unfold leadI; repeat' split
  all_goals simp

end Go.Proofs.YtpddpglccjbpfaaDoor
