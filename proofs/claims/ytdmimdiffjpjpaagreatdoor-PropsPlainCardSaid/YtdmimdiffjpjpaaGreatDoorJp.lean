/- props: how many lines; an error at a line. -/
import Derived.Test.YtdmimdiffjpjpaaGreatDoorGz5
import Derived.Test.YtdmimdiffjpjpaaGreatDoorGz2
namespace Go.Proofs.YtdmimdiffjpjpaaGreatDoor
open Go Go.RowKit Go.Kt Go.Kt.Rg Go.Maps

/-- How many lines a text has. -/
def lnC (l : List UInt8) : Nat := l.count 10 + if l = [] ∨ Lib.hasSuffix l [10] = true then 0 else 1

set_option maxRecDepth 100000 in
theorem plineCount (s : ByteArray) (w : World) (hs : s.size ≤ 1048576) : Calls Tryz.prog 20 #[.string s] w fun e w' => e = .returned (.int .i64 (lnC s.data.toList : Nat)) ∧ w' = w := by
  have C1 := Lib.hid (Tryz.strings_Count_one s 10 w)
  have C2 := Lib.hid (Tryz.strings_HasSuffix s ⟨#[10]⟩ w (by omega))
  have hl : s.data.toList.length = s.size := (Lib.size_eq s).symm
  have hl2 : s.toList = s.data.toList := ByteArray.toList_eq s
  obtain ⟨l, hs2⟩ : ∃ l, s.data.toList = l := ⟨_, rfl⟩
  rw [hs2] at C1 C2 hl hl2 ⊢
  have C2' : Hid (Calls Tryz.prog 51 #[.string s, .string ⟨#[10]⟩] w fun e w' => e = .returned (.bool (Lib.hasSuffix l [10])) ∧ w' = w) := C2
  obtain ⟨n, hn⟩ : ∃ n, Lib.countByte l 10 = n := ⟨_, rfl⟩
  have hnl : n ≤ l.length := by rw [← hn]; exact List.count_le_length
  have hcn : l.count 10 = n := hn
  rw [hn] at C1
  have q1 : IntKind.i64.wrap ((n : Int) + 1) = ((n + 1 : Nat) : Int) := by rw [IntWalk.i64_in _ (by omega)]; omega
  obtain ⟨t, ht⟩ : ∃ t, Lib.hasSuffix l [10] = t := ⟨_, rfl⟩
  rw [ht] at C2'
  by_cases h0 : l = []
  · have HX : Hid (lnC l = n) := Lib.hid (by unfold lnC; rw [if_pos (.inl h0), hcn]; rfl)
    have e0 : s.toList.isEmpty = true := by rw [hl2, h0]; rfl
    clear hcn hn ht hs2 hnl q1 hl hl2 h0 C2 C2'
    go_enter Tryz.func20, Tryz.ntmps20
    go_wp2_with fail
    refine C1.out.mono ?_
    rintro e w1 ⟨rfl, rfl⟩
    go_wp2
    go_ret
    exact ⟨by rw [HX.out]; rfl, rfl⟩
  · have e0 : s.toList.isEmpty = false := by rw [hl2]; simpa using h0
    cases t with
    | true =>
      have HX : Hid (lnC l = n) := Lib.hid (by unfold lnC; rw [if_pos (.inr ht), hcn]; rfl)
      clear hcn hn ht hs2 hnl q1 hl hl2 h0 C2
      go_enter Tryz.func20, Tryz.ntmps20
      go_wp2_with fail
      refine C1.out.mono ?_
      rintro e w1 ⟨rfl, rfl⟩
      go_wp2_with fail
      refine C2'.out.mono ?_
      rintro e w1 ⟨rfl, rfl⟩
      go_wp2
      go_ret
      exact ⟨by rw [HX.out]; rfl, rfl⟩
    | false =>
      have HX : Hid (lnC l = n + 1) := Lib.hid (by unfold lnC; rw [if_neg (fun h => by rcases h with h | h; exact h0 h; rw [ht] at h; cases h), hcn])
      clear hcn hn ht hs2 hnl hl hl2 h0 C2
      go_enter Tryz.func20, Tryz.ntmps20
      go_wp2_with fail
      refine C1.out.mono ?_
      rintro e w1 ⟨rfl, rfl⟩
      go_wp2_with fail
      refine C2'.out.mono ?_
      rintro e w1 ⟨rfl, rfl⟩
      go_wp2
      go_ret
      exact ⟨by rw [HX.out]; rfl, rfl⟩

theorem pfaultR {B0 : Nat} {ρ : Nat → Nat} {R : RdB} {line n m : Nat} {S : RdS} {cv kv : Value} (w : World) (hR : RdW B0 ρ R line n m S cv kv w) (no : Nat) :
    Calls Tryz.prog 25 #[.pointer (some ⟨R.g, 0, none⟩), .int .i64 (no : Nat)] w fun e w' => e = .returned (.iface 126 (.agg #[.int .i64 (no : Nat), .int .i64 (line : Nat), .int .i64 0])) ∧ w' = w := by
  have c1 : w.cell? ⟨R.g, 1, none⟩ = some (.int .i64 (line : Nat)) := by rw [Lib.cell_of_heap hR.cell]; rfl
  clear hR
  go_enter Tryz.func25, Tryz.ntmps25
  go_wp2
  go_ret
  exact ⟨rfl, rfl⟩
end Go.Proofs.YtdmimdiffjpjpaaGreatDoor
