/- props: what the laws call themselves: read, works. -/
import Derived.Test.YtdmimdiffjpjpaaGreatDoorUt
import Derived.Test.YtdmimdiffjpjpaaGreatDoorCa
namespace Go.Proofs.YtdmimdiffjpjpaaGreatDoor
open Go Go.RowKit Go.Kt Go.Kt.Rg Go.Maps

theorem NewZ.sl {H : Nat} {l : List Int} {e : Ending} {w : World} (h : NewZ H l e w) : ∃ v, e = .returned v ∧ Sl .i32 w v l := by
  obtain ⟨ao, cp, rfl, ho⟩ := h
  refine ⟨_, rfl, ao, cp, rfl, ?_⟩
  rcases ho.shape with ⟨hv, h0⟩ | ⟨gb, cap, hv, hg, hgl⟩
  · exact .inl (List.length_eq_zero_iff.1 h0)
  · cases hv
    refine .inr ⟨gb, 0, rfl, fun i x hx => ?_⟩
    rw [Nat.zero_add]
    refine ho.at0 (i := i) ?_
    simp [encZ, List.getElem?_map, hx]
/-- Properties of a file that may be, with what is sound of them. -/
def PrOk (g : Nat) (l : List UInt8) (S : RdS) (L : List Nat) (w : World) : Prop := ParseR l 0 (ringP S (L.length + 1) L fun _ => none).2 S L ∧ PrW g S (mdOf S L) w
theorem ParseR.ok {l : List UInt8} {line : Nat} {S : RdS} {L : List Nat} (h : ParseR l 0 line S L) : S = (readP 0 rd0 (linesP l)).2.2 ∧ (readP 0 rd0 (linesP l)).1 = 0 ∧ RdOk 65536 S ∧ L.Pairwise (· < ·) ∧ (∀ x, x ∈ L ↔ (S.ds x).isSome = true) := by
  rcases h with ⟨_, h, _⟩ | ⟨_, h1, h2, _⟩ | ⟨h0, h1, h2, h3, h4, _⟩
  · cases h
  · exact absurd h2.symm h1
  · refine ⟨h2, h1, ?_, h3, h4⟩
    have := readP_ok (linesP l) 0 0 rd0 rd0_ok h1
    rw [← h2, Nat.zero_add, linesP_len] at this
    exact this.mono (Nat.le_of_not_lt fun h => h0 (.inr h))

set_option maxRecDepth 100000 in
/-- read: properties, or none. -/
theorem pread (s : ByteArray) (w : World) (hE : PEnv w) :
    Calls Tryz.prog 14 #[.string s] w fun e w' => Below w.heap.size w w' ∧ ((e = .returned (.pointer none)) ∨ ∃ g line S L, e = .returned (.pointer (some ⟨g, 0, none⟩)) ∧ ParseR s.data.toList 0 line S L ∧ PrW g S (mdOf S L) w') := by
  have C := Lib.hid (pParse s w hE)
  have ne1 : ∀ (t : TypeId) (v : Value) (W : World), (binOp .neq 25 (.iface t v) .nilIface).run Tryz.prog W = .ok (.bool true) W := fun t v W => by go_simp
  go_enter Tryz.func14, Tryz.ntmps14
  go_wp2_with fail
  refine C.out.mono ?_
  rintro e w' ⟨no, line, S, L, hP, hb, ⟨rfl, g, rfl, hW⟩ | ⟨h0, rfl⟩⟩
  · have H := Lib.hid (And.intro hP (And.intro hb hW))
    clear hP hb hW
    go_wp2
    go_ret
    exact ⟨H.out.2.1, .inr ⟨g, line, S, L, rfl, H.out.1, H.out.2.2⟩⟩
  · obtain ⟨t, v, hv⟩ : ∃ t v, errP no line = .iface t v := by
      unfold errP
      split
      · exact ⟨_, _, rfl⟩
      · exact ⟨_, _, rfl⟩
    rw [hv]
    have H := Lib.hid hb
    clear hP hb hv
    go_wp2
    go_ret
    exact ⟨H.out, .inl rfl⟩
/-- The file that works reads. -/
def fileW : List UInt8 := [99, 108, 97, 115, 115, 32, 48, 51, 48, 48, 32, 50, 51, 48, 10, 107, 105, 110, 100, 32, 48, 48, 52, 49, 32, 108, 101, 116, 116, 101, 114, 10, 102, 111, 108, 100, 32, 48, 48, 52, 49, 32, 48, 48, 54, 49, 10, 100, 101, 99, 111, 109, 112, 32, 48, 48, 67, 48, 32, 48, 48, 52, 49, 32, 48, 51, 48, 48]
def rdW : RdS := ⟨[(768, 768, 230)], [(65, 65, 1)], updN (fun _ => none) 192 [65, 768], updN (fun _ => none) 65 [97], updN (fun _ => none) 192 4, fun _ => none⟩
theorem fileW_reads : readP 0 rd0 (linesP fileW) = (0, 4, rdW) := by kernel_rfl
theorem fileW_lines : lnC fileW = 4 := by kernel_rfl
theorem fileW_only {no line : Nat} {S : RdS} {L : List Nat} (h : ParseR fileW no line S L) : no = 0 ∧ S = rdW ∧ L = [192] := by
  have hr := fileW_reads
  have hlen : fileW.length = 68 := by kernel_rfl
  rcases h with ⟨h, _⟩ | ⟨_, h1, _⟩ | ⟨_, h1, h2, h3, h4, h5, _⟩
  · rw [fileW_lines, hlen] at h; omega
  · rw [hr] at h1; exact absurd rfl h1
  · rw [hr] at h2
    simp only at h2
    subst h2
    have hL : L = [192] := rise_eq h3 (List.pairwise_singleton _ _) (fun x => by
      rw [h4 x]
      simp only [rdW, updN, List.mem_singleton]
      by_cases e : x = 192
      · simp [e]
      · simp [e])
    subst hL
    refine ⟨?_, rfl, rfl⟩
    rw [h5]
    kernel_rfl
end Go.Proofs.YtdmimdiffjpjpaaGreatDoor
