/- The document's answer for props: a line of class or kind. -/
import Derived.Test.YthhepebkfokddaaGreatDoorGy22
import Derived.Test.YthhepebkfokddaaGreatDoorLx
import Derived.Test.YthhepebkfokddaaGreatDoorLl
namespace Go.Proofs.YthhepebkfokddaaGreatDoor
open Go Go.RowKit Go.Kt Go.Kt.Rg Go.Maps

def TxR (w : World) (v : Value) (ws : List (List UInt8)) : Prop :=
  ∃ ao cap, v = .slice ao ws.length cap ∧ (ws = [] ∨ ∃ g, ao = some ⟨g, 0, none⟩ ∧ ∀ (i : Nat) (x : List UInt8), ws[i]? = some x → w.cell? ⟨g, i, none⟩ = some (.string ⟨x.toArray⟩))
theorem TxO.tx {H : Nat} {v : Value} {ws : List (List UInt8)} {w : World} (h : TxO H v ws w) : TxR w v ws := by
  rcases OwnS.shape h with ⟨e, h0⟩ | ⟨g, cap, e, _⟩
  · exact ⟨none, 0, by rw [e, h0], .inl (List.length_eq_zero_iff.1 h0)⟩
  · subst e
    refine ⟨_, cap, rfl, .inr ⟨g, rfl, fun i x hx => OwnS.at0 h (i := i) ?_⟩⟩
    simp [encS, List.getElem?_map, hx]
def KTabX (w : World) : Prop := ∀ k (hk : k < 8), w.cell? ⟨0, k, none⟩ = some (.string ⟨(kdN[k]'hk).toArray⟩)
theorem KTabX.below {A B : World} (h : KTabX A) (hb : Below A.heap.size A B) : KTabX B := fun k hk => (hb.cell (lt_of_cell (h k hk))).trans (h k hk)
theorem tinfoRowX : (Tryz.prog.info? 154).map (fun i => (i.zero, i.size, i.bytes)) = some (some (.agg #[.int .i64 0, .int .i64 0, .int .i64 0]), 3, 24) := by kernel_rfl
abbrev wCls : List UInt8 := [99, 108, 97, 115, 115]
abbrev wKnd : List UInt8 := [107, 105, 110, 100]
abbrev wFld : List UInt8 := [102, 111, 108, 100]
abbrev wDcp : List UInt8 := [100, 101, 99, 111, 109, 112]
section
variable {B0 g : Nat} {ρ : Nat → Nat} {X : XdS} {S : RdS} {cv kv fv dv : Value} {w w' : World}
theorem PxW.no (h : PxW B0 ρ g X cv kv fv dv w) {N no : Nat} (hN : X.fl.length ≤ N ∧ X.dl.length ≤ N) (h0 : no ≠ 0) (E : RdS) (hb : Below w.heap.size w w') : PxOut B0 g N no E w (.returned (.int .i64 (no : Nat))) w' :=
  ⟨rfl, hb.mono h.hB, ρ, X, cv, kv, fv, dv, h.below hb, fun e => absurd e h0, hN⟩
theorem PxW.appc (h : PxW B0 ρ g X cv kv fv dv w) (hX : XRel X S) (hm : X.cs.length ≤ 65536) (r : Nat × Nat × Int) : ∃ v' w3, (∀ ty, (Builtin.append_ #[112, 112] ty #[cv, .slice (some ⟨w.heap.size, 0, none⟩) 1 1]).run Tryz.prog (w.alloc (.cells #[.int .i64 r.1, .int .i64 r.2.1, .int .i64 r.2.2] 154)) = .ok v' w3) ∧
    w3.cell? ⟨g, 0, none⟩ = some cv ∧ w3.frozen? ⟨g, 0, none⟩ = false ∧ (∃ ao n cp, v' = .slice ao n cp) ∧ Below B0 w (w3.setCell ⟨g, 0, none⟩ v') ∧ ∃ ρ' X' cv' kv' fv' dv', PxW B0 ρ' g X' cv' kv' fv' dv' (w3.setCell ⟨g, 0, none⟩ v') ∧ XRel X' { S with cs := S.cs ++ [r] } ∧ X'.fl = X.fl ∧ X'.dl = X.dl := by
  obtain ⟨gb, cap, w3, hrun, hown3, hk3, hg3, hz3⟩ := append_x (P := Tryz.prog) w 112 154 Tryz.underlying112 tinfoRowX rfl (by omega) h.c [.int .i64 r.1, .int .i64 r.2.1, .int .i64 r.2.2] rfl
    (by intro u hu; simp at hu; rcases hu with rfl | rfl | rfl <;> rfl) (by unfold maxLen; omega) (by omega)
  have hgg : g ≠ gb := fun e => by
    subst e
    have hgl := h.gl
    rcases hg3 with hx | hx
    · have h9 : ρ g = 2 := h.c.2 _ hx
      have h8 := h.rg
      omega
    · omega
  have hcg : ∀ b, cv.ownBlock = some b → g ≠ b := fun b hb e => by
    subst e
    have h9 : ρ g = 2 := h.c.2 _ hb
    have h8 := h.rg
    omega
  have hc3 := hk3.heap h.cell (fun e => hcg _ e rfl)
  have q : w3.cell? ⟨g, 0, none⟩ = some cv := by rw [Lib.cell_of_heap hc3]; rfl
  have hk4 : Keep (fun b => b = g ∨ cv.ownBlock = some b) w (w3.setCell ⟨g, 0, none⟩ (.slice (some ⟨gb, 0, none⟩) (X.cs.length + 1) cap)) := (hk3.weaken fun _ _ h => .inr h).trans ((Keep.setCell (X := fun b => b = g) (Keep.refl _ w3) (p := ⟨g, 0, none⟩) rfl _).weaken fun _ _ h => .inl h)
  have hk5 : Keep (fun b => b = g) w3 (w3.setCell ⟨g, 0, none⟩ (.slice (some ⟨gb, 0, none⟩) (X.cs.length + 1) cap)) := Keep.setCell (X := fun b => b = g) (Keep.refl _ w3) (p := ⟨g, 0, none⟩) rfl _
  have hX' := hX.cls r
  have hP := h.newc (l' := X.cs ++ [r]) hk4 (v' := .slice (some ⟨gb, 0, none⟩) (X.cs.length + 1) cap) (by
    have := heap_setCell_same w3 g 0 _ _ (.slice (some ⟨gb, 0, none⟩) (X.cs.length + 1) cap) hc3
    simpa using this) (by
    rw [List.length_append, rfE_snoc]
    refine (hown3.keep hk5 (fun b hb e => hgg (by rw [← hb, ← e]))).weaken (fun b hb => ⟨?_, fun e => hgg (by rw [← e, hb])⟩)
    subst hb
    rcases hg3 with hx | hx
    · exact .inl hx
    · exact .inr (by omega))
  refine ⟨_, w3, hrun, q, Lib.frozen_of_heap hc3 _, ⟨_, _, _, rfl⟩, hk4.below h.hB (fun b hb => ?_), _, _, _, _, _, _, hP, hX', rfl, rfl⟩
  rcases hb with rfl | hb
  · exact h.hr _ (by rw [h.rg]; decide)
  · exact h.hr _ (by have h9 : ρ b = 2 := h.c.2 _ hb; omega)
theorem PxW.appk (h : PxW B0 ρ g X cv kv fv dv w) (hX : XRel X S) (hm : X.ks.length ≤ 65536) (r : Nat × Nat × Int) : ∃ v' w3, (∀ ty, (Builtin.append_ #[112, 112] ty #[kv, .slice (some ⟨w.heap.size, 0, none⟩) 1 1]).run Tryz.prog (w.alloc (.cells #[.int .i64 r.1, .int .i64 r.2.1, .int .i64 r.2.2] 154)) = .ok v' w3) ∧
    w3.cell? ⟨g, 1, none⟩ = some kv ∧ w3.frozen? ⟨g, 1, none⟩ = false ∧ (∃ ao n cp, v' = .slice ao n cp) ∧ Below B0 w (w3.setCell ⟨g, 1, none⟩ v') ∧ ∃ ρ' X' cv' kv' fv' dv', PxW B0 ρ' g X' cv' kv' fv' dv' (w3.setCell ⟨g, 1, none⟩ v') ∧ XRel X' { S with ks := S.ks ++ [r] } ∧ X'.fl = X.fl ∧ X'.dl = X.dl := by
  obtain ⟨gb, cap, w3, hrun, hown3, hk3, hg3, hz3⟩ := append_x (P := Tryz.prog) w 112 154 Tryz.underlying112 tinfoRowX rfl (by omega) h.k [.int .i64 r.1, .int .i64 r.2.1, .int .i64 r.2.2] rfl
    (by intro u hu; simp at hu; rcases hu with rfl | rfl | rfl <;> rfl) (by unfold maxLen; omega) (by omega)
  have hgg : g ≠ gb := fun e => by
    subst e
    have hgl := h.gl
    rcases hg3 with hx | hx
    · have h9 : ρ g = 3 := h.k.2 _ hx
      have h8 := h.rg
      omega
    · omega
  have hcg : ∀ b, kv.ownBlock = some b → g ≠ b := fun b hb e => by
    subst e
    have h9 : ρ g = 3 := h.k.2 _ hb
    have h8 := h.rg
    omega
  have hc3 := hk3.heap h.cell (fun e => hcg _ e rfl)
  have q : w3.cell? ⟨g, 1, none⟩ = some kv := by rw [Lib.cell_of_heap hc3]; rfl
  have hk4 : Keep (fun b => b = g ∨ kv.ownBlock = some b) w (w3.setCell ⟨g, 1, none⟩ (.slice (some ⟨gb, 0, none⟩) (X.ks.length + 1) cap)) := (hk3.weaken fun _ _ h => .inr h).trans ((Keep.setCell (X := fun b => b = g) (Keep.refl _ w3) (p := ⟨g, 1, none⟩) rfl _).weaken fun _ _ h => .inl h)
  have hk5 : Keep (fun b => b = g) w3 (w3.setCell ⟨g, 1, none⟩ (.slice (some ⟨gb, 0, none⟩) (X.ks.length + 1) cap)) := Keep.setCell (X := fun b => b = g) (Keep.refl _ w3) (p := ⟨g, 1, none⟩) rfl _
  have hX' := hX.knd r
  have hP := h.newk (l' := X.ks ++ [r]) hk4 (v' := .slice (some ⟨gb, 0, none⟩) (X.ks.length + 1) cap) (by
    have := heap_setCell_same w3 g 1 _ _ (.slice (some ⟨gb, 0, none⟩) (X.ks.length + 1) cap) hc3
    simpa using this) (by
    rw [List.length_append, rfE_snoc]
    refine (hown3.keep hk5 (fun b hb e => hgg (by rw [← hb, ← e]))).weaken (fun b hb => ⟨?_, fun e => hgg (by rw [← e, hb])⟩)
    subst hb
    rcases hg3 with hx | hx
    · exact .inl hx
    · exact .inr (by omega))
  refine ⟨_, w3, hrun, q, Lib.frozen_of_heap hc3 _, ⟨_, _, _, rfl⟩, hk4.below h.hB (fun b hb => ?_), _, _, _, _, _, _, hP, hX', rfl, rfl⟩
  rcases hb with rfl | hb
  · exact h.hr _ (by rw [h.rg]; decide)
  · exact h.hr _ (by have h9 : ρ b = 3 := h.k.2 _ hb; omega)
end
end Go.Proofs.YthhepebkfokddaaGreatDoor
