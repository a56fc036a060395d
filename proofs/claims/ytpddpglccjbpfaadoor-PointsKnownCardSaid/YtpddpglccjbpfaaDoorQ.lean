import Derived.Test.YtpddpglccjbpfaaDoorK2
import Derived.Test.YtpddpglccjbpfaaDoorShelf
import Derived.Lib.Hide
import Derived.WalkSpells
import Derived.WalkLawsBesides
namespace Go.Proofs.YtpddpglccjbpfaaDoor
open Go Go.RowKit Go.Kt

/-- A builder of the call's own, at block b, that holds the bytes l. -/
def Bld (b : Nat) (Y : Nat → Prop) (l : List UInt8) (W : World) : Prop :=
  ∃ p v, (p = .pointer none ∨ p = .pointer (some ⟨b, 0, none⟩)) ∧ W.heap[b]? = some (.cells #[p, v] 86 (0, 0)) ∧ W.ownsRowF 0 5 1 v l.length (Lib.byteCells l) ∧ v.ownBlock ≠ some b ∧ ∀ g, v.ownBlock = some g → Y g

theorem tinfo5 : (Tryd.prog.info? 5).map (fun i => (i.zero, i.size, i.bytes)) = some (some (.int .u8 0), 1, 1) := by kernel_rfl

theorem ownsF_keep {X : Nat → Prop} {e : TypeId} {n : Nat} {v : Value} {xs : List Value} {A B : World} (h : A.ownsRowF 0 e 1 v n xs) (hk : Keep X A B) (hX : ∀ g, v.ownBlock = some g → ¬ X g) : B.ownsRowF 0 e 1 v n xs := by
  refine ⟨h.1, ?_⟩
  rcases h.2 with h2 | ⟨g, cap, cur, fz, rfl, hb, hg, rest⟩
  · exact .inl h2
  · exact .inr ⟨g, cap, cur, fz, rfl, hb, hk.heap hg (hX g rfl), rest⟩
theorem Bld.keep {b : Nat} {Y X : Nat → Prop} {l : List UInt8} {A B : World} (h : Bld b Y l A) (hk : Keep X A B) (hb : ¬ X b) (hY : ∀ g, Y g → ¬ X g) : Bld b Y l B := by
  obtain ⟨p, v, hp, hh, ho, hne, hy⟩ := h
  exact ⟨p, v, hp, hk.heap hh hb, ownsF_keep ho hk (fun g hg => hY g (hy g hg)), hne, hy⟩

theorem copyCheck_x (b : Nat) (Y : Nat → Prop) (l : List UInt8) (W : World) (h : Bld b Y l W) :
    Calls Tryd.prog 84 #[.pointer (some ⟨b, 0, none⟩)] W fun e w' => e = .returned (.tuple #[]) ∧ ∃ v, w'.heap[b]? = some (.cells #[.pointer (some ⟨b, 0, none⟩), v] 86 (0, 0)) ∧ w'.ownsRowF 0 5 1 v l.length (Lib.byteCells l) ∧ v.ownBlock ≠ some b ∧ (∀ g, v.ownBlock = some g → Y g) ∧ Keep (fun c => c = b) W w' ∧ w'.heap.size = W.heap.size := by
  obtain ⟨p, v, hp, hh, ho, hne, hy⟩ := h
  rcases hp with rfl | rfl
  · refine (Any.Builder_copyCheck_fresh { Tryd.lays166 with } Tryd.Builder_Extra_166.toX72 b W (by rw [Lib.cell_of_heap hh]; rfl) (by simp [World.shape?, hh]; rfl) (Lib.frozen_of_heap hh 0)).mono ?_
    rintro e w' ⟨rfl, rfl⟩
    have hk : Keep (fun c => c = b) W (W.setCell ⟨b, 0, none⟩ (.pointer (some ⟨b, 0, none⟩))) := (Keep.refl (fun c => c = b) W).setCell (p := ⟨b, 0, none⟩) rfl _
    refine ⟨rfl, v, ?_, ownsF_keep ho hk (fun g hg e => hne (e ▸ hg)), hne, hy, hk, by simp⟩
    simp [World.setCell, Array.getElem?_modify, hh]
  · refine (Any.Builder_copyCheck_used { Tryd.lays166 with } Tryd.Builder_Extra_166.toX72 b W (by rw [Lib.cell_of_heap hh]; rfl)).mono ?_
    rintro e w' ⟨rfl, rfl⟩
    exact ⟨rfl, v, hh, ho, hne, hy, Keep.refl _ _, rfl⟩

set_option maxRecDepth 100000 in
theorem writeString_x (b : Nat) (Y : Nat → Prop) (l : List UInt8) (s : ByteArray) (W : World) (h : Bld b Y l W) (hlen : l.length + s.size ≤ 140737488355328) :
    Calls Tryd.prog 50 #[.pointer (some ⟨b, 0, none⟩), .string s] W fun e w' => e = .returned (.tuple #[.int .i64 s.size, .nilIface]) ∧
      ∃ Y', Bld b Y' (l ++ s.data.toList) w' ∧ Keep (fun c => c = b ∨ Y c) W w' ∧ (∀ c, Y' c → Y c ∨ W.heap.size ≤ c) := by
  have hc := Lib.hid (copyCheck_x b Y l W h)
  clear h
  go_enter Tryd.func50, Tryd.ntmps50
  go_wp2_with fail
  refine hc.out.mono ?_
  rintro e w1 ⟨rfl, v, hh, ho, hne, hy, hk, hsz⟩
  obtain ⟨a0, k0, p0, rfl⟩ : ∃ ao n' cap, v = .slice ao n' cap := by
    rcases ho.2 with ⟨hv, _⟩ | ⟨g, cap, cur, fz, hv, _⟩
    · exact ⟨_, _, _, hv⟩
    · exact ⟨_, _, _, hv⟩
  obtain ⟨v', w2, hrun, ho2, hk2, hfr⟩ := append_str (P := Tryd.prog) w1 61 9 5 Tryd.underlying61 Tryd.underlying9 tinfo5 ho s hlen
  have c1 : w1.cell? ⟨b, 1, none⟩ = some (.slice a0 k0 p0) := by rw [Lib.cell_of_heap hh]; rfl
  have hb2 : w2.heap[b]? = some (.cells #[.pointer (some ⟨b, 0, none⟩), .slice a0 k0 p0] 86 (0, 0)) := hk2.heap hh hne
  have c2 : w2.cell? ⟨b, 1, none⟩ = some (.slice a0 k0 p0) := by rw [Lib.cell_of_heap hb2]; rfl
  have f2 : w2.frozen? ⟨b, 1, none⟩ = false := Lib.frozen_of_heap hb2 1
  have hfacts := Lib.hid (And.intro hh (And.intro ho (And.intro hne (And.intro hy (And.intro hb2 (And.intro hsz hfr))))))
  clear hh hb2 hsz hfr hy
  obtain ⟨ao, n', cap, rfl⟩ : ∃ ao n' cap, v' = .slice ao n' cap := by
    rcases ho2.2 with ⟨hv, _⟩ | ⟨g, cap, cur, fz, hv, _⟩
    · exact ⟨_, _, _, hv⟩
    · exact ⟨_, _, _, hv⟩
  have HO2 := Lib.hid ho2
  clear ho2 hne ho
  have HR := Lib.hid hrun
  clear hrun
  go_wp2_with (at_builtin; refine wpList_append_eq rfl rfl rfl rfl HR.out ?_)
  go_ret2
  obtain ⟨hh, ho, hne, hy, hb2, hsz, hfr⟩ := hfacts.out
  have hk3 : Keep (fun c => c = b) w2 (w2.setCell ⟨b, 1, none⟩ (.slice ao n' cap)) := (Keep.refl (fun c => c = b) w2).setCell (p := ⟨b, 1, none⟩) rfl _
  have hbs : b < w1.heap.size := (Array.getElem?_eq_some_iff.1 hh).1
  have hne' : (Value.slice ao n' cap).ownBlock ≠ some b := fun e => by
    rcases hfr b e with h | h
    · exact hne h
    · omega
  refine ⟨rfl, fun c => (Value.slice ao n' cap).ownBlock = some c, ⟨_, _, .inr rfl, ?_, ?_, hne', fun g hg => hg⟩, ?_, ?_⟩
  · simp [World.setCell, Array.getElem?_modify, hb2]
  · have := ownsF_keep HO2.out hk3 (fun g hg e => hne' (e ▸ hg))
    have e1 : (l ++ s.data.toList).length = l.length + s.size := by simp
    rw [e1, show Lib.byteCells (l ++ s.data.toList) = Lib.byteCells l ++ Lib.strCells s by simp [Lib.byteCells, Lib.strCells]]
    exact this
  · exact ((hk.weaken (fun _ _ h => .inl h)).trans (hk2.weaken (fun _ _ h => .inr (hy _ h)))).trans (hk3.weaken (fun _ _ h => .inl h))
  · intro c hc
    rcases hfr c hc with h | h
    · exact .inl (hy c h)
    · exact .inr (by omega)

theorem string_x (b : Nat) (Y : Nat → Prop) (l : List UInt8) (W : World) (h : Bld b Y l W) (n0 : Nat) (hn : n0 ≤ W.heap.size) (hb : n0 ≤ b) (hY : ∀ g, Y g → n0 ≤ g) :
    Calls Tryd.prog 52 #[.pointer (some ⟨b, 0, none⟩)] W fun e w' => e = .returned (.string ⟨l.toArray⟩) ∧ Below n0 W w' ∧ Lib.OthersKept 5 (some b) W w' := by
  obtain ⟨p, v, hp, hh, ho, hne, hy⟩ := h
  have hA : ∀ q, q = p → Lib.BuilderAtF 86 5 n0 b q (Lib.byteCells l) W := fun q hq => by
    subst hq
    have h1 := ho.1
    refine ⟨hb, v, hh, ⟨by rw [Lib.byteCells_length]; rw [Lib.byteCells_length] at h1; exact h1, ?_⟩, hne⟩
    rw [Lib.byteCells_length]
    rcases ho.2 with h2 | ⟨g, cap, cur, fz, rfl, _, rest⟩
    · exact .inl h2
    · exact .inr ⟨g, cap, cur, fz, rfl, hY g (hy g rfl), rest⟩
  have hB : Lib.IsBuilderF 86 5 n0 b (Lib.byteCells l) W := by
    rcases hp with rfl | rfl
    · exact .inl (hA _ rfl)
    · exact .inr (hA _ rfl)
  exact (Tryd.Builder_String_any_k n0 b l W hB hn).mono fun e w' ⟨h1, _, h2, h3⟩ => ⟨h1, h2, h3⟩
end Go.Proofs.YtpddpglccjbpfaaDoor
