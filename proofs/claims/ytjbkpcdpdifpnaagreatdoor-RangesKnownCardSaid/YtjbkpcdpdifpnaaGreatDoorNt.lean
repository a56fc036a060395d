/- The law's own: some. -/
import Derived.Test.YtjbkpcdpdifpnaaGreatDoorCk7
import Derived.Test.YtjbkpcdpdifpnaaGreatDoorNl
namespace Go.Proofs.YtjbkpcdpdifpnaaGreatDoor
open Go Go.RowKit Go.Kt Go.Kt.Rg

def Runy (l : List (Int × Int)) : Prop := ∀ x ∈ l, (-2147483648 ≤ x.1 ∧ x.1 ≤ 2147483647) ∧ (-2147483648 ≤ x.2 ∧ x.2 ≤ 2147483647)

def SpA (W : World) (v : Value) (l : List (Int × Int)) : Prop :=
  ∃ ao cap, v = .slice ao l.length cap ∧ (l = [] ∨ ∃ a : Addr, ao = some a ∧ ∀ (i : Nat) (x : Int × Int), l[i]? = some x → W.cell? (a.add (i * 2)) = some (.int .i32 x.1) ∧ W.cell? (a.add (i * 2 + 1)) = some (.int .i32 x.2))
theorem SpA.below {A B : World} {v : Value} {l : List (Int × Int)} (h : SpA A v l) (hb : Below A.heap.size A B) : SpA B v l := by
  obtain ⟨ao, cap, rfl, h⟩ := h
  refine ⟨ao, cap, rfl, ?_⟩
  rcases h with h | ⟨a, rfl, h⟩
  · exact .inl h
  · exact .inr ⟨a, rfl, fun i x hx => ⟨(hb.cell (lt_of_cell (h i x hx).1)).trans (h i x hx).1, (hb.cell (lt_of_cell (h i x hx).2)).trans (h i x hx).2⟩⟩
theorem add_one_more (a : Addr) (i : Nat) : (a.add i).add 1 = a.add (i + 1) := by
  unfold Addr.add
  by_cases h : i = 0
  · subst h; simp
  · rw [if_neg h, if_neg (by omega), if_neg (by omega)]; simp [Nat.add_assoc]

set_option maxRecDepth 100000 in
set_option maxHeartbeats 2000000 in
theorem some_any (l : List (Int × Int)) (v : Value) (w : World) (h : SpA w v l) (hT : PTab w) (hl : l.length ≤ 9223372036854775807) (hr : Runy l) :
    Calls Tryz.prog 23 #[v] w fun e w' => ∃ s b, e = .returned (ptrV b) ∧ SetAt s b w' ∧ Canon s ∧ Below w.heap.size w w' := by
  obtain ⟨a1, c1, rfl, h1⟩ := h
  obtain ⟨n, hn⟩ : ∃ n, l.length = n := ⟨_, rfl⟩
  rw [hn] at hl
  have HN := Lib.hid hn
  have H1 := Lib.hid h1
  have HT := Lib.hid hT
  have C0 : Hid (Calls Tryz.prog 15 #[.slice none 0 0] w fun e w' => ∃ b, e = .returned (.tuple #[ptrV b, .nilIface]) ∧ SetAt (canonOf []) b w' ∧ Below w.heap.size w w') := Lib.hid <| by
    refine (rof_any [] (.slice none 0 0) w ⟨none, 0, rfl, .inl rfl⟩ hT (by simp) (by simp)).mono ?_
    rintro e w' ⟨(⟨k, x, hx, _⟩ | ⟨_, b, he, hs⟩), hb⟩
    · simp at hx
    · exact ⟨b, he, hs, hb⟩
  have CO : Hid (∀ (V : World) (x : Int × Int), x ∈ l → Below w.heap.size w V → Calls Tryz.prog 15 #[.slice (some ⟨V.heap.size, 0, none⟩) 1 1] (V.alloc (.cells #[.int .i32 x.1, .int .i32 x.2] 27)) fun e w' =>
      ((∃ f, e = .returned (.tuple #[.pointer none, .iface 96 f])) ∨ (∃ s b, e = .returned (.tuple #[ptrV b, .nilIface]) ∧ SetAt s b w' ∧ Canon s)) ∧ Below V.heap.size V w') := Lib.hid fun V x hx hV => by
    have hal : Below V.heap.size V (V.alloc (.cells #[.int .i32 x.1, .int .i32 x.2] 27)) := (Below.refl _ _).alloc (Nat.le_refl _) _
    have hsp : SpG (V.alloc (.cells #[.int .i32 x.1, .int .i32 x.2] 27)) (.slice (some ⟨V.heap.size, 0, none⟩) 1 1) [x] := ⟨_, 1, rfl, .inr ⟨V.heap.size, 0, rfl, fun i y hy => by
      cases i with
      | zero => simp at hy; subst hy; exact ⟨by rw [Lib.cell_of_heap (alloc_at rfl)]; rfl, by rw [Lib.cell_of_heap (alloc_at rfl)]; rfl⟩
      | succ i => simp at hy⟩⟩
    refine (rof_any [x] _ _ hsp ((hT.next hV).next hal) (by simp) (by simpa using hr x hx)).mono ?_
    rintro e w' ⟨hh, hb⟩
    refine ⟨?_, hal.trans (hb.mono hal.size)⟩
    rcases hh with ⟨k, y, _, _, _, he⟩ | ⟨hg, b, he, hs⟩
    · exact .inl ⟨_, he⟩
    · exact .inr ⟨_, b, he, hs, canonOf_canon _ (good_fit hg)⟩
  clear hn h1 hT
  rw [HN.out]
  go_enter Tryz.func23, Tryz.ntmps23
  go_wp2_with fail
  refine C0.out.mono ?_
  rintro e w1 ⟨b0, rfl, hs0, hb0⟩
  have HS0 := Lib.hid (And.intro hs0 hb0)
  clear hs0 hb0
  go_wp2_with fail
  go_loopw [3, 5] (fun x i wr => ∃ (k b : Nat) (s : List Run), x = ptrV b ∧ i = .int .i64 k ∧ k ≤ n ∧ SetAt s b wr ∧ Canon s ∧ Below w.heap.size w wr) (fun _ v _ => n - (RowKit.intOf v).toNat)
  case atStart => exact ⟨0, b0, _, rfl, rfl, by omega, HS0.out.1, canonOf_canon _ (by intro x hx; simp at hx), HS0.out.2⟩
  case round =>
    obtain ⟨k, b, s, rfl, rfl, hk, hs, hc, hb⟩ := hrel
    have HS := Lib.hid (And.intro hs (And.intro hc hb))
    clear hs hc hb
    by_cases hlt : k < n
    · have hlt' : (k : Int) < n := by omega
      by_cases hlt2 : k < 200
      · have hlt3 : (k : Int) < 200 := by omega
        obtain ⟨x, e1⟩ : ∃ x, l[k]? = some x := ⟨_, List.getElem?_eq_getElem (by rw [HN.out]; exact hlt)⟩
        obtain ⟨a2, rfl, k1⟩ : ∃ a : Addr, a1 = some a ∧ ∀ (i : Nat) (x : Int × Int), l[i]? = some x → w.cell? (a.add (i * 2)) = some (.int .i32 x.1) ∧ w.cell? (a.add (i * 2 + 1)) = some (.int .i32 x.2) := by
          rcases H1.out with h | h
          · subst h; simp at e1
          · exact h
        have q0 := k1 k x e1
        have q1 : wr.cell? (a2.add (k * 2)) = some (.int .i32 x.1) := (HS.out.2.2.cell (lt_of_cell q0.1)).trans q0.1
        have q2 : wr.cell? ⟨(a2.add (k * 2)).block, (a2.add (k * 2)).off + 1, none⟩ = some (.int .i32 x.2) := by
          rw [show (⟨(a2.add (k * 2)).block, (a2.add (k * 2)).off + 1, none⟩ : Addr) = (a2.add (k * 2)).add 1 from rfl, add_one_more]
          exact (HS.out.2.2.cell (lt_of_cell q0.2)).trans q0.2
        have CX := Lib.hid (CO.out wr x (List.mem_of_getElem? e1) HS.out.2.2)
        clear k1 q0 e1
        go_wp2_with fail
        refine CX.out.mono ?_
        rintro e w2 ⟨(⟨f, rfl⟩ | ⟨t, bt, rfl, hst, hct⟩), hb2⟩
        · have hbx := HS.out.2.2.trans (hb2.mono HS.out.2.2.size)
          have HF := Lib.hid (And.intro (HS.out.1.below hb2) hbx)
          clear hb2 hbx q1 q2
          go_wp2_with fail
          go_roundw
          case rel => exact ⟨k + 1, b, s, rfl, by go_num, by omega, HF.out.1, HS.out.2.1, HF.out.2⟩
          case measure => simp [RowKit.intOf]; omega
        · have hbx := HS.out.2.2.trans (hb2.mono HS.out.2.2.size)
          have CJ := Lib.hid (rjoin_any s t b bt w2 (HS.out.1.below hb2) hst HS.out.2.1 hct)
          have HF := Lib.hid (And.intro hbx hct)
          clear hb2 hbx q1 q2 hst hct
          go_wp2_with fail
          refine CJ.out.mono ?_
          rintro e w3 ⟨b3, rfl, hs3, hb3⟩
          have HG := Lib.hid (And.intro hs3 (HF.out.1.trans (hb3.mono HF.out.1.size)))
          clear hs3 hb3
          go_wp2_with fail
          go_roundw
          case rel => exact ⟨k + 1, b3, _, rfl, by go_num, by omega, HG.out.1, join_canon HS.out.2.1 HF.out.2, HG.out.2⟩
          case measure => simp [RowKit.intOf]; omega
      · have hlt3 : ¬ (k : Int) < 200 := by omega
        go_wp2
        go_ret
        exact ⟨s, b, rfl, HS.out.1, HS.out.2.1, HS.out.2.2⟩
    · have hlt' : ¬ (k : Int) < n := by omega
      go_wp2
      go_ret
      exact ⟨s, b, rfl, HS.out.1, HS.out.2.1, HS.out.2.2⟩
end Go.Proofs.YtjbkpcdpdifpnaaGreatDoor
