/- The walk of RangesReads. -/
import Derived.Test.YtjbkpcdpdifpnaaGreatDoorRx
import Derived.Test.YtjbkpcdpdifpnaaGreatDoorRu
import Derived.Test.YtjbkpcdpdifpnaaGreatDoorCk9
namespace Go.Proofs.YtjbkpcdpdifpnaaGreatDoor
open Go Go.RowKit Go.Kt Go.Kt.Rg
attribute [local go_sem] Oper.semAt_some

theorem spAt_no {s : List UInt8} {p : Nat} {no : Int} {q : Nat} (h : spAt s p = .error (no, q)) : no = 9 ∨ no = 4 := by
  unfold spAt at h
  repeat' split at h
  all_goals first | (injection h with h; injection h with h _; omega) | cases h
theorem prF_no : ∀ (f : Nat) (s : List UInt8) (p : Nat) (l : List Run) (no : Int) (q : Nat), prF f s p l = .error (no, q) → 1 ≤ no ∧ no ≤ 25
  | 0, s, p, l, no, q, h => by
    have h : Except.error (25, p) = (Except.error (no, q) : Except (Int × Nat) (List Run)) := h
    injection h with h; injection h with h _; omega
  | f + 1, s, p, l, no, q, h => by
    rw [prF_step] at h
    split at h
    · injection h with h; injection h with h _; omega
    · split at h
      · split at h
        · injection h with h; injection h with h _; omega
        · cases h
      · split at h
        · rename_i e he
          injection h with h
          subst h
          have := spAt_no he
          omega
        · split at h
          · exact prF_no f _ _ _ _ _ h
          · injection h with h; injection h with h _; omega
theorem prL_no {s : List UInt8} {no : Int} {q : Nat} (h : prL s = .error (no, q)) : 1 ≤ no ∧ no ≤ 25 := by
  unfold prL at h
  split at h
  · exact prF_no _ _ _ _ _ _ h
  · injection h with h; injection h with h _; omega
set_option maxRecDepth 100000 in
set_option maxHeartbeats 4000000 in
theorem rreads_c (s : ByteArray) (w : World) (hP : PEnv w) (hF : FEnv w) (hs : s.size ≤ 140737488351232) :
    Calls Tryz.prog 12 #[.string s] w fun e w' => e = .returned (.bool true) ∧ Below w.heap.size w w' := by
  by_cases hbig : 16384 < s.size
  · have h1 : (16384 : Int) < s.size := by omega
    clear hP hF hbig hs
    go_enter Tryz.func12, Tryz.ntmps12
    go_wp2_with fail
    go_ret
    exact ⟨rfl, Below.refl _ _⟩
  · have h1 : ¬ (16384 : Int) < s.size := by omega
    have CP := Lib.hid (rparse_any s w (by omega) hP)
    have CX := Lib.hid (fun V => xparse_any s V (by omega))
    have HF := Lib.hid (fun V (hb : Below w.heap.size w V) => hF.below hb)
    cases hp : prL s.data.toList with
    | error a =>
      obtain ⟨no, q⟩ := a
      have hno := prL_no hp
      have C1 : Hid (Calls Tryz.prog 24 #[.string s] w fun e w' => e = .returned (.tuple #[.pointer none, faultV no (q : Nat)]) ∧ Below w.heap.size w w') := Lib.hid (by
        refine CP.out.mono ?_
        rintro e w' ⟨h, hb⟩
        unfold PrOut at h; rw [hp] at h
        exact ⟨h, hb⟩)
      have C2 : Hid (∀ V, Calls Tryz.prog 39 #[.string s] V fun e w' => e = .returned (.tuple #[.agg #[.slice none 0 0], .int .i64 no, .int .i64 (q : Nat)]) ∧ Below V.heap.size V w') := Lib.hid fun V => by
        refine (CX.out V).mono ?_
        rintro e w' ⟨h, hb⟩
        unfold XpOut at h; rw [hp] at h
        exact ⟨h, hb⟩
      have C3 : Hid (∀ V, Below w.heap.size w V → Calls Tryz.prog 18 #[faultV no (q : Nat), .int .i64 no, .int .i64 (q : Nat)] V fun e w' => e = .returned (.bool true) ∧ Below V.heap.size V w') := Lib.hid fun V hV => told_fault no (q : Nat) V hno.1 hno.2 (HF.out V hV).2
      have CW := Lib.hid (fun V (hV : Below w.heap.size w V) => rworks_any V (HF.out V hV).1)
      have hne : (no != 0) = true := by rw [bne_iff_ne]; omega
      have AL := Lib.hid (fun V (hV : Below w.heap.size w V) (o : Obj) => hV.alloc hV.size o)
      clear hP hF hbig CP CX HF hp hs hno
      go_enter Tryz.func12, Tryz.ntmps12
      go_wp2_with fail
      refine C1.out.mono ?_
      rintro e w1 ⟨rfl, hb1⟩
      have HB1 := Lib.hid hb1
      clear hb1
      go_wp2_with fail
      refine (C2.out _).mono ?_
      rintro e w2 ⟨rfl, hb2⟩
      have hb2' := HB1.out.trans (hb2.mono HB1.out.size)
      have HB3 := Lib.hid (AL.out _ hb2' (.cells #[.slice none 0 0] 44))
      clear hb2 hb2'
      go_wp2_with fail
      refine (C3.out _ HB3.out).mono ?_
      rintro e w4 ⟨rfl, hb4⟩
      have HB4 := Lib.hid (HB3.out.trans (hb4.mono HB3.out.size))
      clear hb4
      go_wp2_with fail
      refine (CW.out _ HB4.out).mono ?_
      rintro e w5 ⟨rfl, hb5⟩
      have HB5 := Lib.hid (HB4.out.trans (hb5.mono HB4.out.size))
      clear hb5
      go_wp2_with fail
      go_ret
      exact ⟨rfl, HB5.out⟩
    | ok R =>
      have hR := (prL_sound hp).1
      have C1 : Hid (Calls Tryz.prog 24 #[.string s] w fun e w' => ∃ b, e = .returned (.tuple #[ptrV b, .nilIface]) ∧ SetAt R b w' ∧ Below w.heap.size w w') := Lib.hid (by
        refine CP.out.mono ?_
        rintro e w' ⟨h, hb⟩
        unfold PrOut at h; rw [hp] at h
        obtain ⟨b, he, hs⟩ := h
        exact ⟨b, he, hs, hb⟩)
      have C2 : Hid (∀ V, Calls Tryz.prog 39 #[.string s] V fun e w' => ∃ v, e = .returned (.tuple #[.agg #[v], .int .i64 0, .int .i64 0]) ∧ SlR w' v (R.map dnR) ∧ Below V.heap.size V w') := Lib.hid fun V => by
        refine (CX.out V).mono ?_
        rintro e w' ⟨h, hb⟩
        unfold XpOut at h; rw [hp] at h
        obtain ⟨v, he, hv⟩ := h
        exact ⟨v, he, hv, hb⟩
      have C3 := Lib.hid (fun V => told_ok 0 V)
      have CW := Lib.hid (fun V (hV : Below w.heap.size w V) => rworks_any V (HF.out V hV).1)
      have CI := Lib.hid (fun b v V (hV : Below w.heap.size w V) (hb : SetAt R b V) (hv : SlR V v (R.map dnR)) => is_any R b v (.slice none 0 0) [] V (HF.out V hV).1 hb hR hv ⟨none, 0, rfl, .inl rfl⟩ (fun x hx => by cases hx) (by simp))
      have AL := Lib.hid (fun V (hV : Below w.heap.size w V) (o : Obj) => hV.alloc hV.size o)
      clear hP hF hbig CP CX HF hp hs hR
      go_enter Tryz.func12, Tryz.ntmps12
      go_wp2_with fail
      refine C1.out.mono ?_
      rintro e w1 ⟨b, rfl, hsb, hb1⟩
      have HB1 := Lib.hid hb1
      have HSB := Lib.hid hsb
      clear hb1 hsb
      go_wp2_with fail
      refine (C2.out _).mono ?_
      rintro e w2 ⟨v, rfl, hv, hb2⟩
      have hb2' := HB1.out.trans (hb2.mono HB1.out.size)
      have hSw : SetAt R b w2 := HSB.out.below hb2
      obtain ⟨w3, hw3⟩ : ∃ w3, w2.alloc (.cells #[v] 44) = w3 := ⟨_, rfl⟩
      have hal : Below w2.heap.size w2 w3 := by rw [← hw3]; exact (Below.refl _ _).alloc (Nat.le_refl _) _
      have h3 : w3.heap[w2.heap.size]? = some (.cells #[v] 44 (0, 0)) := by rw [← hw3]; exact alloc_at rfl
      have HB3 := Lib.hid (And.intro (hb2'.trans (hal.mono hb2'.size)) (And.intro h3 (And.intro (hSw.below hal) (hv.below hal))))
      have hz3 : w2.heap.size < w3.heap.size := by rw [← hw3]; simp
      have HZ := Lib.hid hz3
      have HW3 := Lib.hid hw3
      have hvs : ∃ ao cap, v = .slice ao R.length cap := by obtain ⟨ao, cap, e, _⟩ := slr_at hv; exact ⟨ao, cap, e⟩
      obtain ⟨va, vc, rfl⟩ := hvs
      clear hb2 hb2' hSw hal h3 hw3 hv hz3
      go_wp2_with fail
      rw [HW3.out]
      refine (C3.out _).mono ?_
      rintro e w4 ⟨rfl, hb4⟩
      have HB4 := Lib.hid (HB3.out.1.trans (hb4.mono HB3.out.1.size))
      have h4 := (hb4.block _ HZ.out).trans HB3.out.2.1
      have HS4 := Lib.hid (And.intro (HB3.out.2.2.1.below hb4) (And.intro (HB3.out.2.2.2.below hb4) (And.intro h4 (Nat.lt_of_lt_of_le HZ.out hb4.size))))
      clear hb4 h4
      go_wp2_with fail
      refine (CW.out _ HB4.out).mono ?_
      rintro e w5 ⟨rfl, hb5⟩
      have HB5 := Lib.hid (HB4.out.trans (hb5.mono HB4.out.size))
      have h5 := (hb5.block _ HS4.out.2.2.2).trans HS4.out.2.2.1
      have CI5 := Lib.hid (CI.out b _ w5 HB5.out (HS4.out.1.below hb5) (HS4.out.2.1.below hb5))
      have k5 := cell_one h5
      clear hb5 h5
      go_wp2_with fail
      refine CI5.out.mono ?_
      rintro e w6 ⟨rfl, hb6⟩
      have HB6 := Lib.hid (HB5.out.trans (hb6.mono HB5.out.size))
      clear hb6
      go_wp2_with fail
      go_ret
      exact ⟨rfl, HB6.out⟩
end Go.Proofs.YtjbkpcdpdifpnaaGreatDoor
