/- The document's word on whether a text is right. -/
import Derived.Test.YtgjhingjheplfaaDoorRa
import Derived.Test.YtgjhingjheplfaaDoorCb
namespace Go.Proofs.YtgjhingjheplfaaDoor
open Go Go.RowKit Go.Kt Go.Shelf

theorem ill_iff0 (s : ByteArray) (i : Nat) : illB s i = true ↔ wideI s i = 0 := by simp [illB]
theorem okF_all (s : ByteArray) : ∀ f i, okF s f i = (unitsF s f i).all fun p => !illB s p.1
  | 0, _ => rfl
  | f + 1, i => by
    unfold okF unitsF
    by_cases h : i < s.size
    · rw [if_pos h, if_pos h, List.all_cons, okF_all s f]
      cases illB s i <;> rfl
    · rw [if_neg h, if_neg h]; rfl

set_option maxRecDepth 100000 in
theorem refValid_any (s : ByteArray) (w : World) (hs : s.size ≤ 4611686018427387904) (hu : (units s).length ≤ 17592186043904) :
    Calls Tryd.prog 22 #[.string s] w fun e w' => e = .returned (.bool (okB s)) ∧ Below w.heap.size w w' := by
  have CP := Lib.hid (refPlaces_any s w hs hu)
  have hd := units_dec s s.size 0
  change ∀ p, p ∈ units s → _ at hd
  have HOK : Hid (okB s = (units s).all fun p => !illB s p.1) := Lib.hid (okF_all s s.size 0)
  generalize units s = R at *
  generalize okB s = K at *
  have HD := Lib.hid hd
  clear hd
  go_enter Tryd.func22, Tryd.ntmps22
  go_wp2_with fail
  refine CP.out.mono ?_
  rintro e w1 ⟨a1, c1, rfl, hown1, hb1⟩
  have hS1 : Slg .i64 w1 (.slice a1 (plI R).length c1) (plI R) := (sl_of_own (k := .i64) hown1 rfl).toG
  rw [plI_len] at hS1 ⊢
  have HS1 := Lib.hid hS1
  have HB1 := Lib.hid hb1
  clear hS1 hown1 hb1
  go_wp2
  go_loopw [4] (fun v wr => ∃ (k j : Nat), k ≤ R.length ∧ v = .int .i64 k ∧ (∀ p ∈ R.take k, illB s p.1 = false) ∧ wr = w1.drewN j)
    (fun v _ => R.length - (RowKit.intOf v).toNat)
  case atStart => exact ⟨0, 0, by omega, rfl, by simp, rfl⟩
  case round =>
    obtain ⟨k, j, hk, rfl, hpre, rfl⟩ := hrel
    by_cases hlt : k < R.length
    · obtain ⟨p, hp⟩ : ∃ p, R[k]? = some p := ⟨R[k], List.getElem?_eq_getElem hlt⟩
      obtain ⟨hp1, hp2⟩ := HD.out p (List.mem_of_getElem? hp)
      have hpI : (plI R)[k]? = some (p.1 : Int) := by simp [plI, hp]
      obtain ⟨a, rfl, q⟩ : ∃ a : Addr, a1 = some a ∧ w1.cell? (a.add k) = some (.int .i64 p.1) := by
        obtain ⟨ax, cx, e, h⟩ := HS1.out
        injection e with e1 _ _
        subst e1
        rcases h with h | ⟨a, e, h⟩
        · rw [h] at hpI; simp at hpI
        · exact ⟨a, e, h k _ hpI⟩
      have p1 : (w1.drewN j).cell? (a.add k) = some (.int .i64 p.1) := q
      have CW := Lib.hid (fun w => wide_any s p.1 w hp2 hs)
      by_cases hI : illB s p.1 = true
      · have HK : Hid (K = false) := Lib.hid (by
          rw [HOK.out]
          refine List.all_eq_false.2 ⟨p, List.mem_of_getElem? hp, by rw [hI]; decide⟩)
        have hw0 : wideI s p.1 = 0 := (ill_iff0 s p.1).1 hI
        rw [hw0] at CW
        have HPre := Lib.hid hpre
        clear hp hp1 hpI q hI hw0 hpre hp2
        obtain ⟨p1v, p2v⟩ := p
        simp only at p1 CW
        go_wp2_with (first | (go_at_call 60; refine (CW.out _).mono ?_; rintro e w' ⟨rfl, rfl⟩))
        go_ret
        exact ⟨by rw [HK.out]; rfl, HB1.out.trans ((Drawn.below (w := w1) ⟨_, rfl⟩).mono HB1.out.size)⟩
      · have hw0 : wideI s p.1 ≠ 0 := fun h => hI ((ill_iff0 s p.1).2 h)
        have HW0 : Hid ((wideI s p.1 == 0) = false) := Lib.hid (by simpa using hw0)
        have HPre : Hid (∀ p ∈ R.take (k + 1), illB s p.1 = false) := Lib.hid (by
          rw [List.take_add_one, hp]
          intro x hx
          rcases List.mem_append.1 hx with h | h
          · exact hpre x h
          · have : x = p := by simpa using h
            rw [this]; simpa using hI)
        have hwb := HW0.out
        clear hp hp1 hpI q hI hw0 hpre hp2
        obtain ⟨p1v, p2v⟩ := p
        simp only at p1 CW hwb
        generalize wideI s p1v = wd at *
        go_wp2_with (first | (go_at_call 60; refine (CW.out _).mono ?_; rintro e w' ⟨rfl, rfl⟩))
        go_roundw
        case rel => exact ⟨k + 1, _, by omega, by go_num, HPre.out, rfl⟩
        case measure => simp [RowKit.intOf]; omega
    · obtain rfl : k = R.length := by omega
      rw [List.take_length] at hpre
      have HK : Hid (K = true) := Lib.hid (by
        rw [HOK.out]
        exact List.all_eq_true.2 (fun p hp => by rw [hpre p hp]; rfl))
      clear hpre
      go_wp2
      go_ret
      exact ⟨by rw [HK.out]; rfl, HB1.out.trans ((Drawn.below (w := w1) ⟨_, rfl⟩).mono HB1.out.size)⟩
end Go.Proofs.YtgjhingjheplfaaDoor
