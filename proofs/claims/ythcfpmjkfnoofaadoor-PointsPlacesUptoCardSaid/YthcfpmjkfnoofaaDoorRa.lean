/- The document's places, numbers, and whether a text is right. -/
import Derived.Test.YthcfpmjkfnoofaaDoorPc
import Derived.Test.YthcfpmjkfnoofaaDoorCb
import Derived.Test.YthcfpmjkfnoofaaDoorCc
import Derived.Test.YthcfpmjkfnoofaaDoorCe
namespace Go.Proofs.YthcfpmjkfnoofaaDoor
open Go Go.RowKit Go.Kt Go.Shelf

def plI (l : List (Nat × Nat)) : List Int := l.map fun p => (p.1 : Int)
theorem plI_snoc (l : List (Nat × Nat)) (p : Nat × Nat) : plI (l ++ [p]) = plI l ++ [(p.1 : Int)] := by simp [plI]
theorem plI_len (l : List (Nat × Nat)) : (plI l).length = l.length := by simp [plI]

/-- What a call that makes a list of places answers. -/
def MadeI (B : Nat) (l : List Int) (w : World) (e : Ending) (w' : World) : Prop :=
  ∃ ao cap, e = .returned (.slice ao l.length cap) ∧ OwnS (fun b => B ≤ b) 3 1 (.slice ao l.length cap) l.length (intCells l) w' ∧ Below B w w'

set_option maxRecDepth 100000 in
theorem refPlaces_any (s : ByteArray) (w : World) (hs : s.size ≤ 4611686018427387904) (hu : (units s).length ≤ 17592186043904) :
    Calls Tryd.prog 12 #[.string s] w (MadeI w.heap.size (plI (units s)) w) := by
  obtain ⟨R, hR⟩ : ∃ R, units s = R := ⟨_, rfl⟩
  have hRl : R.length ≤ 17592186043904 := by rw [← hR]; exact hu
  have HR := Lib.hid hR
  rw [hR]
  clear hR hu
  go_enter Tryd.func12, Tryd.ntmps12
  go_wp2
  go_loopw [3, 4] (fun o v wr => ∃ (pos f : Nat) (pre : List (Nat × Nat)) (ao : Option Addr) (cp k : Nat), k = pre.length ∧ v = .int .i64 pos ∧ o = .slice ao k cp ∧ pre ++ unitsF s f pos = R ∧ s.size ≤ pos + f ∧ pos ≤ s.size ∧
      OwnS (fun b => w.heap.size ≤ b) 3 1 (.slice ao k cp) k (intCells (plI pre)) wr ∧ Below w.heap.size w wr)
    (fun _ v _ => s.size - (RowKit.intOf v).toNat)
  case atStart => exact ⟨0, s.size, [], none, 0, 0, rfl, rfl, rfl, by rw [← HR.out]; rfl, by omega, by omega, own_nil _ _ _ _, Below.refl _ _⟩
  case round =>
    obtain ⟨pos, f, pre, ao, cp, k, hkl, rfl, rfl, hp, hf, hpl, hown, hb⟩ := hrel
    by_cases hpos : pos < s.size
    · obtain ⟨d1, d2, d3⟩ := dec_width s pos hpos
      obtain ⟨f', rfl⟩ : ∃ f', f = f' + 1 := ⟨f - 1, by omega⟩
      have hun : unitsF s (f' + 1) pos = (pos, (Utf8.decode s pos).1) :: unitsF s f' (pos + (Utf8.decode s pos).2) := by rw [unitsF, if_pos hpos]
      rw [hun] at hp
      have C := refDecode_any s pos
      rw [decP_in s pos hpos] at C
      have hkl2 : k < R.length := by rw [← hp]; simp; omega
      obtain ⟨g, cap, w2, hrun, hown2, hk2, hg2, hz2⟩ := append_x (P := Tryd.prog) wr 23 3 Tryd.underlying23 tinfo3 rfl (by omega) hown [.int .i64 pos] rfl
        (by intro u hu; simp at hu; subst hu; rfl) (by unfold maxLen; omega) (by omega)
      have hsn := plI_snoc pre (pos, (Utf8.decode s pos).1)
      have HG : Hid (OwnS (fun b => w.heap.size ≤ b) 3 1 (.slice (some ⟨g, 0, none⟩) (k + 1) cap) (k + 1) (intCells (plI (pre ++ [(pos, (Utf8.decode s pos).1)]))) w2 ∧ Below w.heap.size w w2) := Lib.hid (by
        have hge : w.heap.size ≤ g := by
          rcases hg2 with h | h
          · exact hown.2 g h
          · have := hb.size; omega
        refine ⟨?_, hb.trans (hk2.below hb.size fun b h => hown.2 b h)⟩
        have := hown2.weaken (Z := fun b => w.heap.size ≤ b) (fun b h => by subst h; exact hge)
        rw [hsn]
        simpa [intCells] using this)
      have HRun := Lib.hid hrun
      have HP := Lib.hid (And.intro hp hkl)
      have CC := Lib.hid C
      clear hrun hown2 hk2 hg2 hz2 hown hp hsn hkl hun C
      generalize Utf8.decode s pos = d at *
      obtain ⟨r, wd⟩ := d
      simp only at d1 d2 d3
      go_wp2_with (first | (go_at_call 53; refine (CC.out _ hs).mono ?_; rintro e w' ⟨rfl, rfl⟩) | (at_builtin; refine wpList_append_eq rfl rfl rfl rfl HRun.out ?_))
      go_roundw
      case rel => exact ⟨pos + wd, f', pre ++ [(pos, r)], some ⟨g, 0, none⟩, cap, k + 1, by rw [List.length_append, ← HP.out.2]; rfl, by go_num, rfl, by rw [List.append_assoc]; exact HP.out.1, by omega, by omega, HG.out.1, HG.out.2⟩
      case measure => simp [RowKit.intOf]; omega
    · have hun : unitsF s f pos = [] := by
        cases f with
        | zero => rfl
        | succ f => rw [unitsF, if_neg hpos]
      rw [hun, List.append_nil] at hp
      have HO : Hid (MadeI w.heap.size (plI R) w (.returned (.slice ao k cp)) wr) := Lib.hid ⟨ao, cp, by rw [plI_len, ← hp, hkl], by
        rw [plI_len, ← hp, ← hkl]
        exact hown, hb⟩
      clear hown hp hun hkl
      go_wp2
      go_ret
      exact HO.out

set_option maxRecDepth 100000 in
theorem refRunes_any (s : ByteArray) (w : World) (hs : s.size ≤ 4611686018427387904) (hu : (units s).length ≤ 17592186043904) :
    Calls Tryd.prog 13 #[.string s] w (Made w.heap.size (numsI s) w) := by
  have CP := Lib.hid (refPlaces_any s w hs hu)
  have hd := units_dec s s.size 0
  change ∀ p, p ∈ units s → _ at hd
  have HNI : Hid (numsI s = (units s).map fun p => (p.2 : Int)) := Lib.hid (by simp [numsI, nums_units, List.map_map, Function.comp_def])
  generalize units s = R at *
  have HD := Lib.hid hd
  clear hd
  go_enter Tryd.func13, Tryd.ntmps13
  go_wp2_with fail
  refine CP.out.mono ?_
  rintro e w1 ⟨a1, c1, rfl, hown1, hb1⟩
  have hS1 : Slg .i64 w1 (.slice a1 (plI R).length c1) (plI R) := (sl_of_own (k := .i64) hown1 rfl).toG
  rw [plI_len] at hS1 ⊢
  have HS1 := Lib.hid hS1
  have HB1 := Lib.hid hb1
  have hz1 := hb1.size
  clear hS1 hown1 hb1
  go_wp2
  go_loopw [3, 5] (fun o v wr => ∃ (k : Nat) (ao : Option Addr) (cp : Nat), k ≤ R.length ∧ v = .int .i64 k ∧ o = .slice ao k cp ∧
      OwnS (fun b => w1.heap.size ≤ b) 21 1 (.slice ao k cp) k (i32s ((R.take k).map fun p => (p.2 : Int))) wr ∧ Below w1.heap.size w1 wr)
    (fun _ v _ => R.length - (RowKit.intOf v).toNat)
  case atStart => exact ⟨0, none, 0, by omega, rfl, rfl, own_nil _ _ _ _, Below.refl _ _⟩
  case round =>
    obtain ⟨k, ao, cp, hk, rfl, rfl, hown, hb⟩ := hrel
    by_cases hlt : k < R.length
    · obtain ⟨p, hp⟩ : ∃ p, R[k]? = some p := ⟨R[k], List.getElem?_eq_getElem hlt⟩
      obtain ⟨hp1, hp2⟩ := HD.out p (List.mem_of_getElem? hp)
      have hpI : (plI R)[k]? = some (p.1 : Int) := by simp [plI, hp]
      obtain ⟨a, rfl, q⟩ : ∃ a : Addr, a1 = some a ∧ w1.cell? (a.add k) = some (.int .i64 p.1) := by
        obtain ⟨ax, cx, e, h⟩ := HS1.out
        injection e with e1 _ _
        subst e1
        rcases h with h | ⟨a, e, h⟩
        · rw [h] at hpI; simp at hpI
        · exact ⟨a, e, h k _ hpI⟩
      have p1 := (hb.cell (lt_of_cell q)).trans q
      have C := refDecode_any s p.1
      rw [decP_in s p.1 hp2, ← hp1] at C
      obtain ⟨g, cap, w2, hrun, hown2, hk2, hg2, hz2⟩ := append_x (P := Tryd.prog) wr 25 21 Tryd.underlying25 tinfo21 rfl (by omega) hown [.int .i32 p.2] rfl
        (by intro u hu; simp at hu; subst hu; rfl) (by unfold maxLen; omega) (by omega)
      have HG : Hid (OwnS (fun b => w1.heap.size ≤ b) 21 1 (.slice (some ⟨g, 0, none⟩) (k + 1) cap) (k + 1) (i32s ((R.take (k + 1)).map fun p => (p.2 : Int))) w2 ∧ Below w1.heap.size w1 w2) := Lib.hid (by
        have hge : w1.heap.size ≤ g := by
          rcases hg2 with h | h
          · exact hown.2 g h
          · have := hb.size; omega
        refine ⟨?_, hb.trans (hk2.below hb.size fun b h => hown.2 b h)⟩
        have := hown2.weaken (Z := fun b => w1.heap.size ≤ b) (fun b h => by subst h; exact hge)
        rw [List.take_add_one, hp]
        simpa [i32s] using this)
      have HRun := Lib.hid hrun
      have CC := Lib.hid C
      have hpb : p.1 ≤ 4611686018427387904 := by omega
      clear hrun hown2 hk2 hg2 hz2 hown C hp hp1 hpI q
      generalize (Utf8.decode s p.1).2 = wd at *
      obtain ⟨p1v, p2v⟩ := p
      simp only at p1 CC HRun HG hpb
      go_wp2_with (first | (go_at_call 53; refine (CC.out _ hs).mono ?_; rintro e w' ⟨rfl, rfl⟩) | (at_builtin; refine wpList_append_eq rfl rfl rfl rfl HRun.out ?_))
      go_roundw
      case rel => exact ⟨k + 1, some ⟨g, 0, none⟩, cap, by omega, by go_num, rfl, HG.out.1, HG.out.2⟩
      case measure => simp [RowKit.intOf]; omega
    · obtain rfl : k = R.length := by omega
      rw [List.take_length] at hown
      have HO : Hid (Made w.heap.size (numsI s) w (.returned (.slice ao R.length cp)) wr) := Lib.hid (by
        rw [HNI.out]
        refine ⟨ao, cp, by simp, ?_, HB1.out.trans (hb.mono hz1)⟩
        rw [List.length_map]
        exact hown.weaken (fun b h => by omega))
      clear hown
      go_wp2
      go_ret
      exact HO.out
end Go.Proofs.YthcfpmjkfnoofaaDoor
