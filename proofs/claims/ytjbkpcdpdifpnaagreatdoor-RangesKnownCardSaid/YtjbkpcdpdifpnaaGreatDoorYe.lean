/- The walk of RangesMade (written by gen_ye.py). -/
import Derived.Test.YtjbkpcdpdifpnaaGreatDoorYd
import Derived.Test.YtjbkpcdpdifpnaaGreatDoorK9
namespace Go.Proofs.YtjbkpcdpdifpnaaGreatDoor
open Go Go.RowKit Go.Kt Go.Kt.Rg
attribute [local go_sem] Oper.semAt_some

def pM11 (b c _p1 _p2 : Nat) (va sx sy : Value) (P Q : List Run) (jx : Nat) (v : Value) (W : World) : Prop := match jx with
  | 0 => v = ptrV b
  | 1 => v = ptrV c
  | 2 => (SetP (joinL P Q)) v W
  | 3 => v = .agg #[sx]
  | 4 => v = .agg #[sy]
  | 5 => (SlP (joinL P Q)) v W
  | 6 => v = va
  | 7 => v = .bool true
  | 8 => v = .bool true
  | 9 => v = ptrV b
  | 10 => v = ptrV c
  | 11 => (SetP (bothL P Q)) v W
  | 12 => v = .agg #[sx]
  | 13 => v = .agg #[sy]
  | 14 => (SlP (bothL P Q)) v W
  | 15 => v = va
  | 16 => v = .bool true
  | 17 => v = .bool true
  | 18 => v = .bool true
  | 19 => v = ptrV b
  | 20 => v = ptrV c
  | 21 => (SetP (lessL P Q)) v W
  | 22 => v = .agg #[sx]
  | 23 => v = .agg #[sy]
  | 24 => (SlP (lessL P Q)) v W
  | 25 => v = va
  | 26 => v = .bool true
  | 27 => v = .bool true
  | 28 => v = .bool true
  | 29 => v = ptrV c
  | 30 => v = ptrV b
  | 31 => (SetP (lessL Q P)) v W
  | 32 => v = .agg #[sy]
  | 33 => v = .agg #[sx]
  | 34 => (SlP (lessL Q P)) v W
  | 35 => v = va
  | 36 => v = .bool true
  | 37 => v = .bool true
  | 38 => v = .bool true
  | 39 => v = ptrV b
  | 40 => (SetP (notL 0 P)) v W
  | 41 => v = .agg #[sx]
  | 42 => (SlP (notL 0 P)) v W
  | 43 => v = va
  | 44 => v = .bool true
  | 45 => v = .bool true
  | 46 => v = .bool true
  | _ => True
def pM12 (b c _p1 _p2 : Nat) (va sx sy : Value) (P : List Run) (jx : Nat) (v : Value) (W : World) : Prop := match jx with
  | 0 => v = .bool true
  | 1 => v = .bool true
  | 2 => v = ptrV b
  | 3 => v = ptrV b
  | 4 => (SetP (P)) v W
  | 5 => v = .agg #[sx]
  | 6 => v = va
  | 7 => v = .bool true
  | 8 => v = .bool true
  | 9 => v = .bool true
  | 10 => v = ptrV b
  | 11 => v = ptrV b
  | 12 => (SetP ([])) v W
  | 13 => v = .agg #[.slice none 0 0]
  | 14 => v = va
  | 15 => v = .bool true
  | 16 => v = .bool true
  | 17 => v = .bool true
  | 18 => v = ptrV b
  | 19 => v = .agg #[sx]
  | 20 => v = va
  | 21 => v = .bool true
  | 22 => v = .bool true
  | 23 => v = .bool true
  | 24 => v = ptrV c
  | 25 => v = .agg #[sy]
  | 26 => v = va
  | 27 => v = .bool true
  | 28 => v = .bool true
  | 29 => v = .bool true
  | _ => True
set_option maxRecDepth 100000 in
set_option maxHeartbeats 8000000 in
theorem rmade_c (l m : List (Int × Int)) (ask : List Int) (vl vm va : Value) (w : World) (hF : FEnv w) (hl : SpA w vl l) (hm : SpA w vm m) (ha : Slg .i32 w va ask) (hrl : Runy l) (hrm : Runy m) (hra : ∀ x ∈ ask, -2147483648 ≤ x ∧ x ≤ 2147483647) (hal : ask.length ≤ 4611686018427387904) :
    Calls Tryz.prog 9 #[vl, vm, va] w fun e w' => e = .returned (.bool true) ∧ Below w.heap.size w w' := by
  have HL := Lib.hid hl
  have HM := Lib.hid hm
  obtain ⟨al, cl, rfl, _⟩ := hl
  obtain ⟨am, cm, rfl, _⟩ := hm
  obtain ⟨nl, hnl⟩ : ∃ n, l.length = n := ⟨_, rfl⟩
  obtain ⟨nm, hnm⟩ : ∃ n, m.length = n := ⟨_, rfl⟩
  rw [hnl] at HL ⊢
  rw [hnm] at HM ⊢
  by_cases h1 : 200 < nl
  · have h1' : (200 : Int) < nl := by omega
    clear h1 hnl hnm hF hrl hrm hra hal ha
    go_enter Tryz.func9, Tryz.ntmps9
    go_wp2_with fail
    go_ret
    exact ⟨rfl, Below.refl _ _⟩
  · by_cases h2 : 200 < nm
    · have h1' : ¬ (200 : Int) < nl := by omega
      have h2' : (200 : Int) < nm := by omega
      clear h1 h2 hnl hnm hF hrl hrm hra hal ha
      go_enter Tryz.func9, Tryz.ntmps9
      go_wp2_with fail
      go_ret
      exact ⟨rfl, Below.refl _ _⟩
    · have h1' : ¬ (200 : Int) < nl := by omega
      have h2' : ¬ (200 : Int) < nm := by omega
      have HF := Lib.hid (fun V (hb : Below w.heap.size w V) => hF.below hb)
      have CW := Lib.hid (rworks_any w hF.1)
      have CC1 := Lib.hid (fun V (hb : Below w.heap.size w V) => copy_any l _ V (HL.out.below hb) (by omega))
      have CC2 := Lib.hid (fun V (hb : Below w.heap.size w V) => copy_any m _ V (HM.out.below hb) (by omega))
      have CO1 := Lib.hid (fun V v (hb : Below w.heap.size w V) (hg : SpG V v l) => rof_e l v V hg (hF.below hb).1.1 (by omega) hrl)
      have CO2 := Lib.hid (fun V v (hb : Below w.heap.size w V) (hg : SpG V v m) => rof_e m v V hg (hF.below hb).1.1 (by omega) hrm)
      have CX1 := Lib.hid (fun V (hb : Below w.heap.size w V) => xof_e l _ V (HL.out.below hb) (by omega) hrl)
      have CX2 := Lib.hid (fun V (hb : Below w.heap.size w V) => xof_e m _ V (HM.out.below hb) (by omega) hrm)
      have CIS := Lib.hid (fun V (hb : Below w.heap.size w V) (R : List Run) v1 v2 (hs : SetP R v1 V) (hc : Canon R) (hv : SlP R v2 V) => is_p R v1 v2 va ask V (hF.below hb).1 hs hc hv (ha.below hb) hra hal)
      have AL := Lib.hid (fun V (hV : Below w.heap.size w V) (o : Obj) => hV.alloc hV.size o)
      have HGL : Hid ((errN 0 l).1 = 0 → Canon (canonOf (numsR l))) := Lib.hid fun h => by
        rcases errN_spec l 0 with ⟨_, _, g3⟩ | ⟨k', x', g1, g2, g3, g4⟩
        · exact canonOf_canon _ (good_fit g3)
        · rw [g1] at h; exact absurd h g2
      have HGM : Hid ((errN 0 m).1 = 0 → Canon (canonOf (numsR m))) := Lib.hid fun h => by
        rcases errN_spec m 0 with ⟨_, _, g3⟩ | ⟨k', x', g1, g2, g3, g4⟩
        · exact canonOf_canon _ (good_fit g3)
        · rw [g1] at h; exact absurd h g2
      obtain ⟨el, hel⟩ : ∃ n, errN 0 l = n := ⟨_, rfl⟩
      obtain ⟨em, hem⟩ : ∃ n, errN 0 m = n := ⟨_, rfl⟩
      obtain ⟨no1, at1⟩ := el
      obtain ⟨no2, at2⟩ := em
      obtain ⟨P, hP⟩ : ∃ P, canonOf (numsR l) = P := ⟨_, rfl⟩
      obtain ⟨Q, hQ⟩ : ∃ P, canonOf (numsR m) = P := ⟨_, rfl⟩
      rw [hel] at CO1 CX1 HGL
      rw [hem] at CO2 CX2 HGM
      rw [hP] at CX1 HGL
      rw [hQ] at CX2 HGM
      simp only at CO1 CX1 HGL CO2 CX2 HGM
      rw [hnl] at CC1
      rw [hnm] at CC2
      have HPQ := Lib.hid (And.intro hP (And.intro hQ (And.intro hnl hnm)))
      clear h1 h2 hnl hnm hF hrl hrm hra hal ha hel hem hP hQ
      go_enter Tryz.func9, Tryz.ntmps9
      go_wp2_with fail
      refine CW.out.mono ?_
      rintro e w1 ⟨rfl, hb1⟩
      have HB1 := Lib.hid hb1
      clear hb1
      go_wp2_with fail
      refine (CC1.out _ HB1.out).mono ?_
      rintro e w2 ⟨ac1, cc1, rfl, ho2, hb2⟩
      have HB2 := Lib.hid (HB1.out.trans (hb2.mono HB1.out.size))
      have CO1' := Lib.hid (CO1.out w2 _ HB2.out (spg_of_own ho2 HPQ.out.2.2.1.symm))
      clear ho2 hb2
      go_wp2_with fail
      refine CO1'.out.mono ?_
      rintro e w3 ⟨pa, ea, rfl, he3, hb3⟩
      have HB3 := Lib.hid (HB2.out.trans (hb3.mono HB2.out.size))
      have HE3 := Lib.hid he3
      clear he3 hb3
      go_wp2_with fail
      refine (CC2.out _ HB3.out).mono ?_
      rintro e w4 ⟨ac2, cc2, rfl, ho4, hb4⟩
      have HB4 := Lib.hid (HB3.out.trans (hb4.mono HB3.out.size))
      have HE4 := Lib.hid (HE3.out.below hb4)
      have CO2' := Lib.hid (CO2.out w4 _ HB4.out (spg_of_own ho4 HPQ.out.2.2.2.symm))
      clear ho4 hb4
      go_wp2_with fail
      refine CO2'.out.mono ?_
      rintro e w5 ⟨pb, eb, rfl, he5, hb5⟩
      have HB5 := Lib.hid (HB4.out.trans (hb5.mono HB4.out.size))
      have HE5 := Lib.hid (And.intro (HE4.out.below hb5) he5)
      clear he5 hb5
      go_wp2_with fail
      refine (CX1.out _ HB5.out).mono ?_
      rintro e w6 ⟨ax, nx, cx, rfl, hx6, hb6⟩
      have hb6' := HB5.out.trans (hb6.mono HB5.out.size)
      obtain ⟨w7, hw7⟩ : ∃ W, w6.alloc (.cells #[.slice ax nx cx] 44) = W := ⟨_, rfl⟩
      have hal7 : Below w6.heap.size w6 w7 := by rw [← hw7]; exact (Below.refl _ _).alloc (Nat.le_refl _) _
      have h7 : w7.heap[w6.heap.size]? = some (.cells #[.slice ax nx cx] 44 (0, 0)) := by rw [← hw7]; exact alloc_at rfl
      have HB7 := Lib.hid (hb6'.trans (hal7.mono hb6'.size))
      have HE7 := Lib.hid (And.intro ((HE5.out.1.below hb6).below hal7) (And.intro ((HE5.out.2.below hb6).below hal7) (And.intro (fun h => (hx6 h).below hal7) h7)))
      have HW7 := Lib.hid hw7
      have hz7 : w6.heap.size < w7.heap.size := by rw [← hw7]; simp
      have HZ7 := Lib.hid hz7
      clear hx6 hb6 hb6' hw7 hal7 h7 hz7
      go_wp2_with fail
      rw [HW7.out]
      refine (CX2.out _ HB7.out).mono ?_
      rintro e w8 ⟨ay, ny, cy, rfl, hx8, hb8⟩
      have hb8' := HB7.out.trans (hb8.mono HB7.out.size)
      obtain ⟨w9, hw9⟩ : ∃ W, w8.alloc (.cells #[.slice ay ny cy] 44) = W := ⟨_, rfl⟩
      have hal9 : Below w8.heap.size w8 w9 := by rw [← hw9]; exact (Below.refl _ _).alloc (Nat.le_refl _) _
      have h9 : w9.heap[w8.heap.size]? = some (.cells #[.slice ay ny cy] 44 (0, 0)) := by rw [← hw9]; exact alloc_at rfl
      have HB9 := Lib.hid (hb8'.trans (hal9.mono hb8'.size))
      have h79 : w9.heap[w6.heap.size]? = some (.cells #[.slice ax nx cx] 44 (0, 0)) := (hal9.block _ (Nat.lt_of_lt_of_le HZ7.out hb8.size)).trans ((hb8.block _ HZ7.out).trans HE7.out.2.2.2)
      have hz9 : w8.heap.size < w9.heap.size := by rw [← hw9]; simp
      have HE9 := Lib.hid (And.intro ((HE7.out.1.below hb8).below hal9) (And.intro ((HE7.out.2.1.below hb8).below hal9) (And.intro (fun h => ((HE7.out.2.2.1 h).below hb8).below hal9) (And.intro (fun h => (hx8 h).below hal9) (And.intro h79 (And.intro h9 (And.intro (Nat.lt_of_lt_of_le (Nat.lt_of_lt_of_le HZ7.out hb8.size) hal9.size) hz9)))))))
      have HW9 := Lib.hid hw9
      clear hx8 hb8 hb8' hw9 hal9 h9 hz9 h79
      have CT1 := Lib.hid (told_e l pa ea no1 (at1 : Nat) w9 w9 HE9.out.1 (HF.out _ HB9.out).2)
      go_wp2_with fail
      rw [HW9.out]
      refine CT1.out.mono ?_
      rintro e wA ⟨rfl, hbA⟩
      have HBA := Lib.hid (HB9.out.trans (hbA.mono HB9.out.size))
      have CT2 := Lib.hid (told_e m pb eb no2 (at2 : Nat) w9 wA HE9.out.2.1 (HF.out _ HBA.out).2)
      have HbA := Lib.hid hbA
      clear hbA
      go_wp2_with fail
      refine CT2.out.mono ?_
      rintro e wB ⟨rfl, hbB⟩
      have HBB := Lib.hid (HBA.out.trans (hbB.mono HBA.out.size))
      have HbB := Lib.hid (HbA.out.trans (hbB.mono HbA.out.size))
      clear hbB
      by_cases z1 : no1 = 0
      · by_cases z2 : no2 = 0
        · subst z1
          subst z2
          obtain ⟨b, rfl, hsb⟩ : ∃ b, pa = ptrV b ∧ SetAt P b w9 := by
            rcases HE9.out.1 with ⟨_, _, _, _, b, h1, h2⟩ | ⟨h, _⟩
            · rw [HPQ.out.1] at h2; exact ⟨b, h1, h2⟩
            · exact absurd rfl h
          obtain ⟨c, rfl, hsc⟩ : ∃ b, pb = ptrV b ∧ SetAt Q b w9 := by
            rcases HE9.out.2.1 with ⟨_, _, _, _, b, h1, h2⟩ | ⟨h, _⟩
            · rw [HPQ.out.2.1] at h2; exact ⟨b, h1, h2⟩
            · exact absurd rfl h
          have hsx := HE9.out.2.2.1 rfl
          have hsy := HE9.out.2.2.2.1 rfl
          obtain ⟨sx, hsxe⟩ : ∃ s, Value.slice ax nx cx = s := ⟨_, rfl⟩
          obtain ⟨sy, hsye⟩ : ∃ s, Value.slice ay ny cy = s := ⟨_, rfl⟩
          have hx9 := HE9.out.2.2.2.2.1
          have hy9 := HE9.out.2.2.2.2.2.1
          rw [hsxe] at hsx hx9
          rw [hsye] at hsy hy9
          obtain ⟨p1, hp1⟩ : ∃ n, w6.heap.size = n := ⟨_, rfl⟩
          obtain ⟨p2, hp2⟩ : ∃ n, w8.heap.size = n := ⟨_, rfl⟩
          have HCP := Lib.hid (HGL.out rfl)
          have HCQ := Lib.hid (HGM.out rfl)
          have HW : Hid (∀ X, Below wB.heap.size wB X → Below w.heap.size w X ∧ Below w9.heap.size w9 X) := Lib.hid fun X hX => ⟨HBB.out.trans (hX.mono HBB.out.size), HbB.out.trans (hX.mono HbB.out.size)⟩
          have hlx : ∀ X, Below wB.heap.size wB X → (Instr.loadAt 44 (.pointer (some ⟨p1, 0, none⟩))).run Tryz.prog X = .ok (.agg #[sx]) X := fun X hX => by
            rw [← hp1]
            exact load_set (((HW.out X hX).2.block _ HE9.out.2.2.2.2.2.2.1).trans hx9)
          have hly : ∀ X, Below wB.heap.size wB X → (Instr.loadAt 44 (.pointer (some ⟨p2, 0, none⟩))).run Tryz.prog X = .ok (.agg #[sy]) X := fun X hX => by
            rw [← hp2]
            exact load_set (((HW.out X hX).2.block _ HE9.out.2.2.2.2.2.2.2).trans hy9)
          have SNX : Hid (∀ X Y, Below wB.heap.size wB X → Below X.heap.size X Y → Below wB.heap.size wB Y) := Lib.hid fun X Y h k => h.trans (k.mono h.size)
          have CI : Hid (∀ (R : List Run) v1 v2 X, Below wB.heap.size wB X → Canon R → SetP R v1 X → SlP R v2 X → Calls Tryz.prog 19 #[v1, v2, va] X fun e w' => e = .returned (.bool true) ∧ Below X.heap.size X w') := Lib.hid fun R v1 v2 X hX hc h1 h2 => CIS.out X (HW.out X hX).1 R v1 v2 h1 hc h2
          have HS : Hid (∀ X, Below wB.heap.size wB X → SetAt P b X ∧ SetAt Q c X ∧ SlR X sx (P.map dnR) ∧ SlR X sy (Q.map dnR)) := Lib.hid fun X hX => by
            have h := (HW.out X hX).2
            exact ⟨hsb.below h, hsc.below h, hsx.below h, hsy.below h⟩
          have HSX : Hid (∀ X, Below wB.heap.size wB X → SetP P (ptrV b) X ∧ SlP P (.agg #[sx]) X ∧ SetP Q (ptrV c) X ∧ SlP Q (.agg #[sy]) X) := Lib.hid fun X hX => by
            obtain ⟨g1, g2, g3, g4⟩ := HS.out X hX
            exact ⟨⟨_, rfl, g1⟩, ⟨_, rfl, g3⟩, ⟨_, rfl, g2⟩, ⟨_, rfl, g4⟩⟩
          have CJ := Lib.hid (fun X (hX : Below wB.heap.size wB X) => join_p P Q b c X (HS.out X hX).1 (HS.out X hX).2.1 HCP.out HCQ.out)
          have CXJ := Lib.hid (fun X (hX : Below wB.heap.size wB X) => xjoin_p P Q sx sy X (HS.out X hX).2.2.1 (HS.out X hX).2.2.2 HCP.out HCQ.out)
          have CB := Lib.hid (fun X (hX : Below wB.heap.size wB X) => both_p P Q b c X (HS.out X hX).1 (HS.out X hX).2.1 HCP.out HCQ.out)
          have CXB := Lib.hid (fun X (hX : Below wB.heap.size wB X) => xboth_p P Q sx sy X (HS.out X hX).2.2.1 (HS.out X hX).2.2.2 HCP.out HCQ.out)
          have CL := Lib.hid (fun X (hX : Below wB.heap.size wB X) => less_p P Q b c X (HS.out X hX).1 (HS.out X hX).2.1 HCP.out HCQ.out)
          have CXL := Lib.hid (fun X (hX : Below wB.heap.size wB X) => xless_p P Q sx sy X (HS.out X hX).2.2.1 (HS.out X hX).2.2.2 HCP.out HCQ.out)
          have CM := Lib.hid (fun X (hX : Below wB.heap.size wB X) => less_p Q P c b X (HS.out X hX).2.1 (HS.out X hX).1 HCQ.out HCP.out)
          have CXM := Lib.hid (fun X (hX : Below wB.heap.size wB X) => xless_p Q P sy sx X (HS.out X hX).2.2.2 (HS.out X hX).2.2.1 HCQ.out HCP.out)
          have CN := Lib.hid (fun X (hX : Below wB.heap.size wB X) => not_p P b X (HS.out X hX).1 HCP.out)
          have CXN := Lib.hid (fun X (hX : Below wB.heap.size wB X) => xnot_p P sx X (HS.out X hX).2.2.1 HCP.out)
          have CJ2 := Lib.hid (fun X (hX : Below wB.heap.size wB X) => join_p P P b b X (HS.out X hX).1 (HS.out X hX).1 HCP.out HCP.out)
          have CL2 := Lib.hid (fun X (hX : Below wB.heap.size wB X) => less_p P P b b X (HS.out X hX).1 (HS.out X hX).1 HCP.out HCP.out)
          rw [join_self HCP.out] at CJ2
          rw [less_self HCP.out] at CL2
          have HCN : Hid (Canon (joinL P Q) ∧ Canon (bothL P Q) ∧ Canon (lessL P Q) ∧ Canon (lessL Q P) ∧ Canon (notL 0 P)) := Lib.hid ⟨join_canon HCP.out HCQ.out, both_canon _ _ HCP.out HCQ.out, less_canon HCP.out HCQ.out, less_canon HCQ.out HCP.out, not_canon _ HCP.out⟩
          have BD0 : ∀ W : World, (Instr.build 44 #[]).run Tryz.prog W = .ok (.agg #[.slice none 0 0]) W := fun W => by go_simp
          have S0 : Below wB.heap.size wB wB.drew := below_drewN (Below.refl _ _) 1
          rw [hp1, hp2]
          clear hsb hsc hsx hsy hsxe hsye hx9 hy9 hp1 hp2
          go_wp2_with fail
          refine wp_region_guarded (fun X => Below wB.heap.size wB X) (fun U V => Below U.heap.size U V) (pM11 b c p1 p2 va sx sy P Q) (by kernel_rfl) (by kernel_rfl) (by kernel_rfl) S0 ?hp ?hs ?hd
          case hp =>
            intro i v U V _ _ hk hv
            unfold pM11 at hv ⊢
            split at hv <;> first | exact hv | exact SetP.below hv hk | exact SlP.below hv hk
          case hs =>
            refine GSteps.cons ?_ (GSteps.cons ?_ (GSteps.cons ?_ (GSteps.cons ?_ (GSteps.cons ?_ (GSteps.cons ?_ (GSteps.cons ?_ (GSteps.cons ?_ (GSteps.cons ?_ (GSteps.cons ?_ (GSteps.cons ?_ (GSteps.cons ?_ (GSteps.cons ?_ (GSteps.cons ?_ (GSteps.cons ?_ (GSteps.cons ?_ (GSteps.cons ?_ (GSteps.cons ?_ (GSteps.cons ?_ (GSteps.cons ?_ (GSteps.cons ?_ (GSteps.cons ?_ (GSteps.cons ?_ (GSteps.cons ?_ (GSteps.cons ?_ (GSteps.cons ?_ (GSteps.cons ?_ (GSteps.cons ?_ (GSteps.cons ?_ (GSteps.cons ?_ (GSteps.cons ?_ (GSteps.cons ?_ (GSteps.cons ?_ (GSteps.cons ?_ (GSteps.cons ?_ (GSteps.cons ?_ (GSteps.cons ?_ (GSteps.cons ?_ (GSteps.cons ?_ (GSteps.cons ?_ (GSteps.cons ?_ (GSteps.cons ?_ (GSteps.cons ?_ (GSteps.cons ?_ (GSteps.cons ?_ (GSteps.cons ?_ (GSteps.cons ?_ (GSteps.nil)))))))))))))))))))))))))))))))))))))))))))))))
            · intro a X hX hL hd
              refine .inl ⟨rfl, ?_⟩
              have e0 : a.eval (.tmp 7) = ptrV b := hL.far 7 (by kernel_rfl)
              exact wp_value (exec_move rfl e0) ⟨_, rfl, hX, Below.refl _ _, rfl⟩
            · intro a X hX hL hd
              refine .inl ⟨rfl, ?_⟩
              have e0 : a.eval (.tmp 9) = ptrV c := hL.far 9 (by kernel_rfl)
              exact wp_value (exec_move rfl e0) ⟨_, rfl, hX, Below.refl _ _, rfl⟩
            · intro a X hX hL hd
              refine .inl ⟨rfl, ?_⟩
              have e0 : a.eval (.tmp 80) = ptrV b := hd 0 80 (by kernel_rfl) (by kernel_rfl)
              have e1 : a.eval (.tmp 81) = ptrV c := hd 1 81 (by kernel_rfl) (by kernel_rfl)
              refine wp_enter (exec_call (vs := #[ptrV b, ptrV c]) rfl (by simp only [List.map_toArray, List.map_cons, List.map_nil, e0, e1]) Tryz.func31 rfl rfl) ?_
              refine (CJ.out X hX).mono ?_
              rintro e w' ⟨v', rfl, hv', hb⟩
              exact ⟨_, rfl, _, rfl, SNX.out _ _ hX hb, hb, hv'⟩
            · intro a X hX hL hd
              refine .inl ⟨rfl, ?_⟩
              have e0 : a.eval (.tmp 11) = .pointer (some ⟨p1, 0, none⟩) := hL.far 11 (by kernel_rfl)
              exact wp_value (exec_load rfl e0 (hlx X hX)) ⟨_, rfl, hX, Below.refl _ _, rfl⟩
            · intro a X hX hL hd
              refine .inl ⟨rfl, ?_⟩
              have e0 : a.eval (.tmp 14) = .pointer (some ⟨p2, 0, none⟩) := hL.far 14 (by kernel_rfl)
              exact wp_value (exec_load rfl e0 (hly X hX)) ⟨_, rfl, hX, Below.refl _ _, rfl⟩
            · intro a X hX hL hd
              refine .inl ⟨rfl, ?_⟩
              have e0 : a.eval (.tmp 83) = .agg #[sx] := hd 3 83 (by kernel_rfl) (by kernel_rfl)
              have e1 : a.eval (.tmp 84) = .agg #[sy] := hd 4 84 (by kernel_rfl) (by kernel_rfl)
              refine wp_enter (exec_call (vs := #[.agg #[sx], .agg #[sy]]) rfl (by simp only [List.map_toArray, List.map_cons, List.map_nil, e0, e1]) Tryz.func32 rfl rfl) ?_
              refine (CXJ.out X hX).mono ?_
              rintro e w' ⟨v', rfl, hv', hb⟩
              exact ⟨_, rfl, _, rfl, SNX.out _ _ hX hb, hb, hv'⟩
            · intro a X hX hL hd
              refine .inl ⟨rfl, ?_⟩
              have e0 : a.eval (.tmp 2) = va := hL.far 2 (by kernel_rfl)
              exact wp_value (exec_move rfl e0) ⟨_, rfl, hX, Below.refl _ _, rfl⟩
            · intro a X hX hL hd
              refine .inl ⟨rfl, ?_⟩
              have q0 : (SetP (joinL P Q)) (a.eval (.tmp 82)) X := hd 2 82 (by kernel_rfl) (by kernel_rfl)
              have q1 : (SlP (joinL P Q)) (a.eval (.tmp 85)) X := hd 5 85 (by kernel_rfl) (by kernel_rfl)
              have e2 : a.eval (.tmp 86) = va := hd 6 86 (by kernel_rfl) (by kernel_rfl)
              refine wp_enter (exec_call (vs := #[a.eval (.tmp 82), a.eval (.tmp 85), va]) rfl (by simp only [List.map_toArray, List.map_cons, List.map_nil, e2]) Tryz.func19 rfl rfl) ?_
              refine (CI.out (joinL P Q) _ _ X hX HCN.out.1 q0 q1).mono ?_
              rintro e w' ⟨rfl, hb⟩
              exact ⟨_, rfl, _, rfl, SNX.out _ _ hX hb, hb, rfl⟩
            · intro a X hX hL hd
              refine .inl ⟨rfl, ?_⟩
              have e0 : a.eval (.tmp 87) = .bool true := hd 7 87 (by kernel_rfl) (by kernel_rfl)
              exact wp_value (exec_move rfl e0) ⟨_, rfl, hX, Below.refl _ _, rfl⟩
            · intro a X hX hL hd
              refine .inl ⟨wanted_true 88 rfl (by kernel_rfl) (hd 8 88 (by kernel_rfl) (by kernel_rfl)), ?_⟩
              have e0 : a.eval (.tmp 7) = ptrV b := hL.far 7 (by kernel_rfl)
              exact wp_value (exec_move rfl e0) ⟨_, rfl, hX, Below.refl _ _, rfl⟩
            · intro a X hX hL hd
              refine .inl ⟨wanted_true 88 rfl (by kernel_rfl) (hd 8 88 (by kernel_rfl) (by kernel_rfl)), ?_⟩
              have e0 : a.eval (.tmp 9) = ptrV c := hL.far 9 (by kernel_rfl)
              exact wp_value (exec_move rfl e0) ⟨_, rfl, hX, Below.refl _ _, rfl⟩
            · intro a X hX hL hd
              refine .inl ⟨wanted_true 88 rfl (by kernel_rfl) (hd 8 88 (by kernel_rfl) (by kernel_rfl)), ?_⟩
              have e0 : a.eval (.tmp 89) = ptrV b := hd 9 89 (by kernel_rfl) (by kernel_rfl)
              have e1 : a.eval (.tmp 90) = ptrV c := hd 10 90 (by kernel_rfl) (by kernel_rfl)
              refine wp_enter (exec_call (vs := #[ptrV b, ptrV c]) rfl (by simp only [List.map_toArray, List.map_cons, List.map_nil, e0, e1]) Tryz.func33 rfl rfl) ?_
              refine (CB.out X hX).mono ?_
              rintro e w' ⟨v', rfl, hv', hb⟩
              exact ⟨_, rfl, _, rfl, SNX.out _ _ hX hb, hb, hv'⟩
            · intro a X hX hL hd
              refine .inl ⟨wanted_true 88 rfl (by kernel_rfl) (hd 8 88 (by kernel_rfl) (by kernel_rfl)), ?_⟩
              have e0 : a.eval (.tmp 11) = .pointer (some ⟨p1, 0, none⟩) := hL.far 11 (by kernel_rfl)
              exact wp_value (exec_load rfl e0 (hlx X hX)) ⟨_, rfl, hX, Below.refl _ _, rfl⟩
            · intro a X hX hL hd
              refine .inl ⟨wanted_true 88 rfl (by kernel_rfl) (hd 8 88 (by kernel_rfl) (by kernel_rfl)), ?_⟩
              have e0 : a.eval (.tmp 14) = .pointer (some ⟨p2, 0, none⟩) := hL.far 14 (by kernel_rfl)
              exact wp_value (exec_load rfl e0 (hly X hX)) ⟨_, rfl, hX, Below.refl _ _, rfl⟩
            · intro a X hX hL hd
              refine .inl ⟨wanted_true 88 rfl (by kernel_rfl) (hd 8 88 (by kernel_rfl) (by kernel_rfl)), ?_⟩
              have e0 : a.eval (.tmp 92) = .agg #[sx] := hd 12 92 (by kernel_rfl) (by kernel_rfl)
              have e1 : a.eval (.tmp 93) = .agg #[sy] := hd 13 93 (by kernel_rfl) (by kernel_rfl)
              refine wp_enter (exec_call (vs := #[.agg #[sx], .agg #[sy]]) rfl (by simp only [List.map_toArray, List.map_cons, List.map_nil, e0, e1]) Tryz.func34 rfl rfl) ?_
              refine (CXB.out X hX).mono ?_
              rintro e w' ⟨v', rfl, hv', hb⟩
              exact ⟨_, rfl, _, rfl, SNX.out _ _ hX hb, hb, hv'⟩
            · intro a X hX hL hd
              refine .inl ⟨wanted_true 88 rfl (by kernel_rfl) (hd 8 88 (by kernel_rfl) (by kernel_rfl)), ?_⟩
              have e0 : a.eval (.tmp 2) = va := hL.far 2 (by kernel_rfl)
              exact wp_value (exec_move rfl e0) ⟨_, rfl, hX, Below.refl _ _, rfl⟩
            · intro a X hX hL hd
              refine .inl ⟨wanted_true 88 rfl (by kernel_rfl) (hd 8 88 (by kernel_rfl) (by kernel_rfl)), ?_⟩
              have q0 : (SetP (bothL P Q)) (a.eval (.tmp 91)) X := hd 11 91 (by kernel_rfl) (by kernel_rfl)
              have q1 : (SlP (bothL P Q)) (a.eval (.tmp 94)) X := hd 14 94 (by kernel_rfl) (by kernel_rfl)
              have e2 : a.eval (.tmp 95) = va := hd 15 95 (by kernel_rfl) (by kernel_rfl)
              refine wp_enter (exec_call (vs := #[a.eval (.tmp 91), a.eval (.tmp 94), va]) rfl (by simp only [List.map_toArray, List.map_cons, List.map_nil, e2]) Tryz.func19 rfl rfl) ?_
              refine (CI.out (bothL P Q) _ _ X hX HCN.out.2.1 q0 q1).mono ?_
              rintro e w' ⟨rfl, hb⟩
              exact ⟨_, rfl, _, rfl, SNX.out _ _ hX hb, hb, rfl⟩
            · intro a X hX hL hd
              refine .inl ⟨rfl, ?_⟩
              have e0 : a.eval (.tmp 88) = .bool true := hd 8 88 (by kernel_rfl) (by kernel_rfl)
              have e1 : a.eval (.tmp 96) = .bool true := hd 16 96 (by kernel_rfl) (by kernel_rfl)
              exact wp_value (exec_pick rfl e0 e1 rfl) ⟨_, rfl, hX, Below.refl _ _, rfl⟩
            · intro a X hX hL hd
              refine .inl ⟨rfl, ?_⟩
              have e0 : a.eval (.tmp 97) = .bool true := hd 17 97 (by kernel_rfl) (by kernel_rfl)
              exact wp_value (exec_move rfl e0) ⟨_, rfl, hX, Below.refl _ _, rfl⟩
            · intro a X hX hL hd
              refine .inl ⟨wanted_true 98 rfl (by kernel_rfl) (hd 18 98 (by kernel_rfl) (by kernel_rfl)), ?_⟩
              have e0 : a.eval (.tmp 7) = ptrV b := hL.far 7 (by kernel_rfl)
              exact wp_value (exec_move rfl e0) ⟨_, rfl, hX, Below.refl _ _, rfl⟩
            · intro a X hX hL hd
              refine .inl ⟨wanted_true 98 rfl (by kernel_rfl) (hd 18 98 (by kernel_rfl) (by kernel_rfl)), ?_⟩
              have e0 : a.eval (.tmp 9) = ptrV c := hL.far 9 (by kernel_rfl)
              exact wp_value (exec_move rfl e0) ⟨_, rfl, hX, Below.refl _ _, rfl⟩
            · intro a X hX hL hd
              refine .inl ⟨wanted_true 98 rfl (by kernel_rfl) (hd 18 98 (by kernel_rfl) (by kernel_rfl)), ?_⟩
              have e0 : a.eval (.tmp 99) = ptrV b := hd 19 99 (by kernel_rfl) (by kernel_rfl)
              have e1 : a.eval (.tmp 100) = ptrV c := hd 20 100 (by kernel_rfl) (by kernel_rfl)
              refine wp_enter (exec_call (vs := #[ptrV b, ptrV c]) rfl (by simp only [List.map_toArray, List.map_cons, List.map_nil, e0, e1]) Tryz.func35 rfl rfl) ?_
              refine (CL.out X hX).mono ?_
              rintro e w' ⟨v', rfl, hv', hb⟩
              exact ⟨_, rfl, _, rfl, SNX.out _ _ hX hb, hb, hv'⟩
            · intro a X hX hL hd
              refine .inl ⟨wanted_true 98 rfl (by kernel_rfl) (hd 18 98 (by kernel_rfl) (by kernel_rfl)), ?_⟩
              have e0 : a.eval (.tmp 11) = .pointer (some ⟨p1, 0, none⟩) := hL.far 11 (by kernel_rfl)
              exact wp_value (exec_load rfl e0 (hlx X hX)) ⟨_, rfl, hX, Below.refl _ _, rfl⟩
            · intro a X hX hL hd
              refine .inl ⟨wanted_true 98 rfl (by kernel_rfl) (hd 18 98 (by kernel_rfl) (by kernel_rfl)), ?_⟩
              have e0 : a.eval (.tmp 14) = .pointer (some ⟨p2, 0, none⟩) := hL.far 14 (by kernel_rfl)
              exact wp_value (exec_load rfl e0 (hly X hX)) ⟨_, rfl, hX, Below.refl _ _, rfl⟩
            · intro a X hX hL hd
              refine .inl ⟨wanted_true 98 rfl (by kernel_rfl) (hd 18 98 (by kernel_rfl) (by kernel_rfl)), ?_⟩
              have e0 : a.eval (.tmp 102) = .agg #[sx] := hd 22 102 (by kernel_rfl) (by kernel_rfl)
              have e1 : a.eval (.tmp 103) = .agg #[sy] := hd 23 103 (by kernel_rfl) (by kernel_rfl)
              refine wp_enter (exec_call (vs := #[.agg #[sx], .agg #[sy]]) rfl (by simp only [List.map_toArray, List.map_cons, List.map_nil, e0, e1]) Tryz.func36 rfl rfl) ?_
              refine (CXL.out X hX).mono ?_
              rintro e w' ⟨v', rfl, hv', hb⟩
              exact ⟨_, rfl, _, rfl, SNX.out _ _ hX hb, hb, hv'⟩
            · intro a X hX hL hd
              refine .inl ⟨wanted_true 98 rfl (by kernel_rfl) (hd 18 98 (by kernel_rfl) (by kernel_rfl)), ?_⟩
              have e0 : a.eval (.tmp 2) = va := hL.far 2 (by kernel_rfl)
              exact wp_value (exec_move rfl e0) ⟨_, rfl, hX, Below.refl _ _, rfl⟩
            · intro a X hX hL hd
              refine .inl ⟨wanted_true 98 rfl (by kernel_rfl) (hd 18 98 (by kernel_rfl) (by kernel_rfl)), ?_⟩
              have q0 : (SetP (lessL P Q)) (a.eval (.tmp 101)) X := hd 21 101 (by kernel_rfl) (by kernel_rfl)
              have q1 : (SlP (lessL P Q)) (a.eval (.tmp 104)) X := hd 24 104 (by kernel_rfl) (by kernel_rfl)
              have e2 : a.eval (.tmp 105) = va := hd 25 105 (by kernel_rfl) (by kernel_rfl)
              refine wp_enter (exec_call (vs := #[a.eval (.tmp 101), a.eval (.tmp 104), va]) rfl (by simp only [List.map_toArray, List.map_cons, List.map_nil, e2]) Tryz.func19 rfl rfl) ?_
              refine (CI.out (lessL P Q) _ _ X hX HCN.out.2.2.1 q0 q1).mono ?_
              rintro e w' ⟨rfl, hb⟩
              exact ⟨_, rfl, _, rfl, SNX.out _ _ hX hb, hb, rfl⟩
            · intro a X hX hL hd
              refine .inl ⟨rfl, ?_⟩
              have e0 : a.eval (.tmp 98) = .bool true := hd 18 98 (by kernel_rfl) (by kernel_rfl)
              have e1 : a.eval (.tmp 106) = .bool true := hd 26 106 (by kernel_rfl) (by kernel_rfl)
              exact wp_value (exec_pick rfl e0 e1 rfl) ⟨_, rfl, hX, Below.refl _ _, rfl⟩
            · intro a X hX hL hd
              refine .inl ⟨rfl, ?_⟩
              have e0 : a.eval (.tmp 107) = .bool true := hd 27 107 (by kernel_rfl) (by kernel_rfl)
              exact wp_value (exec_move rfl e0) ⟨_, rfl, hX, Below.refl _ _, rfl⟩
            · intro a X hX hL hd
              refine .inl ⟨wanted_true 108 rfl (by kernel_rfl) (hd 28 108 (by kernel_rfl) (by kernel_rfl)), ?_⟩
              have e0 : a.eval (.tmp 9) = ptrV c := hL.far 9 (by kernel_rfl)
              exact wp_value (exec_move rfl e0) ⟨_, rfl, hX, Below.refl _ _, rfl⟩
            · intro a X hX hL hd
              refine .inl ⟨wanted_true 108 rfl (by kernel_rfl) (hd 28 108 (by kernel_rfl) (by kernel_rfl)), ?_⟩
              have e0 : a.eval (.tmp 7) = ptrV b := hL.far 7 (by kernel_rfl)
              exact wp_value (exec_move rfl e0) ⟨_, rfl, hX, Below.refl _ _, rfl⟩
            · intro a X hX hL hd
              refine .inl ⟨wanted_true 108 rfl (by kernel_rfl) (hd 28 108 (by kernel_rfl) (by kernel_rfl)), ?_⟩
              have e0 : a.eval (.tmp 109) = ptrV c := hd 29 109 (by kernel_rfl) (by kernel_rfl)
              have e1 : a.eval (.tmp 110) = ptrV b := hd 30 110 (by kernel_rfl) (by kernel_rfl)
              refine wp_enter (exec_call (vs := #[ptrV c, ptrV b]) rfl (by simp only [List.map_toArray, List.map_cons, List.map_nil, e0, e1]) Tryz.func35 rfl rfl) ?_
              refine (CM.out X hX).mono ?_
              rintro e w' ⟨v', rfl, hv', hb⟩
              exact ⟨_, rfl, _, rfl, SNX.out _ _ hX hb, hb, hv'⟩
            · intro a X hX hL hd
              refine .inl ⟨wanted_true 108 rfl (by kernel_rfl) (hd 28 108 (by kernel_rfl) (by kernel_rfl)), ?_⟩
              have e0 : a.eval (.tmp 14) = .pointer (some ⟨p2, 0, none⟩) := hL.far 14 (by kernel_rfl)
              exact wp_value (exec_load rfl e0 (hly X hX)) ⟨_, rfl, hX, Below.refl _ _, rfl⟩
            · intro a X hX hL hd
              refine .inl ⟨wanted_true 108 rfl (by kernel_rfl) (hd 28 108 (by kernel_rfl) (by kernel_rfl)), ?_⟩
              have e0 : a.eval (.tmp 11) = .pointer (some ⟨p1, 0, none⟩) := hL.far 11 (by kernel_rfl)
              exact wp_value (exec_load rfl e0 (hlx X hX)) ⟨_, rfl, hX, Below.refl _ _, rfl⟩
            · intro a X hX hL hd
              refine .inl ⟨wanted_true 108 rfl (by kernel_rfl) (hd 28 108 (by kernel_rfl) (by kernel_rfl)), ?_⟩
              have e0 : a.eval (.tmp 112) = .agg #[sy] := hd 32 112 (by kernel_rfl) (by kernel_rfl)
              have e1 : a.eval (.tmp 113) = .agg #[sx] := hd 33 113 (by kernel_rfl) (by kernel_rfl)
              refine wp_enter (exec_call (vs := #[.agg #[sy], .agg #[sx]]) rfl (by simp only [List.map_toArray, List.map_cons, List.map_nil, e0, e1]) Tryz.func36 rfl rfl) ?_
              refine (CXM.out X hX).mono ?_
              rintro e w' ⟨v', rfl, hv', hb⟩
              exact ⟨_, rfl, _, rfl, SNX.out _ _ hX hb, hb, hv'⟩
            · intro a X hX hL hd
              refine .inl ⟨wanted_true 108 rfl (by kernel_rfl) (hd 28 108 (by kernel_rfl) (by kernel_rfl)), ?_⟩
              have e0 : a.eval (.tmp 2) = va := hL.far 2 (by kernel_rfl)
              exact wp_value (exec_move rfl e0) ⟨_, rfl, hX, Below.refl _ _, rfl⟩
            · intro a X hX hL hd
              refine .inl ⟨wanted_true 108 rfl (by kernel_rfl) (hd 28 108 (by kernel_rfl) (by kernel_rfl)), ?_⟩
              have q0 : (SetP (lessL Q P)) (a.eval (.tmp 111)) X := hd 31 111 (by kernel_rfl) (by kernel_rfl)
              have q1 : (SlP (lessL Q P)) (a.eval (.tmp 114)) X := hd 34 114 (by kernel_rfl) (by kernel_rfl)
              have e2 : a.eval (.tmp 115) = va := hd 35 115 (by kernel_rfl) (by kernel_rfl)
              refine wp_enter (exec_call (vs := #[a.eval (.tmp 111), a.eval (.tmp 114), va]) rfl (by simp only [List.map_toArray, List.map_cons, List.map_nil, e2]) Tryz.func19 rfl rfl) ?_
              refine (CI.out (lessL Q P) _ _ X hX HCN.out.2.2.2.1 q0 q1).mono ?_
              rintro e w' ⟨rfl, hb⟩
              exact ⟨_, rfl, _, rfl, SNX.out _ _ hX hb, hb, rfl⟩
            · intro a X hX hL hd
              refine .inl ⟨rfl, ?_⟩
              have e0 : a.eval (.tmp 108) = .bool true := hd 28 108 (by kernel_rfl) (by kernel_rfl)
              have e1 : a.eval (.tmp 116) = .bool true := hd 36 116 (by kernel_rfl) (by kernel_rfl)
              exact wp_value (exec_pick rfl e0 e1 rfl) ⟨_, rfl, hX, Below.refl _ _, rfl⟩
            · intro a X hX hL hd
              refine .inl ⟨rfl, ?_⟩
              have e0 : a.eval (.tmp 117) = .bool true := hd 37 117 (by kernel_rfl) (by kernel_rfl)
              exact wp_value (exec_move rfl e0) ⟨_, rfl, hX, Below.refl _ _, rfl⟩
            · intro a X hX hL hd
              refine .inl ⟨wanted_true 118 rfl (by kernel_rfl) (hd 38 118 (by kernel_rfl) (by kernel_rfl)), ?_⟩
              have e0 : a.eval (.tmp 7) = ptrV b := hL.far 7 (by kernel_rfl)
              exact wp_value (exec_move rfl e0) ⟨_, rfl, hX, Below.refl _ _, rfl⟩
            · intro a X hX hL hd
              refine .inl ⟨wanted_true 118 rfl (by kernel_rfl) (hd 38 118 (by kernel_rfl) (by kernel_rfl)), ?_⟩
              have e0 : a.eval (.tmp 119) = ptrV b := hd 39 119 (by kernel_rfl) (by kernel_rfl)
              refine wp_enter (exec_call (vs := #[ptrV b]) rfl (by simp only [List.map_toArray, List.map_cons, List.map_nil, e0]) Tryz.func37 rfl rfl) ?_
              refine (CN.out X hX).mono ?_
              rintro e w' ⟨v', rfl, hv', hb⟩
              exact ⟨_, rfl, _, rfl, SNX.out _ _ hX hb, hb, hv'⟩
            · intro a X hX hL hd
              refine .inl ⟨wanted_true 118 rfl (by kernel_rfl) (hd 38 118 (by kernel_rfl) (by kernel_rfl)), ?_⟩
              have e0 : a.eval (.tmp 11) = .pointer (some ⟨p1, 0, none⟩) := hL.far 11 (by kernel_rfl)
              exact wp_value (exec_load rfl e0 (hlx X hX)) ⟨_, rfl, hX, Below.refl _ _, rfl⟩
            · intro a X hX hL hd
              refine .inl ⟨wanted_true 118 rfl (by kernel_rfl) (hd 38 118 (by kernel_rfl) (by kernel_rfl)), ?_⟩
              have e0 : a.eval (.tmp 121) = .agg #[sx] := hd 41 121 (by kernel_rfl) (by kernel_rfl)
              refine wp_enter (exec_call (vs := #[.agg #[sx]]) rfl (by simp only [List.map_toArray, List.map_cons, List.map_nil, e0]) Tryz.func38 rfl rfl) ?_
              refine (CXN.out X hX).mono ?_
              rintro e w' ⟨v', rfl, hv', hb⟩
              exact ⟨_, rfl, _, rfl, SNX.out _ _ hX hb, hb, hv'⟩
            · intro a X hX hL hd
              refine .inl ⟨wanted_true 118 rfl (by kernel_rfl) (hd 38 118 (by kernel_rfl) (by kernel_rfl)), ?_⟩
              have e0 : a.eval (.tmp 2) = va := hL.far 2 (by kernel_rfl)
              exact wp_value (exec_move rfl e0) ⟨_, rfl, hX, Below.refl _ _, rfl⟩
            · intro a X hX hL hd
              refine .inl ⟨wanted_true 118 rfl (by kernel_rfl) (hd 38 118 (by kernel_rfl) (by kernel_rfl)), ?_⟩
              have q0 : (SetP (notL 0 P)) (a.eval (.tmp 120)) X := hd 40 120 (by kernel_rfl) (by kernel_rfl)
              have q1 : (SlP (notL 0 P)) (a.eval (.tmp 122)) X := hd 42 122 (by kernel_rfl) (by kernel_rfl)
              have e2 : a.eval (.tmp 123) = va := hd 43 123 (by kernel_rfl) (by kernel_rfl)
              refine wp_enter (exec_call (vs := #[a.eval (.tmp 120), a.eval (.tmp 122), va]) rfl (by simp only [List.map_toArray, List.map_cons, List.map_nil, e2]) Tryz.func19 rfl rfl) ?_
              refine (CI.out (notL 0 P) _ _ X hX HCN.out.2.2.2.2 q0 q1).mono ?_
              rintro e w' ⟨rfl, hb⟩
              exact ⟨_, rfl, _, rfl, SNX.out _ _ hX hb, hb, rfl⟩
            · intro a X hX hL hd
              refine .inl ⟨rfl, ?_⟩
              have e0 : a.eval (.tmp 118) = .bool true := hd 38 118 (by kernel_rfl) (by kernel_rfl)
              have e1 : a.eval (.tmp 124) = .bool true := hd 44 124 (by kernel_rfl) (by kernel_rfl)
              exact wp_value (exec_pick rfl e0 e1 rfl) ⟨_, rfl, hX, Below.refl _ _, rfl⟩
            · intro a X hX hL hd
              refine .inl ⟨rfl, ?_⟩
              have e0 : a.eval (.tmp 125) = .bool true := hd 45 125 (by kernel_rfl) (by kernel_rfl)
              exact wp_value (exec_asg rfl e0) ⟨_, rfl, hX, Below.refl _ _, rfl⟩
          case hd =>
            intro a2 X hX hL hd _
            have h17 : a2.tmps.getD 17 undef = .bool true := hd 46 17 (by kernel_rfl)
            obtain ⟨f, ha, hf⟩ := hL.out [80, 81, 82, 83, 84, 85, 86, 87, 88, 89, 90, 91, 92, 93, 94, 95, 96, 97, 98, 99, 100, 101, 102, 103, 104, 105, 106, 107, 108, 109, 110, 111, 112, 113, 114, 115, 116, 117, 118, 119, 120, 121, 122, 123, 124, 125, 17] (by kernel_rfl)
            have h17' : f 17 = .bool true := (hf 17).trans h17
            simp only [List.foldl_cons, List.foldl_nil, List.setIfInBounds_toArray, List.set_cons_zero, List.set_cons_succ, h17'] at ha
            clear hf hd hL h17 S0
            subst ha
            have S1 : Below wB.heap.size wB X.drew := below_drewN hX 1
            go_wp2_with fail
            refine wp_region_guarded (fun X => Below wB.heap.size wB X) (fun U V => Below U.heap.size U V) (pM12 b c p1 p2 va sx sy P) (by kernel_rfl) (by kernel_rfl) (by kernel_rfl) S1 ?hp ?hs ?hd
            case hp =>
              intro i v U V _ _ hk hv
              unfold pM12 at hv ⊢
              split at hv <;> first | exact hv | exact SetP.below hv hk | exact SlP.below hv hk
            case hs =>
              refine GSteps.cons ?_ (GSteps.cons ?_ (GSteps.cons ?_ (GSteps.cons ?_ (GSteps.cons ?_ (GSteps.cons ?_ (GSteps.cons ?_ (GSteps.cons ?_ (GSteps.cons ?_ (GSteps.cons ?_ (GSteps.cons ?_ (GSteps.cons ?_ (GSteps.cons ?_ (GSteps.cons ?_ (GSteps.cons ?_ (GSteps.cons ?_ (GSteps.cons ?_ (GSteps.cons ?_ (GSteps.cons ?_ (GSteps.cons ?_ (GSteps.cons ?_ (GSteps.cons ?_ (GSteps.cons ?_ (GSteps.cons ?_ (GSteps.cons ?_ (GSteps.cons ?_ (GSteps.cons ?_ (GSteps.cons ?_ (GSteps.cons ?_ (GSteps.cons ?_ (GSteps.nil))))))))))))))))))))))))))))))
              · intro a X hX hL hd
                refine .inl ⟨rfl, ?_⟩
                have e0 : a.eval (.tmp 17) = .bool true := hL.far 17 (by kernel_rfl)
                exact wp_value (exec_move rfl e0) ⟨_, rfl, hX, Below.refl _ _, rfl⟩
              · intro a X hX hL hd
                refine .inl ⟨rfl, ?_⟩
                have e0 : a.eval (.tmp 126) = .bool true := hd 0 126 (by kernel_rfl) (by kernel_rfl)
                exact wp_value (exec_move rfl e0) ⟨_, rfl, hX, Below.refl _ _, rfl⟩
              · intro a X hX hL hd
                refine .inl ⟨wanted_true 127 rfl (by kernel_rfl) (hd 1 127 (by kernel_rfl) (by kernel_rfl)), ?_⟩
                have e0 : a.eval (.tmp 7) = ptrV b := hL.far 7 (by kernel_rfl)
                exact wp_value (exec_move rfl e0) ⟨_, rfl, hX, Below.refl _ _, rfl⟩
              · intro a X hX hL hd
                refine .inl ⟨wanted_true 127 rfl (by kernel_rfl) (hd 1 127 (by kernel_rfl) (by kernel_rfl)), ?_⟩
                have e0 : a.eval (.tmp 7) = ptrV b := hL.far 7 (by kernel_rfl)
                exact wp_value (exec_move rfl e0) ⟨_, rfl, hX, Below.refl _ _, rfl⟩
              · intro a X hX hL hd
                refine .inl ⟨wanted_true 127 rfl (by kernel_rfl) (hd 1 127 (by kernel_rfl) (by kernel_rfl)), ?_⟩
                have e0 : a.eval (.tmp 128) = ptrV b := hd 2 128 (by kernel_rfl) (by kernel_rfl)
                have e1 : a.eval (.tmp 129) = ptrV b := hd 3 129 (by kernel_rfl) (by kernel_rfl)
                refine wp_enter (exec_call (vs := #[ptrV b, ptrV b]) rfl (by simp only [List.map_toArray, List.map_cons, List.map_nil, e0, e1]) Tryz.func31 rfl rfl) ?_
                refine (CJ2.out X hX).mono ?_
                rintro e w' ⟨v', rfl, hv', hb⟩
                exact ⟨_, rfl, _, rfl, SNX.out _ _ hX hb, hb, hv'⟩
              · intro a X hX hL hd
                refine .inl ⟨wanted_true 127 rfl (by kernel_rfl) (hd 1 127 (by kernel_rfl) (by kernel_rfl)), ?_⟩
                have e0 : a.eval (.tmp 11) = .pointer (some ⟨p1, 0, none⟩) := hL.far 11 (by kernel_rfl)
                exact wp_value (exec_load rfl e0 (hlx X hX)) ⟨_, rfl, hX, Below.refl _ _, rfl⟩
              · intro a X hX hL hd
                refine .inl ⟨wanted_true 127 rfl (by kernel_rfl) (hd 1 127 (by kernel_rfl) (by kernel_rfl)), ?_⟩
                have e0 : a.eval (.tmp 2) = va := hL.far 2 (by kernel_rfl)
                exact wp_value (exec_move rfl e0) ⟨_, rfl, hX, Below.refl _ _, rfl⟩
              · intro a X hX hL hd
                refine .inl ⟨wanted_true 127 rfl (by kernel_rfl) (hd 1 127 (by kernel_rfl) (by kernel_rfl)), ?_⟩
                have q0 : (SetP (P)) (a.eval (.tmp 130)) X := hd 4 130 (by kernel_rfl) (by kernel_rfl)
                have e1 : a.eval (.tmp 131) = .agg #[sx] := hd 5 131 (by kernel_rfl) (by kernel_rfl)
                have e2 : a.eval (.tmp 132) = va := hd 6 132 (by kernel_rfl) (by kernel_rfl)
                refine wp_enter (exec_call (vs := #[a.eval (.tmp 130), .agg #[sx], va]) rfl (by simp only [List.map_toArray, List.map_cons, List.map_nil, e1, e2]) Tryz.func19 rfl rfl) ?_
                refine (CI.out (P) _ _ X hX HCP.out q0 (HSX.out X hX).2.1).mono ?_
                rintro e w' ⟨rfl, hb⟩
                exact ⟨_, rfl, _, rfl, SNX.out _ _ hX hb, hb, rfl⟩
              · intro a X hX hL hd
                refine .inl ⟨rfl, ?_⟩
                have e0 : a.eval (.tmp 127) = .bool true := hd 1 127 (by kernel_rfl) (by kernel_rfl)
                have e1 : a.eval (.tmp 133) = .bool true := hd 7 133 (by kernel_rfl) (by kernel_rfl)
                exact wp_value (exec_pick rfl e0 e1 rfl) ⟨_, rfl, hX, Below.refl _ _, rfl⟩
              · intro a X hX hL hd
                refine .inl ⟨rfl, ?_⟩
                have e0 : a.eval (.tmp 134) = .bool true := hd 8 134 (by kernel_rfl) (by kernel_rfl)
                exact wp_value (exec_move rfl e0) ⟨_, rfl, hX, Below.refl _ _, rfl⟩
              · intro a X hX hL hd
                refine .inl ⟨wanted_true 135 rfl (by kernel_rfl) (hd 9 135 (by kernel_rfl) (by kernel_rfl)), ?_⟩
                have e0 : a.eval (.tmp 7) = ptrV b := hL.far 7 (by kernel_rfl)
                exact wp_value (exec_move rfl e0) ⟨_, rfl, hX, Below.refl _ _, rfl⟩
              · intro a X hX hL hd
                refine .inl ⟨wanted_true 135 rfl (by kernel_rfl) (hd 9 135 (by kernel_rfl) (by kernel_rfl)), ?_⟩
                have e0 : a.eval (.tmp 7) = ptrV b := hL.far 7 (by kernel_rfl)
                exact wp_value (exec_move rfl e0) ⟨_, rfl, hX, Below.refl _ _, rfl⟩
              · intro a X hX hL hd
                refine .inl ⟨wanted_true 135 rfl (by kernel_rfl) (hd 9 135 (by kernel_rfl) (by kernel_rfl)), ?_⟩
                have e0 : a.eval (.tmp 136) = ptrV b := hd 10 136 (by kernel_rfl) (by kernel_rfl)
                have e1 : a.eval (.tmp 137) = ptrV b := hd 11 137 (by kernel_rfl) (by kernel_rfl)
                refine wp_enter (exec_call (vs := #[ptrV b, ptrV b]) rfl (by simp only [List.map_toArray, List.map_cons, List.map_nil, e0, e1]) Tryz.func35 rfl rfl) ?_
                refine (CL2.out X hX).mono ?_
                rintro e w' ⟨v', rfl, hv', hb⟩
                exact ⟨_, rfl, _, rfl, SNX.out _ _ hX hb, hb, hv'⟩
              · intro a X hX hL hd
                refine .inl ⟨wanted_true 135 rfl (by kernel_rfl) (hd 9 135 (by kernel_rfl) (by kernel_rfl)), ?_⟩
                exact wp_value (exec_build rfl (ps := #[]) (by simp) (BD0 X)) ⟨_, rfl, hX, Below.refl _ _, rfl⟩
              · intro a X hX hL hd
                refine .inl ⟨wanted_true 135 rfl (by kernel_rfl) (hd 9 135 (by kernel_rfl) (by kernel_rfl)), ?_⟩
                have e0 : a.eval (.tmp 2) = va := hL.far 2 (by kernel_rfl)
                exact wp_value (exec_move rfl e0) ⟨_, rfl, hX, Below.refl _ _, rfl⟩
              · intro a X hX hL hd
                refine .inl ⟨wanted_true 135 rfl (by kernel_rfl) (hd 9 135 (by kernel_rfl) (by kernel_rfl)), ?_⟩
                have q0 : (SetP ([])) (a.eval (.tmp 138)) X := hd 12 138 (by kernel_rfl) (by kernel_rfl)
                have e1 : a.eval (.tmp 139) = .agg #[.slice none 0 0] := hd 13 139 (by kernel_rfl) (by kernel_rfl)
                have e2 : a.eval (.tmp 140) = va := hd 14 140 (by kernel_rfl) (by kernel_rfl)
                refine wp_enter (exec_call (vs := #[a.eval (.tmp 138), .agg #[.slice none 0 0], va]) rfl (by simp only [List.map_toArray, List.map_cons, List.map_nil, e1, e2]) Tryz.func19 rfl rfl) ?_
                refine (CI.out ([]) _ _ X hX trivial q0 ⟨_, rfl, none, 0, rfl, .inl rfl⟩).mono ?_
                rintro e w' ⟨rfl, hb⟩
                exact ⟨_, rfl, _, rfl, SNX.out _ _ hX hb, hb, rfl⟩
              · intro a X hX hL hd
                refine .inl ⟨rfl, ?_⟩
                have e0 : a.eval (.tmp 135) = .bool true := hd 9 135 (by kernel_rfl) (by kernel_rfl)
                have e1 : a.eval (.tmp 141) = .bool true := hd 15 141 (by kernel_rfl) (by kernel_rfl)
                exact wp_value (exec_pick rfl e0 e1 rfl) ⟨_, rfl, hX, Below.refl _ _, rfl⟩
              · intro a X hX hL hd
                refine .inl ⟨rfl, ?_⟩
                have e0 : a.eval (.tmp 142) = .bool true := hd 16 142 (by kernel_rfl) (by kernel_rfl)
                exact wp_value (exec_move rfl e0) ⟨_, rfl, hX, Below.refl _ _, rfl⟩
              · intro a X hX hL hd
                refine .inl ⟨wanted_true 143 rfl (by kernel_rfl) (hd 17 143 (by kernel_rfl) (by kernel_rfl)), ?_⟩
                have e0 : a.eval (.tmp 7) = ptrV b := hL.far 7 (by kernel_rfl)
                exact wp_value (exec_move rfl e0) ⟨_, rfl, hX, Below.refl _ _, rfl⟩
              · intro a X hX hL hd
                refine .inl ⟨wanted_true 143 rfl (by kernel_rfl) (hd 17 143 (by kernel_rfl) (by kernel_rfl)), ?_⟩
                have e0 : a.eval (.tmp 11) = .pointer (some ⟨p1, 0, none⟩) := hL.far 11 (by kernel_rfl)
                exact wp_value (exec_load rfl e0 (hlx X hX)) ⟨_, rfl, hX, Below.refl _ _, rfl⟩
              · intro a X hX hL hd
                refine .inl ⟨wanted_true 143 rfl (by kernel_rfl) (hd 17 143 (by kernel_rfl) (by kernel_rfl)), ?_⟩
                have e0 : a.eval (.tmp 2) = va := hL.far 2 (by kernel_rfl)
                exact wp_value (exec_move rfl e0) ⟨_, rfl, hX, Below.refl _ _, rfl⟩
              · intro a X hX hL hd
                refine .inl ⟨wanted_true 143 rfl (by kernel_rfl) (hd 17 143 (by kernel_rfl) (by kernel_rfl)), ?_⟩
                have e0 : a.eval (.tmp 144) = ptrV b := hd 18 144 (by kernel_rfl) (by kernel_rfl)
                have e1 : a.eval (.tmp 145) = .agg #[sx] := hd 19 145 (by kernel_rfl) (by kernel_rfl)
                have e2 : a.eval (.tmp 146) = va := hd 20 146 (by kernel_rfl) (by kernel_rfl)
                refine wp_enter (exec_call (vs := #[ptrV b, .agg #[sx], va]) rfl (by simp only [List.map_toArray, List.map_cons, List.map_nil, e0, e1, e2]) Tryz.func19 rfl rfl) ?_
                refine (CI.out (P) _ _ X hX HCP.out (HSX.out X hX).1 (HSX.out X hX).2.1).mono ?_
                rintro e w' ⟨rfl, hb⟩
                exact ⟨_, rfl, _, rfl, SNX.out _ _ hX hb, hb, rfl⟩
              · intro a X hX hL hd
                refine .inl ⟨rfl, ?_⟩
                have e0 : a.eval (.tmp 143) = .bool true := hd 17 143 (by kernel_rfl) (by kernel_rfl)
                have e1 : a.eval (.tmp 147) = .bool true := hd 21 147 (by kernel_rfl) (by kernel_rfl)
                exact wp_value (exec_pick rfl e0 e1 rfl) ⟨_, rfl, hX, Below.refl _ _, rfl⟩
              · intro a X hX hL hd
                refine .inl ⟨rfl, ?_⟩
                have e0 : a.eval (.tmp 148) = .bool true := hd 22 148 (by kernel_rfl) (by kernel_rfl)
                exact wp_value (exec_move rfl e0) ⟨_, rfl, hX, Below.refl _ _, rfl⟩
              · intro a X hX hL hd
                refine .inl ⟨wanted_true 149 rfl (by kernel_rfl) (hd 23 149 (by kernel_rfl) (by kernel_rfl)), ?_⟩
                have e0 : a.eval (.tmp 9) = ptrV c := hL.far 9 (by kernel_rfl)
                exact wp_value (exec_move rfl e0) ⟨_, rfl, hX, Below.refl _ _, rfl⟩
              · intro a X hX hL hd
                refine .inl ⟨wanted_true 149 rfl (by kernel_rfl) (hd 23 149 (by kernel_rfl) (by kernel_rfl)), ?_⟩
                have e0 : a.eval (.tmp 14) = .pointer (some ⟨p2, 0, none⟩) := hL.far 14 (by kernel_rfl)
                exact wp_value (exec_load rfl e0 (hly X hX)) ⟨_, rfl, hX, Below.refl _ _, rfl⟩
              · intro a X hX hL hd
                refine .inl ⟨wanted_true 149 rfl (by kernel_rfl) (hd 23 149 (by kernel_rfl) (by kernel_rfl)), ?_⟩
                have e0 : a.eval (.tmp 2) = va := hL.far 2 (by kernel_rfl)
                exact wp_value (exec_move rfl e0) ⟨_, rfl, hX, Below.refl _ _, rfl⟩
              · intro a X hX hL hd
                refine .inl ⟨wanted_true 149 rfl (by kernel_rfl) (hd 23 149 (by kernel_rfl) (by kernel_rfl)), ?_⟩
                have e0 : a.eval (.tmp 150) = ptrV c := hd 24 150 (by kernel_rfl) (by kernel_rfl)
                have e1 : a.eval (.tmp 151) = .agg #[sy] := hd 25 151 (by kernel_rfl) (by kernel_rfl)
                have e2 : a.eval (.tmp 152) = va := hd 26 152 (by kernel_rfl) (by kernel_rfl)
                refine wp_enter (exec_call (vs := #[ptrV c, .agg #[sy], va]) rfl (by simp only [List.map_toArray, List.map_cons, List.map_nil, e0, e1, e2]) Tryz.func19 rfl rfl) ?_
                refine (CI.out (Q) _ _ X hX HCQ.out (HSX.out X hX).2.2.1 (HSX.out X hX).2.2.2).mono ?_
                rintro e w' ⟨rfl, hb⟩
                exact ⟨_, rfl, _, rfl, SNX.out _ _ hX hb, hb, rfl⟩
              · intro a X hX hL hd
                refine .inl ⟨rfl, ?_⟩
                have e0 : a.eval (.tmp 149) = .bool true := hd 23 149 (by kernel_rfl) (by kernel_rfl)
                have e1 : a.eval (.tmp 153) = .bool true := hd 27 153 (by kernel_rfl) (by kernel_rfl)
                exact wp_value (exec_pick rfl e0 e1 rfl) ⟨_, rfl, hX, Below.refl _ _, rfl⟩
              · intro a X hX hL hd
                refine .inl ⟨rfl, ?_⟩
                have e0 : a.eval (.tmp 154) = .bool true := hd 28 154 (by kernel_rfl) (by kernel_rfl)
                exact wp_value (exec_asg rfl e0) ⟨_, rfl, hX, Below.refl _ _, rfl⟩
            case hd =>
              intro a3 Y hY hL hd _
              have h6 : a3.tmps.getD 6 undef = .bool true := hd 29 6 (by kernel_rfl)
              obtain ⟨f2, ha, hf⟩ := hL.out [126, 127, 128, 129, 130, 131, 132, 133, 134, 135, 136, 137, 138, 139, 140, 141, 142, 143, 144, 145, 146, 147, 148, 149, 150, 151, 152, 153, 154, 6] (by kernel_rfl)
              have h6' : f2 6 = .bool true := (hf 6).trans h6
              simp only [List.foldl_cons, List.foldl_nil, List.setIfInBounds_toArray, List.set_cons_zero, List.set_cons_succ, h6'] at ha
              clear hf hd hL h6 S1 hlx hly
              subst ha
              go_wp2_with fail
              go_ret
              exact ⟨rfl, (HW.out Y hY).1⟩
        · have z2' : (no2 != 0) = true := by rw [bne_iff_ne]; exact z2
          have z1' : (no1 != 0) = false := by rw [z1]; rfl
          clear z1 z2
          go_wp2_with fail
          go_ret
          exact ⟨rfl, HBB.out⟩
      · have z1' : (no1 != 0) = true := by rw [bne_iff_ne]; exact z1
        clear z1
        go_wp2_with fail
        go_ret
        exact ⟨rfl, HBB.out⟩
end Go.Proofs.YtjbkpcdpdifpnaaGreatDoor
